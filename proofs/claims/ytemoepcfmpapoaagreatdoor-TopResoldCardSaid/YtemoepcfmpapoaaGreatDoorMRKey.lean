/-
  bargain: a place as the key of a map.
-/
import Derived.Test.YtemoepcfmpapoaaGreatDoorMRNm
import Derived.Maps.Own
import Derived.Maps.Views
import Derived.Maps.OwnSet
import Derived.DeepKeys4
import Derived.ChangeKeys
namespace Go.Proofs.YtemoepcfmpapoaaGreatDoor
open Go.RowKit Go.Proofs Go.Shelf Go.Maps

theorem Tryz.laidOut : laidOutB Tryz.prog = true := by kernel_rfl
theorem rowPl : (90 : TypeId) < Tryz.prog.types.size := of_decide_eq_true (by kernel_rfl)
theorem deepPl : Tryz.prog.keyType 90 = true := by kernel_rfl
theorem widePl : (match Tryz.prog.underlying 90 with | some (.array _ _) | some (.struct _) => true | _ => false) = true := by kernel_rfl
set_option maxRecDepth 100000 in
theorem lawPl : Keyed Tryz.prog 90 := Keyed.of_law (deep_law_laid Tryz.laidOut (m := 3) (by omega) rowPl (by kernel_rfl) widePl)
theorem cellsPl : Tryz.prog.cellsOf 90 = 8 := by kernel_rfl
theorem cellsRg : Tryz.prog.cellsOf 51 = 2 := by kernel_rfl
theorem cellsIn : Tryz.prog.cellsOf 3 = 1 := by kernel_rfl

def plLits (p : Pl) : List Lit := [.int .i64 p.a, .int .i64 p.b, .int .i64 p.t, .int .i64 p.s, .int .i64 p.c, .int .i64 p.d, .int .i64 p.e, .int .i64 p.f]
def plKey (p : Pl) : Lit := .string (keyBytes (plLits p))

theorem keyLits_int (d : Nat) (x : Int) (h : (Lit.int .i64 x).wf = true) : Tryz.prog.keyLits (d + 1) 3 [.int .i64 x] = some [.int .i64 x] := by
  simp [Program.keyLits, Tryz.underlying3, h]
theorem keyLits_rg (d : Nat) (x y : Int) (hx : (Lit.int .i64 x).wf = true) (hy : (Lit.int .i64 y).wf = true) : Tryz.prog.keyLits (d + 2) 51 [.int .i64 x, .int .i64 y] = some [.int .i64 x, .int .i64 y] := by
  simp [Program.keyLits, Tryz.underlying51, Tryz.underlying3, cellsRg, cellsIn, hx, hy]
theorem PV.wf {p : Pl} (h : PV p) : (Lit.int .i64 p.a).wf = true ∧ (Lit.int .i64 p.b).wf = true ∧ (Lit.int .i64 p.t).wf = true ∧ (Lit.int .i64 p.s).wf = true ∧ (Lit.int .i64 p.c).wf = true ∧ (Lit.int .i64 p.d).wf = true ∧ (Lit.int .i64 p.e).wf = true ∧ (Lit.int .i64 p.f).wf = true := by
  obtain ⟨b0, ba, a12, ht, ⟨s0, s2⟩, c0, cd, d31, e0, ef, f31⟩ := h
  exact ⟨WalkArith.wf_i64 (by omega), WalkArith.wf_i64 (by omega), WalkArith.wf_i64 (by omega), WalkArith.wf_i64 (by omega), WalkArith.wf_i64 (by omega), WalkArith.wf_i64 (by omega), WalkArith.wf_i64 (by omega), WalkArith.wf_i64 (by omega)⟩
theorem keyLits_pl {p : Pl} (h : PV p) (d : Nat) : Tryz.prog.keyLits (d + 3) 90 p.v.cells.toList = some (plLits p) := by
  obtain ⟨ha, hb, ht, hs, hc, hd, he, hf⟩ := h.wf
  unfold Program.keyLits
  simp [Tryz.underlying90, keyLits_int, keyLits_rg, cellsPl, cellsRg, cellsIn, Pl.v, plV, Value.cells, plLits, ha, hb, ht, hs, hc, hd, he, hf]
theorem keyOf_pl {p : Pl} (h : PV p) : keyOf Tryz.prog 90 p.v = some (plKey p) := by
  have h2 : 2 ≤ Tryz.prog.types.size := of_decide_eq_true (by kernel_rfl)
  have hd : Tryz.prog.types.size + 1 = (Tryz.prog.types.size - 2) + 3 := by omega
  have hf : p.v.formed Tryz.prog 90 = true := by
    simp [Value.formed, Tryz.underlying90, cellsPl, Pl.v, plV]
  unfold keyOf
  simp only [Tryz.underlying90, deepPl, hf, Bool.and_self, if_true]
  rw [hd, keyLits_pl h]
  rfl
theorem plKey_inj {p q : Pl} (hp : PV p) (hq : PV q) (h : plKey p = plKey q) : p = q := by
  simp only [plKey, Lit.string.injEq] at h
  have hl := keyLits_inj (keyLits_pl hp 0) (keyLits_pl hq 0) h
  obtain ⟨a, b, t, s, c, d, e, f⟩ := p
  obtain ⟨a', b', t', s', c', d', e', f'⟩ := q
  simpa [plLits] using hl

/-- What the search knows: of each place that is in the map, its price in the end. -/
def Knows {H : Type} (lo : Int) (k : Nat) (D : DataW H) : Prop := IsMap D ∧ ∀ p, PV p → Maps.has D (plKey p) = true → D.atKey (plKey p) (.lit (.int .i64 0)) = .lit (.int .i64 (p.val lo k))
theorem knows_none {H : Type} (lo : Int) (k : Nat) : Knows (H := H) lo k (.map []) := ⟨isMap_empty, fun p _ h => by simp [Maps.has] at h⟩
theorem Knows.put {H : Type} {lo : Int} {k : Nat} {D : DataW H} (h : Knows lo k D) {p : Pl} (hp : PV p) : Knows lo k (D.put (plKey p) (.lit (.int .i64 (p.val lo k)))) := by
  refine ⟨h.1.put _ _, fun q hq hh => ?_⟩
  by_cases e : q = p
  · subst e
    exact atKey_put_same h.1 (show WideAt.IsKeyLit (plKey q) from trivial) _ _
  · have hne : plKey q ≠ plKey p := fun e' => e (plKey_inj hq hp e')
    rw [atKey_put_other hne]
    rw [has_put_other hne] at hh
    exact h.2 q hq hh
end Go.Proofs.YtemoepcfmpapoaaGreatDoor
