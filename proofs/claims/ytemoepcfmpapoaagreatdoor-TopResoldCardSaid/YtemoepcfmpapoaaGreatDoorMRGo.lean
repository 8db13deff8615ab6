/-
  bargain: what the search is given: what comes of the end, what comes of all plays, the iterator.
-/
import Derived.Test.YtemoepcfmpapoaaGreatDoorMRPlays
import Derived.Test.YtemoepcfmpapoaaGreatDoorMROffer
import Derived.Test.YtemoepcfmpapoaaGreatDoorMRKey
namespace Go.Proofs.YtemoepcfmpapoaaGreatDoor
open Go.RowKit Go.Proofs Go.Shelf
attribute [local go_sem] Oper.semAt_some

set_option maxRecDepth 100000
theorem play1_any (x : Int) (w : World) : Calls Tryz.prog 77 #[.int .i64 x] w (IntEnd x w) := by
  go_enter Tryz.func77, Tryz.ntmps77
  go_wp2
  go_ret
  exact ⟨rfl, Below.refl _ _⟩

theorem price1_any (p : Pl) (w : World) : Calls Tryz.prog 55 #[p.v] w (ValEnd (betV p.sd) w) := by
  obtain ⟨a, b, t, s, c, d, e, f⟩ := p
  have HS := Lib.hid (fun w => side_any a b t s c d e f w)
  obtain ⟨q, hq⟩ : ∃ q, (t == 0) = q := ⟨_, rfl⟩
  have hq' : (Pl.mk a b t s c d e f).sd = q := hq
  rw [hq] at HS
  rw [hq']
  clear hq hq'
  unfold plV at HS
  unfold betV Pl.v plV
  cases q
  all_goals
    simp only [sdV, sdT] at HS ⊢
    go_enter Tryz.func55, Tryz.ntmps55
    go_wp2_with (first
      | (go_at_call 56; refine (HS.out _).mono ?_; rintro q w1 ⟨rfl, hb1⟩))
    go_ret
    exact ⟨rfl, below_trans (below_alloc w _) hb1⟩

def PlaysEnd (Wk : Nat) (p : Pl) (w : World) (e : Ending) (w' : World) : Prop :=
  ∃ Bp Bw, e = .returned (.func (.func 127) #[] #[.pointer (some ⟨Bp, 0, none⟩), .pointer (some ⟨Bw, 0, none⟩)]) ∧ PlB Bp p w' ∧ w'.heap[Bw]? = some (.cells #[.pointer (some ⟨Wk, 0, none⟩)] 86 (0, 0)) ∧ Below w.heap.size w w' ∧ w.heap.size ≤ Bp ∧ w.heap.size ≤ Bw

theorem plays_any (Wk : Nat) (p : Pl) (w : World) : Calls Tryz.prog 111 #[.pointer (some ⟨Wk, 0, none⟩), p.v] w (PlaysEnd Wk p w) := by
  obtain ⟨a, b, t, s, c, d, e, f⟩ := p
  have hmf := Tryz.func127
  unfold Pl.v plV
  go_enter Tryz.func111, Tryz.ntmps111
  go_wp2
  go_ret
  exact ⟨w.heap.size + 1, w.heap.size, rfl, (by have := heap_new (w.alloc (.cells #[.pointer (some ⟨Wk, 0, none⟩)] 86)) (.cells (plC ⟨a, b, t, s, c, d, e, f⟩) 90); rwa [World.size_alloc] at this), below_heap (below_alloc _ _) (heap_new w _), below_trans (below_alloc w _) (below_alloc _ _), by omega, Nat.le_refl _⟩

def topFn (tb : Nat) : Value := .func (.func 79) #[] #[.pointer (some ⟨tb, 0, none⟩)]
def TopFn (tb : Nat) (w : World) : Prop := w.cell? ⟨tb, 0, none⟩ = some (.func (.func 55) #[] #[])

theorem play2_any (tb : Nat) (p : Pl) (v : Value) (l : List Int) (w : World) (ht : TopFn tb w) (hv : Ints w v l) (hl : l.length ≤ 1000000) :
    Calls Tryz.prog 79 #[p.v, v, .pointer (some ⟨tb, 0, none⟩)] w (IntEnd (topL (betterB p.sd) l) w) := by
  obtain ⟨a, b, t, s, c, d, e, f⟩ := p
  unfold TopFn at ht
  have HP := Lib.hid (fun w => price1_any ⟨a, b, t, s, c, d, e, f⟩ w)
  obtain ⟨q, hq⟩ : ∃ q, (Pl.mk a b t s c d e f).sd = q := ⟨_, rfl⟩
  rw [hq] at HP ⊢
  have HT := Lib.hid (fun w' (h : Below w.heap.size w w') => topPrice_any q v l w' (hv.same fun a u h' => below_cell h h') hl)
  clear hq hl hv
  unfold Pl.v plV betV at HP
  unfold betV at HT
  unfold Pl.v plV
  have c0 := fun o => below_cell (below_alloc w o) ht
  go_enter Tryz.func79, Tryz.ntmps79
  go_wp2_with (first
    | (go_at_call 55; refine (HP.out _).mono ?_; rintro r w1 ⟨rfl, hb1⟩; have HB1 := Lib.hid (below_trans (below_alloc w _) hb1); clear hb1)
    | (go_at_call 80; refine (HT.out _ HB1.out).mono ?_; rintro r w2 ⟨rfl, hb2⟩))
  go_ret
  exact ⟨rfl, below_trans HB1.out hb2⟩
end Go.Proofs.YtemoepcfmpapoaaGreatDoor
