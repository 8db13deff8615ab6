/-
  bargain: the place now with one limit left to each side; the price of a place; by contract.
-/
import Derived.Test.YtemoepcfmpapoaaGreatDoorMRNow
import Derived.Test.YtemoepcfmpapoaaGreatDoorMRThruB
namespace Go.Proofs.YtemoepcfmpapoaaGreatDoor
open Go.RowKit Go.Proofs Go.Shelf
attribute [local go_sem] Oper.semAt_some

set_option maxRecDepth 100000
set_option maxHeartbeats 3200000 in
theorem with_any (Wk : Nat) (p : Pl) (x y : Int) (w : World) (h : WkP Wk p w) (hx1 : p.c ≤ x) (hx2 : x ≤ p.d) (hy1 : p.e ≤ y) (hy2 : y ≤ p.f) :
    Calls Tryz.prog 36 #[.pointer (some ⟨Wk, 0, none⟩), .int .i64 x, .int .i64 y] w (ValEnd (.tuple #[plV p.a p.b p.t p.s x x y y, .int .i64 0]) w) := by
  have HN := Lib.hid (fun w' (hb : Below w.heap.size w w') => now_any Wk p w' (h.below hb))
  obtain ⟨a, b, t, s, c, d, e, f⟩ := p
  simp only at *
  have HL1 : Hid (∀ w, Calls Tryz.prog 52 #[plV a b t s c d e f, sdV true, .int .i64 x] w (BoolEnd true w)) := fun w => by
    have := leaves_any true a b t s c d e f x c d rfl w
    rwa [decide_eq_false (by omega), decide_eq_false (by omega)] at this
  have HL2 : Hid (∀ w, Calls Tryz.prog 52 #[plV a b t s c d e f, sdV false, .int .i64 y] w (BoolEnd true w)) := fun w => by
    have := leaves_any false a b t s c d e f y e f rfl w
    rwa [decide_eq_false (by omega), decide_eq_false (by omega)] at this
  have HM1 : Hid (∀ w, Calls Tryz.prog 53 #[plV a b t s c d e f, sdV true, .int .i64 x] w (ValEnd (plV a b t s x x e f) w)) := fun w => withLimit_any true a b t s c d e f x w
  have HM2 : Hid (∀ w, Calls Tryz.prog 53 #[plV a b t s x x e f, sdV false, .int .i64 y] w (ValEnd (plV a b t s x x y y) w)) := fun w => withLimit_any false a b t s x x e f y w
  clear h hx1 hx2 hy1 hy2
  unfold Pl.v plV at *
  unfold sdV sdT at *
  simp only at *
  have HIP := Lib.hid Tryz.infoPl
  go_enter Tryz.func36, Tryz.ntmps36
  go_wp2_with (first
    | (go_at_call 51; refine (HN.out _ (below_alloc w _)).mono ?_; rintro q w2 ⟨rfl, hb2⟩; have HZ2 := Lib.hid (below_heap hb2 (heap_new w _)); have HB2 := Lib.hid (below_trans (below_alloc w _) hb2); clear hb2)
    | (go_at_call 52; (with_reducible refine (HL1.out _).mono ?_); rintro q w3 ⟨rfl, hb3⟩; have hh3 := below_heap hb3 (heap_new w2 _); obtain ⟨k0, k1, k2, k3, k4, k5, k6, k7⟩ := plV_cells hh3; have HZ3 := Lib.hid (below_heap (below_trans (below_alloc w2 _) hb3) HZ2.out); have HB3 := Lib.hid (below_trans (below_trans HB2.out (below_alloc w2 _)) hb3); have HH3 := Lib.hid hh3; clear hh3 hb3)
    | (go_at_call 52; (with_reducible refine (HL2.out _).mono ?_); rintro q w4 ⟨rfl, hb4⟩; have hh4 := below_heap hb4 HH3.out; clear k0 k1 k2 k3 k4 k5 k6 k7; obtain ⟨k0, k1, k2, k3, k4, k5, k6, k7⟩ := plV_cells hh4; have HZ4 := Lib.hid (below_heap hb4 HZ3.out); have HB4 := Lib.hid (below_trans HB3.out hb4); clear hh4 hb4)
    | (go_at_call 53; (with_reducible refine (HM1.out _).mono ?_); rintro q w5 ⟨rfl, hb5⟩; have HZ5 := Lib.hid (below_heap hb5 HZ4.out); have HB5 := Lib.hid (below_trans HB4.out hb5); clear hb5 k0 k1 k2 k3 k4 k5 k6 k7)
    | (go_at_call 53; (with_reducible refine (HM2.out _).mono ?_); rintro q w6 ⟨rfl, hb6⟩; have hh6 := below_heap hb6 HZ5.out; have HZ6 := Lib.hid hh6; have HT6 := Lib.hid (known_there (o := 0) (n := 8) hh6 (by simp)); have HB6 := Lib.hid (below_trans HB5.out hb6); clear hh6 hb6)
    | (refine wpList_store_mid rfl 90 (.tmp 6) (.tmp 34) rfl w.heap.size 0 #[.int .i64 a, .int .i64 b, .int .i64 t, .int .i64 s, .int .i64 x, .int .i64 x, .int .i64 y, .int .i64 y] rfl rfl HT6.out HIP.out (by simp [Value.oneCell']) ?_))
  refine bodyPost_ret (v := .tuple #[plV a b t s x x y y, .int .i64 0]) (by simp [results, Tryz.results36, go_sem, plV, World.cell?, heap_setCells _ _ HZ6.out, putAll]) rfl ⟨rfl, ?_⟩
  exact below_setCells (Nat.le_refl _) _ _ HB6.out

theorem play_any (Wk : Nat) (lo hi : Int) (p : Pl) (w : World) (hW : WkB Wk lo hi w) (hl1 : 1 ≤ lo) (hl2 : lo ≤ hi) (hl3 : hi ≤ 3) (hp : PV p) :
    Calls Tryz.prog 54 #[.pointer (some ⟨Wk, 0, none⟩), p.v, .func (.func 55) #[] #[]] w (IntEnd (p.val lo (hi - lo + 1).toNat) w) := by
  have hmf := Tryz.func79
  have HT := Lib.hid (fun tb w' (hb : Below w.heap.size w w') (ht : TopFn tb w') => through_any Wk tb lo hi p w' (hW.below hb) ht hl1 hl2 hl3 hp)
  generalize p.val lo (hi - lo + 1).toNat = r at *
  obtain ⟨a, b, t, s, c, d, e, f⟩ := p
  clear hW hl1 hl2 hl3 hp
  unfold Pl.v plV topFn at *
  go_enter Tryz.func54, Tryz.ntmps54
  go_wp2_with (first
    | (go_at_call 78; refine (HT.out _ _ (below_trans (below_alloc w _) (below_alloc _ _)) (cell_of_one (heap2_1 w _ _))).mono ?_; rintro q w2 ⟨rfl, hb2⟩))
  go_ret
  exact ⟨rfl, below_trans (below_trans (below_alloc w _) (below_alloc _ _)) hb2⟩

theorem wprice_any (Wk : Nat) (lo hi : Int) (p : Pl) (w : World) (hW : WkB Wk lo hi w) (hl1 : 1 ≤ lo) (hl2 : lo ≤ hi) (hl3 : hi ≤ 3) (hp : PV p) :
    Calls Tryz.prog 37 #[.pointer (some ⟨Wk, 0, none⟩), p.v] w (IntEnd (p.val lo (hi - lo + 1).toNat) w) := by
  have HT := Lib.hid (fun w' (hb : Below w.heap.size w w') => play_any Wk lo hi p w' (hW.below hb) hl1 hl2 hl3 hp)
  generalize p.val lo (hi - lo + 1).toNat = r at *
  obtain ⟨a, b, t, s, c, d, e, f⟩ := p
  clear hW hl1 hl2 hl3 hp
  unfold Pl.v plV at *
  go_enter Tryz.func37, Tryz.ntmps37
  go_wp2_with (first
    | (go_at_call 54; refine (HT.out _ (below_alloc w _)).mono ?_; rintro q w2 ⟨rfl, hb2⟩))
  go_ret
  exact ⟨rfl, below_trans (below_alloc w _) hb2⟩
end Go.Proofs.YtemoepcfmpapoaaGreatDoor

/-
  bargain: a valid bargain in which nothing was said is begun, and its price; by contract.
-/
namespace Go.Proofs.YtemoepcfmpapoaaGreatDoor
open Go.RowKit Go.Proofs Go.Shelf
attribute [local go_sem] Oper.semAt_some

set_option maxRecDepth 100000
/-- A bargain in which nothing was said, as a value. -/
def bgV (ak bd fi lo hi sf st bf bt : Int) : Value := .agg #[.int .i64 ak, .int .i64 bd, .int .i64 fi, .int .i64 lo, .int .i64 hi, .int .i64 sf, .int .i64 st, .int .i64 bf, .int .i64 bt, .slice none 0 0]
theorem bg_cells {w : World} {N : Nat} {ak bd fi lo hi sf st bf bt : Int} {T : TypeId} (h : w.heap[N]? = some (.cells #[.int .i64 ak, .int .i64 bd, .int .i64 fi, .int .i64 lo, .int .i64 hi, .int .i64 sf, .int .i64 st, .int .i64 bf, .int .i64 bt, .slice none 0 0] T (0, 0))) :
    w.cell? ⟨N, 0, none⟩ = some (.int .i64 ak) ∧ w.cell? ⟨N, 1, none⟩ = some (.int .i64 bd) ∧ w.cell? ⟨N, 2, none⟩ = some (.int .i64 fi) ∧ w.cell? ⟨N, 3, none⟩ = some (.int .i64 lo) ∧ w.cell? ⟨N, 4, none⟩ = some (.int .i64 hi) ∧
    w.cell? ⟨N, 5, none⟩ = some (.int .i64 sf) ∧ w.cell? ⟨N, 6, none⟩ = some (.int .i64 st) ∧ w.cell? ⟨N, 7, none⟩ = some (.int .i64 bf) ∧ w.cell? ⟨N, 8, none⟩ = some (.int .i64 bt) ∧ w.cell? ⟨N, 9, none⟩ = some (.slice none 0 0) := by
  simp [World.cell?, h]

theorem checkRange_any (x y lo hi : Int) (w : World) (h1 : lo ≤ x) (h2 : x ≤ y) (h3 : y ≤ hi) :
    Calls Tryz.prog 72 #[rgV x y, .int .i64 lo, .int .i64 hi] w (IntEnd 0 w) := by
  have HO1 : Hid (∀ w, Calls Tryz.prog 75 #[.int .i64 x, .int .i64 lo, .int .i64 hi] w (BoolEnd false w)) := fun w => by
    have := boutside_any x lo hi w
    rwa [decide_eq_false (by omega), decide_eq_false (by omega)] at this
  have HO2 : Hid (∀ w, Calls Tryz.prog 75 #[.int .i64 y, .int .i64 lo, .int .i64 hi] w (BoolEnd false w)) := fun w => by
    have := boutside_any y lo hi w
    rwa [decide_eq_false (by omega), decide_eq_false (by omega)] at this
  have hg : decide (x > y) = false := by simp; omega
  clear h1 h2 h3
  unfold rgV
  go_enter Tryz.func72, Tryz.ntmps72
  go_wp2_with (first
    | (go_at_call 75; (with_reducible refine (HO1.out _).mono ?_); rintro q w2 ⟨rfl, hb2⟩; obtain ⟨k0, k1⟩ := rgV_cells (below_heap hb2 (heap_new w _)); have HB2 := Lib.hid hb2; clear hb2)
    | (go_at_call 75; (with_reducible refine (HO2.out _).mono ?_); rintro q w3 ⟨rfl, hb3⟩; have m0 := below_cell hb3 k0; have m1 := below_cell hb3 k1; have HB3 := Lib.hid hb3; clear hb3 k0 k1))
  go_ret
  exact ⟨rfl, below_trans (below_trans (below_alloc w _) HB2.out) HB3.out⟩

theorem isSide_any (t : Int) (w : World) (h : t = 0 ∨ t = 1) : Calls Tryz.prog 71 #[.int .i64 t] w (BoolEnd true w) := by
  rcases h with rfl | rfl
  all_goals
    go_enter Tryz.func71, Tryz.ntmps71
    go_wp2
    go_ret
    exact ⟨rfl, Below.refl _ _⟩

theorem checkPrices_any (ak bd fi lo hi sf st bf bt : Int) (w : World) (h1 : 0 ≤ bd) (h2 : bd < ak) (h3 : ak ≤ 12) :
    Calls Tryz.prog 70 #[bgV ak bd fi lo hi sf st bf bt] w (IntEnd 0 w) := by
  have HO1 : Hid (∀ w, Calls Tryz.prog 75 #[.int .i64 ak, .int .i64 0, .int .i64 12] w (BoolEnd false w)) := fun w => by
    have := boutside_any ak 0 12 w
    rwa [decide_eq_false (by omega), decide_eq_false (by omega)] at this
  have HO2 : Hid (∀ w, Calls Tryz.prog 75 #[.int .i64 bd, .int .i64 0, .int .i64 12] w (BoolEnd false w)) := fun w => by
    have := boutside_any bd 0 12 w
    rwa [decide_eq_false (by omega), decide_eq_false (by omega)] at this
  have hg : decide (bd ≥ ak) = false := by simp; omega
  clear h1 h2 h3
  unfold bgV
  go_enter Tryz.func70, Tryz.ntmps70
  go_wp2_with (first
    | (go_at_call 75; (with_reducible refine (HO1.out _).mono ?_); rintro q w2 ⟨rfl, hb2⟩; obtain ⟨k0, k1, k2, k3, k4, k5, k6, k7, k8, k9⟩ := bg_cells (below_heap hb2 (heap_new w _)); clear k2 k3 k4 k5 k6 k7 k8 k9; have HB2 := Lib.hid hb2; clear hb2)
    | (go_at_call 75; (with_reducible refine (HO2.out _).mono ?_); rintro q w3 ⟨rfl, hb3⟩; have m0 := below_cell hb3 k0; have m1 := below_cell hb3 k1; have HB3 := Lib.hid hb3; clear hb3 k0 k1))
  go_ret
  exact ⟨rfl, below_trans (below_trans (below_alloc w _) HB2.out) HB3.out⟩

/-- A valid bargain. -/
structure BV (ak bd fi lo hi sf st bf bt : Int) : Prop where
  b0 : 0 ≤ bd
  ba : bd < ak
  a12 : ak ≤ 12
  fi : fi = 0 ∨ fi = 1
  l1 : 1 ≤ lo
  lh : lo ≤ hi
  h3 : hi ≤ 3
  s0 : 0 ≤ sf
  ss : sf ≤ st
  sa : st ≤ ak
  e0 : bd ≤ bf
  ee : bf ≤ bt
  e12 : bt ≤ 12

set_option maxHeartbeats 1600000 in
theorem checkBefore_any (ak bd fi lo hi sf st bf bt : Int) (w : World) (h : BV ak bd fi lo hi sf st bf bt) :
    Calls Tryz.prog 48 #[bgV ak bd fi lo hi sf st bf bt] w (IntEnd 0 w) := by
  have HP := Lib.hid (fun w => checkPrices_any ak bd fi lo hi sf st bf bt w h.b0 h.ba h.a12)
  have HI := Lib.hid (fun w => isSide_any fi w h.fi)
  have HR1 := Lib.hid (fun w => checkRange_any lo hi 1 3 w h.l1 h.lh h.h3)
  have HR2 := Lib.hid (fun w => checkRange_any sf st 0 ak w h.s0 h.ss h.sa)
  have HR3 := Lib.hid (fun w => checkRange_any bf bt bd 12 w h.e0 h.ee h.e12)
  clear h
  unfold bgV at *
  unfold rgV at *
  go_enter Tryz.func48, Tryz.ntmps48
  go_wp2_with (first
    | (go_at_call 70; refine (HP.out _).mono ?_; rintro q w2 ⟨rfl, hb2⟩; have hh := below_heap hb2 (heap_new w _); obtain ⟨k0, k1, k2, k3, k4, k5, k6, k7, k8, k9⟩ := bg_cells hh; have HH2 := Lib.hid hh; have HB2 := Lib.hid (below_trans (below_alloc w _) hb2); clear hh hb2)
    | (go_at_call 71; refine (HI.out _).mono ?_; rintro q w3 ⟨rfl, hb3⟩; have hh := below_heap hb3 HH2.out; clear k0 k1 k2 k3 k4 k5 k6 k7 k8 k9; obtain ⟨k0, k1, k2, k3, k4, k5, k6, k7, k8, k9⟩ := bg_cells hh; have HH3 := Lib.hid hh; have HB3 := Lib.hid (below_trans HB2.out hb3); clear hh hb3)
    | (go_at_call 72; (with_reducible refine (HR1.out _).mono ?_); rintro q w4 ⟨rfl, hb4⟩; have hh := below_heap hb4 HH3.out; clear k0 k1 k2 k3 k4 k5 k6 k7 k8 k9; obtain ⟨k0, k1, k2, k3, k4, k5, k6, k7, k8, k9⟩ := bg_cells hh; have HH4 := Lib.hid hh; have HB4 := Lib.hid (below_trans HB3.out hb4); clear hh hb4)
    | (go_at_call 72; (with_reducible refine (HR2.out _).mono ?_); rintro q w5 ⟨rfl, hb5⟩; have hh := below_heap hb5 HH4.out; clear k0 k1 k2 k3 k4 k5 k6 k7 k8 k9; obtain ⟨k0, k1, k2, k3, k4, k5, k6, k7, k8, k9⟩ := bg_cells hh; have HH5 := Lib.hid hh; have HB5 := Lib.hid (below_trans HB4.out hb5); clear hh hb5)
    | (go_at_call 72; (with_reducible refine (HR3.out _).mono ?_); rintro q w6 ⟨rfl, hb6⟩; have HB6 := Lib.hid (below_trans HB5.out hb6); clear hb6))
  go_ret
  exact ⟨rfl, HB6.out⟩

def WorkEnd (ak bd fi lo hi sf st bf bt : Int) (w : World) (e : Ending) (w' : World) : Prop :=
  ∃ Wk, e = .returned (.tuple #[.pointer (some ⟨Wk, 0, none⟩), .nilIface]) ∧ WkB Wk lo hi w' ∧ WkP Wk ⟨ak, bd, fi, 0, sf, st, bf, bt⟩ w' ∧ Below w.heap.size w w'

def wkW (ak bd fi lo hi sf st bf bt : Int) (w : World) : World :=
  (((w.alloc (.cells #[.int .i64 ak, .int .i64 bd, .int .i64 fi, .int .i64 lo, .int .i64 hi, .int .i64 sf, .int .i64 st, .int .i64 bf, .int .i64 bt, .slice none 0 0] 53)).alloc
    (.cells #[.int .i64 ak, .int .i64 bd, .int .i64 fi, .int .i64 0, .int .i64 sf, .int .i64 st, .int .i64 bf, .int .i64 bt] 90)).alloc
    (.cells #[.int .i64 ak, .int .i64 bd, .int .i64 fi, .int .i64 0, .int .i64 sf, .int .i64 st, .int .i64 bf, .int .i64 bt] 90)).alloc
    (.cells #[.int .i64 ak, .int .i64 bd, .int .i64 fi, .int .i64 lo, .int .i64 hi, .int .i64 sf, .int .i64 st, .int .i64 bf, .int .i64 bt, .slice none 0 0, .slice (some ⟨w.heap.size + 1 + 1, 0, none⟩) 1 1] 148)
theorem wkW_ok (ak bd fi lo hi sf st bf bt : Int) (w : World) : WkB (w.heap.size + 1 + 1 + 1) lo hi (wkW ak bd fi lo hi sf st bf bt w) ∧ WkP (w.heap.size + 1 + 1 + 1) ⟨ak, bd, fi, 0, sf, st, bf, bt⟩ (wkW ak bd fi lo hi sf st bf bt w) ∧ Below w.heap.size w (wkW ak bd fi lo hi sf st bf bt w) := by
  unfold wkW
  obtain ⟨W1, h1⟩ : ∃ W1, w.alloc (.cells #[.int .i64 ak, .int .i64 bd, .int .i64 fi, .int .i64 lo, .int .i64 hi, .int .i64 sf, .int .i64 st, .int .i64 bf, .int .i64 bt, .slice none 0 0] 53) = W1 := ⟨_, rfl⟩
  rw [h1]
  have s1 : W1.heap.size = w.heap.size + 1 := by rw [← h1]; simp
  have b1 : Below w.heap.size w W1 := by rw [← h1]; exact below_alloc _ _
  clear h1
  rw [← s1]
  have e3 := heap3_2 W1 (.cells #[.int .i64 ak, .int .i64 bd, .int .i64 fi, .int .i64 0, .int .i64 sf, .int .i64 st, .int .i64 bf, .int .i64 bt] 90)
    (.cells #[.int .i64 ak, .int .i64 bd, .int .i64 fi, .int .i64 0, .int .i64 sf, .int .i64 st, .int .i64 bf, .int .i64 bt] 90)
    (.cells #[.int .i64 ak, .int .i64 bd, .int .i64 fi, .int .i64 lo, .int .i64 hi, .int .i64 sf, .int .i64 st, .int .i64 bf, .int .i64 bt, .slice none 0 0, .slice (some ⟨W1.heap.size + 1, 0, none⟩) 1 1] 148)
  have e2 := heap3_1 W1 (.cells #[.int .i64 ak, .int .i64 bd, .int .i64 fi, .int .i64 0, .int .i64 sf, .int .i64 st, .int .i64 bf, .int .i64 bt] 90)
    (.cells #[.int .i64 ak, .int .i64 bd, .int .i64 fi, .int .i64 0, .int .i64 sf, .int .i64 st, .int .i64 bf, .int .i64 bt] 90)
    (.cells #[.int .i64 ak, .int .i64 bd, .int .i64 fi, .int .i64 lo, .int .i64 hi, .int .i64 sf, .int .i64 st, .int .i64 bf, .int .i64 bt, .slice none 0 0, .slice (some ⟨W1.heap.size + 1, 0, none⟩) 1 1] 148)
  have b9 := below_trans b1 (below_trans (below_alloc W1 (.cells #[.int .i64 ak, .int .i64 bd, .int .i64 fi, .int .i64 0, .int .i64 sf, .int .i64 st, .int .i64 bf, .int .i64 bt] 90)) (below_trans (below_alloc _ (.cells #[.int .i64 ak, .int .i64 bd, .int .i64 fi, .int .i64 0, .int .i64 sf, .int .i64 st, .int .i64 bf, .int .i64 bt] 90)) (below_alloc _ (.cells #[.int .i64 ak, .int .i64 bd, .int .i64 fi, .int .i64 lo, .int .i64 hi, .int .i64 sf, .int .i64 st, .int .i64 bf, .int .i64 bt, .slice none 0 0, .slice (some ⟨W1.heap.size + 1, 0, none⟩) 1 1] 148))))
  generalize ((W1.alloc _).alloc _).alloc _ = W9 at *
  exact ⟨⟨by simp [World.cell?, e3], by simp [World.cell?, e3]⟩, ⟨⟨_, 1, by simp [World.cell?, e3], e2⟩⟩, b9⟩

set_option maxHeartbeats 1600000 in
theorem newWork_any (ak bd fi lo hi sf st bf bt : Int) (w : World) :
    Calls Tryz.prog 49 #[bgV ak bd fi lo hi sf st bf bt] w (WorkEnd ak bd fi lo hi sf st bf bt w) := by
  unfold bgV
  go_enter Tryz.func49, Tryz.ntmps49
  go_wp2_with fail
  go_loopw [29] (fun i wr => i = .int .i64 0 ∧ wr = wkW ak bd fi lo hi sf st bf bt w) (fun _ _ => 0)
  case atStart => exact ⟨rfl, rfl⟩
  case round =>
    obtain ⟨rfl, rfl⟩ := hrel
    have HK := Lib.hid (wkW_ok ak bd fi lo hi sf st bf bt w)
    generalize wkW ak bd fi lo hi sf st bf bt w = W9 at *
    go_wp2_with fail
    refine bodyPost_ret (v := .tuple #[.pointer (some ⟨w.heap.size + 1 + 1 + 1, 0, none⟩), .nilIface]) (by simp [results, Tryz.results49, go_sem]) rfl ?_
    exact ⟨_, rfl, HK.out⟩

def BeginEnd (ak bd fi lo hi sf st bf bt : Int) (w : World) (e : Ending) (w' : World) : Prop :=
  ∃ Wk, e = .returned (.tuple #[.pointer (some ⟨Wk, 0, none⟩), .int .i64 0]) ∧ WkB Wk lo hi w' ∧ WkP Wk ⟨ak, bd, fi, 0, sf, st, bf, bt⟩ w' ∧ Below w.heap.size w w'

set_option maxHeartbeats 1600000 in
theorem begin_any (ak bd fi lo hi sf st bf bt : Int) (w : World) (h : BV ak bd fi lo hi sf st bf bt) :
    Calls Tryz.prog 35 #[bgV ak bd fi lo hi sf st bf bt] w (BeginEnd ak bd fi lo hi sf st bf bt w) := by
  have HC := Lib.hid (fun w => checkBefore_any ak bd fi lo hi sf st bf bt w h)
  have HN := Lib.hid (fun w => newWork_any ak bd fi lo hi sf st bf bt w)
  clear h
  unfold bgV at *
  go_enter Tryz.func35, Tryz.ntmps35
  go_wp2_with (first
    | (go_at_call 48; refine (HC.out _).mono ?_; rintro q w2 ⟨rfl, hb2⟩; have hh := below_heap hb2 (heap_new w _); obtain ⟨k0, k1, k2, k3, k4, k5, k6, k7, k8, k9⟩ := bg_cells hh; have HB2 := Lib.hid (below_trans (below_alloc w _) hb2); clear hh hb2)
    | (go_at_call 49; refine (HN.out _).mono ?_; rintro q w3 ⟨Wk, rfl, hwb, hwp, hb3⟩; have HWB := Lib.hid hwb; have HWP := Lib.hid hwp; have HB3 := Lib.hid (below_trans HB2.out hb3); clear hwb hwp hb3 k0 k1 k2 k3 k4 k5 k6 k7 k8 k9))
  refine bodyPost_ret (v := .tuple #[.pointer (some ⟨Wk, 0, none⟩), .int .i64 0]) (by simp [results, Tryz.results35, go_sem]) rfl ?_
  exact ⟨_, rfl, HWB.out, HWP.out, HB3.out⟩

def PriceEnd (v : Int) (w : World) (e : Ending) (w' : World) : Prop := e = .returned (.tuple #[.int .i64 v, .int .i64 0]) ∧ Below w.heap.size w w'
set_option maxHeartbeats 1600000 in
/-- The price of a valid bargain in which nothing was said. -/
theorem Price_any (ak bd fi lo hi sf st bf bt x y : Int) (w : World) (h : BV ak bd fi lo hi sf st bf bt) (hx1 : sf ≤ x) (hx2 : x ≤ st) (hy1 : bf ≤ y) (hy2 : y ≤ bt) :
    Calls Tryz.prog 16 #[bgV ak bd fi lo hi sf st bf bt, .int .i64 x, .int .i64 y] w (PriceEnd ((Pl.mk ak bd fi 0 x x y y).val lo (hi - lo + 1).toNat) w) := by
  have HC := Lib.hid (fun w => begin_any ak bd fi lo hi sf st bf bt w h)
  have HW : Hid (∀ Wk w, WkP Wk ⟨ak, bd, fi, 0, sf, st, bf, bt⟩ w → Calls Tryz.prog 36 #[.pointer (some ⟨Wk, 0, none⟩), .int .i64 x, .int .i64 y] w (ValEnd (.tuple #[plV ak bd fi 0 x x y y, .int .i64 0]) w)) := fun Wk w hw => with_any Wk ⟨ak, bd, fi, 0, sf, st, bf, bt⟩ x y w hw hx1 hx2 hy1 hy2
  have hpv : PV ⟨ak, bd, fi, 0, x, x, y, y⟩ := by
    obtain ⟨b0, ba, a12, fi, l1, lh, h3, s0, ss, sa, e0, ee, e12⟩ := h
    exact ⟨b0, by simp; omega, a12, fi, by simp, by simp; omega, by simp, by simp; omega, by simp; omega, by simp, by simp; omega⟩
  have HP : Hid (∀ Wk w, WkB Wk lo hi w → Calls Tryz.prog 37 #[.pointer (some ⟨Wk, 0, none⟩), plV ak bd fi 0 x x y y] w (IntEnd ((Pl.mk ak bd fi 0 x x y y).val lo (hi - lo + 1).toNat) w)) := fun Wk w hw => wprice_any Wk lo hi ⟨ak, bd, fi, 0, x, x, y, y⟩ w hw h.l1 h.lh h.h3 hpv
  generalize (Pl.mk ak bd fi 0 x x y y).val lo (hi - lo + 1).toNat = v at *
  clear h hx1 hx2 hy1 hy2 hpv
  unfold bgV plV at *
  go_enter Tryz.func16, Tryz.ntmps16
  go_wp2_with (first
    | (go_at_call 35; refine (HC.out _).mono ?_; rintro q w2 ⟨Wk, rfl, hwb, hwp, hb2⟩; have HWB := Lib.hid hwb; have HWP := Lib.hid hwp; have HB2 := Lib.hid (below_trans (below_alloc w _) hb2); clear hwb hwp hb2)
    | (go_at_call 36; refine (HW.out _ _ HWP.out).mono ?_; rintro q w3 ⟨rfl, hb3⟩; have HB3 := Lib.hid (below_trans HB2.out hb3); have HWB3 := Lib.hid (HWB.out.below hb3); clear hb3)
    | (go_at_call 37; refine (HP.out _ _ (HWB3.out.below (below_alloc w3 _))).mono ?_; rintro q w4 ⟨rfl, hb4⟩; have HB4 := Lib.hid (below_trans (below_trans HB3.out (below_alloc w3 _)) hb4); clear hb4))
  refine bodyPost_ret (v := .tuple #[.int .i64 v, .int .i64 0]) (by simp [results, Tryz.results16, go_sem]) rfl ?_
  exact ⟨rfl, HB4.out⟩
end Go.Proofs.YtemoepcfmpapoaaGreatDoor

/-
  resold: a bargain made of the bag's numbers, by contract.
-/
namespace Go.Proofs.YtemoepcfmpapoaaGreatDoor
open Go.RowKit Go.Proofs Go.Shelf
attribute [local go_sem] Oper.semAt_some

set_option maxRecDepth 100000
/-- The bargain so far: it lies in block N; the result's block is as it was made. -/
structure BO (b t N : Nat) (ak bd fi lo hi sf st bf bt : Int) (w w' : World) : Prop where
  heap : w'.heap[N + 1]? = some (.cells #[.int .i64 ak, .int .i64 bd, .int .i64 fi, .int .i64 lo, .int .i64 hi, .int .i64 sf, .int .i64 st, .int .i64 bf, .int .i64 bt, .slice none 0 0] 53 (0, 0))
  zero : w'.heap[N]? = some (.cells #[.int .i64 0, .int .i64 0, .int .i64 0, .int .i64 0, .int .i64 0, .int .i64 0, .int .i64 0, .int .i64 0, .int .i64 0, .slice none 0 0] 53 (0, 0))
  bag : Bag w' b t
  kept : Kept b w w'
  bN : b < N
  hN : w.heap.size ≤ N
theorem BO.cells {b t N : Nat} {ak bd fi lo hi sf st bf bt : Int} {w w' : World} (h : BO b t N ak bd fi lo hi sf st bf bt w w') :
    w'.cell? ⟨N + 1, 0, none⟩ = some (.int .i64 ak) ∧ w'.cell? ⟨N + 1, 1, none⟩ = some (.int .i64 bd) ∧ w'.cell? ⟨N + 1, 2, none⟩ = some (.int .i64 fi) ∧ w'.cell? ⟨N + 1, 3, none⟩ = some (.int .i64 lo) ∧ w'.cell? ⟨N + 1, 4, none⟩ = some (.int .i64 hi) ∧
    w'.cell? ⟨N + 1, 5, none⟩ = some (.int .i64 sf) ∧ w'.cell? ⟨N + 1, 6, none⟩ = some (.int .i64 st) ∧ w'.cell? ⟨N + 1, 7, none⟩ = some (.int .i64 bf) ∧ w'.cell? ⟨N + 1, 8, none⟩ = some (.int .i64 bt) ∧ w'.cell? ⟨N + 1, 9, none⟩ = some (.slice none 0 0) := bg_cells h.heap
theorem BO.free {b t N : Nat} {ak bd fi lo hi sf st bf bt : Int} {w w' : World} (h : BO b t N ak bd fi lo hi sf st bf bt w w') (j : Nat) : w'.frozen? ⟨N + 1, j, none⟩ = false := by simp [World.frozen?, h.heap]
/-- A call that takes of the bag. -/
theorem BO.bagged {b t t' N : Nat} {ak bd fi lo hi sf st bf bt : Int} {w w' w'' : World} (h : BO b t N ak bd fi lo hi sf st bf bt w w') (hB : Bag w'' b t') (hk : Kept b w' w'') : BO b t' N ak bd fi lo hi sf st bf bt w w'' := by
  have h1 := (Array.getElem?_eq_some_iff.1 h.heap).1
  have := h.bN
  exact ⟨(hk.block _ h1 (by omega)).trans h.heap, (hk.block _ (by omega) (by omega)).trans h.zero, hB, h.kept.trans hk, h.bN, h.hN⟩
theorem BO.put {b t N : Nat} {ak bd fi lo hi sf st bf bt ak' bd' fi' lo' hi' sf' st' bf' bt' : Int} {w w' w'' : World} (h : BO b t N ak bd fi lo hi sf st bf bt w w')
    (hh : w''.heap[N + 1]? = some (.cells #[.int .i64 ak', .int .i64 bd', .int .i64 fi', .int .i64 lo', .int .i64 hi', .int .i64 sf', .int .i64 st', .int .i64 bf', .int .i64 bt', .slice none 0 0] 53 (0, 0)))
    (hs : ∀ k, k ≠ N + 1 → w''.heap[k]? = w'.heap[k]?) (hz : w''.heap.size = w'.heap.size) (he : Env w' w'') : BO b t N ak' bd' fi' lo' hi' sf' st' bf' bt' w w'' := by
  have hN := h.hN
  have hbN := h.bN
  exact ⟨hh, (hs _ (by omega)).trans h.zero, h.bag.same fun k hk => hs k (by omega), ⟨he.os.trans h.kept.os, he.tape.trans h.kept.tape, he.output.trans h.kept.output, by rw [hz]; exact h.kept.size, fun k hk hb => (hs k (by omega)).trans (h.kept.block k hk hb)⟩, h.bN, h.hN⟩
theorem BO.setA {b t N : Nat} {ak bd fi lo hi sf st bf bt : Int} {w w' : World} (h : BO b t N ak bd fi lo hi sf st bf bt w w') (x : Int) : BO b t N x bd fi lo hi sf st bf bt w (w'.setCell ⟨N + 1, 0, none⟩ (.int .i64 x)) :=
  h.put (by have := heap_setCell_cells (i := 0) h.heap (.int .i64 x); simpa using this) (fun k hk => Below.heap_setCell _ _ _ _ hk) (by simp) ⟨rfl, rfl, rfl⟩
theorem BO.setB {b t N : Nat} {ak bd fi lo hi sf st bf bt : Int} {w w' : World} (h : BO b t N ak bd fi lo hi sf st bf bt w w') (x : Int) : BO b t N ak x fi lo hi sf st bf bt w (w'.setCell ⟨N + 1, 1, none⟩ (.int .i64 x)) :=
  h.put (by have := heap_setCell_cells (i := 1) h.heap (.int .i64 x); simpa using this) (fun k hk => Below.heap_setCell _ _ _ _ hk) (by simp) ⟨rfl, rfl, rfl⟩
theorem BO.setF {b t N : Nat} {ak bd fi lo hi sf st bf bt : Int} {w w' : World} (h : BO b t N ak bd fi lo hi sf st bf bt w w') (x : Int) : BO b t N ak bd x lo hi sf st bf bt w (w'.setCell ⟨N + 1, 2, none⟩ (.int .i64 x)) :=
  h.put (by have := heap_setCell_cells (i := 2) h.heap (.int .i64 x); simpa using this) (fun k hk => Below.heap_setCell _ _ _ _ hk) (by simp) ⟨rfl, rfl, rfl⟩
theorem BO.setSF {b t N : Nat} {ak bd fi lo hi sf st bf bt : Int} {w w' : World} (h : BO b t N ak bd fi lo hi sf st bf bt w w') (x : Int) : BO b t N ak bd fi lo hi x st bf bt w (w'.setCell ⟨N + 1, 5, none⟩ (.int .i64 x)) :=
  h.put (by have := heap_setCell_cells (i := 5) h.heap (.int .i64 x); simpa using this) (fun k hk => Below.heap_setCell _ _ _ _ hk) (by simp) ⟨rfl, rfl, rfl⟩
theorem BO.setST {b t N : Nat} {ak bd fi lo hi sf st bf bt : Int} {w w' : World} (h : BO b t N ak bd fi lo hi sf st bf bt w w') (x : Int) : BO b t N ak bd fi lo hi sf x bf bt w (w'.setCell ⟨N + 1, 6, none⟩ (.int .i64 x)) :=
  h.put (by have := heap_setCell_cells (i := 6) h.heap (.int .i64 x); simpa using this) (fun k hk => Below.heap_setCell _ _ _ _ hk) (by simp) ⟨rfl, rfl, rfl⟩
theorem BO.setBF {b t N : Nat} {ak bd fi lo hi sf st bf bt : Int} {w w' : World} (h : BO b t N ak bd fi lo hi sf st bf bt w w') (x : Int) : BO b t N ak bd fi lo hi sf st x bt w (w'.setCell ⟨N + 1, 7, none⟩ (.int .i64 x)) :=
  h.put (by have := heap_setCell_cells (i := 7) h.heap (.int .i64 x); simpa using this) (fun k hk => Below.heap_setCell _ _ _ _ hk) (by simp) ⟨rfl, rfl, rfl⟩
theorem BO.setBT {b t N : Nat} {ak bd fi lo hi sf st bf bt : Int} {w w' : World} (h : BO b t N ak bd fi lo hi sf st bf bt w w') (x : Int) : BO b t N ak bd fi lo hi sf st bf x w (w'.setCell ⟨N + 1, 8, none⟩ (.int .i64 x)) :=
  h.put (by have := heap_setCell_cells (i := 8) h.heap (.int .i64 x); simpa using this) (fun k hk => Below.heap_setCell _ _ _ _ hk) (by simp) ⟨rfl, rfl, rfl⟩
theorem heap_setCells_ne {b : Nat} : ∀ (vs : List Value) (o : Nat) (w : World) (k : Nat), k ≠ b → (w.setCells b o vs).heap[k]? = w.heap[k]?
  | [], _, _, _, _ => rfl
  | v :: r, o, w, k, h => (heap_setCells_ne r (o + 1) _ k h).trans (Below.heap_setCell _ _ _ _ h)
theorem size_setCells (b : Nat) : ∀ (vs : List Value) (o : Nat) (w : World), (w.setCells b o vs).heap.size = w.heap.size
  | [], _, _ => rfl
  | v :: r, o, w => (size_setCells b r (o + 1) _).trans (by simp)
theorem env_setCells (b : Nat) : ∀ (vs : List Value) (o : Nat) (w : World), Env w (w.setCells b o vs)
  | [], _, _ => ⟨rfl, rfl, rfl⟩
  | v :: r, o, w => Env.trans (Y := w.setCell ⟨b, o, none⟩ v) ⟨rfl, rfl, rfl⟩ (env_setCells b r (o + 1) _)
theorem BO.setStep {b t N : Nat} {ak bd fi lo hi sf st bf bt : Int} {w w' : World} (h : BO b t N ak bd fi lo hi sf st bf bt w w') (x y : Int) : BO b t N ak bd fi x y sf st bf bt w (w'.setCells (N + 1) 3 [.int .i64 x, .int .i64 y]) :=
  h.put (by have := heap_setCells [.int .i64 x, .int .i64 y] 3 h.heap; simpa [putAll] using this) (fun k hk => heap_setCells_ne _ _ _ _ hk) (size_setCells _ _ _ _) (env_setCells _ _ _ _)
theorem BO.alloc {b t N : Nat} {ak bd fi lo hi sf st bf bt : Int} {w w' : World} (h : BO b t N ak bd fi lo hi sf st bf bt w w') (o : Obj) : BO b t N ak bd fi lo hi sf st bf bt w (w'.alloc o) :=
  ⟨below_heap (below_alloc _ _) h.heap, below_heap (below_alloc _ _) h.zero, h.bag.alloc _, h.kept.alloc _, h.bN, h.hN⟩

def BofEnd (b t : Nat) (w : World) (e : Ending) (w' : World) : Prop :=
  ∃ ak bd fi lo hi sf st bf bt, BV ak bd fi lo hi sf st bf bt ∧ e = .returned (bgV ak bd fi lo hi sf st bf bt) ∧ Bag w' b (t + 9) ∧ Kept b w w'
theorem Tryz.infoBg : (Tryz.prog.info? 53).map (·.size) = some 10 := by kernel_rfl

set_option maxHeartbeats 3200000 in
theorem BargainOf_any (b t : Nat) (w : World) (hB : Bag w b t) (ht : t ≤ 1000) : Calls Tryz.prog 31 #[.pointer (some ⟨b, 0, none⟩), .int .i64 6] w (BofEnd b t w) := by
  have HA := Lib.hid (fun t w lo hi (h : Bag w b t) ht h1 h2 h3 h4 => among_any b t lo hi w h ht h1 h2 h3 h4)
  have HU := Lib.hid (fun t w n (h : Bag w b t) ht h1 h2 => upTo_any b t n w h ht h1 h2)
  obtain ⟨W2, hW2⟩ : ∃ W2, (w.alloc (.cells #[.int .i64 0, .int .i64 0, .int .i64 0, .int .i64 0, .int .i64 0, .int .i64 0, .int .i64 0, .int .i64 0, .int .i64 0, .slice none 0 0] 53)).alloc (.cells #[.int .i64 0, .int .i64 0, .int .i64 0, .int .i64 0, .int .i64 0, .int .i64 0, .int .i64 0, .int .i64 0, .int .i64 0, .slice none 0 0] 53) = W2 := ⟨_, rfl⟩
  obtain ⟨N, hN⟩ : ∃ N, N = w.heap.size := ⟨_, rfl⟩
  have hO : BO b t N 0 0 0 0 0 0 0 0 0 w W2 := by
    rw [← hW2, hN]
    exact ⟨heap2_1 w _ _, heap2_0 w _ _, (hB.alloc _).alloc _, ((Kept.refl b w).alloc _).alloc _, hB.lt, Nat.le_refl _⟩
  have HO := Lib.hid hO
  clear hO hB
  go_enter Tryz.func31, Tryz.ntmps31
  go_wp2_with fail
  rw [← hN]
  clear hW2 hN
  refine (HA.out t W2 1 6 HO.out.bag (by omega) (by omega) (by omega) (by omega) (by omega)).mono ?_
  rintro e w3 ⟨n, hn1, hn2, rfl, hB3, hk3⟩
  have HO3 := Lib.hid (HO.out.bagged hB3 hk3)
  clear hB3 hk3
  have hn6 : n ≤ 6 := by omega
  clear hn2
  have hw1 : IntKind.i64.wrap (12 - n) = 12 - n := IntWalk.i64_in _ (by omega)
  go_wp2_with fail
  refine (HU.out (t + 1) w3 (12 - n) HO3.out.bag (by omega) (by omega) (by omega)).mono ?_
  rintro e w4 ⟨bd, hd0, hd1, rfl, hB4, hk4⟩
  have HO4 := Lib.hid (HO3.out.bagged hB4 hk4)
  clear hB4 hk4
  have hd2 : bd ≤ 12 - n := by omega
  clear hd1
  obtain ⟨c0, c1, c2, c3, c4, c5, c6, c7, c8, c9⟩ := HO4.out.cells
  have f0 := HO4.out.free 0
  have f1 := HO4.out.free 1
  have hw2 : IntKind.i64.wrap (bd + n) = bd + n := IntWalk.i64_in _ (by omega)
  go_wp2_with fail
  have HO5 := Lib.hid ((HO4.out.setB bd).setA (bd + n))
  generalize (w4.setCell _ _).setCell _ _ = w5 at *
  clear c0 c1 c2 c3 c4 c5 c6 c7 c8 c9 f0 f1 hw2
  obtain ⟨ak, hak⟩ : ∃ ak, bd + n = ak := ⟨_, rfl⟩
  rw [hak] at HO5
  have hak1 : bd < ak := by omega
  have hak2 : ak ≤ 12 := by omega
  clear hw1 hak hn1 hn6 hd2 HO4 HO3 HO
  refine (HU.out (t + 1 + 1) w5 1 HO5.out.bag (by omega) (by omega) (by omega)).mono ?_
  rintro e w6 ⟨fi, hf0, hf1, rfl, hB6, hk6⟩
  have HO6 := Lib.hid (HO5.out.bagged hB6 hk6)
  clear hB6 hk6 HO5
  have hf2 : fi = 0 ∨ fi = 1 := by omega
  clear hf0 hf1
  obtain ⟨c0, c1, c2, c3, c4, c5, c6, c7, c8, c9⟩ := HO6.out.cells
  have f2 := HO6.out.free 2
  go_wp2_with fail
  have HO7 := Lib.hid (HO6.out.setF fi)
  have hs7 : (w6.setCell ⟨N + 1, 2, none⟩ (.int .i64 fi)).heap.size = w6.heap.size := by simp
  generalize w6.setCell _ _ = w7 at *
  rw [← hs7]
  clear hs7
  clear c0 c1 c2 c3 c4 c5 c6 c7 c8 c9 f2 HO6
  have HPK := Lib.hid (show Calls Tryz.prog 34 #[.pointer (some ⟨b, 0, none⟩), .slice (some ⟨w7.heap.size, 0, none⟩) 5 5] (w7.alloc (.cells #[.int .i64 1, .int .i64 1, .int .i64 2, .int .i64 2, .int .i64 3] 3)) (PickEnd b (t + 1 + 1 + 1) [1, 1, 2, 2, 3] (w7.alloc (.cells #[.int .i64 1, .int .i64 1, .int .i64 2, .int .i64 2, .int .i64 3] 3))) from pick_new b (t + 1 + 1 + 1) [1, 1, 2, 2, 3] 3 5 w7 HO7.out.bag (by omega) (by decide) (by decide))
  with_reducible refine HPK.out.mono ?_
  rintro e w8 ⟨lo, hlo, rfl, hB8, hk8⟩
  have HO8 := Lib.hid ((HO7.out.alloc _).bagged hB8 hk8)
  clear hB8 hk8 HO7
  have hl1 : 1 ≤ lo := by simp at hlo; omega
  have hl3 : lo ≤ 3 := by simp at hlo; omega
  clear hlo HPK
  go_wp2_with fail
  refine (HA.out (t + 1 + 1 + 1 + 1) w8 lo 3 HO8.out.bag (by omega) (by omega) (by omega) (by omega) (by omega)).mono ?_
  rintro e w9 ⟨hi, hh1, hh2, rfl, hB9, hk9⟩
  have HO9 := Lib.hid (HO8.out.bagged hB9 hk9)
  clear hB9 hk9 HO8
  have hh3 : hi ≤ 3 := by omega
  clear hh2
  have HT9 := Lib.hid (known_there (o := 3) (n := 2) HO9.out.heap (by simp))
  have HIR := Lib.hid Tryz.infoRg
  obtain ⟨c0, c1, c2, c3, c4, c5, c6, c7, c8, c9⟩ := HO9.out.cells
  go_upto_region 8 with (refine wpList_store_mid rfl 51 (.tmp 32) (.tmp 31) rfl (N + 1) 3 #[.int .i64 lo, .int .i64 hi] rfl rfl HT9.out HIR.out (by simp [Value.oneCell']) ?_)
  have HO10 := Lib.hid (HO9.out.setStep lo hi)
  generalize w9.setCells _ _ _ = w10 at *
  clear c0 c1 c2 c3 c4 c5 c6 c7 c8 c9 HT9 HIR HO9
  try simp only [Act.put]
  go_cut [7] from 33 to 42 (fun sv w' => sv = .int .i64 lo ∧ ∃ sf : Int, 0 ≤ sf ∧ sf ≤ ak ∧ BO b (t + 1 + 1 + 1 + 1 + 1 + 1) N ak bd fi lo hi sf 0 0 0 w w')
  case first =>
    have hw1 : IntKind.i64.wrap (bd - 1) = bd - 1 := IntWalk.i64_in _ (by omega)
    obtain ⟨c0, c1, c2, c3, c4, c5, c6, c7, c8, c9⟩ := HO10.out.cells
    go_wp2_with (go_at_call 5; refine (HA.out (t + 1 + 1 + 1 + 1 + 1) w10 _ _ HO10.out.bag (by omega) (by omega) (by omega) (by omega) (by omega)).mono ?_; rintro e wx ⟨sf, hx1, hx2, rfl, hBx, hkx⟩; have HX := Lib.hid (HO10.out.bagged hBx hkx); clear hBx hkx c0 c1 c2 c3 c4 c5 c6 c7 c8 c9; have c5 := HX.out.cells; obtain ⟨c0, c1, c2, c3, c4, c5, c6, c7, c8, c9⟩ := c5; have f5 := HX.out.free 5)
    all_goals
      go_meet
      case rel => exact ⟨rfl, sf, by omega, by omega, HX.out.setSF sf⟩
  case rest =>
  obtain ⟨rfl, sf, hsf1, hsf2, ho⟩ := hcut
  have HO11 := Lib.hid ho
  clear ho HO10
  go_upto_region 9 with fail
  go_cut [7] from 43 to 56 (fun sv w' => sv = .int .i64 lo ∧ ∃ st : Int, sf ≤ st ∧ st ≤ ak ∧ BO b (t + 1 + 1 + 1 + 1 + 1 + 1 + 1) N ak bd fi lo hi sf st 0 0 w w')
  case first =>
    have hw1 : IntKind.i64.wrap (sf + 3) = sf + 3 := IntWalk.i64_in _ (by omega)
    obtain ⟨c0, c1, c2, c3, c4, c5, c6, c7, c8, c9⟩ := HO11.out.cells
    go_wp2_with (go_at_call 5; refine (HA.out (t + 1 + 1 + 1 + 1 + 1 + 1) wc _ _ HO11.out.bag (by omega) (by omega) (by omega) (by omega) (by omega)).mono ?_; rintro e wx ⟨st, hx1, hx2, rfl, hBx, hkx⟩; have HX := Lib.hid (HO11.out.bagged hBx hkx); clear hBx hkx c0 c1 c2 c3 c4 c5 c6 c7 c8 c9; have c5 := HX.out.cells; obtain ⟨c0, c1, c2, c3, c4, c5, c6, c7, c8, c9⟩ := c5; have f5 := HX.out.free 6)
    all_goals
      go_meet
      case rel => exact ⟨rfl, st, by omega, by omega, HX.out.setST st⟩
  case rest =>
  rename_i wc2
  obtain ⟨rfl, st, hst1, hst2, ho⟩ := hcut
  have HO12 := Lib.hid ho
  clear ho HO11
  go_upto_region 10 with fail
  go_cut [7] from 57 to 66 (fun sv w' => sv = .int .i64 lo ∧ ∃ bt : Int, bd ≤ bt ∧ bt ≤ 12 ∧ BO b (t + 1 + 1 + 1 + 1 + 1 + 1 + 1 + 1) N ak bd fi lo hi sf st 0 bt w w')
  case first =>
    have hw1 : IntKind.i64.wrap (ak + 1) = ak + 1 := IntWalk.i64_in _ (by omega)
    obtain ⟨c0, c1, c2, c3, c4, c5, c6, c7, c8, c9⟩ := HO12.out.cells
    go_wp2_with (go_at_call 5; refine (HA.out (t + 1 + 1 + 1 + 1 + 1 + 1 + 1) _ _ _ HO12.out.bag (by omega) (by omega) (by omega) (by omega) (by omega)).mono ?_; rintro e wx ⟨bt, hx1, hx2, rfl, hBx, hkx⟩; have HX := Lib.hid (HO12.out.bagged hBx hkx); clear hBx hkx c0 c1 c2 c3 c4 c5 c6 c7 c8 c9; have c5 := HX.out.cells; obtain ⟨c0, c1, c2, c3, c4, c5, c6, c7, c8, c9⟩ := c5; have f5 := HX.out.free 8)
    all_goals
      go_meet
      case rel => exact ⟨rfl, bt, by omega, by omega, HX.out.setBT bt⟩
  case rest =>
  obtain ⟨rfl, bt, hbt1, hbt2, ho⟩ := hcut
  have HO13 := Lib.hid ho
  clear ho HO12
  go_upto_region 11 with fail
  go_cut [7] from 67 to 80 (fun sv w' => sv = .int .i64 lo ∧ ∃ bf : Int, bd ≤ bf ∧ bf ≤ bt ∧ BO b (t + 1 + 1 + 1 + 1 + 1 + 1 + 1 + 1 + 1) N ak bd fi lo hi sf st bf bt w w')
  case first =>
    have hw1 : IntKind.i64.wrap (bt - 3) = bt - 3 := IntWalk.i64_in _ (by omega)
    obtain ⟨c0, c1, c2, c3, c4, c5, c6, c7, c8, c9⟩ := HO13.out.cells
    go_wp2_with (go_at_call 5; refine (HA.out (t + 1 + 1 + 1 + 1 + 1 + 1 + 1 + 1) _ _ _ HO13.out.bag (by omega) (by omega) (by omega) (by omega) (by omega)).mono ?_; rintro e wx ⟨bf, hx1, hx2, rfl, hBx, hkx⟩; have HX := Lib.hid (HO13.out.bagged hBx hkx); clear hBx hkx c0 c1 c2 c3 c4 c5 c6 c7 c8 c9; have c5 := HX.out.cells; obtain ⟨c0, c1, c2, c3, c4, c5, c6, c7, c8, c9⟩ := c5; have f5 := HX.out.free 7)
    all_goals
      go_meet
      case rel => exact ⟨rfl, bf, by omega, by omega, HX.out.setBF bf⟩
  case rest =>
  obtain ⟨rfl, bf, hbf1, hbf2, ho⟩ := hcut
  have HO14 := Lib.hid ho
  clear ho HO13
  have HT := Lib.hid (known_there (o := 0) (n := 10) HO14.out.zero (by simp))
  have HIB := Lib.hid Tryz.infoBg
  obtain ⟨c0, c1, c2, c3, c4, c5, c6, c7, c8, c9⟩ := HO14.out.cells
  go_wp2_with (refine wpList_store_mid rfl 53 (.tmp 4) (.tmp 81) rfl N 0 #[.int .i64 ak, .int .i64 bd, .int .i64 fi, .int .i64 lo, .int .i64 hi, .int .i64 sf, .int .i64 st, .int .i64 bf, .int .i64 bt, .slice none 0 0] rfl rfl HT.out HIB.out (by simp [Value.oneCell']) ?_)
  refine bodyPost_ret (v := bgV ak bd fi lo hi sf st bf bt) (by simp [results, Tryz.results31, go_sem, bgV, World.cell?, heap_setCells _ _ HO14.out.zero, putAll]) rfl ?_
  have hbN := HO14.out.bN
  have hN := HO14.out.hN
  have he := env_setCells N [.int .i64 ak, .int .i64 bd, .int .i64 fi, .int .i64 lo, .int .i64 hi, .int .i64 sf, .int .i64 st, .int .i64 bf, .int .i64 bt, .slice none 0 0] 0
  have hk := HO14.out.kept
  exact ⟨ak, bd, fi, lo, hi, sf, st, bf, bt, ⟨hd0, hak1, hak2, hf2, hl1, hh1, hh3, hsf1, hst1, hst2, hbf1, hbf2, hbt2⟩, rfl, HO14.out.bag.same fun k hk => heap_setCells_ne _ _ _ _ (by omega),
    ⟨(he _).os.trans hk.os, (he _).tape.trans hk.tape, (he _).output.trans hk.output, by rw [size_setCells]; exact hk.size, fun k hk1 hk2 => (heap_setCells_ne _ _ _ _ (by omega)).trans (hk.block k hk1 hk2)⟩⟩
end Go.Proofs.YtemoepcfmpapoaaGreatDoor

/-
  resold: a bargain in which nothing was said, and two limits, made of the bag's numbers; whether it is struck; by contract.
-/
namespace Go.Proofs.YtemoepcfmpapoaaGreatDoor
open Go.RowKit Go.Proofs Go.Shelf
attribute [local go_sem] Oper.semAt_some

set_option maxRecDepth 100000
def SofEnd (b t : Nat) (w : World) (e : Ending) (w' : World) : Prop :=
  ∃ ak bd fi lo hi sf st bf bt x y, BV ak bd fi lo hi sf st bf bt ∧ sf ≤ x ∧ x ≤ st ∧ bf ≤ y ∧ y ≤ bt ∧ e = .returned (.tuple #[bgV ak bd fi lo hi sf st bf bt, .int .i64 x, .int .i64 y]) ∧ Bag w' b (t + 12) ∧ Kept b w w'
theorem Kept.keeps {b : Nat} {w w' : World} (h : Kept b w w') {a : Addr} {v : Value} (hb : a.block ≠ b) (hc : w.cell? a = some v) : w'.cell? a = some v := (h.cell (World.block_lt_of_cell? w _ hc) hb).trans hc
theorem Kept.heap {b k : Nat} {w w' : World} (h : Kept b w w') {o : Obj} (hb : k ≠ b) (hc : w.heap[k]? = some o) : w'.heap[k]? = some o := (h.block k (Array.getElem?_eq_some_iff.1 hc).1 hb).trans hc

set_option maxHeartbeats 3200000 in
theorem SaidOf_any (b t : Nat) (w : World) (hB : Bag w b t) (ht : t ≤ 900) : Calls Tryz.prog 15 #[.pointer (some ⟨b, 0, none⟩), .int .i64 6, .int .i64 0] w (SofEnd b t w) := by
  have HA := Lib.hid (fun t w lo hi (h : Bag w b t) ht h1 h2 h3 h4 => among_any b t lo hi w h ht h1 h2 h3 h4)
  have HU := Lib.hid (fun t w n (h : Bag w b t) ht h1 h2 => upTo_any b t n w h ht h1 h2)
  have hbo := (fun w (h : Bag w b t) => BargainOf_any b t w h (by omega))
  unfold BofEnd bgV at hbo

  have HBO := Lib.hid hbo
  clear hbo
  have HB0 := Lib.hid hB
  have hlt := hB.lt
  clear hB
  go_enter Tryz.func15, Tryz.ntmps15
  go_upto_region 2 with (go_at_call 31; refine (HBO.out _ (HB0.out.alloc _)).mono ?_; rintro e w2 ⟨ak, bd, fi, lo, hi, sf, st, bf, bt, hbv, rfl, hB2, hk2⟩; have HZ2 := Lib.hid (hk2.heap (by omega) (heap_new w _)); have HBV := Lib.hid hbv; have HB2 := Lib.hid hB2; have HK2 := Lib.hid (((Kept.refl b w).alloc _).trans hk2); clear hbv hB2 hk2)
  try simp only [Act.put]
  obtain ⟨N9, hN9⟩ : ∃ N9, w2.heap.size = N9 := ⟨_, rfl⟩
  have hh9 := heap_new w2 (.cells #[.int .i64 ak, .int .i64 bd, .int .i64 fi, .int .i64 lo, .int .i64 hi, .int .i64 sf, .int .i64 st, .int .i64 bf, .int .i64 bt, .slice none 0 0] 53)
  have HB9 := Lib.hid (HB2.out.alloc (.cells #[.int .i64 ak, .int .i64 bd, .int .i64 fi, .int .i64 lo, .int .i64 hi, .int .i64 sf, .int .i64 st, .int .i64 bf, .int .i64 bt, .slice none 0 0] 53))
  have HK9 := Lib.hid (HK2.out.alloc (.cells #[.int .i64 ak, .int .i64 bd, .int .i64 fi, .int .i64 lo, .int .i64 hi, .int .i64 sf, .int .i64 st, .int .i64 bf, .int .i64 bt, .slice none 0 0] 53))
  have HZ9 := Lib.hid (below_heap (below_alloc w2 (.cells #[.int .i64 ak, .int .i64 bd, .int .i64 fi, .int .i64 lo, .int .i64 hi, .int .i64 sf, .int .i64 st, .int .i64 bf, .int .i64 bt, .slice none 0 0] 53)) HZ2.out)
  have hN9b : N9 ≠ b := by have := HB2.out.lt; omega
  have hwb : w.heap.size ≠ b := by omega
  have hNw : N9 ≠ w.heap.size := by have := (Array.getElem?_eq_some_iff.1 HZ2.out).1; omega
  rw [hN9] at hh9 ⊢
  generalize w2.alloc _ = W9 at *
  clear hN9 HZ2 HB2 HK2
  have HH9 := Lib.hid hh9
  obtain ⟨c0, c1, c2, c3, c4, c5, c6, c7, c8, c9⟩ := bg_cells hh9
  clear hh9
  have l9 : N9 < W9.heap.size := World.block_lt_of_cell? _ _ c0
  have toS : ∀ u : World, Kept b W9 u → (u.cell? ⟨N9, 5, none⟩ = W9.cell? ⟨N9, 5, none⟩ ∧ u.cell? ⟨N9, 6, none⟩ = W9.cell? ⟨N9, 6, none⟩ ∧ u.cell? ⟨N9, 7, none⟩ = W9.cell? ⟨N9, 7, none⟩ ∧ u.cell? ⟨N9, 8, none⟩ = W9.cell? ⟨N9, 8, none⟩) := fun u h => ⟨h.cell l9 hN9b, h.cell l9 hN9b, h.cell l9 hN9b, h.cell l9 hN9b⟩
  refine wp_region_late (fun w' : World => w'.cell? ⟨N9, 5, none⟩ = W9.cell? ⟨N9, 5, none⟩ ∧ w'.cell? ⟨N9, 6, none⟩ = W9.cell? ⟨N9, 6, none⟩ ∧ w'.cell? ⟨N9, 7, none⟩ = W9.cell? ⟨N9, 7, none⟩ ∧ w'.cell? ⟨N9, 8, none⟩ = W9.cell? ⟨N9, 8, none⟩) (fun i => false) (by kernel_rfl) ?_
  have hd9 : Kept b W9 W9.drew := (Kept.refl b W9).drew
  have hBd : Bag W9.drew b (t + 9) := HB9.out.drew
  have hS := toS _ hd9
  obtain ⟨wd, hwd⟩ : ∃ x, x = W9.drew := ⟨_, rfl⟩
  rw [← hwd] at hS hd9 hBd ⊢
  clear hwd
  have HBD := Lib.hid hBd
  clear hBd
  refine late_take (i := 0) (v := ?_) (by simp only [List.getElem?_toArray, List.getElem?_cons_zero, List.getElem?_cons_succ]; exact rfl) (by kernel_rfl) (by kernel_rfl) (by exact fun _ _ _ h => h) 17 _ _ _ (by kernel_rfl) (List.mem_of_elem_eq_true (by kernel_rfl)) (Or.inl ⟨by rfl, ?_⟩) hS ?_
  rotate_left
  · intro w9 hw9
    try dsimp only at hw9
    obtain ⟨hw0, hw1, hw2, hw3⟩ := hw9
    go_simp
    try with_reducible rfl
  try simp only [Act.put, List.setIfInBounds_toArray, List.set_cons_zero, List.set_cons_succ]
  refine late_take (i := 1) (v := ?_) (by simp only [List.getElem?_toArray, List.getElem?_cons_zero, List.getElem?_cons_succ]; exact rfl) (by kernel_rfl) (by kernel_rfl) (by exact fun _ _ _ h => h) 16 _ _ _ (by kernel_rfl) (List.mem_of_elem_eq_true (by kernel_rfl)) (Or.inl ⟨by rfl, ?_⟩) hS ?_
  rotate_left
  · intro w9 hw9
    try dsimp only at hw9
    obtain ⟨hw0, hw1, hw2, hw3⟩ := hw9
    go_simp
    try with_reducible rfl
  try simp only [Act.put, List.setIfInBounds_toArray, List.set_cons_zero, List.set_cons_succ]
  refine late_take (i := 2) (v := ?_) (by simp only [List.getElem?_toArray, List.getElem?_cons_zero, List.getElem?_cons_succ]; exact rfl) (by kernel_rfl) (by kernel_rfl) (by exact fun _ _ _ h => h) 15 _ _ _ (by kernel_rfl) (List.mem_of_elem_eq_true (by kernel_rfl)) (Or.inl ⟨by rfl, ?_⟩) hS ?_
  rotate_left
  · intro w9 hw9
    try dsimp only at hw9
    obtain ⟨hw0, hw1, hw2, hw3⟩ := hw9
    go_simp
    try with_reducible rfl
  try simp only [Act.put, List.setIfInBounds_toArray, List.set_cons_zero, List.set_cons_succ]
  refine late_take (i := 3) (v := ?_) (by simp only [List.getElem?_toArray, List.getElem?_cons_zero, List.getElem?_cons_succ]; exact rfl) (by kernel_rfl) (by kernel_rfl) (by exact fun _ _ _ h => h) 14 _ _ _ (by kernel_rfl) (List.mem_of_elem_eq_true (by kernel_rfl)) (Or.inl ⟨by rfl, ?_⟩) hS ?_
  rotate_left
  · intro w9 hw9
    try dsimp only at hw9
    obtain ⟨hw0, hw1, hw2, hw3⟩ := hw9
    go_simp
    try with_reducible rfl
  try simp only [Act.put, List.setIfInBounds_toArray, List.set_cons_zero, List.set_cons_succ]
  refine late_take (i := 4) (v := ?_) (by simp only [List.getElem?_toArray, List.getElem?_cons_zero, List.getElem?_cons_succ]; exact rfl) (by kernel_rfl) (by kernel_rfl) (by exact fun _ _ _ h => h) 13 _ _ _ (by kernel_rfl) (List.mem_of_elem_eq_true (by kernel_rfl)) (Or.inl ⟨by rfl, ?_⟩) hS ?_
  rotate_left
  · intro w9 hw9
    try dsimp only at hw9
    obtain ⟨hw0, hw1, hw2, hw3⟩ := hw9
    go_simp
    try with_reducible rfl
  try simp only [Act.put, List.setIfInBounds_toArray, List.set_cons_zero, List.set_cons_succ]
  refine late_take (i := 5) (v := ?_) (by simp only [List.getElem?_toArray, List.getElem?_cons_zero, List.getElem?_cons_succ]; exact rfl) (by kernel_rfl) (by kernel_rfl) (by exact fun _ _ _ h => h) 12 _ _ _ (by kernel_rfl) (List.mem_of_elem_eq_true (by kernel_rfl)) (Or.inl ⟨by rfl, ?_⟩) hS ?_
  rotate_left
  · intro w9 hw9
    try dsimp only at hw9
    obtain ⟨hw0, hw1, hw2, hw3⟩ := hw9
    go_simp
    try with_reducible rfl
  try simp only [Act.put, List.setIfInBounds_toArray, List.set_cons_zero, List.set_cons_succ]
  refine late_take (i := 6) (v := ?_) (by simp only [List.getElem?_toArray, List.getElem?_cons_zero, List.getElem?_cons_succ]; exact rfl) (by kernel_rfl) (by kernel_rfl) (by exact fun _ _ _ h => h) 11 _ _ _ (by kernel_rfl) (List.mem_of_elem_eq_true (by kernel_rfl)) (Or.inl ⟨by rfl, ?_⟩) hS ?_
  rotate_left
  · intro w9 hw9
    try dsimp only at hw9
    obtain ⟨hw0, hw1, hw2, hw3⟩ := hw9
    go_simp
    try with_reducible rfl
  try simp only [Act.put, List.setIfInBounds_toArray, List.set_cons_zero, List.set_cons_succ]
  refine late_take (i := 8) (v := ?_) (by simp only [List.getElem?_toArray, List.getElem?_cons_zero, List.getElem?_cons_succ]; exact rfl) (by kernel_rfl) (by kernel_rfl) (by exact fun _ _ _ h => h) 10 _ _ _ (by kernel_rfl) (List.mem_of_elem_eq_true (by kernel_rfl)) (Or.inl ⟨by rfl, ?_⟩) hS ?_
  rotate_left
  · intro w9 hw9
    try dsimp only at hw9
    obtain ⟨hw0, hw1, hw2, hw3⟩ := hw9
    go_simp
    try with_reducible rfl
  try simp only [Act.put, List.setIfInBounds_toArray, List.set_cons_zero, List.set_cons_succ]
  refine late_take (i := 9) (v := ?_) (by simp only [List.getElem?_toArray, List.getElem?_cons_zero, List.getElem?_cons_succ]; exact rfl) (by kernel_rfl) (by kernel_rfl) (by exact fun _ _ _ h => h) 9 _ _ _ (by kernel_rfl) (List.mem_of_elem_eq_true (by kernel_rfl)) (Or.inl ⟨by rfl, ?_⟩) hS ?_
  rotate_left
  · intro w9 hw9
    try dsimp only at hw9
    obtain ⟨hw0, hw1, hw2, hw3⟩ := hw9
    go_simp
    try with_reducible rfl
  try simp only [Act.put, List.setIfInBounds_toArray, List.set_cons_zero, List.set_cons_succ]
  refine late_take (i := 10) (v := ?_) (by simp only [List.getElem?_toArray, List.getElem?_cons_zero, List.getElem?_cons_succ]; exact rfl) (by kernel_rfl) (by kernel_rfl) (by exact fun _ _ _ h => h) 8 _ _ _ (by kernel_rfl) (List.mem_of_elem_eq_true (by kernel_rfl)) (Or.inl ⟨by rfl, ?_⟩) hS ?_
  rotate_left
  · intro w9 hw9
    try dsimp only at hw9
    obtain ⟨hw0, hw1, hw2, hw3⟩ := hw9
    go_simp
    try with_reducible rfl
  try simp only [Act.put, List.setIfInBounds_toArray, List.set_cons_zero, List.set_cons_succ]
  refine late_take (i := 11) (v := ?_) (by simp only [List.getElem?_toArray, List.getElem?_cons_zero, List.getElem?_cons_succ]; exact rfl) (by kernel_rfl) (by kernel_rfl) (by exact fun _ _ _ h => h) 7 _ _ _ (by kernel_rfl) (List.mem_of_elem_eq_true (by kernel_rfl)) (Or.inl ⟨by rfl, ?_⟩) hS ?_
  rotate_left
  · intro w9 hw9
    try dsimp only at hw9
    obtain ⟨hw0, hw1, hw2, hw3⟩ := hw9
    go_simp
    try with_reducible rfl
  try simp only [Act.put, List.setIfInBounds_toArray, List.set_cons_zero, List.set_cons_succ]
  refine late_take (i := 12) (v := ?_) (by simp only [List.getElem?_toArray, List.getElem?_cons_zero, List.getElem?_cons_succ]; exact rfl) (by kernel_rfl) (by kernel_rfl) (by exact fun _ _ _ h => h) 6 _ _ _ (by kernel_rfl) (List.mem_of_elem_eq_true (by kernel_rfl)) (Or.inl ⟨by rfl, ?_⟩) hS ?_
  rotate_left
  · intro w9 hw9
    try dsimp only at hw9
    obtain ⟨hw0, hw1, hw2, hw3⟩ := hw9
    go_simp
    try with_reducible rfl
  try simp only [Act.put, List.setIfInBounds_toArray, List.set_cons_zero, List.set_cons_succ]
  refine late_take (i := 13) (v := ?_) (by simp only [List.getElem?_toArray, List.getElem?_cons_zero, List.getElem?_cons_succ]; exact rfl) (by kernel_rfl) (by kernel_rfl) (by exact fun _ _ _ h => h) 5 _ _ _ (by kernel_rfl) (List.mem_of_elem_eq_true (by kernel_rfl)) (Or.inl ⟨by rfl, ?_⟩) hS ?_
  rotate_left
  · intro w9 hw9
    try dsimp only at hw9
    obtain ⟨hw0, hw1, hw2, hw3⟩ := hw9
    go_simp
    try with_reducible rfl
  try simp only [Act.put, List.setIfInBounds_toArray, List.set_cons_zero, List.set_cons_succ]
  refine late_take (i := 14) (v := ?_) (by simp only [List.getElem?_toArray, List.getElem?_cons_zero, List.getElem?_cons_succ]; exact rfl) (by kernel_rfl) (by kernel_rfl) (by exact fun _ _ _ h => h) 4 _ _ _ (by kernel_rfl) (List.mem_of_elem_eq_true (by kernel_rfl)) (Or.inl ⟨by rfl, ?_⟩) hS ?_
  rotate_left
  · intro w9 hw9
    try dsimp only at hw9
    obtain ⟨hw0, hw1, hw2, hw3⟩ := hw9
    go_simp
    try with_reducible rfl
  try simp only [Act.put, List.setIfInBounds_toArray, List.set_cons_zero, List.set_cons_succ]
  have hbnd : 0 ≤ sf ∧ sf ≤ st ∧ st ≤ 12 ∧ 0 ≤ bf ∧ bf ≤ bt ∧ bt ≤ 12 := by have := HBV.out.s0; have := HBV.out.ss; have := HBV.out.sa; have := HBV.out.a12; have := HBV.out.b0; have := HBV.out.e0; have := HBV.out.ee; have := HBV.out.e12; omega
  obtain ⟨g1, g2, g3, g4, g5, g6⟩ := hbnd
  refine late_one (i := 7) (by kernel_rfl) (by simp only [List.getElem?_toArray, List.getElem?_cons_zero, List.getElem?_cons_succ]; exact rfl) (by rfl) ?_
  intro K hK
  go_simp
  refine (HA.out (t + 9) wd _ _ HBD.out (by omega) (by omega) (by omega) (by omega) (by omega)).mono ?_
  rintro q w4 ⟨x, hx1, hx2, rfl, hbx, hkx⟩
  dsimp only
  have hkw4 := hd9.trans hkx
  have HBw4 := Lib.hid hbx
  refine hK _ _ (fun _ => toS _ hkw4) ?_
  clear hK K hbx hkx
  try simp only [Act.put, List.setIfInBounds_toArray, List.set_cons_zero, List.set_cons_succ]
  have hX : sf ≤ x ∧ x ≤ st := by omega
  clear hx1 hx2
  refine late_one (i := 15) (by kernel_rfl) (by simp only [List.getElem?_toArray, List.getElem?_cons_zero, List.getElem?_cons_succ]; exact rfl) (by rfl) ?_
  intro K hK
  go_simp
  refine (HA.out (t + 9 + 1) w4 _ _ HBw4.out (by omega) (by omega) (by omega) (by omega) (by omega)).mono ?_
  rintro q w5 ⟨y, hx1, hx2, rfl, hbx, hkx⟩
  dsimp only
  have hkw5 := hkw4.trans hkx
  have HBw5 := Lib.hid hbx
  refine hK _ _ (fun _ => toS _ hkw5) ?_
  clear hK K hbx hkx
  try simp only [Act.put, List.setIfInBounds_toArray, List.set_cons_zero, List.set_cons_succ]
  have hY : bf ≤ y ∧ y ≤ bt := by omega
  clear hx1 hx2
  refine late_one (i := 16) (by kernel_rfl) (by simp only [List.getElem?_toArray, List.getElem?_cons_zero, List.getElem?_cons_succ]; exact rfl) (by rfl) ?_
  intro K hK
  go_simp
  refine hK _ _ (fun _ => toS _ (hkw5.alloc _)) ?_
  clear hK K
  try simp only [Act.put, List.setIfInBounds_toArray, List.set_cons_zero, List.set_cons_succ]
  refine late_one (i := 17) (by kernel_rfl) (by simp only [List.getElem?_toArray, List.getElem?_cons_zero, List.getElem?_cons_succ]; exact rfl) (by rfl) ?_
  intro K hK
  go_simp
  refine hK _ _ (fun _ => toS _ (hkw5.alloc _)) ?_
  clear hK K
  try simp only [Act.put, List.setIfInBounds_toArray, List.set_cons_zero, List.set_cons_succ]
  refine late_done (by kernel_rfl) ?_ _
  clear hS toS
  obtain ⟨NL, hNL⟩ : ∃ NL, w5.heap.size = NL := ⟨_, rfl⟩
  have hL := heap_new w5 (.cells #[.int .i64 x, .int .i64 y] 3)
  have HB6 := Lib.hid (HBw5.out.alloc (.cells #[.int .i64 x, .int .i64 y] 3))
  have HK6 := Lib.hid ((HK9.out.trans hkw5).alloc (.cells #[.int .i64 x, .int .i64 y] 3))
  have HH6 := Lib.hid (below_heap (below_alloc w5 (.cells #[.int .i64 x, .int .i64 y] 3)) (hkw5.heap hN9b HH9.out))
  have HZ6 := Lib.hid (below_heap (below_alloc w5 (.cells #[.int .i64 x, .int .i64 y] 3)) (hkw5.heap hwb HZ9.out))
  have hNLb : NL ≠ b := by have := HBw5.out.lt; omega
  have hLw : NL ≠ w.heap.size := by have := (Array.getElem?_eq_some_iff.1 (hkw5.heap hwb HZ9.out)).1; omega
  rw [hNL] at hL ⊢
  generalize w5.alloc _ = W6 at *
  have HL6 := Lib.hid hL
  clear hNL hL hkw5 hkw4 hd9 c0 c1 c2 c3 c4 c5 c6 c7 c8 c9 HB0 HB9 HK9 HZ9 HH9
  go_wp2_with (go_at_call 14; refine (HU.out (t + 9 + 1 + 1) _ 0 HB6.out (by omega) (by omega) (by omega)).mono ?_; rintro e w7 ⟨r, hr0, hr1, rfl, hB7, hk7⟩; obtain rfl : r = 0 := (by omega); have HB7 := Lib.hid hB7; have HK7 := Lib.hid (HK6.out.trans hk7); have HH7 := Lib.hid (hk7.heap hN9b HH6.out); have HZ7 := Lib.hid (hk7.heap hwb HZ6.out); have HL7 := Lib.hid (hk7.heap hNLb HL6.out); clear hr0 hr1 hB7 hk7 HB6 HK6 HH6 HZ6 HL6)
  go_loopw [11] (fun i wr => i = .int .i64 0 ∧ wr = w7) (fun _ _ => 0)
  case atStart => exact ⟨rfl, rfl⟩
  case round =>
    obtain ⟨rfl, rfl⟩ := hrel
    go_wp2_with fail
    try simp only [Act.put]
    have HIB := Lib.hid Tryz.infoBg
    have HT8 := Lib.hid (known_there (o := 0) (n := 10) (w := wr.drew) HZ7.out (by simp))
    obtain ⟨c0, c1, c2, c3, c4, c5, c6, c7, c8, c9⟩ := bg_cells HH7.out
    obtain ⟨d0, d1⟩ := rgV_cells HL7.out
    have l9' : N9 < wr.heap.size := World.block_lt_of_cell? _ _ c0
    have lL : NL < wr.heap.size := World.block_lt_of_cell? _ _ d0
    have toS : ∀ u : World, Below wr.heap.size wr u → (u.cell? ⟨N9, 0, none⟩ = wr.cell? ⟨N9, 0, none⟩ ∧ u.cell? ⟨N9, 1, none⟩ = wr.cell? ⟨N9, 1, none⟩ ∧ u.cell? ⟨N9, 2, none⟩ = wr.cell? ⟨N9, 2, none⟩ ∧ u.cell? ⟨N9, 3, none⟩ = wr.cell? ⟨N9, 3, none⟩ ∧ u.cell? ⟨N9, 4, none⟩ = wr.cell? ⟨N9, 4, none⟩ ∧ u.cell? ⟨N9, 5, none⟩ = wr.cell? ⟨N9, 5, none⟩ ∧ u.cell? ⟨N9, 6, none⟩ = wr.cell? ⟨N9, 6, none⟩ ∧ u.cell? ⟨N9, 7, none⟩ = wr.cell? ⟨N9, 7, none⟩ ∧ u.cell? ⟨N9, 8, none⟩ = wr.cell? ⟨N9, 8, none⟩ ∧ u.cell? ⟨N9, 9, none⟩ = wr.cell? ⟨N9, 9, none⟩ ∧ u.cell? ⟨NL, 0, none⟩ = wr.cell? ⟨NL, 0, none⟩ ∧ u.cell? ⟨NL, 1, none⟩ = wr.cell? ⟨NL, 1, none⟩) := fun u h => ⟨h.cell l9', h.cell l9', h.cell l9', h.cell l9', h.cell l9', h.cell l9', h.cell l9', h.cell l9', h.cell l9', h.cell l9', h.cell lL, h.cell lL⟩
    refine wp_region_late (fun w' : World => w'.cell? ⟨N9, 0, none⟩ = wr.cell? ⟨N9, 0, none⟩ ∧ w'.cell? ⟨N9, 1, none⟩ = wr.cell? ⟨N9, 1, none⟩ ∧ w'.cell? ⟨N9, 2, none⟩ = wr.cell? ⟨N9, 2, none⟩ ∧ w'.cell? ⟨N9, 3, none⟩ = wr.cell? ⟨N9, 3, none⟩ ∧ w'.cell? ⟨N9, 4, none⟩ = wr.cell? ⟨N9, 4, none⟩ ∧ w'.cell? ⟨N9, 5, none⟩ = wr.cell? ⟨N9, 5, none⟩ ∧ w'.cell? ⟨N9, 6, none⟩ = wr.cell? ⟨N9, 6, none⟩ ∧ w'.cell? ⟨N9, 7, none⟩ = wr.cell? ⟨N9, 7, none⟩ ∧ w'.cell? ⟨N9, 8, none⟩ = wr.cell? ⟨N9, 8, none⟩ ∧ w'.cell? ⟨N9, 9, none⟩ = wr.cell? ⟨N9, 9, none⟩ ∧ w'.cell? ⟨NL, 0, none⟩ = wr.cell? ⟨NL, 0, none⟩ ∧ w'.cell? ⟨NL, 1, none⟩ = wr.cell? ⟨NL, 1, none⟩) (fun i => false) (by kernel_rfl) ?_
    have hd9 : Below wr.heap.size wr wr.drew := (Below.refl _ wr).drew
    have hS := toS _ hd9
    obtain ⟨wd, hwd⟩ : ∃ x, x = wr.drew := ⟨_, rfl⟩
    rw [← hwd] at hS hd9 ⊢
    have HWD := Lib.hid hwd
    clear hwd
    refine late_take (i := 0) (v := ?_) (by simp only [List.getElem?_toArray, List.getElem?_cons_zero, List.getElem?_cons_succ]; exact rfl) (by kernel_rfl) (by kernel_rfl) (by exact fun _ _ _ h => h) 9 _ _ _ (by kernel_rfl) (List.mem_of_elem_eq_true (by kernel_rfl)) (Or.inl ⟨by rfl, ?_⟩) hS ?_
    rotate_left
    · intro w9 hw9
      try dsimp only at hw9
      obtain ⟨hw0, hw1, hw2, hw3, hw4, hw5, hw6, hw7, hw8, hw9, hw10, hw11⟩ := hw9
      go_simp
      try with_reducible rfl
    try simp only [Act.put, List.setIfInBounds_toArray, List.set_cons_zero, List.set_cons_succ]
    refine late_take (i := 1) (v := ?_) (by simp only [List.getElem?_toArray, List.getElem?_cons_zero, List.getElem?_cons_succ]; exact rfl) (by kernel_rfl) (by kernel_rfl) (by exact fun _ _ _ h => h) 8 _ _ _ (by kernel_rfl) (List.mem_of_elem_eq_true (by kernel_rfl)) (Or.inl ⟨by rfl, ?_⟩) hS ?_
    rotate_left
    · intro w9 hw9
      try dsimp only at hw9
      obtain ⟨hw0, hw1, hw2, hw3, hw4, hw5, hw6, hw7, hw8, hw9, hw10, hw11⟩ := hw9
      go_simp
      try with_reducible rfl
    try simp only [Act.put, List.setIfInBounds_toArray, List.set_cons_zero, List.set_cons_succ]
    refine late_take (i := 2) (v := ?_) (by simp only [List.getElem?_toArray, List.getElem?_cons_zero, List.getElem?_cons_succ]; exact rfl) (by kernel_rfl) (by kernel_rfl) (by exact fun _ _ _ h => h) 7 _ _ _ (by kernel_rfl) (List.mem_of_elem_eq_true (by kernel_rfl)) (Or.inl ⟨by rfl, ?_⟩) hS ?_
    rotate_left
    · intro w9 hw9
      try dsimp only at hw9
      obtain ⟨hw0, hw1, hw2, hw3, hw4, hw5, hw6, hw7, hw8, hw9, hw10, hw11⟩ := hw9
      go_simp
      try with_reducible rfl
    try simp only [Act.put, List.setIfInBounds_toArray, List.set_cons_zero, List.set_cons_succ]
    refine late_take (i := 3) (v := ?_) (by simp only [List.getElem?_toArray, List.getElem?_cons_zero, List.getElem?_cons_succ]; exact rfl) (by kernel_rfl) (by kernel_rfl) (by exact fun _ _ _ h => h) 6 _ _ _ (by kernel_rfl) (List.mem_of_elem_eq_true (by kernel_rfl)) (Or.inl ⟨by rfl, ?_⟩) hS ?_
    rotate_left
    · intro w9 hw9
      try dsimp only at hw9
      obtain ⟨hw0, hw1, hw2, hw3, hw4, hw5, hw6, hw7, hw8, hw9, hw10, hw11⟩ := hw9
      go_simp
      try with_reducible rfl
    try simp only [Act.put, List.setIfInBounds_toArray, List.set_cons_zero, List.set_cons_succ]
    refine late_take (i := 4) (v := ?_) (by simp only [List.getElem?_toArray, List.getElem?_cons_zero, List.getElem?_cons_succ]; exact rfl) (by kernel_rfl) (by kernel_rfl) (by exact fun _ _ _ h => h) 5 _ _ _ (by kernel_rfl) (List.mem_of_elem_eq_true (by kernel_rfl)) (Or.inl ⟨by rfl, ?_⟩) hS ?_
    rotate_left
    · intro w9 hw9
      try dsimp only at hw9
      obtain ⟨hw0, hw1, hw2, hw3, hw4, hw5, hw6, hw7, hw8, hw9, hw10, hw11⟩ := hw9
      go_simp
      try with_reducible rfl
    try simp only [Act.put, List.setIfInBounds_toArray, List.set_cons_zero, List.set_cons_succ]
    refine late_take (i := 5) (v := ?_) (by simp only [List.getElem?_toArray, List.getElem?_cons_zero, List.getElem?_cons_succ]; exact rfl) (by kernel_rfl) (by kernel_rfl) (by exact fun _ _ _ h => h) 4 _ _ _ (by kernel_rfl) (List.mem_of_elem_eq_true (by kernel_rfl)) (Or.inl ⟨by rfl, ?_⟩) hS ?_
    rotate_left
    · intro w9 hw9
      try dsimp only at hw9
      obtain ⟨hw0, hw1, hw2, hw3, hw4, hw5, hw6, hw7, hw8, hw9, hw10, hw11⟩ := hw9
      go_simp
      try with_reducible rfl
    try simp only [Act.put, List.setIfInBounds_toArray, List.set_cons_zero, List.set_cons_succ]
    refine late_take (i := 6) (v := ?_) (by simp only [List.getElem?_toArray, List.getElem?_cons_zero, List.getElem?_cons_succ]; exact rfl) (by kernel_rfl) (by kernel_rfl) (by exact fun _ _ _ h => h) 3 _ _ _ (by kernel_rfl) (List.mem_of_elem_eq_true (by kernel_rfl)) (Or.inl ⟨by rfl, ?_⟩) hS ?_
    rotate_left
    · intro w9 hw9
      try dsimp only at hw9
      obtain ⟨hw0, hw1, hw2, hw3, hw4, hw5, hw6, hw7, hw8, hw9, hw10, hw11⟩ := hw9
      go_simp
      try with_reducible rfl
    try simp only [Act.put, List.setIfInBounds_toArray, List.set_cons_zero, List.set_cons_succ]
    refine late_one (i := 7) (by kernel_rfl) (by simp only [List.getElem?_toArray, List.getElem?_cons_zero, List.getElem?_cons_succ]; exact rfl) (by rfl) ?_
    intro K hK
    obtain rfl := HWD.out
    have toS3 : (wr.drew.setCells w.heap.size 0 (#[.int .i64 ak, .int .i64 bd, .int .i64 fi, .int .i64 lo, .int .i64 hi, .int .i64 sf, .int .i64 st, .int .i64 bf, .int .i64 bt, .slice none 0 0] : Array Value).toList).cell? ⟨N9, 0, none⟩ = wr.cell? ⟨N9, 0, none⟩ ∧ (wr.drew.setCells w.heap.size 0 (#[.int .i64 ak, .int .i64 bd, .int .i64 fi, .int .i64 lo, .int .i64 hi, .int .i64 sf, .int .i64 st, .int .i64 bf, .int .i64 bt, .slice none 0 0] : Array Value).toList).cell? ⟨N9, 1, none⟩ = wr.cell? ⟨N9, 1, none⟩ ∧ (wr.drew.setCells w.heap.size 0 (#[.int .i64 ak, .int .i64 bd, .int .i64 fi, .int .i64 lo, .int .i64 hi, .int .i64 sf, .int .i64 st, .int .i64 bf, .int .i64 bt, .slice none 0 0] : Array Value).toList).cell? ⟨N9, 2, none⟩ = wr.cell? ⟨N9, 2, none⟩ ∧ (wr.drew.setCells w.heap.size 0 (#[.int .i64 ak, .int .i64 bd, .int .i64 fi, .int .i64 lo, .int .i64 hi, .int .i64 sf, .int .i64 st, .int .i64 bf, .int .i64 bt, .slice none 0 0] : Array Value).toList).cell? ⟨N9, 3, none⟩ = wr.cell? ⟨N9, 3, none⟩ ∧ (wr.drew.setCells w.heap.size 0 (#[.int .i64 ak, .int .i64 bd, .int .i64 fi, .int .i64 lo, .int .i64 hi, .int .i64 sf, .int .i64 st, .int .i64 bf, .int .i64 bt, .slice none 0 0] : Array Value).toList).cell? ⟨N9, 4, none⟩ = wr.cell? ⟨N9, 4, none⟩ ∧ (wr.drew.setCells w.heap.size 0 (#[.int .i64 ak, .int .i64 bd, .int .i64 fi, .int .i64 lo, .int .i64 hi, .int .i64 sf, .int .i64 st, .int .i64 bf, .int .i64 bt, .slice none 0 0] : Array Value).toList).cell? ⟨N9, 5, none⟩ = wr.cell? ⟨N9, 5, none⟩ ∧ (wr.drew.setCells w.heap.size 0 (#[.int .i64 ak, .int .i64 bd, .int .i64 fi, .int .i64 lo, .int .i64 hi, .int .i64 sf, .int .i64 st, .int .i64 bf, .int .i64 bt, .slice none 0 0] : Array Value).toList).cell? ⟨N9, 6, none⟩ = wr.cell? ⟨N9, 6, none⟩ ∧ (wr.drew.setCells w.heap.size 0 (#[.int .i64 ak, .int .i64 bd, .int .i64 fi, .int .i64 lo, .int .i64 hi, .int .i64 sf, .int .i64 st, .int .i64 bf, .int .i64 bt, .slice none 0 0] : Array Value).toList).cell? ⟨N9, 7, none⟩ = wr.cell? ⟨N9, 7, none⟩ ∧ (wr.drew.setCells w.heap.size 0 (#[.int .i64 ak, .int .i64 bd, .int .i64 fi, .int .i64 lo, .int .i64 hi, .int .i64 sf, .int .i64 st, .int .i64 bf, .int .i64 bt, .slice none 0 0] : Array Value).toList).cell? ⟨N9, 8, none⟩ = wr.cell? ⟨N9, 8, none⟩ ∧ (wr.drew.setCells w.heap.size 0 (#[.int .i64 ak, .int .i64 bd, .int .i64 fi, .int .i64 lo, .int .i64 hi, .int .i64 sf, .int .i64 st, .int .i64 bf, .int .i64 bt, .slice none 0 0] : Array Value).toList).cell? ⟨N9, 9, none⟩ = wr.cell? ⟨N9, 9, none⟩ ∧ (wr.drew.setCells w.heap.size 0 (#[.int .i64 ak, .int .i64 bd, .int .i64 fi, .int .i64 lo, .int .i64 hi, .int .i64 sf, .int .i64 st, .int .i64 bf, .int .i64 bt, .slice none 0 0] : Array Value).toList).cell? ⟨NL, 0, none⟩ = wr.cell? ⟨NL, 0, none⟩ ∧ (wr.drew.setCells w.heap.size 0 (#[.int .i64 ak, .int .i64 bd, .int .i64 fi, .int .i64 lo, .int .i64 hi, .int .i64 sf, .int .i64 st, .int .i64 bf, .int .i64 bt, .slice none 0 0] : Array Value).toList).cell? ⟨NL, 1, none⟩ = wr.cell? ⟨NL, 1, none⟩ := ⟨World.cell?_of_block (w := wr.drew) (heap_setCells_ne _ _ wr.drew _ hNw), World.cell?_of_block (w := wr.drew) (heap_setCells_ne _ _ wr.drew _ hNw), World.cell?_of_block (w := wr.drew) (heap_setCells_ne _ _ wr.drew _ hNw), World.cell?_of_block (w := wr.drew) (heap_setCells_ne _ _ wr.drew _ hNw), World.cell?_of_block (w := wr.drew) (heap_setCells_ne _ _ wr.drew _ hNw), World.cell?_of_block (w := wr.drew) (heap_setCells_ne _ _ wr.drew _ hNw), World.cell?_of_block (w := wr.drew) (heap_setCells_ne _ _ wr.drew _ hNw), World.cell?_of_block (w := wr.drew) (heap_setCells_ne _ _ wr.drew _ hNw), World.cell?_of_block (w := wr.drew) (heap_setCells_ne _ _ wr.drew _ hNw), World.cell?_of_block (w := wr.drew) (heap_setCells_ne _ _ wr.drew _ hNw), World.cell?_of_block (w := wr.drew) (heap_setCells_ne _ _ wr.drew _ hLw), World.cell?_of_block (w := wr.drew) (heap_setCells_ne _ _ wr.drew _ hLw)⟩
    refine wp_store_mid 53 (.tmp 6) (.tmp 75) rfl w.heap.size 0 #[.int .i64 ak, .int .i64 bd, .int .i64 fi, .int .i64 lo, .int .i64 hi, .int .i64 sf, .int .i64 st, .int .i64 bf, .int .i64 bt, .slice none 0 0] rfl rfl HT8.out HIB.out (by simp [Value.oneCell']) ?_
    refine hK _ _ (fun _ => toS3) ?_
    clear hK K
    try simp only [Act.put, List.setIfInBounds_toArray, List.set_cons_zero, List.set_cons_succ]
    refine late_one (i := 8) (by kernel_rfl) (by simp only [List.getElem?_toArray, List.getElem?_cons_zero, List.getElem?_cons_succ]; exact rfl) (by rfl) ?_
    intro K hK
    go_simp
    refine hK _ _ (fun _ => toS3) ?_
    clear hK K
    try simp only [Act.put, List.setIfInBounds_toArray, List.set_cons_zero, List.set_cons_succ]
    refine late_one (i := 9) (by kernel_rfl) (by simp only [List.getElem?_toArray, List.getElem?_cons_zero, List.getElem?_cons_succ]; exact rfl) (by rfl) ?_
    intro K hK
    go_simp
    refine hK _ _ (fun _ => toS3) ?_
    clear hK K
    try simp only [Act.put, List.setIfInBounds_toArray, List.set_cons_zero, List.set_cons_succ]
    refine late_done (by kernel_rfl) ?_ _
    clear toS hS toS3 c0 c1 c2 c3 c4 c5 c6 c7 c8 c9 d0 d1 hd9
    go_wp2_with fail
    refine bodyPost_ret (v := .tuple #[.agg #[.int .i64 ak, .int .i64 bd, .int .i64 fi, .int .i64 lo, .int .i64 hi, .int .i64 sf, .int .i64 st, .int .i64 bf, .int .i64 bt, .slice none 0 0], .int .i64 x, .int .i64 y]) (by simp [results, Tryz.results15, go_sem, World.cell?, heap_setCells (w := wr.drew) _ _ HZ7.out, putAll]) rfl ?_
    have he := env_setCells w.heap.size #[.int .i64 ak, .int .i64 bd, .int .i64 fi, .int .i64 lo, .int .i64 hi, .int .i64 sf, .int .i64 st, .int .i64 bf, .int .i64 bt, .slice none 0 0].toList 0 wr.drew
    have hk := HK7.out
    exact ⟨ak, bd, fi, lo, hi, sf, st, bf, bt, x, y, HBV.out, hX.1, hX.2, hY.1, hY.2, rfl, HB7.out.same fun k hk => (heap_setCells_ne _ _ wr.drew _ (by omega)),
      ⟨he.os.trans hk.os, he.tape.trans hk.tape, he.output.trans hk.output, by rw [size_setCells]; exact hk.size, fun k hk1 hk2 => (heap_setCells_ne _ _ wr.drew _ (by omega)).trans (hk.block k hk1 hk2)⟩⟩
end Go.Proofs.YtemoepcfmpapoaaGreatDoor

/-
  resold: whether a bargain is struck, and at which price; by contract.
-/
namespace Go.Proofs.YtemoepcfmpapoaaGreatDoor
open Go.RowKit Go.Proofs Go.Shelf
attribute [local go_sem] Oper.semAt_some

set_option maxRecDepth 100000
def StkEnd (b t : Nat) (w : World) (e : Ending) (w' : World) : Prop :=
  ∃ p : Int, -1 ≤ p ∧ p ≤ 12 ∧ e = .returned (.tuple #[.int .i64 p, .bool true]) ∧ Bag w' b (t + 12) ∧ Kept b w w'

theorem struckOf_any (b t : Nat) (w : World) (hB : Bag w b t) (ht : t ≤ 900) : Calls Tryz.prog 6 #[.pointer (some ⟨b, 0, none⟩)] w (StkEnd b t w) := by
  have HS := SaidOf_any b t w hB ht
  unfold SofEnd bgV at HS
  have HP : Hid (∀ ak bd fi lo hi sf st bf bt x y w, BV ak bd fi lo hi sf st bf bt → sf ≤ x → x ≤ st → bf ≤ y → y ≤ bt → Calls Tryz.prog 16 #[.agg #[.int .i64 ak, .int .i64 bd, .int .i64 fi, .int .i64 lo, .int .i64 hi, .int .i64 sf, .int .i64 st, .int .i64 bf, .int .i64 bt, .slice none 0 0], .int .i64 x, .int .i64 y] w
      (fun e w' => ∃ v : Int, -1 ≤ v ∧ v ≤ 12 ∧ e = .returned (.tuple #[.int .i64 v, .int .i64 0]) ∧ Below w.heap.size w w')) := fun ak bd fi lo hi sf st bf bt x y w h h1 h2 h3 h4 => by
    have hpv : PV ⟨ak, bd, fi, 0, x, x, y, y⟩ := by
      obtain ⟨b0, ba, a12, fi, l1, lh, h3, s0, ss, sa, e0, ee, e12⟩ := h
      exact ⟨b0, by simp; omega, a12, fi, by simp, by simp; omega, by simp, by simp; omega, by simp; omega, by simp, by simp; omega⟩
    refine (Price_any ak bd fi lo hi sf st bf bt x y w h h1 h2 h3 h4).mono ?_
    rintro e w' ⟨rfl, hb⟩
    exact ⟨_, (val_bounds h.l1 hpv).1, (val_bounds h.l1 hpv).2, rfl, hb⟩
  have HS := Lib.hid HS
  clear hB
  go_enter Tryz.func6, Tryz.ntmps6
  go_wp2_with (first
    | (go_at_call 15; refine HS.out.mono ?_; rintro q w2 ⟨ak, bd, fi, lo, hi, sf, st, bf, bt, x, y, hv, hx1, hx2, hy1, hy2, rfl, hB2, hk2⟩; have HB2 := Lib.hid hB2; have HK2 := Lib.hid hk2; have HV := Lib.hid (And.intro hv (And.intro hx1 (And.intro hx2 (And.intro hy1 hy2)))); clear hv hx1 hx2 hy1 hy2 hB2 hk2)
    | (go_at_call 16; refine (HP.out _ _ _ _ _ _ _ _ _ _ _ _ HV.out.1 HV.out.2.1 HV.out.2.2.1 HV.out.2.2.2.1 HV.out.2.2.2.2).mono ?_; rintro q w3 ⟨v, hv1, hv2, rfl, hb3⟩; have HB3 := Lib.hid (below_trans (below_alloc w2 _) hb3); have HVB := Lib.hid (And.intro hv1 hv2); clear hv1 hv2 hb3))
  refine bodyPost_ret (v := .tuple #[.int .i64 v, .bool true]) (by simp [results, Tryz.results6, go_sem]) rfl ?_
  exact ⟨v, HVB.out.1, HVB.out.2, rfl, HB2.out.below HB3.out HB2.out.lt, HK2.out.of_below (HB3.out.mono HK2.out.size)⟩
end Go.Proofs.YtemoepcfmpapoaaGreatDoor
