/-
  bargain: the prices that can be named, and whether a number is among some, by contract.
-/
import Derived.Test.YtemoepcfmpapoaaGreatDoorMRWk
import Derived.OrdersHeld
namespace Go.Proofs.YtemoepcfmpapoaaGreatDoor
open Go.RowKit Go.Proofs Go.Shelf

/-- A bargain at work, as far as the game looks into it: the least and the greatest step. -/
structure WkB (Wk : Nat) (lo hi : Int) (w : World) : Prop where
  lo : w.cell? ⟨Wk, 3, none⟩ = some (.int .i64 lo)
  hi : w.cell? ⟨Wk, 4, none⟩ = some (.int .i64 hi)
theorem WkB.below {Wk : Nat} {lo hi : Int} {w w' : World} (h : WkB Wk lo hi w) (hb : Below w.heap.size w w') : WkB Wk lo hi w' := ⟨below_cell hb h.lo, below_cell hb h.hi⟩

def Pl.v (p : Pl) : Value := plV p.a p.b p.t p.s p.c p.d p.e p.f
def namesTo (lo : Int) (p : Pl) (k : Nat) : List Int := p.names lo k
theorem names_succ (lo : Int) (p : Pl) (k : Nat) : p.names lo (k + 1) = p.names lo k ++ (if p.within (p.step (lo + (k : Nat))) then [p.step (lo + (k : Nat))] else []) := by
  unfold Pl.names
  rw [List.range_succ, List.map_append, List.filter_append]
  congr 1
  simp only [List.map_cons, List.map_nil, List.filter_cons, List.filter_nil]
theorem names_le (lo : Int) (p : Pl) (k : Nat) : (p.names lo k).length ≤ k := by
  unfold Pl.names
  refine Nat.le_trans (List.length_filter_le _ _) ?_
  simp

def NamesEnd (l : List Int) (w : World) (e : Ending) (w' : World) : Prop := ∃ v, e = .returned v ∧ w'.ownsRow w.heap.size 3 1 v l.length (l.map (Value.int .i64)) ∧ Below w.heap.size w w'

theorem plV_cells {w : World} {N : Nat} {a b t s c d e f : Int} {T : TypeId} (h : w.heap[N]? = some (.cells #[.int .i64 a, .int .i64 b, .int .i64 t, .int .i64 s, .int .i64 c, .int .i64 d, .int .i64 e, .int .i64 f] T (0, 0))) :
    w.cell? ⟨N, 0, none⟩ = some (.int .i64 a) ∧ w.cell? ⟨N, 1, none⟩ = some (.int .i64 b) ∧ w.cell? ⟨N, 2, none⟩ = some (.int .i64 t) ∧ w.cell? ⟨N, 3, none⟩ = some (.int .i64 s) ∧
    w.cell? ⟨N, 4, none⟩ = some (.int .i64 c) ∧ w.cell? ⟨N, 5, none⟩ = some (.int .i64 d) ∧ w.cell? ⟨N, 6, none⟩ = some (.int .i64 e) ∧ w.cell? ⟨N, 7, none⟩ = some (.int .i64 f) := by
  refine ⟨?_, ?_, ?_, ?_, ?_, ?_, ?_, ?_⟩ <;> simp [World.cell?, h]

set_option maxRecDepth 100000 in
set_option maxHeartbeats 1600000 in
theorem names_any (Wk : Nat) (lo hi : Int) (p : Pl) (w : World) (hW : WkB Wk lo hi w) (h1 : 1 ≤ lo) (h2 : lo ≤ hi) (h3 : hi ≤ 3) (ha : -100 ≤ p.a ∧ p.a ≤ 100) (hb : -100 ≤ p.b ∧ p.b ≤ 100) :
    Calls Tryz.prog 106 #[.pointer (some ⟨Wk, 0, none⟩), p.v] w (NamesEnd (p.names lo (hi - lo + 1).toNat) w) := by
  obtain ⟨k, hk⟩ : ∃ k : Nat, (hi - lo + 1).toNat = k := ⟨_, rfl⟩
  have hk1 : hi - lo + 1 = (k : Int) := by omega
  have hk3 : k ≤ 3 := by omega
  rw [hk]
  obtain ⟨a, b, t, s, c, d, e, f⟩ := p
  obtain ⟨sd, hsd⟩ : ∃ sd, (t == 0) = sd := ⟨_, rfl⟩
  obtain ⟨p, hp⟩ : ∃ p : Pl, Pl.mk a b t s c d e f = p := ⟨_, rfl⟩
  have HSD := Lib.hid (fun w => side_any a b t s c d e f w)
  have HCL := Lib.hid (fun w => closer_any sd a b t s c d e f w)
  rw [hsd] at HSD
  obtain ⟨fc, hfc⟩ : ∃ fc : Nat, (if sd then 140 else 141) = fc := ⟨_, rfl⟩
  rw [hfc] at HCL
  have HFC : Hid (∀ x w, -1000 ≤ x → x ≤ 1000 → Calls Tryz.prog fc #[plV a b t s c d e f, .int .i64 x] w (IntEnd (p.step x) w)) := fun x w g1 g2 => by
    simp only at ha hb
    have e1 : p.step x = if sd then a - x else b + x := by rw [← hp]; unfold Pl.step Pl.sd; simp only [hsd]
    rw [e1]
    subst hfc
    cases sd with
    | true => exact lowered_any a b t s c d e f x w (by omega) (by omega) g1 g2
    | false => exact raised_any a b t s c d e f x w (by omega) (by omega) g1 g2
  have HO := Lib.hid (fun n w => boutside_any n b a w)
  have HWI : Hid (∀ x : Int, p.within x = !(decide (x < b) || decide (a < x))) := fun x => by rw [← hp]; rfl
  have HB12 : Hid (∀ x, p.within x = true → -100 ≤ x ∧ x ≤ 100) := fun x hx => by
    rw [HWI] at hx
    simp only [Bool.not_eq_true', Bool.or_eq_false_iff, decide_eq_false_iff_not] at hx
    simp only at ha hb
    omega
  have hpv : (Pl.mk a b t s c d e f).v = plV a b t s c d e f := rfl
  rw [hp] at hpv
  rw [hp, hpv]
  obtain ⟨i0, hi0, hz0, hz1, hz2⟩ := info_parts Tryz.infoInt
  have hw1 : IntKind.i64.wrap (hi - lo) = hi - lo := IntWalk.i64_in _ (by omega)
  have hw2 : IntKind.i64.wrap (hi - lo + 1) = (k : Int) := by rw [IntWalk.i64_in _ (by omega)]; exact hk1
  have c3 := hW.lo
  have c4 := hW.hi
  have HW := Lib.hid hW
  obtain ⟨W1, hW1⟩ : ∃ W1, w.alloc (.cells #[.int .i64 a, .int .i64 b, .int .i64 t, .int .i64 s, .int .i64 c, .int .i64 d, .int .i64 e, .int .i64 f] 90) = W1 := ⟨_, rfl⟩
  have hb1 : Below w.heap.size w W1 := by rw [← hW1]; exact below_alloc w _
  obtain ⟨d0, d1, d2, d3, d4, d5, d6, d7⟩ := plV_cells (show W1.heap[w.heap.size]? = _ by rw [← hW1]; exact heap_new w _)
  have HB1 := Lib.hid hb1
  unfold plV at HSD HCL HFC ⊢
  have HP := Lib.hid hp
  have HK := Lib.hid hk1
  clear hW ha hb hp hpv hk hk1
  have lB := HB1.out.size
  cases sd
  all_goals
    first
      | (obtain rfl : 140 = fc := hfc)
      | (obtain rfl : 141 = fc := hfc)
    clear hsd
    go_enter Tryz.func106, Tryz.ntmps106
    go_wp2_with fail
    have e3 := below_cell HB1.out c3
    have e4 := below_cell HB1.out c4
    have HW1 := Lib.hid hW1
    clear hW1
    go_region_held3 (fun w' => w'.cell? ⟨w.heap.size, 0, none⟩ = some (.int .i64 a) ∧ w'.cell? ⟨w.heap.size, 1, none⟩ = some (.int .i64 b) ∧ w'.cell? ⟨w.heap.size, 2, none⟩ = some (.int .i64 t) ∧ w'.cell? ⟨w.heap.size, 3, none⟩ = some (.int .i64 s) ∧
        w'.cell? ⟨w.heap.size, 4, none⟩ = some (.int .i64 c) ∧ w'.cell? ⟨w.heap.size, 5, none⟩ = some (.int .i64 d) ∧ w'.cell? ⟨w.heap.size, 6, none⟩ = some (.int .i64 e) ∧ w'.cell? ⟨w.heap.size, 7, none⟩ = some (.int .i64 f))
      (first | exact ⟨k0, k1, k2, k3, k4, k5, k6, k7⟩ | exact ⟨g0, g1, g2, g3, g4, g5, g6, g7⟩ | go_keep)
      (first
        | (go_at_call 56; refine (HSD.out _).mono ?_; rintro q w2 ⟨rfl, hb2⟩; have g0 := below_cell hb2 d0; have g1 := below_cell hb2 d1; have g2 := below_cell hb2 d2; have g3 := below_cell hb2 d3; have g4 := below_cell hb2 d4; have g5 := below_cell hb2 d5; have g6 := below_cell hb2 d6; have g7 := below_cell hb2 d7)
        | (go_at_call 124; refine (HCL.out _).mono ?_; rintro q w3 ⟨rfl, hb3⟩; have k0 := below_cell hb3 g0; have k1 := below_cell hb3 g1; have k2 := below_cell hb3 g2; have k3 := below_cell hb3 g3; have k4 := below_cell hb3 g4; have k5 := below_cell hb3 g5; have k6 := below_cell hb3 g6; have k7 := below_cell hb3 g7))
    have l3 := below_cell hb3 (below_cell hb2 e3)
    have l4 := below_cell hb3 (below_cell hb2 e4)
    have HB3 := Lib.hid (HB1.out.trans (((Below.refl _ W1).drew.trans (hb2.trans (hb3.mono hb2.size))).mono HB1.out.size))
    have hsz3 := HB3.out.size
    clear k2 k3 k4 k5 k6 k7 g0 g1 g2 g3 g4 g5 g6 g7 d0 d1 d2 d3 d4 d5 d6 d7 e3 e4 c3 c4 hb2 hb3
    go_wp2_with fail
    go_quiet (fail)
    go_wp2_with fail
    go_loopw [27, 5] (fun i v wr => ∃ j : Nat, j ≤ k ∧ i = .int .i64 j ∧ wr.ownsRow w3.heap.size 3 1 v (p.names lo j).length ((p.names lo j).map (Value.int .i64)) ∧ Below w3.heap.size w3 wr) (fun i _ _ => k - (intOf i).toNat)
    case atStart => exact ⟨0, Nat.zero_le _, rfl, World.ownsRow_nil _ _ _ _, below_drewN _ _⟩
    case round =>
      obtain ⟨j, hj, rfl, hown, hbl⟩ := hrel
      by_cases hlt : j < k
      · have hjk : (j : Int) < (k : Int) := by omega
        have m3 := below_cell hbl l3
        have m0 := below_cell hbl k0
        have m1 := below_cell hbl k1
        have hwr : IntKind.i64.wrap (lo + (j : Int)) = lo + (j : Int) := IntWalk.i64_in _ (by omega)
        obtain ⟨x, hx⟩ : ∃ x, p.step (lo + (j : Int)) = x := ⟨_, rfl⟩
        have HFX := Lib.hid (fun w => HFC.out (lo + (j : Int)) w (by omega) (by omega))
        rw [hx] at HFX
        have HOX := Lib.hid (fun w => HO.out x w)
        have hl := names_le lo p j
        obtain ⟨q, hq⟩ : ∃ q, p.within x = q := ⟨_, rfl⟩
        have hqq : (!(decide (x < b) || decide (a < x))) = q := by rw [← HWI.out]; exact hq
        have hqn : (decide (x < b) || decide (a < x)) = !q := by rw [← hqq, Bool.not_not]
        rw [hqn] at HOX
        have HN := Lib.hid (names_succ lo p j)
        rw [hx, hq] at HN
        have HOWN := Lib.hid hown
        have HBL := Lib.hid hbl
        clear hown hbl hx hq hqq hqn
        cases q with
        | true =>
          go_wp2_with (first
            | (go_at_call 140; refine (HFX.out _).mono ?_; rintro q w4 ⟨rfl, hb4⟩; have n0 := below_cell hb4 m0; have n1 := below_cell hb4 m1)
            | (go_at_call 141; refine (HFX.out _).mono ?_; rintro q w4 ⟨rfl, hb4⟩; have n0 := below_cell hb4 m0; have n1 := below_cell hb4 m1)
            | (go_at_call 75; refine (HOX.out _).mono ?_; rintro q w5 ⟨rfl, hb5⟩; have hb35 := HBL.out.trans ((hb4.trans (hb5.mono hb4.size)).mono HBL.out.size); have hs35 := hb35.size; have HO5 := Lib.hid (owns_below (owns_below HOWN.out hb4) hb5); have HB5 := Lib.hid hb35; clear hb4 hb5 hb35)
            | (at_builtin; refine wpList_append_own _ rfl _ _ 22 rfl w3.heap.size 3 i0 (.int .i64 0) 1 8 Tryz.underlying22 hi0 hz0 hz1 hz2 rfl (by decide) _ _ _ rfl (HO5.out.alloc _) ⟨w5.heap.size, 0, none⟩ 1 1 [.int .i64 x] rfl rfl (cell_one_new _ _ _) (fun z hz => by simp at hz; subst hz; rfl) (by unfold maxLen; omega) (by omega) (by simp; omega) ?_; intro v' w6 hown' hgrow _; have HO6 := Lib.hid hown'; have HB6 := Lib.hid ((HB5.out.alloc HB5.out.size _).grown hgrow (by simp; omega) (fun j hj => (HO5.out.lt j hj).1)); clear hown' hgrow))
          go_roundw
          case rel =>
            refine ⟨j + 1, by omega, by go_num, ?_, HB6.out⟩
            rw [HN.out]
            simpa using HO6.out
          case measure => simp only [intOf]; omega
        | false =>
          go_wp2_with (first
            | (go_at_call 140; refine (HFX.out _).mono ?_; rintro q w4 ⟨rfl, hb4⟩; have n0 := below_cell hb4 m0; have n1 := below_cell hb4 m1)
            | (go_at_call 141; refine (HFX.out _).mono ?_; rintro q w4 ⟨rfl, hb4⟩; have n0 := below_cell hb4 m0; have n1 := below_cell hb4 m1)
            | (go_at_call 75; refine (HOX.out _).mono ?_; rintro q w5 ⟨rfl, hb5⟩; have hb35 := HBL.out.trans ((hb4.trans (hb5.mono hb4.size)).mono HBL.out.size); have HO5 := Lib.hid (owns_below (owns_below HOWN.out hb4) hb5); have HB5 := Lib.hid hb35; clear hb4 hb5 hb35))
          go_roundw
          case rel =>
            refine ⟨j + 1, by omega, by go_num, ?_, HB5.out⟩
            rw [HN.out]
            simpa using HO5.out
          case measure => simp only [intOf]; omega
      · obtain rfl : j = k := by omega
        have hjk : ¬ (j : Int) < (j : Int) := by omega
        have HOWN := Lib.hid hown
        have HBL := Lib.hid hbl
        clear hown hbl
        go_wp2_with fail
        go_ret
        exact ⟨_, rfl, owns_mono HOWN.out hsz3, HB3.out.trans (HBL.out.mono hsz3)⟩

/-- Whether a number is among some. -/
def IdxEnd (l : List Int) (n : Int) (w : World) (e : Ending) (w' : World) : Prop := ∃ r : Int, -1 ≤ r ∧ (0 ≤ r ↔ n ∈ l) ∧ e = .returned (.int .i64 r) ∧ w = w'
theorem not_mem_of {l : List Int} {n : Int} (h : ∀ j, j < l.length → (l[j]?.getD 0) ≠ n) : n ∉ l := by
  intro hm
  obtain ⟨j, hj, rfl⟩ := List.getElem_of_mem hm
  exact h j hj (by simp [hj])
set_option maxRecDepth 100000 in
theorem index_any (v : Value) (l : List Int) (n : Int) (w : World) (hv : Ints w v l) (hm : l.length ≤ 1000000) :
    Calls Tryz.prog 125 #[v, .int .i64 n] w (IdxEnd l n w) := by
  obtain ⟨a, cap, rfl, hc⟩ := hv
  have HC := Lib.hid hc
  clear hc
  go_enter Tryz.func125, Tryz.ntmps125
  go_wp2
  go_loopw [8] (fun i wr => ∃ k : Nat, k ≤ l.length ∧ i = .int .i64 k ∧ (∀ j, j < k → (l[j]?.getD 0) ≠ n) ∧ w = wr) (fun i _ => l.length - (intOf i).toNat)
  case atStart => exact ⟨0, Nat.zero_le _, rfl, fun j hj => absurd hj (Nat.not_lt_zero j), rfl⟩
  case round =>
    obtain ⟨k, hk, rfl, hno, rfl⟩ := hrel
    have HNO := Lib.hid hno
    clear hno
    by_cases hlt : k < l.length
    · have hklt : (k : Int) < (l.length : Int) := by omega
      obtain ⟨b, off, rfl, hcc⟩ := HC.out (by omega)
      have hck := hcc k hlt
      obtain ⟨x, hx⟩ : ∃ x, l[k]?.getD 0 = x := ⟨_, rfl⟩
      rw [hx] at hck
      have HX := Lib.hid hx
      clear hcc hx
      by_cases heq : n = x
      · have heb : (n == x) = true := by simpa using heq
        have HE := Lib.hid heq
        clear heq
        go_wp2
        go_ret
        refine ⟨k, by omega, ⟨fun _ => ?_, fun _ => by omega⟩, rfl, rfl⟩
        have h1 := HE.out
        have h2 := HX.out
        rw [h1, ← h2]; simp [hlt]
      · have heb : (n == x) = false := by simpa using heq
        have HE := Lib.hid heq
        clear heq
        go_wp2
        go_roundw
        case rel => exact ⟨k + 1, by omega, by go_num, fun j hj => by rcases Nat.lt_succ_iff_lt_or_eq.1 hj with h | rfl; exact HNO.out j h; rw [HX.out]; exact fun h => HE.out h.symm, (by trivial)⟩
        case measure => simp [intOf]; omega
    · have hklt : ¬ (k : Int) < (l.length : Int) := by omega
      go_wp2
      go_ret
      exact ⟨-1, by omega, ⟨fun h => by omega, fun h => absurd h (not_mem_of fun j hj => HNO.out j (by omega))⟩, rfl, rfl⟩
theorem contains_any (v : Value) (l : List Int) (n : Int) (w : World) (hv : Ints w v l) (hm : l.length ≤ 1000000) :
    Calls Tryz.prog 107 #[v, .int .i64 n] w (BoolEnd (decide (n ∈ l)) w) := by
  have HI := Lib.hid (index_any v l n w hv hm)
  obtain ⟨a, cap, rfl, hc⟩ := hv
  clear hc
  go_enter Tryz.func107, Tryz.ntmps107
  go_wp2_with (go_at_call 125; refine HI.out.mono ?_; rintro e w2 ⟨r, hr, hm, rfl, rfl⟩; have HM := Lib.hid hm; clear hm)
  by_cases h0 : 0 ≤ r
  · go_wp2
    go_ret
    exact ⟨by simp [HM.out.1 h0, h0], Below.refl _ _⟩
  · have hn : n ∉ l := fun h => h0 (HM.out.2 h)
    go_wp2
    go_ret
    exact ⟨by simp [hn]; omega, Below.refl _ _⟩
end Go.Proofs.YtemoepcfmpapoaaGreatDoor
