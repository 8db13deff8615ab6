/-
  tooth: the checks of a valid jaw and of valid looks: no error. By contract, function by function.
-/
import Derived.Test.YtejfelijhojndaaGreatDoorMHour
namespace Go.Proofs.YtejfelijhojndaaGreatDoor
open Go.RowKit Go.Proofs Go.Shelf

def Ok0 (w : World) (e : Ending) (w' : World) : Prop := e = .returned (.int .i64 0) ∧ w = w'

theorem toutside_no (n a b : Int) (w : World) (h1 : a ≤ n) (h2 : n ≤ b) : Calls Tryz.prog 50 #[.int .i64 n, .int .i64 a, .int .i64 b] w fun e w' => e = .returned (.bool false) ∧ w = w' := by
  go_enter Tryz.func50, Tryz.ntmps50
  go_wp2_with fail
  go_ret
  refine ⟨?_, rfl⟩
  show Ending.returned (.bool (decide (n < a) || decide (b < n))) = _
  rw [decide_eq_false (by omega), decide_eq_false (by omega)]
  rfl

set_option maxRecDepth 100000 in
theorem tnumber_ok (n many : Int) (w : World) (h1 : 0 ≤ n) (h2 : n < many) (h3 : many ≤ 1000) :
    Calls Tryz.prog 39 #[.int .i64 n, .int .i64 many] w (Ok0 w) := by
  have HO := Lib.hid (toutside_no n 0 (many - 1) w h1 (by omega))
  go_enter Tryz.func39, Tryz.ntmps39
  go_wp2_with fail
  refine HO.out.mono ?_
  rintro e w' ⟨rfl, rfl⟩
  go_wp2_with fail
  go_ret
  exact ⟨rfl, rfl⟩

set_option maxRecDepth 100000 in
theorem tfigure_ok (n most : Int) (w : World) (h1 : 0 ≤ n) (h2 : n ≤ most) :
    Calls Tryz.prog 38 #[.int .i64 n, .int .i64 most] w (Ok0 w) := by
  have HO := Lib.hid (toutside_no n 0 most w h1 (by omega))
  go_enter Tryz.func38, Tryz.ntmps38
  go_wp2_with fail
  refine HO.out.mono ?_
  rintro e w' ⟨rfl, rfl⟩
  go_wp2_with fail
  go_ret
  exact ⟨rfl, rfl⟩

/-- A valid list of mouths: ascending, below many, none of them barred. -/
structure MouthsOK (l : List Int) (many barred : Int) : Prop where
  num : ∀ i (h : i < l.length), 0 ≤ l[i] ∧ l[i] < many ∧ l[i] ≠ barred
  asc : ∀ i (h : i + 1 < l.length), l[i] < l[i + 1]
  le : l.length ≤ 3

set_option maxRecDepth 100000 in
set_option maxHeartbeats 800000 in
theorem tmouths_ok (v : Value) (l : List Int) (many barred : Int) (w : World) (hv : Ints w v l) (hM : MouthsOK l many barred) (hm : many ≤ 100) :
    Calls Tryz.prog 84 #[v, .int .i64 many, .int .i64 barred] w (Ok0 w) := by
  obtain ⟨a, cap, rfl, hc⟩ := hv
  have HC := Lib.hid hc
  have HM := Lib.hid hM
  have hle := hM.le
  clear hc hM
  have NUM := fun (n : Int) (h1 : 0 ≤ n) (h2 : n < many) => tnumber_ok n many w h1 h2 (by omega)
  go_enter Tryz.func84, Tryz.ntmps84
  go_wp2_with fail
  go_loopw [12] (fun i wr => ∃ k : Nat, k ≤ l.length ∧ i = .int .i64 k ∧ w = wr) (fun i _ => l.length - (intOf i).toNat)
  case atStart => exact ⟨0, Nat.zero_le _, rfl, rfl⟩
  case round =>
    obtain ⟨k, hk, rfl, rfl⟩ := hrel
    by_cases hlt : k < l.length
    · have hklt : (k : Int) < (l.length : Int) := by omega
      obtain ⟨b, off, rfl, hd⟩ := HC.out (by omega)
      obtain ⟨x, hx⟩ : ∃ x, l[k]?.getD 0 = x := ⟨_, rfl⟩
      have hck := hd k hlt
      rw [hx] at hck
      have hx1 : 0 ≤ x := by have := HM.out.num k hlt; simp [hlt] at hx; omega
      have hx2 : x < many := by have := HM.out.num k hlt; simp [hlt] at hx; omega
      have hx3 : (x == barred) = false := by have := HM.out.num k hlt; simp [hlt] at hx; simp; omega
      rcases Nat.eq_zero_or_pos k with h0 | h0
      · subst h0
        simp only [Nat.add_zero] at hck
        clear hd hx
        go_wp2_with (go_at_call 39; refine (NUM _ hx1 hx2).mono ?_; rintro e w' ⟨rfl, rfl⟩)
        go_roundw
        case rel => exact ⟨1, by omega, by go_num, (by trivial)⟩
        case measure => simp [intOf]; omega
      · obtain ⟨m, rfl⟩ : ∃ m, k = m + 1 := ⟨k - 1, by omega⟩
        have hcm := hd m (by omega)
        obtain ⟨y, hy⟩ : ∃ y, l[m]?.getD 0 = y := ⟨_, rfl⟩
        rw [hy] at hcm
        have hxy : y < x := by
          have := HM.out.asc m hlt
          simp [hlt] at hx
          simp [show m < l.length by omega] at hy
          omega
        have hk0 : (0 : Int) < ((m + 1 : Nat) : Int) := by omega
        clear hd hx hy
        go_wp2_with (go_at_call 39; refine (NUM _ hx1 hx2).mono ?_; rintro e w' ⟨rfl, rfl⟩)
        go_roundw
        case rel => exact ⟨m + 1 + 1, by omega, by go_num, (by trivial)⟩
        case measure => simp [intOf]; omega
    · have hklt : ¬ (k : Int) < (l.length : Int) := by omega
      go_wp2_with fail
      go_ret
      exact ⟨rfl, rfl⟩

/-- A valid jaw. -/
structure JawOK (N D : List (List Int)) : Prop where
  pos : 0 < N.length
  le : N.length ≤ 8
  same : D.length = N.length
  next : ∀ i (h : i < N.length), MouthsOK N[i] N.length (-1) ∧ 0 < N[i].length
  filed : ∀ i (h : i < D.length), MouthsOK D[i] N.length i

def jawV (nv dv : Value) : Value := .agg #[nv, dv]

def OkB (w : World) (e : Ending) (w' : World) : Prop := e = .returned (.int .i64 0) ∧ Below w.heap.size w w'

set_option maxRecDepth 100000 in
set_option maxHeartbeats 800000 in
theorem tnext_ok (nv dv : Value) (N D : List (List Int)) (i : Nat) (w : World) (hN : RowsAt w nv N) (hJ : JawOK N D) (hi : i < N.length) :
    Calls Tryz.prog 67 #[jawV nv dv, .int .i64 i] w (OkB w) := by
  obtain ⟨b, off, cap, rfl, hr⟩ := hN
  obtain ⟨u, hu, hI⟩ := hr i hi
  rw [show N[i]?.getD [] = N[i] by simp [hi]] at hI
  obtain ⟨hm, hp⟩ := hJ.next i hi
  have hle := hJ.le
  have hl3 := hm.le
  have hb1 : Below w.heap.size w (w.alloc (.cells #[.slice (some ⟨b, off, none⟩) N.length cap, dv] 34)) := (Below.refl _ w).alloc (Nat.le_refl _) _
  have HM := Lib.hid (tmouths_ok u N[i] N.length (-1) _ (hI.below hb1) hm (by omega))
  have hu1 := below_cell hb1 hu
  have HB := Lib.hid hb1
  obtain ⟨a, c2, rfl, _⟩ := hI
  obtain ⟨z, hz⟩ : ∃ z, N[i].length = z := ⟨_, rfl⟩
  rw [hz] at hp hl3 hu1 HM
  have hz0 : ((z : Int) == 0) = false := beq_eq_false_iff_ne.2 (by omega)
  have hz1 : ¬ (3 : Int) < (z : Int) := by omega
  have hi0 : (0 : Int) ≤ (i : Int) := by omega
  have hi1 : (i : Int) < (N.length : Int) := by omega
  clear hz hr hm hJ hu hb1
  unfold jawV
  go_enter Tryz.func67, Tryz.ntmps67
  go_wp2_with fail
  refine HM.out.mono ?_
  rintro e w2 ⟨rfl, rfl⟩
  go_wp2_with fail
  go_ret
  exact ⟨rfl, HB.out⟩

set_option maxRecDepth 100000 in
set_option maxHeartbeats 800000 in
theorem tfiled_ok (nv dv : Value) (N D : List (List Int)) (i : Nat) (w : World) (hN : RowsAt w nv N) (hD : RowsAt w dv D) (hJ : JawOK N D) (hi : i < N.length) :
    Calls Tryz.prog 68 #[jawV nv dv, .int .i64 i] w (OkB w) := by
  obtain ⟨nb, noff, ncap, rfl, _⟩ := hN
  obtain ⟨b, off, cap, rfl, hr⟩ := hD
  have hsame := hJ.same
  obtain ⟨u, hu, hI⟩ := hr i (by omega)
  have hid : i < D.length := by omega
  rw [show D[i]?.getD [] = D[i] by simp [hid]] at hI
  have hm := hJ.filed i hid
  have hle := hJ.le
  have hl3 := hm.le
  have hb1 : Below w.heap.size w (w.alloc (.cells #[.slice (some ⟨nb, noff, none⟩) N.length ncap, .slice (some ⟨b, off, none⟩) D.length cap] 34)) := (Below.refl _ w).alloc (Nat.le_refl _) _
  have HM := Lib.hid (tmouths_ok u D[i] N.length i _ (hI.below hb1) hm (by omega))
  have hu1 := below_cell hb1 hu
  have HB := Lib.hid hb1
  obtain ⟨a, c2, rfl, _⟩ := hI
  obtain ⟨z, hz⟩ : ∃ z, D[i].length = z := ⟨_, rfl⟩
  rw [hz] at hl3 hu1 HM
  have hz1 : ¬ (3 : Int) < (z : Int) := by omega
  have hi0 : (0 : Int) ≤ (i : Int) := by omega
  have hi1 : (i : Int) < (D.length : Int) := by omega
  clear hz hr hm hJ hu hb1 hsame
  unfold jawV
  go_enter Tryz.func68, Tryz.ntmps68
  go_wp2_with fail
  refine HM.out.mono ?_
  rintro e w2 ⟨rfl, rfl⟩
  go_wp2_with fail
  go_ret
  exact ⟨rfl, HB.out⟩

set_option maxRecDepth 100000 in
set_option maxHeartbeats 800000 in
theorem tcheck_ok (nv dv : Value) (N D : List (List Int)) (w : World) (hN : RowsAt w nv N) (hD : RowsAt w dv D) (hJ : JawOK N D) :
    Calls Tryz.prog 49 #[jawV nv dv] w (OkB w) := by
  have hle := hJ.le
  have hpos := hJ.pos
  have hsame := hJ.same
  have H1 := Lib.hid (fun i hi W' (hb : Below w.heap.size w W') => tnext_ok nv dv N D i W' (hN.below hb) hJ hi)
  have H2 := Lib.hid (fun i hi W' (hb : Below w.heap.size w W') => tfiled_ok nv dv N D i W' (hN.below hb) (hD.below hb) hJ hi)
  obtain ⟨nb, noff, ncap, rfl, _⟩ := hN
  obtain ⟨b, off, cap, rfl, _⟩ := hD
  rw [hsame] at H1 H2 ⊢
  have hn0 : ((N.length : Int) == 0) = false := beq_eq_false_iff_ne.2 (by omega)
  have hn1 : ¬ (8 : Int) < (N.length : Int) := by omega
  clear hJ hsame
  unfold jawV at *
  obtain ⟨W1, hW1⟩ : ∃ W1, w.alloc (.cells #[.slice (some ⟨nb, noff, none⟩) N.length ncap, .slice (some ⟨b, off, none⟩) N.length cap] 34) = W1 := ⟨_, rfl⟩
  have hb1 : Below w.heap.size w W1 := by rw [← hW1]; exact (Below.refl _ w).alloc (Nat.le_refl _) _
  have hblk : W1.heap[w.heap.size]? = some (.cells #[.slice (some ⟨nb, noff, none⟩) N.length ncap, .slice (some ⟨b, off, none⟩) N.length cap] 34 (0, 0)) := by rw [← hW1]; exact heap_new w _
  have q0 : W1.cell? ⟨w.heap.size, 0, none⟩ = some (.slice (some ⟨nb, noff, none⟩) N.length ncap) := by simp [World.cell?, hblk]
  have q1 : W1.cell? ⟨w.heap.size, 1, none⟩ = some (.slice (some ⟨b, off, none⟩) N.length cap) := by simp [World.cell?, hblk]
  have HB1 := Lib.hid hb1
  clear hb1 hblk
  go_enter Tryz.func49, Tryz.ntmps49
  go_wp2_with fail
  go_loopw [24] (fun i wr => ∃ k : Nat, k ≤ N.length ∧ i = .int .i64 k ∧ Below W1.heap.size W1 wr) (fun i _ => N.length - (intOf i).toNat)
  case atStart => exact ⟨0, Nat.zero_le _, rfl, Below.refl _ _⟩
  case round =>
    obtain ⟨k, hk, rfl, hbl⟩ := hrel
    have r0 := below_cell hbl q0
    have r1 := below_cell hbl q1
    have HB := Lib.hid hbl
    clear hbl q0 q1
    by_cases hlt : k < N.length
    · have hklt : (k : Int) < (N.length : Int) := by omega
      go_wp2_with fail
      refine (H1.out k hlt wr (HB1.out.trans (HB.out.mono HB1.out.size))).mono ?_
      rintro e w2 ⟨rfl, hb2⟩
      have s0 := below_cell hb2 r0
      have s1 := below_cell hb2 r1
      have HB2 := Lib.hid (HB.out.trans (hb2.mono HB.out.size))
      clear hb2
      go_wp2_with fail
      refine (H2.out k hlt w2 (HB1.out.trans (HB2.out.mono HB1.out.size))).mono ?_
      rintro e w3 ⟨rfl, hb3⟩
      have HB3 := Lib.hid (HB2.out.trans (hb3.mono HB2.out.size))
      clear hb3
      go_wp2_with fail
      go_roundw
      case rel => exact ⟨k + 1, by omega, by go_num, HB3.out⟩
      case measure => simp [intOf]; omega
    · have hklt : ¬ (k : Int) < (N.length : Int) := by omega
      go_wp2_with fail
      go_ret
      exact ⟨rfl, HB1.out.trans (HB.out.mono HB1.out.size)⟩
end Go.Proofs.YtejfelijhojndaaGreatDoor

/-
  tooth: checkLooks, faultsOf, first, CheckLooks of what is valid. By contract.
-/
namespace Go.Proofs.YtejfelijhojndaaGreatDoor
open Go.RowKit Go.Proofs Go.Shelf

theorem _root_.Go.RowKit.Below.drewK {n : Nat} {x y : World} (h : Below n x y) (k : Nat) : Below n x (y.drewN k) := ⟨h.os, h.tape, h.output, h.size, h.block⟩

/-- The slice v reads as the looks L (year, seen). -/
def LooksAt (w : World) (v : Value) (L : List (Nat × Nat)) : Prop :=
  ∃ b off cap, v = .slice (some ⟨b, off, none⟩) L.length cap ∧ ∀ j, j < L.length → w.cell? ⟨b, off + j * 2, none⟩ = some (.int .i64 ((L[j]?.getD (0, 0)).1 : Nat)) ∧ w.cell? ⟨b, off + j * 2 + 1, none⟩ = some (.int .i64 ((L[j]?.getD (0, 0)).2 : Nat))
theorem LooksAt.below {w w' : World} {v : Value} {L : List (Nat × Nat)} (h : LooksAt w v L) (hb : Below w.heap.size w w') : LooksAt w' v L := by
  obtain ⟨b, off, cap, hv, hr⟩ := h
  exact ⟨b, off, cap, hv, fun j hj => ⟨below_cell hb (hr j hj).1, below_cell hb (hr j hj).2⟩⟩

structure LooksOK (L : List (Nat × Nat)) (n : Nat) : Prop where
  le : L.length ≤ 4
  year : ∀ i (h : i < L.length), L[i].1 ≤ 6
  seen : ∀ i (h : i < L.length), L[i].2 < n
  asc : ∀ i (h : i + 1 < L.length), L[i].1 ≤ L[i + 1].1

set_option maxRecDepth 100000 in
set_option maxHeartbeats 1600000 in
theorem tlooks_ok (nv dv lv : Value) (N : List (List Int)) (L : List (Nat × Nat)) (w : World) (hN : RowsAt w nv N) (hd : ∃ a n c, dv = .slice a n c) (hn8 : N.length ≤ 8) (hL : LooksAt w lv L) (hO : LooksOK L N.length) :
    Calls Tryz.prog 27 #[jawV nv dv, lv] w (OkB w) := by
  obtain ⟨nb, noff, ncap, rfl, _⟩ := hN
  obtain ⟨b, off, cap, rfl, hr⟩ := hL
  obtain ⟨da, dn, dc, rfl⟩ := hd
  have HR := Lib.hid hr
  have HO := Lib.hid hO
  have hle := hO.le
  clear hr hO
  have NUM := fun (n : Nat) (W : World) (h : n < N.length) => tnumber_ok (n : Int) N.length W (by omega) (by omega) (by omega)
  have FIG := fun (n : Nat) (W : World) (h : n ≤ 6) => tfigure_ok (n : Int) 6 W (by omega) (by omega)
  unfold jawV
  obtain ⟨W1, hW1⟩ : ∃ W1, w.alloc (.cells #[.slice (some ⟨nb, noff, none⟩) N.length ncap, .slice da dn dc] 34) = W1 := ⟨_, rfl⟩
  have hb1 : Below w.heap.size w W1 := by rw [← hW1]; exact (Below.refl _ w).alloc (Nat.le_refl _) _
  have hblk : W1.heap[w.heap.size]? = some (.cells #[.slice (some ⟨nb, noff, none⟩) N.length ncap, .slice da dn dc] 34 (0, 0)) := by rw [← hW1]; exact heap_new w _
  have q0 : W1.cell? ⟨w.heap.size, 0, none⟩ = some (.slice (some ⟨nb, noff, none⟩) N.length ncap) := by simp [World.cell?, hblk]
  have HB1 := Lib.hid hb1
  clear hb1 hblk
  have h4 : ¬ (4 : Int) < (L.length : Int) := by omega
  go_enter Tryz.func27, Tryz.ntmps27
  go_wp2_with fail
  go_loopw [14] (fun i wr => ∃ k : Nat, k ≤ L.length ∧ i = .int .i64 k ∧ Below W1.heap.size W1 wr) (fun i _ => L.length - (intOf i).toNat)
  case atStart => exact ⟨0, Nat.zero_le _, rfl, Below.refl _ _⟩
  case round =>
    obtain ⟨k, hk, rfl, hbl⟩ := hrel
    have r0 := below_cell hbl q0
    by_cases hlt : k < L.length
    · have hklt : (k : Int) < (L.length : Int) := by omega
      have hk0 : (0 : Int) ≤ (k : Int) := by omega
      obtain ⟨c0, c1⟩ := HR.out k hlt
      have d0 := below_cell hbl (below_cell HB1.out c0)
      have d1 := below_cell hbl (below_cell HB1.out c1)
      obtain ⟨y, hy⟩ : ∃ y, (L[k]?.getD (0, 0)).1 = y := ⟨_, rfl⟩
      obtain ⟨s, hs⟩ : ∃ s, (L[k]?.getD (0, 0)).2 = s := ⟨_, rfl⟩
      have hy6 : y ≤ 6 := by have := HO.out.year k hlt; simp [hlt] at hy; omega
      have hsn : s < N.length := by have := HO.out.seen k hlt; simp [hlt] at hs; omega
      rw [hy] at d0
      rw [hs] at d1
      have HB := Lib.hid hbl
      have lr0 := World.block_lt_of_cell? wr _ r0
      have r1 : (wr.alloc (.cells #[.int .i64 y, .int .i64 s] 41)).cell? ⟨w.heap.size, 0, none⟩ = some (.slice (some ⟨nb, noff, none⟩) N.length ncap) := by
        rw [World.cell?_alloc_lt _ _ _ lr0]; exact r0
      rcases Nat.eq_zero_or_pos k with h0 | h0
      · subst h0
        simp only [Nat.zero_mul, Nat.add_zero] at d0 d1
        clear hbl q0 c0 c1 hy hs
        go_wp2_with fail
        refine (FIG _ _ hy6).mono ?_
        rintro e w2 ⟨rfl, rfl⟩
        go_wp2_with fail
        go_quiet (fail)
        go_wp2_with fail
        refine (NUM _ _ hsn).mono ?_
        rintro e w2 ⟨rfl, rfl⟩
        go_wp2_with fail
        go_roundw
        case rel => exact ⟨1, by omega, by go_num, (HB.out.alloc (by simpa using HB.out.size) _).drewK _⟩
        case measure => simp [intOf]; omega
      · obtain ⟨m, rfl⟩ : ∃ m, k = m + 1 := ⟨k - 1, by omega⟩
        obtain ⟨p0, _⟩ := HR.out m (by omega)
        have p1 := below_cell hbl (below_cell HB1.out p0)
        obtain ⟨x, hx⟩ : ∃ y, (L[m]?.getD (0, 0)).1 = y := ⟨_, rfl⟩
        rw [hx] at p1
        have hxy : x ≤ y := by
          have := HO.out.asc m hlt
          simp [hlt] at hy
          simp [show m < L.length by omega] at hx
          omega
        have hm0 : (0 : Int) < ((m + 1 : Nat) : Int) := by omega
        have hm1 : (m : Int) < (L.length : Int) := by omega
        have hm2 : (0 : Int) ≤ (m : Int) := by omega
        have hdec : decide (y < x) = false := by simp; omega
        have hlw : b < wr.heap.size := World.block_lt_of_cell? wr _ p1
        have p2 : (wr.alloc (.cells #[.int .i64 y, .int .i64 s] 41)).cell? ⟨b, off + m * 2, none⟩ = some (.int .i64 x) := by
          rw [World.cell?_alloc_lt _ _ _ hlw]; exact p1
        clear hbl q0 c0 c1 hy hs p0 hx hxy
        go_wp2_with fail
        refine (FIG _ _ hy6).mono ?_
        rintro e w2 ⟨rfl, rfl⟩
        go_wp2_with fail
        go_quiet (fail)
        go_wp2_with fail
        refine (NUM _ _ hsn).mono ?_
        rintro e w2 ⟨rfl, rfl⟩
        go_wp2_with fail
        go_roundw
        case rel => exact ⟨m + 1 + 1, by omega, by go_num, (HB.out.alloc (by simpa using HB.out.size) _).drewK _⟩
        case measure => simp [intOf]; omega
    · have hklt : ¬ (k : Int) < (L.length : Int) := by omega
      have HB := Lib.hid hbl
      clear hbl q0
      go_wp2_with fail
      go_ret
      exact ⟨rfl, HB1.out.trans (HB.out.mono HB1.out.size)⟩

set_option maxRecDepth 100000 in
theorem faultsOf_ok (v : Value) (n : Nat) (w : World) (hv : Ints w v (List.replicate n 0)) (hn : n ≤ 100) :
    Calls Tryz.prog 48 #[v] w fun e w' => e = .returned .nilIface ∧ w = w' := by
  obtain ⟨a, cap, rfl, hc⟩ := hv
  rw [List.length_replicate] at hc ⊢
  have HC := Lib.hid hc
  clear hc
  go_enter Tryz.func48, Tryz.ntmps48
  go_wp2_with fail
  go_loopw [8, 3] (fun i f wr => ∃ k : Nat, k ≤ n ∧ i = .int .i64 k ∧ f = .slice none 0 0 ∧ w = wr) (fun i _ _ => n - (intOf i).toNat)
  case atStart => exact ⟨0, Nat.zero_le _, rfl, rfl, rfl⟩
  case round =>
    obtain ⟨k, hk, rfl, rfl, rfl⟩ := hrel
    by_cases hlt : k < n
    · have hklt : (k : Int) < (n : Int) := by omega
      obtain ⟨b, off, rfl, hd⟩ := HC.out (by omega)
      have c := hd k hlt
      rw [show (List.replicate n (0 : Int))[k]?.getD 0 = 0 by simp [hlt]] at c
      clear hd
      go_wp2_with fail
      go_roundw
      case rel => exact ⟨k + 1, by omega, by go_num, (by trivial), (by trivial)⟩
      case measure => simp [intOf]; omega
    · have hklt : ¬ (k : Int) < (n : Int) := by omega
      go_wp2_with fail
      go_ret
      exact ⟨rfl, rfl⟩

set_option maxRecDepth 100000 in
set_option maxHeartbeats 1600000 in
theorem errorsAs_nil (v : Value) (w : World) : Calls Tryz.prog 47 #[.nilIface, v] w fun e w' => e = .returned (.bool false) ∧ w = w' := by
  go_enter Tryz.func47, Tryz.ntmps47
  go_wp2_with fail
  go_ret
  exact ⟨rfl, rfl⟩

set_option maxRecDepth 100000 in
set_option maxHeartbeats 1600000 in
theorem first_ok (v : Value) (n : Nat) (w : World) (hv : Ints w v (List.replicate n 0)) (hn : n ≤ 100) :
    Calls Tryz.prog 36 #[v] w (OkB w) := by
  have hb1 : Below w.heap.size w (w.alloc (.cells #[.slice none 0 0] 106)) := (Below.refl _ w).alloc (Nat.le_refl _) _
  have HF := Lib.hid (faultsOf_ok v n _ (hv.below hb1) hn)
  have HB := Lib.hid hb1
  obtain ⟨a, cap, rfl, _⟩ := hv
  rw [List.length_replicate] at HF ⊢
  clear hb1
  go_enter Tryz.func36, Tryz.ntmps36
  go_wp2_with fail
  refine HF.out.mono ?_
  rintro e w2 ⟨rfl, rfl⟩
  go_wp2_with fail
  refine (errorsAs_nil _ _).mono ?_
  rintro e w2 ⟨rfl, rfl⟩
  go_wp2_with fail
  go_ret
  exact ⟨rfl, HB.out⟩
end Go.Proofs.YtejfelijhojndaaGreatDoor
