/-
  The library's sort of a short list, by contract: insertion.
-/
import Derived.Test.YtejfelijhojndaaGreatDoorMHour
namespace Go.Proofs.YtejfelijhojndaaGreatDoor
open Go.RowKit Go.Proofs Go.Shelf

/-- The block G begins with the numbers L. -/
def NS (G : Nat) (W : World) (L : List Nat) : Prop := ∃ cur, W.heap[G]? = some (.cells cur 3 (0, 0)) ∧ L.length ≤ cur.size ∧ ∀ j, j < L.length → cur[j]? = some (.int .i64 (L[j]?.getD 0 : Nat))
theorem NS.cell {G : Nat} {W : World} {L : List Nat} (h : NS G W L) {j : Nat} (hj : j < L.length) : W.cell? ⟨G, j, none⟩ = some (.int .i64 (L[j]?.getD 0 : Nat)) := by
  obtain ⟨cur, hh, hs, hc⟩ := h
  have := hc j hj
  simp [World.cell?, hh, this]
theorem NS.free {G : Nat} {W : World} {L : List Nat} (h : NS G W L) (j : Nat) : W.frozen? ⟨G, j, none⟩ = false := by
  obtain ⟨cur, hh, hs, hc⟩ := h
  simp [World.frozen?, hh]
theorem NS.set {G : Nat} {W : World} {L : List Nat} (h : NS G W L) {i x : Nat} (hi : i < L.length) : NS G (W.setCell ⟨G, i, none⟩ (.int .i64 (x : Nat))) (L.set i x) := by
  obtain ⟨cur, hh, hs, hc⟩ := h
  refine ⟨cur.setIfInBounds i (.int .i64 (x : Nat)), by simp [World.setCell, Array.getElem?_modify, hh], by simpa using hs, fun j hj => ?_⟩
  rw [List.length_set] at hj
  by_cases hij : i = j
  · subst hij
    rw [Array.getElem?_setIfInBounds_self_of_lt (by omega)]
    simp [hi]
  · rw [Array.getElem?_setIfInBounds_ne hij, hc j hj, List.getElem?_set_ne hij]
theorem NS.heap {G : Nat} {W W' : World} {L : List Nat} (h : NS G W L) (hs : W'.heap[G]? = W.heap[G]?) : NS G W' L := by
  obtain ⟨cur, hh, r⟩ := h
  exact ⟨cur, hs.trans hh, r⟩
theorem NS.lt {G : Nat} {W : World} {L : List Nat} (h : NS G W L) : G < W.heap.size := by
  obtain ⟨cur, hh, r⟩ := h
  exact (Array.getElem?_eq_some_iff.1 hh).1

/-- Exchange of the places j and j - 1 (of j + 1 and j). -/
def swapL (L : List Nat) (j : Nat) : List Nat := (L.set (j + 1) (L[j]?.getD 0)).set j (L[j + 1]?.getD 0)
def bubble (c : Nat → Nat → Int) : Nat → List Nat → List Nat
  | 0, L => L
  | j + 1, L => if c (L[j + 1]?.getD 0) (L[j]?.getD 0) < 0 then bubble c j (swapL L j) else L
theorem swapL_length (L : List Nat) (j : Nat) : (swapL L j).length = L.length := by simp [swapL]
theorem bubble_length (c : Nat → Nat → Int) : ∀ j L, (bubble c j L).length = L.length
  | 0, L => rfl
  | j + 1, L => by unfold bubble; split; rw [bubble_length c j, swapL_length]; rfl
theorem swapL_mem {L : List Nat} {j : Nat} (hj : j + 1 < L.length) : ∀ x ∈ swapL L j, x ∈ L := by
  intro x hx
  rcases List.mem_or_eq_of_mem_set hx with h | h
  · rcases List.mem_or_eq_of_mem_set h with h | h
    · exact h
    · rw [h]; simp [show j < L.length by omega]
  · rw [h]; simp [hj]
theorem bubble_mem (c : Nat → Nat → Int) : ∀ j L, j < L.length → ∀ x ∈ bubble c j L, x ∈ L
  | 0, L, _, x, hx => hx
  | j + 1, L, hj, x, hx => by
    unfold bubble at hx
    split at hx
    · exact swapL_mem hj x (bubble_mem c j _ (by rw [swapL_length]; omega) x hx)
    · exact hx
/-- The first k places sorted by insertion. -/
def sortTo (c : Nat → Nat → Int) : Nat → List Nat → List Nat
  | 0, L => L
  | 1, L => L
  | k + 2, L => bubble c (k + 1) (sortTo c (k + 1) L)
def sortL (c : Nat → Nat → Int) (L : List Nat) : List Nat := sortTo c L.length L
theorem sortTo_length (c : Nat → Nat → Int) : ∀ k L, (sortTo c k L).length = L.length
  | 0, L => rfl
  | 1, L => rfl
  | k + 2, L => by unfold sortTo; rw [bubble_length, sortTo_length c (k + 1)]
theorem sortTo_mem (c : Nat → Nat → Int) : ∀ k L, k ≤ L.length → ∀ x ∈ sortTo c k L, x ∈ L
  | 0, L, _, x, hx => hx
  | 1, L, _, x, hx => hx
  | k + 2, L, hk, x, hx => sortTo_mem c (k + 1) L (by omega) x (bubble_mem c (k + 1) _ (by rw [sortTo_length]; omega) x (by unfold sortTo at hx; exact hx))

set_option maxRecDepth 100000 in
set_option maxHeartbeats 1600000 in
theorem isort_any (G n capn : Nat) (first cap : Array Value) (c : Nat → Nat → Int) (L : List Nat) (w : World) (hL : L.length = n) (hn : n ≤ 12) (hN : NS G w L)
    (hcmp : ∀ x ∈ L, ∀ y ∈ L, ∀ W', Kept G w W' → Calls Tryz.prog 124 (first ++ (#[.int .i64 (x : Nat), .int .i64 (y : Nat)] ++ cap)) W' fun e w'' => e = .returned (.int .i64 (c x y)) ∧ Below W'.heap.size W' w'') (hc64 : ∀ x y, -1 ≤ c x y ∧ c x y ≤ 1) :
    Calls Tryz.prog 135 #[.slice (some ⟨G, 0, none⟩) n capn, .int .i64 0, .int .i64 n, .func (.func 124) first cap] w fun e w' => e = .returned (.tuple #[]) ∧ NS G w' (sortL c L) ∧ Kept G w w' := by
  have HCMP := Lib.hid hcmp
  have HN := Lib.hid hN
  have HL := Lib.hid hL
  have HC64 := Lib.hid hc64
  clear hcmp hN hL hc64
  go_enter Tryz.func135, Tryz.ntmps135
  go_wp2_with fail
  go_loopw [8] (fun i wr => ∃ k : Nat, 1 ≤ k ∧ (k ≤ n ∨ k = 1) ∧ i = .int .i64 k ∧ NS G wr (sortTo c k L) ∧ Kept G w wr) (fun i _ => n - (intOf i).toNat)
  case atStart => exact ⟨1, Nat.le_refl _, .inr rfl, rfl, HN.out, Kept.refl _ _⟩
  case round =>
    obtain ⟨k, hk1, hkn, rfl, hNk, hKk⟩ := hrel
    have HNK := Lib.hid hNk
    have HKK := Lib.hid hKk
    clear hNk hKk
    by_cases hlt : k < n
    · have hklt : (k : Int) < (n : Int) := by omega
      go_wp2_with fail
      go_loopw [9] (fun i wr => ∃ (j : Nat) (M : List Nat), j ≤ k ∧ i = .int .i64 j ∧ M.length = n ∧ (∀ x ∈ M, x ∈ L) ∧ bubble c j M = sortTo c (k + 1) L ∧ NS G wr M ∧ Kept G w wr) (fun i _ => (intOf i).toNat)
      case atStart =>
        refine ⟨k, sortTo c k L, Nat.le_refl _, rfl, by rw [sortTo_length]; exact HL.out, sortTo_mem c k L (by have := HL.out; omega), ?_, HNK.out, HKK.out⟩
        obtain ⟨m, rfl⟩ : ∃ m, k = m + 1 := ⟨k - 1, by omega⟩
        rfl
      case round =>
        obtain ⟨j, M, hj, rfl, hM, hmem, hbub, hNM, hKM⟩ := hrel
        cases j with
        | zero =>
          have HB := Lib.hid hbub
          have HNM := Lib.hid hNM
          have HKM := Lib.hid hKM
          clear hbub hNM hKM hmem
          go_wp2_with fail
          go_quiet (fail)
          go_wp2_with fail
          go_roundw
          case rel => exact ⟨k + 1, by omega, .inl (by omega), by go_num, by rw [← HB.out]; exact HNM.out.heap rfl, HKM.out.drewN _⟩
          case measure => simp only [intOf]; omega
        | succ j =>
          have c1 := hNM.cell (j := j + 1) (by omega)
          have c0 := hNM.cell (j := j) (by omega)
          have HB := Lib.hid hbub
          have hj1 : (j + 1 : Nat) < M.length := by omega
          generalize hy : M[j]?.getD 0 = y at c0
          generalize hx : M[j + 1]?.getD 0 = x at c1
          have HX := Lib.hid hx
          have HY := Lib.hid hy
          have HC := Lib.hid (HCMP.out x (hmem _ (by rw [← hx]; simp [hj1])) y (hmem _ (by rw [← hy]; simp [show j < M.length by omega])) wr.drew hKM.drew)
          have HS8 : Hid (∀ w', Below wr.drew.heap.size wr.drew w' → w'.cell? ⟨G, j + 1, none⟩ = some (.int .i64 x) ∧ w'.cell? ⟨G, j, none⟩ = some (.int .i64 y)) :=
            fun w' h => ⟨below_cell (w := wr.drew) h c1, below_cell (w := wr.drew) h c0⟩
          have HNM := Lib.hid hNM
          have HKM := Lib.hid hKM
          have HM := Lib.hid hM
          have HMEM := Lib.hid hmem
          clear hbub hNM hKM hmem hx hy hM
          have hj0 : (0 : Int) ≤ (j : Int) := by omega
          have hjn : (j : Int) < (n : Int) := by omega
          have hjn1 : (j : Int) + 1 < (n : Int) := by omega
          have hw1 : IntKind.i64.wrap (j : Int) = (j : Int) := IntWalk.i64_in _ (by omega)
          have hw2 : IntKind.i64.wrap ((j : Int) + 1 - 1) = (j : Int) := by rw [Int.add_sub_cancel]; exact hw1
          have hj10 : (0 : Int) ≤ (j : Int) + 1 := by omega
          have htn : ((j : Int) + 1).toNat = j + 1 := by omega
          have hpos : decide ((j : Int) + 1 > 0) = true := by simp
          go_wp2_with fail
          go_region_held3 (fun w' => w'.cell? ⟨G, j + 1, none⟩ = some (.int .i64 x) ∧ w'.cell? ⟨G, j, none⟩ = some (.int .i64 y))
            (first | go_keep | exact HS8.out _ hb)
            (first | (go_at_call 124; refine HC.out.mono ?_; rintro e w' ⟨rfl, hb⟩))
          have HNM2 : Hid (NS G w' M) := HNM.out.heap (hb.block G (by simpa using HNM.out.lt))
          have HKM2 : Hid (Kept G w w') := HKM.out.drew.of_below (hb.mono HKM.out.size)
          have fr1 := HNM2.out.free (j + 1)
          have fr0 := HNM2.out.free j
          by_cases hc : c x y < 0
          · have hdc : decide (c x y < 0) = true := by simp [hc]
            go_wp2_with fail
            go_region
            all_goals go_wp2_with fail
            go_roundw
            case rel =>
              refine ⟨j, swapL M j, by omega, by go_num, by rw [swapL_length]; exact HM.out, fun z hz => HMEM.out z (swapL_mem (by have := HM.out; omega) z hz), by rw [← HB.out]; conv => rhs; unfold bubble; rw [HX.out, HY.out, if_pos hc], ?_, ?_⟩
              · have := (HNM2.out.set (i := j + 1) (x := y) (by have := HM.out; omega)).set (i := j) (x := x) (by rw [List.length_set]; have := HM.out; omega)
                unfold swapL
                rw [HX.out, HY.out]
                exact this.heap rfl
              · exact ((HKM2.out.setCell (.inl rfl) _).setCell (.inl rfl) _).drew
            case measure => simp only [intOf]; omega
          · have hdc : decide (c x y < 0) = false := by simp [hc]
            go_wp2_with fail
            go_roundw
            case rel => exact ⟨k + 1, by omega, .inl (by omega), by go_num, by rw [← HB.out, show bubble c (j + 1) M = M by unfold bubble; rw [HX.out, HY.out, if_neg hc]]; exact HNM2.out, HKM2.out⟩
            case measure => simp only [intOf]; omega
    · have HK1 := Lib.hid hkn
      go_wp2_with fail
      go_end0
      refine ⟨rfl, ?_, HKK.out⟩
      unfold sortL
      rw [HL.out]
      rcases HK1.out with h | rfl
      · rw [show n = k by omega]; exact HNK.out
      · have hn1 : n = 0 ∨ n = 1 := by omega
        rcases hn1 with rfl | rfl <;> exact HNK.out
end Go.Proofs.YtejfelijhojndaaGreatDoor

/-
  The library's sort of a list of at most 8 entries, and its clone, by contract.
-/
namespace Go.Proofs.YtejfelijhojndaaGreatDoor
open Go.RowKit Go.Proofs Go.Shelf

set_option maxRecDepth 100000 in
set_option maxHeartbeats 1600000 in
theorem len64_any (n : Nat) (w : World) (hn : n ≤ 8) : Calls Tryz.prog 144 #[.int .u64 (n : Nat)] w fun e w' => (∃ r : Int, e = .returned (.int .i64 r)) ∧ Below w.heap.size w w' := by
  rcases (by omega : n = 0 ∨ n = 1 ∨ n = 2 ∨ n = 3 ∨ n = 4 ∨ n = 5 ∨ n = 6 ∨ n = 7 ∨ n = 8) with rfl | rfl | rfl | rfl | rfl | rfl | rfl | rfl | rfl
  all_goals
    go_enter Tryz.func144, Tryz.ntmps144
    go_wp2_with fail
    go_ret
    exact ⟨⟨_, rfl⟩, Below.refl _ _⟩

set_option maxRecDepth 100000 in
theorem len_any (n : Nat) (w : World) (hn : n ≤ 8) : Calls Tryz.prog 133 #[.int .u64 (n : Nat)] w fun e w' => (∃ r : Int, e = .returned (.int .i64 r)) ∧ Below w.heap.size w w' := by
  have HL := Lib.hid (len64_any n w hn)
  go_enter Tryz.func133, Tryz.ntmps133
  go_wp2_with fail
  refine HL.out.mono ?_
  rintro e w2 ⟨⟨r, rfl⟩, hb⟩
  have HB := Lib.hid hb
  clear hb
  go_wp2_with fail
  go_ret
  exact ⟨⟨_, rfl⟩, HB.out⟩

def SortEnd (G : Nat) (c : Nat → Nat → Int) (L : List Nat) (w : World) (e : Ending) (w' : World) : Prop := e = .returned (.tuple #[]) ∧ NS G w' (sortL c L) ∧ Kept G w w'

set_option maxRecDepth 100000 in
set_option maxHeartbeats 1600000 in
theorem pdq_any (G n capn : Nat) (r : Int) (first cap : Array Value) (c : Nat → Nat → Int) (L : List Nat) (w : World) (hL : L.length = n) (hn : n ≤ 12) (hN : NS G w L)
    (hcmp : ∀ x ∈ L, ∀ y ∈ L, ∀ W', Kept G w W' → Calls Tryz.prog 124 (first ++ (#[.int .i64 (x : Nat), .int .i64 (y : Nat)] ++ cap)) W' fun e w'' => e = .returned (.int .i64 (c x y)) ∧ Below W'.heap.size W' w'') (hc64 : ∀ x y, -1 ≤ c x y ∧ c x y ≤ 1) :
    Calls Tryz.prog 132 #[.slice (some ⟨G, 0, none⟩) n capn, .int .i64 0, .int .i64 n, .int .i64 r, .func (.func 124) first cap] w (SortEnd G c L w) := by
  have HI := Lib.hid (isort_any G n capn first cap c L w hL hn hN hcmp hc64)
  clear hcmp hN hL hc64
  have h12 : (n : Int) ≤ 12 := by omega
  have h12' : IntKind.i64.wrap (n : Int) = (n : Int) := IntWalk.i64_in _ (by omega)
  go_enter Tryz.func132, Tryz.ntmps132
  go_wp2_with fail
  go_loopw [1, 2] (fun a b wr => a = .int .i64 0 ∧ b = .int .i64 n ∧ wr = w) (fun _ _ _ => 0)
  case atStart => exact ⟨rfl, rfl, rfl⟩
  case round =>
    obtain ⟨rfl, rfl, rfl⟩ := hrel
    go_wp2_with fail
    refine HI.out.mono ?_
    rintro e w2 ⟨rfl, hN2, hK2⟩
    have HN2 := Lib.hid hN2
    have HK2 := Lib.hid hK2
    clear hN2 hK2
    go_wp2_with fail
    go_end0
    exact ⟨rfl, HN2.out, HK2.out⟩
end Go.Proofs.YtejfelijhojndaaGreatDoor

/-
  'SortFunc', 'Clone' of a list of entries, 'byHour' and 'sorted', by contract.
-/
namespace Go.Proofs.YtejfelijhojndaaGreatDoor
open Go.RowKit Go.Proofs Go.Shelf

set_option maxRecDepth 100000 in
set_option maxHeartbeats 1600000 in
theorem sortF_any (G n capn : Nat) (first cap : Array Value) (c : Nat → Nat → Int) (L : List Nat) (w : World) (hL : L.length = n) (hn : n ≤ 8) (hN : NS G w L)
    (hcmp : ∀ x ∈ L, ∀ y ∈ L, ∀ W', Kept G w W' → Calls Tryz.prog 124 (first ++ (#[.int .i64 (x : Nat), .int .i64 (y : Nat)] ++ cap)) W' fun e w'' => e = .returned (.int .i64 (c x y)) ∧ Below W'.heap.size W' w'') (hc64 : ∀ x y, -1 ≤ c x y ∧ c x y ≤ 1) :
    Calls Tryz.prog 128 #[.slice (some ⟨G, 0, none⟩) n capn, .func (.func 124) first cap] w (SortEnd G c L w) := by
  have HP := Lib.hid (fun (r : Int) (w1 : World) (hb : Below w.heap.size w w1) => pdq_any G n capn r first cap c L w1 hL (by omega) (hN.heap (hb.block G hN.lt)) (fun x hx y hy W' hk => hcmp x hx y hy W' (((Kept.refl G w).of_below hb).trans hk)) hc64)
  have HK0 := Lib.hid (fun (w1 : World) (hb : Below w.heap.size w w1) => (Kept.refl G w).of_below hb)
  have HLn := Lib.hid (fun w1 => len_any n w1 hn)
  have hw1 : IntKind.i64.wrap (n : Int) = (n : Int) := IntWalk.i64_in _ (by omega)
  have hw2 : IntKind.u64.wrap (n : Int) = (n : Int) := by unfold IntKind.wrap; simp [IntKind.signed, IntKind.bits]; omega
  clear hcmp hN hL hc64
  go_enter Tryz.func128, Tryz.ntmps128
  go_wp2_with fail
  refine (HLn.out _).mono ?_
  rintro e w1 ⟨⟨r, rfl⟩, hb⟩
  have HB := Lib.hid hb
  clear hb
  go_wp2_with fail
  refine (HP.out r w1 HB.out).mono ?_
  rintro e w2 ⟨rfl, hN2, hK2⟩
  have HN2 := Lib.hid hN2
  have HK2 := Lib.hid hK2
  clear hN2 hK2
  go_wp2_with fail
  go_end0
  exact ⟨rfl, HN2.out, (HK0.out w1 HB.out).trans HK2.out⟩

/-- A list of entries lies in one block, from its start on. -/
def IL (W : World) (v : Value) (L : List Nat) : Prop := ∃ g cap, v = .slice (some ⟨g, 0, none⟩) L.length cap ∧ ∀ j, j < L.length → W.cell? ⟨g, j, none⟩ = some (.int .i64 (L[j]?.getD 0 : Nat))
theorem IL.below {W W' : World} {v : Value} {L : List Nat} (h : IL W v L) (hb : Below W.heap.size W W') : IL W' v L := by
  obtain ⟨g, cap, hv, hc⟩ := h
  exact ⟨g, cap, hv, fun j hj => below_cell hb (hc j hj)⟩
theorem il_of_owns {w : World} {base : Nat} {v : Value} {L : List Nat} (h : w.ownsRow base 3 1 v L.length (nvals L)) (hpos : 0 < L.length) : IL w v L := by
  obtain ⟨h1, h2⟩ := h
  rcases h2 with ⟨rfl, h0⟩ | ⟨g, cap, cur, rfl, hg, hh, hn, hm, hs, ht⟩
  · omega
  · refine ⟨g, cap, rfl, fun j hj => ?_⟩
    have hj2 : (cur.toList.take (L.length * 1))[j]? = (nvals L)[j]? := by rw [ht]
    rw [List.getElem?_take, if_pos (by omega)] at hj2
    simp only [World.cell?, hh]
    simp only [nvals, Array.getElem?_toList, List.getElem?_map, List.getElem?_eq_getElem hj, Option.map_some] at hj2
    simp [hj2, hj]
theorem ns_of_owns {w : World} {base : Nat} {v : Value} {L : List Nat} (h : w.ownsRow base 3 1 v L.length (nvals L)) (hpos : v ≠ .slice none 0 0) : ∃ G cap, v = .slice (some ⟨G, 0, none⟩) L.length cap ∧ NS G w L ∧ base ≤ G := by
  obtain ⟨h1, h2⟩ := h
  rcases h2 with ⟨rfl, h0⟩ | ⟨g, cap, cur, rfl, hg, hh, hn, hm, hs, ht⟩
  · exact absurd rfl hpos
  · refine ⟨g, cap, rfl, ⟨cur, hh, by have := congrArg List.length ht; simp [nvals] at this; omega, fun j hj => ?_⟩, hg⟩
    have hj2 : (cur.toList.take (L.length * 1))[j]? = (nvals L)[j]? := by rw [ht]
    rw [List.getElem?_take, if_pos (by omega)] at hj2
    simp only [nvals, Array.getElem?_toList, List.getElem?_map, List.getElem?_eq_getElem hj, Option.map_some] at hj2
    simp [hj2, hj]

def CloneIEnd (L : List Nat) (w : World) (e : Ending) (w' : World) : Prop := ∃ G cap, e = .returned (.slice (some ⟨G, 0, none⟩) L.length cap) ∧ NS G w' L ∧ w.heap.size ≤ G ∧ Below w.heap.size w w'

set_option maxRecDepth 100000 in
set_option maxHeartbeats 800000 in
theorem cloneI_any (v : Value) (L : List Nat) (w : World) (hI : IL w v L) (hn : L.length ≤ 100) :
    Calls Tryz.prog 127 #[v] w (CloneIEnd L w) := by
  obtain ⟨H, cap, rfl, hcell⟩ := hI
  obtain ⟨i0, hi, hz0, hz1, hz2⟩ := info_parts Tryz.infoInt
  have hnil := fun w => Lib.run_eql_slice_nil (P := Tryz.prog) (w := w)
  have hown := World.ownsRow_lit (base := w.heap.size) (e := 3) (size := 1) w #[] 0 (Nat.le_refl _) (by unfold maxLen; omega) (by rfl)
  have hlen : (nvals L).length = L.length * 1 := by simp [nvals]
  have hnews : ∀ j u, (nvals L)[j]? = some u → (w.alloc (.cells #[] 3)).cell? ((⟨H, 0, none⟩ : Addr).add j) = some u := by
    intro j u hj
    have hjl : j < L.length := by
      have := (List.getElem?_eq_some_iff.1 hj).1
      rw [hlen] at this; omega
    have hc := hcell j hjl
    rw [addr_add, Nat.zero_add, World.cell?_alloc_lt _ _ _ (World.block_lt_of_cell? w _ hc)]
    simp only [nvals, List.getElem?_map, List.getElem?_eq_getElem hjl, Option.map_some, Option.some.injEq] at hj
    subst hj
    rw [hc]; simp [hjl]
  have hcells : ∀ u ∈ nvals L, u.oneCell' = true := by
    intro u hu
    obtain ⟨z, _, rfl⟩ := List.mem_map.1 hu
    rfl
  have HN := Lib.hid hnews
  have HC := Lib.hid hcells
  have HO := Lib.hid hown
  clear hnews hcells hown hcell
  go_enter Tryz.func127, Tryz.ntmps127
  go_wp2_with (at_builtin; refine wpList_append_own _ rfl _ _ 22 rfl w.heap.size 3 i0 (.int .i64 0) 1 8 Tryz.underlying22 hi hz0 hz1 hz2 rfl (by decide) _ _ _ rfl HO.out ⟨H, 0, none⟩ L.length cap _ rfl hlen HN.out HC.out ?c3 ?c4 ?c5 ?_)
  case c3 => unfold maxLen; omega
  case c4 => omega
  intro v' w1 hown' hgrow hiff
  have HOW := Lib.hid hown'
  have HG := Lib.hid hgrow
  have HI := Lib.hid hiff
  clear hown' hgrow hiff
  go_wp2
  go_ret
  have hnn : v' ≠ .slice none 0 0 := HI.out
  obtain ⟨G, c2, rfl, hN, hG⟩ := ns_of_owns (L := L) (by have := HOW.out; simpa using this) hnn
  exact ⟨G, c2, rfl, hN, hG, ((Below.refl _ w).alloc (Nat.le_refl _) _).grown HG.out (by simp) (fun k hk => by cases hk; exact Nat.le_refl _)⟩
end Go.Proofs.YtejfelijhojndaaGreatDoor

/-
  'byHour' and 'sorted', by contract.
-/
namespace Go.Proofs.YtejfelijhojndaaGreatDoor
open Go.RowKit Go.Proofs Go.Shelf

def hourF (bw : Nat) : Value := .func (.func 124) #[] #[.pointer (some ⟨bw, 0, none⟩)]
def ByHourEnd (Wk : Nat) (w : World) (e : Ending) (w' : World) : Prop := ∃ bw, e = .returned (.agg #[.func (.func 124) #[] #[.pointer (some ⟨bw, 0, none⟩)]]) ∧ w'.cell? ⟨bw, 0, none⟩ = some (.pointer (some ⟨Wk, 0, none⟩)) ∧ Below w.heap.size w w'

set_option maxRecDepth 100000 in
set_option maxHeartbeats 800000 in
theorem byHour_any (Wk : Nat) (w : World) : Calls Tryz.prog 120 #[.pointer (some ⟨Wk, 0, none⟩)] w (ByHourEnd Wk w) := by
  have hmf : ∀ (fn : Fn) (first cap : Array Value) (w : World), (Instr.makeFunc fn first cap).run Tryz.prog w = .ok (.func fn first cap) w := fun _ _ _ _ => rfl
  go_enter Tryz.func120, Tryz.ntmps120
  go_wp2_with fail
  refine bodyPost_ret (v := .agg #[.func (.func 124) #[] #[.pointer (some ⟨w.heap.size, 0, none⟩)]]) ?_ rfl ?_
  · simp [results, Tryz.results120, go_sem]
  · refine ⟨w.heap.size, rfl, ?_, ((Below.refl _ w).alloc (Nat.le_refl _) _).alloc (by simp) _⟩
    rw [World.cell?_alloc_lt _ _ _ (by simp), World.cell?_alloc_new]
    rfl

def SortedEnd (c : Nat → Nat → Int) (L : List Nat) (w : World) (e : Ending) (w' : World) : Prop := ∃ G cap, e = .returned (.slice (some ⟨G, 0, none⟩) L.length cap) ∧ NS G w' (sortL c L) ∧ w.heap.size ≤ G ∧ Below w.heap.size w w'

theorem below_of_kept {n G : Nat} {x y z : World} (h : Below n x y) (k : Kept G y z) (hG : n ≤ G) (hn : n ≤ y.heap.size) : Below n x z :=
  ⟨k.os.trans h.os, k.tape.trans h.tape, k.output.trans h.output, Nat.le_trans h.size k.size, fun j hj => (k.block j (by omega) (by omega)).trans (h.block j hj)⟩

set_option maxRecDepth 100000 in
set_option maxHeartbeats 1600000 in
theorem sorted_any (v : Value) (cap : Array Value) (c : Nat → Nat → Int) (L : List Nat) (w : World) (hI : IL w v L) (hn : L.length ≤ 8)
    (hcmp : ∀ x ∈ L, ∀ y ∈ L, ∀ W', Below w.heap.size w W' → Calls Tryz.prog 124 (#[] ++ (#[.int .i64 (x : Nat), .int .i64 (y : Nat)] ++ cap)) W' fun e w'' => e = .returned (.int .i64 (c x y)) ∧ Below W'.heap.size W' w'') (hc64 : ∀ x y, -1 ≤ c x y ∧ c x y ≤ 1) :
    Calls Tryz.prog 121 #[.agg #[.func (.func 124) #[] cap], v] w (SortedEnd c L w) := by
  obtain ⟨W1, hW1⟩ : ∃ W1, w.alloc (.cells #[.func (.func 124) #[] cap] 199) = W1 := ⟨_, rfl⟩
  have hb1 : Below w.heap.size w W1 := by rw [← hW1]; exact (Below.refl _ w).alloc (Nat.le_refl _) _
  have hc1 : W1.cell? ⟨w.heap.size, 0, none⟩ = some (.func (.func 124) #[] cap) := by rw [← hW1]; exact World.cell?_alloc_new w _ _ _
  have HCl := Lib.hid (cloneI_any v L W1 (hI.below hb1) (by omega))
  have HS := Lib.hid (fun (G capn : Nat) (w2 : World) (hb : Below W1.heap.size W1 w2) (hN : NS G w2 L) (hG : W1.heap.size ≤ G) => sortF_any G L.length capn #[] cap c L w2 rfl hn hN (fun x hx y hy W' hk => hcmp x hx y hy W' (below_of_kept (hb1.trans (hb.mono hb1.size)) hk (Nat.le_trans hb1.size hG) (Nat.le_trans hb1.size hb.size))) hc64)
  have HB1 := Lib.hid hb1
  clear hcmp hI hc64 hb1
  go_enter Tryz.func121, Tryz.ntmps121
  go_wp2_with fail
  refine HCl.out.mono ?_
  rintro e w2 ⟨G, cap2, rfl, hN, hG, hb⟩
  have hc2 := below_cell hb hc1
  have HSS := Lib.hid (HS.out G cap2 w2 hb hN hG)
  have HB2 := Lib.hid (HB1.out.trans (hb.mono HB1.out.size))
  have HG := Lib.hid (Nat.le_trans HB1.out.size hG)
  have HZ := Lib.hid (Nat.le_trans HB1.out.size hb.size)
  clear hN hG hb
  go_wp2_with fail
  refine HSS.out.mono ?_
  rintro e w3 ⟨rfl, hN3, hK3⟩
  have HN3 := Lib.hid hN3
  have HB3 := Lib.hid (below_of_kept HB2.out hK3 HG.out HZ.out)
  clear hN3 hK3
  go_wp2_with fail
  go_ret
  exact ⟨G, cap2, rfl, HN3.out, HG.out, HB3.out⟩
end Go.Proofs.YtejfelijhojndaaGreatDoor

/-
  'Index', 'Contains' of a list of integers, by contract.
-/
namespace Go.Proofs.YtejfelijhojndaaGreatDoor
open Go.RowKit Go.Proofs Go.Shelf

def IndexEnd (x : Int) (L : List Int) (w : World) (e : Ending) (w' : World) : Prop := ∃ r : Int, e = .returned (.int .i64 r) ∧ (0 ≤ r ↔ x ∈ L) ∧ w = w'

set_option maxRecDepth 100000 in
set_option maxHeartbeats 800000 in
theorem index_any (v : Value) (x : Int) (L : List Int) (w : World) (hv : Ints w v L) (hn : L.length ≤ 1000) :
    Calls Tryz.prog 88 #[v, .int .i64 x] w (IndexEnd x L w) := by
  obtain ⟨a, cap, rfl, hc⟩ := hv
  have HC := Lib.hid hc
  clear hc
  go_enter Tryz.func88, Tryz.ntmps88
  go_wp2_with fail
  go_loopw [8] (fun i wr => ∃ k : Nat, k ≤ L.length ∧ i = .int .i64 k ∧ (∀ j, j < k → L[j]?.getD 0 ≠ x) ∧ w = wr) (fun i _ => L.length - (intOf i).toNat)
  case atStart => exact ⟨0, Nat.zero_le _, rfl, fun j hj => by omega, rfl⟩
  case round =>
    obtain ⟨k, hk, rfl, hno, rfl⟩ := hrel
    have HNO := Lib.hid hno
    clear hno
    by_cases hlt : k < L.length
    · obtain ⟨b, off, rfl, hd⟩ := HC.out (by omega)
      have h1 := hd k hlt
      have hklt : (k : Int) < (L.length : Int) := by omega
      have HG := Lib.hid (show L[k]?.getD 0 ∈ L by simp [hlt])
      generalize hy : L[k]?.getD 0 = y at h1 HG
      have HY := Lib.hid hy
      clear hy hd
      by_cases hxy : x = y
      · have hd1 : decide (x = y) = true := by simp [hxy]
        have hd2 : (x == y) = true := by simp [hxy]
        have HXY := Lib.hid hxy
        clear hxy
        go_wp2_with fail
        go_ret
        exact ⟨_, rfl, ⟨fun _ => by rw [HXY.out]; exact HG.out, fun _ => by omega⟩, rfl⟩
      · have hd1 : decide (x = y) = false := by simp [hxy]
        have hd2 : (x == y) = false := by simp [hxy]
        have HXY := Lib.hid hxy
        clear hxy
        go_wp2_with fail
        go_roundw
        case rel => exact ⟨k + 1, by omega, by go_num, fun j hj => by rcases Nat.lt_succ_iff_lt_or_eq.1 hj with h | rfl; exact HNO.out j h; rw [HY.out]; exact fun h => HXY.out h.symm, (by trivial)⟩
        case measure => simp only [intOf]; omega
    · have hklt : ¬ (k : Int) < (L.length : Int) := by omega
      go_wp2_with fail
      go_ret
      refine ⟨_, rfl, ⟨fun h => by omega, fun h => ?_⟩, rfl⟩
      obtain ⟨j, hj, rfl⟩ := List.mem_iff_getElem.1 h
      exact absurd (by simp [hj]) (HNO.out j (by omega))

set_option maxRecDepth 100000 in
theorem contains_any (v : Value) (x : Int) (L : List Int) (w : World) (hv : Ints w v L) (hn : L.length ≤ 1000) :
    Calls Tryz.prog 87 #[v, .int .i64 x] w fun e w' => e = .returned (.bool (decide (x ∈ L))) ∧ w = w' := by
  have HI := Lib.hid (index_any v x L w hv hn)
  clear hv
  go_enter Tryz.func87, Tryz.ntmps87
  go_wp2_with fail
  refine HI.out.mono ?_
  rintro e w2 ⟨r, rfl, hr, rfl⟩
  have HR := Lib.hid hr
  clear hr
  go_wp2_with fail
  go_ret
  refine ⟨?_, rfl⟩
  by_cases h : x ∈ L
  · rw [decide_eq_true h]; simp [HR.out.2 h]
  · have : ¬ 0 ≤ r := fun h' => h (HR.out.1 h')
    rw [decide_eq_false h]; simp; omega
end Go.Proofs.YtejfelijhojndaaGreatDoor
