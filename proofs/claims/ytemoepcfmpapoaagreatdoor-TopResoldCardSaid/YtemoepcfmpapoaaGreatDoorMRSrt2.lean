/-
  debt: the library's sort of a short list of payments, by contract: insertion.
-/
import Derived.Test.YtemoepcfmpapoaaGreatDoorMRCmp
import Derived.Test.YtemoepcfmpapoaaGreatDoorMRRel
namespace Go.Proofs.YtemoepcfmpapoaaGreatDoor
open Go.RowKit Go.Proofs Go.Shelf
attribute [local go_sem] Oper.semAt_some

set_option maxRecDepth 100000
/-- The block G of C cells begins with the payments L. -/
def PSt (G C : Nat) (W : World) (L : List Pay) : Prop := ∃ cur, W.heap[G]? = some (.cells cur 78 (0, 0)) ∧ cur.size = C ∧ L.length * 3 ≤ C ∧
  ∀ j, j < L.length → cur[j * 3]? = some (.int .i64 (L[j]?.getD default).1) ∧ cur[j * 3 + 1]? = some (.int .i64 (L[j]?.getD default).2.1) ∧ cur[j * 3 + 2]? = some (.int .i64 (L[j]?.getD default).2.2)
theorem PSt.cell {G C : Nat} {W : World} {L : List Pay} (h : PSt G C W L) {j : Nat} (hj : j < L.length) {q : Pay} (hq : L[j]?.getD default = q) :
    W.cell? ⟨G, j * 3, none⟩ = some (.int .i64 q.1) ∧ W.cell? ⟨G, j * 3 + 1, none⟩ = some (.int .i64 q.2.1) ∧ W.cell? ⟨G, j * 3 + 2, none⟩ = some (.int .i64 q.2.2) := by
  obtain ⟨cur, hh, hs, hl, hc⟩ := h
  have := hc j hj
  rw [hq] at this
  simp [World.cell?, hh, this]
theorem PSt.there {G C : Nat} {W : World} {L : List Pay} (h : PSt G C W L) {j : Nat} (hj : j < L.length) : W.there G (j * 3) 3 := by
  obtain ⟨cur, hh, hs, hl, hc⟩ := h
  exact known_there hh (by rw [hs]; omega)
theorem PSt.heap {G C : Nat} {W W' : World} {L : List Pay} (h : PSt G C W L) (hs : W'.heap[G]? = W.heap[G]?) : PSt G C W' L := by
  obtain ⟨cur, hh, r⟩ := h
  exact ⟨cur, hs.trans hh, r⟩
theorem PSt.lt {G C : Nat} {W : World} {L : List Pay} (h : PSt G C W L) : G < W.heap.size := by
  obtain ⟨cur, hh, r⟩ := h
  exact (Array.getElem?_eq_some_iff.1 hh).1
theorem PSt.set {G C : Nat} {W : World} {L : List Pay} (h : PSt G C W L) {i : Nat} (hi : i < L.length) (q : Pay) : PSt G C (W.setCells G (i * 3) [.int .i64 q.1, .int .i64 q.2.1, .int .i64 q.2.2]) (L.set i q) := by
  obtain ⟨cur, hh, hs, hl, hc⟩ := h
  refine ⟨_, heap_setCells _ _ hh, by simpa [putAll] using hs, by simpa using hl, fun j hj => ?_⟩
  rw [List.length_set] at hj
  simp only [putAll]
  by_cases hij : i = j
  · subst hij
    have e : ((L.set i q)[i]?.getD default) = q := by simp [hi]
    rw [e]
    refine ⟨?_, ?_, ?_⟩
    · rw [Array.getElem?_setIfInBounds_ne (by omega), Array.getElem?_setIfInBounds_ne (by omega), Array.getElem?_setIfInBounds_self_of_lt (by omega)]
    · rw [Array.getElem?_setIfInBounds_ne (by omega), Array.getElem?_setIfInBounds_self_of_lt (by simp; omega)]
    · rw [Array.getElem?_setIfInBounds_self_of_lt (by simp; omega)]
  · have e : ((L.set i q)[j]?.getD default) = L[j]?.getD default := by rw [List.getElem?_set_ne hij]
    rw [e]
    have h3 := hc j hj
    refine ⟨?_, ?_, ?_⟩
    · rw [Array.getElem?_setIfInBounds_ne (by omega), Array.getElem?_setIfInBounds_ne (by omega), Array.getElem?_setIfInBounds_ne (by omega)]; exact h3.1
    · rw [Array.getElem?_setIfInBounds_ne (by omega), Array.getElem?_setIfInBounds_ne (by omega), Array.getElem?_setIfInBounds_ne (by omega)]; exact h3.2.1
    · rw [Array.getElem?_setIfInBounds_ne (by omega), Array.getElem?_setIfInBounds_ne (by omega), Array.getElem?_setIfInBounds_ne (by omega)]; exact h3.2.2

set_option maxHeartbeats 6400000 in
theorem isort_any (G C n capn : Nat) (L : List Pay) (w : World) (hL : L.length = n) (hn : n ≤ 12) (hN : PSt G C w L) :
    Calls Tryz.prog 131 #[.slice (some ⟨G, 0, none⟩) n capn, .int .i64 0, .int .i64 n, .func (.func 45) #[] #[]] w fun e w' => e = .returned (.tuple #[]) ∧ PSt G C w' (sortL cmpP L) ∧ Kept G w w' := by
  have HN := Lib.hid hN
  have HL := Lib.hid hL
  have HIP := Lib.hid (show (Tryz.prog.info? 78).map (·.size) = some 3 by kernel_rfl)
  have HCMP := Lib.hid (fun p q w => paycmp_any p q w)
  unfold payV at HCMP
  clear hN hL
  go_enter Tryz.func131, Tryz.ntmps131
  go_wp2_with fail
  go_loopw [8] (fun i wr => ∃ k : Nat, 1 ≤ k ∧ (k ≤ n ∨ k = 1) ∧ i = .int .i64 k ∧ PSt G C wr (sortTo cmpP k L) ∧ Kept G w wr) (fun i _ => n - (intOf i).toNat)
  case atStart => exact ⟨1, Nat.le_refl _, .inr rfl, rfl, HN.out, Kept.refl _ _⟩
  case round =>
    obtain ⟨k, hk1, hkn, rfl, hNk, hKk⟩ := hrel
    have HNK := Lib.hid hNk
    have HKK := Lib.hid hKk
    clear hNk hKk
    by_cases hlt : k < n
    · have hklt : (k : Int) < (n : Int) := by omega
      go_wp2_with fail
      go_loopw [9] (fun i wr => ∃ (j : Nat) (M : List Pay), j ≤ k ∧ i = .int .i64 j ∧ M.length = n ∧ bubble cmpP j M = sortTo cmpP (k + 1) L ∧ PSt G C wr M ∧ Kept G w wr) (fun i _ => (intOf i).toNat)
      case atStart =>
        refine ⟨k, sortTo cmpP k L, Nat.le_refl _, rfl, by rw [sortTo_length]; exact HL.out, ?_, HNK.out, HKK.out⟩
        obtain ⟨m, rfl⟩ : ∃ m, k = m + 1 := ⟨k - 1, by omega⟩
        rfl
      case round =>
        obtain ⟨j, M, hj, rfl, hM, hbub, hNM, hKM⟩ := hrel
        cases j with
        | zero =>
          have HB := Lib.hid hbub
          have HNM := Lib.hid hNM
          have HKM := Lib.hid hKM
          clear hbub hNM hKM
          go_wp2_with fail
          go_quiet (fail)
          go_wp2_with fail
          go_roundw
          case rel => exact ⟨k + 1, by omega, .inl (by omega), by go_num, by rw [← HB.out]; exact HNM.out.heap rfl, HKM.out.drewN _⟩
          case measure => simp only [intOf]; omega
        | succ j =>
          obtain ⟨y, hy⟩ : ∃ y, M[j]?.getD default = y := ⟨_, rfl⟩
          obtain ⟨x, hx⟩ : ∃ x, M[j + 1]?.getD default = x := ⟨_, rfl⟩
          obtain ⟨c1, c2, c3⟩ := hNM.cell (j := j + 1) (by omega) hx
          obtain ⟨e1, e2, e3⟩ := hNM.cell (j := j) (by omega) hy
          have HB := Lib.hid hbub
          have HX := Lib.hid hx
          have HY := Lib.hid hy
          have HC := Lib.hid (HCMP.out x y wr.drew)
          have HS8 : Hid (∀ w', Below wr.drew.heap.size wr.drew w' → w'.cell? ⟨G, (j + 1) * 3, none⟩ = some (.int .i64 x.1) ∧ w'.cell? ⟨G, (j + 1) * 3 + 1, none⟩ = some (.int .i64 x.2.1) ∧ w'.cell? ⟨G, (j + 1) * 3 + 2, none⟩ = some (.int .i64 x.2.2) ∧
              w'.cell? ⟨G, j * 3, none⟩ = some (.int .i64 y.1) ∧ w'.cell? ⟨G, j * 3 + 1, none⟩ = some (.int .i64 y.2.1) ∧ w'.cell? ⟨G, j * 3 + 2, none⟩ = some (.int .i64 y.2.2)) :=
            fun w' h => ⟨below_cell (w := wr.drew) h c1, below_cell (w := wr.drew) h c2, below_cell (w := wr.drew) h c3, below_cell (w := wr.drew) h e1, below_cell (w := wr.drew) h e2, below_cell (w := wr.drew) h e3⟩
          have HNM := Lib.hid hNM
          have HKM := Lib.hid hKM
          have HM := Lib.hid hM
          clear hbub hNM hKM hx hy hM
          have hj0 : (0 : Int) ≤ (j : Int) := by omega
          have hjn : (j : Int) < (n : Int) := by omega
          have hjn1 : (j : Int) + 1 < (n : Int) := by omega
          have hw1 : IntKind.i64.wrap (j : Int) = (j : Int) := IntWalk.i64_in _ (by omega)
          have hw2 : IntKind.i64.wrap ((j : Int) + 1 - 1) = (j : Int) := by rw [Int.add_sub_cancel]; exact hw1
          have hj10 : (0 : Int) ≤ (j : Int) + 1 := by omega
          have htn : ((j : Int) + 1).toNat = j + 1 := by omega
          have hpos : decide ((j : Int) + 1 > 0) = true := by simp
          obtain ⟨x1, x2, x3⟩ := x
          obtain ⟨y1, y2, y3⟩ := y
          simp only at c1 c2 c3 e1 e2 e3 HC HS8
          go_wp2_with fail
          go_region_held3 (fun w' => w'.cell? ⟨G, (j + 1) * 3, none⟩ = some (.int .i64 x1) ∧ w'.cell? ⟨G, (j + 1) * 3 + 1, none⟩ = some (.int .i64 x2) ∧ w'.cell? ⟨G, (j + 1) * 3 + 2, none⟩ = some (.int .i64 x3) ∧ w'.cell? ⟨G, j * 3, none⟩ = some (.int .i64 y1) ∧ w'.cell? ⟨G, j * 3 + 1, none⟩ = some (.int .i64 y2) ∧ w'.cell? ⟨G, j * 3 + 2, none⟩ = some (.int .i64 y3))
            (first | go_keep | exact HS8.out _ hb)
            (first | (go_at_call 45; refine HC.out.mono ?_; rintro e w' ⟨rfl, hb⟩))
          have HNM2 : Hid (PSt G C w' M) := HNM.out.heap (hb.block G (by simpa using HNM.out.lt))
          have HKM2 : Hid (Kept G w w') := HKM.out.drew.of_below (hb.mono HKM.out.size)
          obtain ⟨r, hr⟩ : ∃ r, cmpP (x1, x2, x3) (y1, y2, y3) = r := ⟨_, rfl⟩
          rw [hr]
          have HR := Lib.hid hr
          clear hr
          by_cases hc : r < 0
          · have hdc : decide (r < 0) = true := by simp [hc]
            go_wp2_with fail
            try simp only [Act.put]
            obtain ⟨c1, c2, c3⟩ := HNM2.out.cell (j := j + 1) (by have := HM.out; omega) HX.out
            obtain ⟨e1, e2, e3⟩ := HNM2.out.cell (j := j) (by have := HM.out; omega) HY.out
            simp only at c1 c2 c3 e1 e2 e3
            have lG : G < w'.heap.size := HNM2.out.lt
            have toS : ∀ u : World, Below w'.heap.size w' u → (u.cell? ⟨G, (j + 1) * 3, none⟩ = w'.cell? ⟨G, (j + 1) * 3, none⟩ ∧ u.cell? ⟨G, (j + 1) * 3 + 1, none⟩ = w'.cell? ⟨G, (j + 1) * 3 + 1, none⟩ ∧ u.cell? ⟨G, (j + 1) * 3 + 2, none⟩ = w'.cell? ⟨G, (j + 1) * 3 + 2, none⟩ ∧ u.cell? ⟨G, j * 3, none⟩ = w'.cell? ⟨G, j * 3, none⟩ ∧ u.cell? ⟨G, j * 3 + 1, none⟩ = w'.cell? ⟨G, j * 3 + 1, none⟩ ∧ u.cell? ⟨G, j * 3 + 2, none⟩ = w'.cell? ⟨G, j * 3 + 2, none⟩) := fun u h => ⟨h.cell lG, h.cell lG, h.cell lG, h.cell lG, h.cell lG, h.cell lG⟩
            refine wp_region_rel (fun wz : World => wz.cell? ⟨G, (j + 1) * 3, none⟩ = w'.cell? ⟨G, (j + 1) * 3, none⟩ ∧ wz.cell? ⟨G, (j + 1) * 3 + 1, none⟩ = w'.cell? ⟨G, (j + 1) * 3 + 1, none⟩ ∧ wz.cell? ⟨G, (j + 1) * 3 + 2, none⟩ = w'.cell? ⟨G, (j + 1) * 3 + 2, none⟩ ∧ wz.cell? ⟨G, j * 3, none⟩ = w'.cell? ⟨G, j * 3, none⟩ ∧ wz.cell? ⟨G, j * 3 + 1, none⟩ = w'.cell? ⟨G, j * 3 + 1, none⟩ ∧ wz.cell? ⟨G, j * 3 + 2, none⟩ = w'.cell? ⟨G, j * 3 + 2, none⟩) (fun i => i == 15 || i == 17) (by kernel_rfl) ?_
            have hd9 : Below w'.heap.size w' w'.drew := (Below.refl _ w').drew
            have hS := toS _ hd9
            obtain ⟨wd, hwd⟩ : ∃ x, x = w'.drew := ⟨_, rfl⟩
            rw [← hwd] at hS hd9 ⊢
            have HWD := Lib.hid hwd
            clear hwd
            refine rel_free (i := 0) (v := ?_) (by simp only [List.getElem?_toArray, List.getElem?_cons_zero, List.getElem?_cons_succ]; exact rfl) (by kernel_rfl) (by exact fun _ _ _ h => h) 17 _ _ _ (by kernel_rfl) (List.mem_of_elem_eq_true (by kernel_rfl)) (Or.inl ⟨by rfl, ?_⟩) ?_
            rotate_left
            · intro w9 _
              go_simp
              try with_reducible rfl
            try simp only [Act.put, List.setIfInBounds_toArray, List.set_cons_zero, List.set_cons_succ]
            refine rel_free (i := 1) (v := ?_) (by simp only [List.getElem?_toArray, List.getElem?_cons_zero, List.getElem?_cons_succ]; exact rfl) (by kernel_rfl) (by exact fun _ _ _ h => h) 16 _ _ _ (by kernel_rfl) (List.mem_of_elem_eq_true (by kernel_rfl)) (Or.inl ⟨by rfl, ?_⟩) ?_
            rotate_left
            · intro w9 _
              go_simp
              try with_reducible rfl
            try simp only [Act.put, List.setIfInBounds_toArray, List.set_cons_zero, List.set_cons_succ]
            refine rel_free (i := 2) (v := ?_) (by simp only [List.getElem?_toArray, List.getElem?_cons_zero, List.getElem?_cons_succ]; exact rfl) (by kernel_rfl) (by exact fun _ _ _ h => h) 15 _ _ _ (by kernel_rfl) (List.mem_of_elem_eq_true (by kernel_rfl)) (Or.inl ⟨by rfl, ?_⟩) ?_
            rotate_left
            · intro w9 _
              go_simp
              try with_reducible rfl
            try simp only [Act.put, List.setIfInBounds_toArray, List.set_cons_zero, List.set_cons_succ]
            refine rel_free (i := 3) (v := ?_) (by simp only [List.getElem?_toArray, List.getElem?_cons_zero, List.getElem?_cons_succ]; exact rfl) (by kernel_rfl) (by exact fun _ _ _ h => h) 14 _ _ _ (by kernel_rfl) (List.mem_of_elem_eq_true (by kernel_rfl)) (Or.inl ⟨by rfl, ?_⟩) ?_
            rotate_left
            · intro w9 _
              go_simp
              try with_reducible rfl
            try simp only [Act.put, List.setIfInBounds_toArray, List.set_cons_zero, List.set_cons_succ]
            refine rel_free (i := 4) (v := ?_) (by simp only [List.getElem?_toArray, List.getElem?_cons_zero, List.getElem?_cons_succ]; exact rfl) (by kernel_rfl) (by exact fun _ _ _ h => h) 13 _ _ _ (by kernel_rfl) (List.mem_of_elem_eq_true (by kernel_rfl)) (Or.inl ⟨by rfl, ?_⟩) ?_
            rotate_left
            · intro w9 _
              go_simp
              try with_reducible rfl
            try simp only [Act.put, List.setIfInBounds_toArray, List.set_cons_zero, List.set_cons_succ]
            refine rel_free (i := 5) (v := ?_) (by simp only [List.getElem?_toArray, List.getElem?_cons_zero, List.getElem?_cons_succ]; exact rfl) (by kernel_rfl) (by exact fun _ _ _ h => h) 12 _ _ _ (by kernel_rfl) (List.mem_of_elem_eq_true (by kernel_rfl)) (Or.inl ⟨by rfl, ?_⟩) ?_
            rotate_left
            · intro w9 _
              go_simp
              try with_reducible rfl
            try simp only [Act.put, List.setIfInBounds_toArray, List.set_cons_zero, List.set_cons_succ]
            refine rel_free (i := 6) (v := ?_) (by simp only [List.getElem?_toArray, List.getElem?_cons_zero, List.getElem?_cons_succ]; exact rfl) (by kernel_rfl) (by exact fun _ _ _ h => h) 11 _ _ _ (by kernel_rfl) (List.mem_of_elem_eq_true (by kernel_rfl)) (Or.inl ⟨by rfl, ?_⟩) ?_
            rotate_left
            · intro w9 _
              go_simp
              try with_reducible rfl
            try simp only [Act.put, List.setIfInBounds_toArray, List.set_cons_zero, List.set_cons_succ]
            refine rel_free (i := 7) (v := ?_) (by simp only [List.getElem?_toArray, List.getElem?_cons_zero, List.getElem?_cons_succ]; exact rfl) (by kernel_rfl) (by exact fun _ _ _ h => h) 10 _ _ _ (by kernel_rfl) (List.mem_of_elem_eq_true (by kernel_rfl)) (Or.inl ⟨by rfl, ?_⟩) ?_
            rotate_left
            · intro w9 _
              go_simp
              try with_reducible rfl
            try simp only [Act.put, List.setIfInBounds_toArray, List.set_cons_zero, List.set_cons_succ]
            refine rel_free (i := 8) (v := ?_) (by simp only [List.getElem?_toArray, List.getElem?_cons_zero, List.getElem?_cons_succ]; exact rfl) (by kernel_rfl) (by exact fun _ _ _ h => h) 9 _ _ _ (by kernel_rfl) (List.mem_of_elem_eq_true (by kernel_rfl)) (Or.inl ⟨by rfl, ?_⟩) ?_
            rotate_left
            · intro w9 _
              go_simp
              try with_reducible rfl
            try simp only [Act.put, List.setIfInBounds_toArray, List.set_cons_zero, List.set_cons_succ]
            refine rel_take (i := 9) (v := ?_) (by simp only [List.getElem?_toArray, List.getElem?_cons_zero, List.getElem?_cons_succ]; exact rfl) (by kernel_rfl) (by kernel_rfl) (by exact fun _ _ _ h => h) 8 _ _ _ (by kernel_rfl) (List.mem_of_elem_eq_true (by kernel_rfl)) (Or.inl ⟨by rfl, ?_⟩) hS ?_
            rotate_left
            · intro w9 hw9
              try dsimp only at hw9
              obtain ⟨hw0, hw1, hw2, hw3, hw4, hw5⟩ := hw9
              go_simp
              try with_reducible rfl
            try simp only [Act.put, List.setIfInBounds_toArray, List.set_cons_zero, List.set_cons_succ]
            refine rel_free (i := 10) (v := ?_) (by simp only [List.getElem?_toArray, List.getElem?_cons_zero, List.getElem?_cons_succ]; exact rfl) (by kernel_rfl) (by exact fun _ _ _ h => h) 7 _ _ _ (by kernel_rfl) (List.mem_of_elem_eq_true (by kernel_rfl)) (Or.inl ⟨by rfl, ?_⟩) ?_
            rotate_left
            · intro w9 _
              go_simp
              try with_reducible rfl
            try simp only [Act.put, List.setIfInBounds_toArray, List.set_cons_zero, List.set_cons_succ]
            refine rel_free (i := 11) (v := ?_) (by simp only [List.getElem?_toArray, List.getElem?_cons_zero, List.getElem?_cons_succ]; exact rfl) (by kernel_rfl) (by exact fun _ _ _ h => h) 6 _ _ _ (by kernel_rfl) (List.mem_of_elem_eq_true (by kernel_rfl)) (Or.inl ⟨by rfl, ?_⟩) ?_
            rotate_left
            · intro w9 _
              go_simp
              try with_reducible rfl
            try simp only [Act.put, List.setIfInBounds_toArray, List.set_cons_zero, List.set_cons_succ]
            refine rel_free (i := 12) (v := ?_) (by simp only [List.getElem?_toArray, List.getElem?_cons_zero, List.getElem?_cons_succ]; exact rfl) (by kernel_rfl) (by exact fun _ _ _ h => h) 5 _ _ _ (by kernel_rfl) (List.mem_of_elem_eq_true (by kernel_rfl)) (Or.inl ⟨by rfl, ?_⟩) ?_
            rotate_left
            · intro w9 _
              go_simp
              try with_reducible rfl
            try simp only [Act.put, List.setIfInBounds_toArray, List.set_cons_zero, List.set_cons_succ]
            refine rel_take (i := 13) (v := ?_) (by simp only [List.getElem?_toArray, List.getElem?_cons_zero, List.getElem?_cons_succ]; exact rfl) (by kernel_rfl) (by kernel_rfl) (by exact fun _ _ _ h => h) 4 _ _ _ (by kernel_rfl) (List.mem_of_elem_eq_true (by kernel_rfl)) (Or.inl ⟨by rfl, ?_⟩) hS ?_
            rotate_left
            · intro w9 hw9
              try dsimp only at hw9
              obtain ⟨hw0, hw1, hw2, hw3, hw4, hw5⟩ := hw9
              go_simp
              try with_reducible rfl
            try simp only [Act.put, List.setIfInBounds_toArray, List.set_cons_zero, List.set_cons_succ]
            refine rel_free (i := 14) (v := ?_) (by simp only [List.getElem?_toArray, List.getElem?_cons_zero, List.getElem?_cons_succ]; exact rfl) (by kernel_rfl) (by exact fun _ _ _ h => h) 3 _ _ _ (by kernel_rfl) (List.mem_of_elem_eq_true (by kernel_rfl)) (Or.inl ⟨by rfl, ?_⟩) ?_
            rotate_left
            · intro w9 _
              go_simp
              try with_reducible rfl
            try simp only [Act.put, List.setIfInBounds_toArray, List.set_cons_zero, List.set_cons_succ]
            have hbd := HKM2.out
            have hN9 : PSt G C wd M := HNM2.out.heap (hd9.block G lG)
            have HN9 := Lib.hid hN9
            have HK9 := Lib.hid (HKM2.out.of_below (hd9.mono HKM2.out.size))
            have HTa := Lib.hid (hN9.there (j := j + 1) (by have := HM.out; omega))
            clear hN9 hbd
            refine rel_one (i := 15) (by kernel_rfl) (by simp only [List.getElem?_toArray, List.getElem?_cons_zero, List.getElem?_cons_succ]; exact rfl) (by rfl) ?_
            intro K hK
            refine wp_store_mid 78 (.tmp 51) (.tmp 46) rfl G ((j + 1) * 3) #[.int .i64 y1, .int .i64 y2, .int .i64 y3] rfl rfl HTa.out HIP.out (by simp [Value.oneCell']) ?_
            refine hK _ _ (fun h => by simp at h) ?_
            clear hK K
            try simp only [Act.put, List.setIfInBounds_toArray, List.set_cons_zero, List.set_cons_succ]
            have HNa := Lib.hid (HN9.out.set (i := j + 1) (by have := HM.out; omega) (y1, y2, y3))
            have HTb := Lib.hid (HNa.out.there (j := j) (by rw [List.length_set]; have := HM.out; omega))
            refine rel_one (i := 16) (by kernel_rfl) (by simp only [List.getElem?_toArray, List.getElem?_cons_zero, List.getElem?_cons_succ]; exact rfl) (by rfl) ?_
            intro K hK
            go_simp
            refine hK _ _ (fun _ h => h) ?_
            clear hK K
            try simp only [Act.put, List.setIfInBounds_toArray, List.set_cons_zero, List.set_cons_succ]
            refine rel_one (i := 17) (by kernel_rfl) (by simp only [List.getElem?_toArray, List.getElem?_cons_zero, List.getElem?_cons_succ]; exact rfl) (by rfl) ?_
            intro K hK
            refine wp_store_mid 78 (.tmp 52) (.tmp 50) rfl G (j * 3) #[.int .i64 x1, .int .i64 x2, .int .i64 x3] rfl rfl HTb.out HIP.out (by simp [Value.oneCell']) ?_
            refine hK _ _ (fun h => by simp at h) ?_
            clear hK K
            try simp only [Act.put, List.setIfInBounds_toArray, List.set_cons_zero, List.set_cons_succ]
            have HNb := Lib.hid (HNa.out.set (i := j) (by rw [List.length_set]; have := HM.out; omega) (x1, x2, x3))
            have HKb := Lib.hid ((HK9.out.setCells [.int .i64 y1, .int .i64 y2, .int .i64 y3] ((j + 1) * 3)).setCells [.int .i64 x1, .int .i64 x2, .int .i64 x3] (j * 3))
            refine rel_done (by kernel_rfl) ?_ _
            simp only at HNa HNb
            generalize (wd.setCells _ _ _).setCells _ _ _ = w9 at *
            clear hS toS c1 c2 c3 e1 e2 e3 hd9
            go_wp2_with fail
            go_roundw
            case rel =>
              refine ⟨j, swapL M j, by omega, by go_num, by rw [swapL_length]; exact HM.out, by rw [← HB.out]; conv => rhs; unfold bubble; rw [HX.out, HY.out, HR.out, if_pos hc], ?_, HKb.out⟩
              unfold swapL
              rw [HX.out, HY.out]
              exact HNb.out
            case measure => simp only [intOf]; omega
          · have hdc : decide (r < 0) = false := by simp [hc]
            go_wp2_with fail
            go_roundw
            case rel => exact ⟨k + 1, by omega, .inl (by omega), by go_num, by rw [← HB.out, show bubble cmpP (j + 1) M = M by unfold bubble; rw [HX.out, HY.out, HR.out, if_neg hc]]; exact HNM2.out, HKM2.out⟩
            case measure => simp only [intOf]; omega
    · have HK1 := Lib.hid hkn
      go_wp2_with fail
      go_end0
      refine ⟨rfl, ?_, HKK.out⟩
      unfold sortL
      rw [HL.out]
      rcases HK1.out with h | rfl
      · rw [show n = k by omega]; exact HNK.out
      · have hn1 : n = 0 ∨ n = 1 := by omega
        rcases hn1 with rfl | rfl <;> exact HNK.out

end Go.Proofs.YtemoepcfmpapoaaGreatDoor

/-
  debt: the library's sort of a short list of payments, by contract: whole; and of a list of at most one list.
-/
namespace Go.Proofs.YtemoepcfmpapoaaGreatDoor
open Go.RowKit Go.Proofs Go.Shelf
attribute [local go_sem] Oper.semAt_some

set_option maxRecDepth 100000
set_option maxHeartbeats 1600000 in
theorem len64_any (n : Nat) (w : World) (hn : n ≤ 8) : Calls Tryz.prog 103 #[.int .u64 (n : Nat)] w fun e w' => (∃ r : Int, e = .returned (.int .i64 r)) ∧ Below w.heap.size w w' := by
  rcases (by omega : n = 0 ∨ n = 1 ∨ n = 2 ∨ n = 3 ∨ n = 4 ∨ n = 5 ∨ n = 6 ∨ n = 7 ∨ n = 8) with rfl | rfl | rfl | rfl | rfl | rfl | rfl | rfl | rfl
  all_goals
    go_enter Tryz.func103, Tryz.ntmps103
    go_wp2_with fail
    go_ret
    exact ⟨⟨_, rfl⟩, Below.refl _ _⟩

theorem len_any (n : Nat) (w : World) (hn : n ≤ 8) : Calls Tryz.prog 65 #[.int .u64 (n : Nat)] w fun e w' => (∃ r : Int, e = .returned (.int .i64 r)) ∧ Below w.heap.size w w' := by
  have HL := Lib.hid (len64_any n w hn)
  go_enter Tryz.func65, Tryz.ntmps65
  go_wp2_with fail
  refine HL.out.mono ?_
  rintro e w2 ⟨⟨r, rfl⟩, hb⟩
  have HB := Lib.hid hb
  clear hb
  go_wp2_with fail
  go_ret
  exact ⟨⟨_, rfl⟩, HB.out⟩

def SortEnd (G C : Nat) (L : List Pay) (w : World) (e : Ending) (w' : World) : Prop := e = .returned (.tuple #[]) ∧ PSt G C w' (sortL cmpP L) ∧ Kept G w w'
set_option maxHeartbeats 1600000 in
theorem pdq_any (G C n capn : Nat) (r : Int) (L : List Pay) (w : World) (hL : L.length = n) (hn : n ≤ 12) (hN : PSt G C w L) :
    Calls Tryz.prog 118 #[.slice (some ⟨G, 0, none⟩) n capn, .int .i64 0, .int .i64 n, .int .i64 r, .func (.func 45) #[] #[]] w (SortEnd G C L w) := by
  have HI := Lib.hid (isort_any G C n capn L w hL hn hN)
  clear hN hL
  have h12 : (n : Int) ≤ 12 := by omega
  have h12' : IntKind.i64.wrap (n : Int) = (n : Int) := IntWalk.i64_in _ (by omega)
  go_enter Tryz.func118, Tryz.ntmps118
  go_wp2_with fail
  go_loopw [1, 2] (fun a b wr => a = .int .i64 0 ∧ b = .int .i64 n ∧ wr = w) (fun _ _ _ => 0)
  case atStart => exact ⟨rfl, rfl, rfl⟩
  case round =>
    obtain ⟨rfl, rfl, rfl⟩ := hrel
    go_wp2_with fail
    refine HI.out.mono ?_
    rintro e w2 ⟨rfl, hN2, hK2⟩
    have HN2 := Lib.hid hN2
    have HK2 := Lib.hid hK2
    clear hN2 hK2
    go_wp2_with fail
    go_end0
    exact ⟨rfl, HN2.out, HK2.out⟩
set_option maxHeartbeats 1600000 in
theorem sort_any (G C n capn : Nat) (L : List Pay) (w : World) (hL : L.length = n) (hn : n ≤ 8) (hN : PSt G C w L) :
    Calls Tryz.prog 93 #[.slice (some ⟨G, 0, none⟩) n capn, .func (.func 45) #[] #[]] w (SortEnd G C L w) := by
  have HLN := Lib.hid (len_any n w hn)
  have HP := Lib.hid (fun r w' (hb : Below w.heap.size w w') => pdq_any G C n capn r L w' hL (by omega) (hN.heap (hb.block G hN.lt)))
  have hw : IntKind.u64.wrap (n : Int) = (n : Int) := IntWalk.u64_in _ (by omega)
  clear hL hN
  go_enter Tryz.func93, Tryz.ntmps93
  go_wp2_with (first
    | (go_at_call 65; refine HLN.out.mono ?_; rintro e w2 ⟨⟨r, rfl⟩, hb2⟩; have HB2 := Lib.hid hb2; clear hb2)
    | (go_at_call 118; refine (HP.out _ _ HB2.out).mono ?_; rintro e w3 ⟨rfl, hN3, hK3⟩; have HN3 := Lib.hid hN3; have HK3 := Lib.hid hK3; clear hN3 hK3))
  go_end0
  exact ⟨rfl, HN3.out, ⟨HK3.out.os.trans HB2.out.os, HK3.out.tape.trans HB2.out.tape, HK3.out.output.trans HB2.out.output, Nat.le_trans HB2.out.size HK3.out.size, fun k hk hb => (HK3.out.block k (Nat.lt_of_lt_of_le hk HB2.out.size) hb).trans (HB2.out.block k hk)⟩⟩

def NilEnd (w : World) (e : Ending) (w' : World) : Prop := e = .returned (.tuple #[]) ∧ w' = w
theorem isort_nil (w : World) : Calls Tryz.prog 131 #[.slice none 0 0, .int .i64 0, .int .i64 0, .func (.func 45) #[] #[]] w (NilEnd w) := by
  go_enter Tryz.func131, Tryz.ntmps131
  go_wp2_with fail
  go_loopw [8] (fun i wr => i = .int .i64 1 ∧ wr = w) (fun _ _ => 0)
  case atStart => exact ⟨rfl, rfl⟩
  case round =>
    obtain ⟨rfl, rfl⟩ := hrel
    go_wp2_with fail
    go_end0
    exact ⟨rfl, rfl⟩
theorem pdq_nil (r : Int) (w : World) : Calls Tryz.prog 118 #[.slice none 0 0, .int .i64 0, .int .i64 0, .int .i64 r, .func (.func 45) #[] #[]] w (NilEnd w) := by
  have HI := Lib.hid (isort_nil w)
  go_enter Tryz.func118, Tryz.ntmps118
  go_wp2_with fail
  go_loopw [1, 2] (fun a b wr => a = .int .i64 0 ∧ b = .int .i64 0 ∧ wr = w) (fun _ _ _ => 0)
  case atStart => exact ⟨rfl, rfl, rfl⟩
  case round =>
    obtain ⟨rfl, rfl, rfl⟩ := hrel
    go_wp2_with fail
    refine HI.out.mono ?_
    rintro e w2 ⟨rfl, rfl⟩
    go_wp2_with fail
    refine bodyPost_ret (results_none rfl _ _ _) rfl ?_
    exact ⟨rfl, rfl⟩
theorem sort_nil (w : World) : Calls Tryz.prog 93 #[.slice none 0 0, .func (.func 45) #[] #[]] w fun e w' => e = .returned (.tuple #[]) ∧ Below w.heap.size w w' := by
  have HLN := Lib.hid (len_any 0 w (by omega))
  have HP := Lib.hid (fun r w => pdq_nil r w)
  go_enter Tryz.func93, Tryz.ntmps93
  go_wp2_with (first
    | (go_at_call 65; refine HLN.out.mono ?_; rintro e w2 ⟨⟨r, rfl⟩, hb2⟩)
    | (go_at_call 118; refine (HP.out _ _).mono ?_; rintro e w3 ⟨rfl, rfl⟩))
  go_end0
  exact ⟨rfl, hb2⟩

/-! ### The list of lists: one at most -/
theorem isortL_one (v : Value) (n : Nat) (w : World) (hn : n ≤ 1) (c : Value) : Calls Tryz.prog 94 #[v, .int .i64 0, .int .i64 n, c] w (NilEnd w) := by
  rcases (by omega : n = 0 ∨ n = 1) with rfl | rfl
  all_goals
    go_enter Tryz.func94, Tryz.ntmps94
    go_wp2_with fail
    go_loopw [8] (fun i wr => i = .int .i64 1 ∧ wr = w) (fun _ _ => 0)
    case atStart => exact ⟨rfl, rfl⟩
    case round =>
      obtain ⟨rfl, rfl⟩ := hrel
      go_wp2_with fail
      go_end0
      exact ⟨rfl, rfl⟩
theorem pdqL_one (v : Value) (n : Nat) (r : Int) (w : World) (hn : n ≤ 1) (c : Value) : Calls Tryz.prog 64 #[v, .int .i64 0, .int .i64 n, .int .i64 r, c] w (NilEnd w) := by
  have HI := Lib.hid (isortL_one v n w hn c)
  have h12 : (n : Int) ≤ 12 := by omega
  have h12' : IntKind.i64.wrap (n : Int) = (n : Int) := IntWalk.i64_in _ (by omega)
  go_enter Tryz.func64, Tryz.ntmps64
  go_wp2_with fail
  go_loopw [1, 2] (fun a b wr => a = .int .i64 0 ∧ b = .int .i64 n ∧ wr = w) (fun _ _ _ => 0)
  case atStart => exact ⟨rfl, rfl, rfl⟩
  case round =>
    obtain ⟨rfl, rfl, rfl⟩ := hrel
    go_wp2_with fail
    refine HI.out.mono ?_
    rintro e w2 ⟨rfl, rfl⟩
    go_wp2_with fail
    refine bodyPost_ret (results_none rfl _ _ _) rfl ?_
    exact ⟨rfl, rfl⟩
theorem sortL_one (a : Option Addr) (n cap : Nat) (w : World) (hn : n ≤ 1) (c : Value) : Calls Tryz.prog 42 #[.slice a n cap, c] w fun e w' => e = .returned (.tuple #[]) ∧ Below w.heap.size w w' := by
  have HLN := Lib.hid (len_any n w (by omega))
  have HP := Lib.hid (fun r w => pdqL_one (.slice a n cap) n r w hn c)
  have hw : IntKind.u64.wrap (n : Int) = (n : Int) := IntWalk.u64_in _ (by omega)
  go_enter Tryz.func42, Tryz.ntmps42
  go_wp2_with (first
    | (go_at_call 65; refine HLN.out.mono ?_; rintro e w2 ⟨⟨r, rfl⟩, hb2⟩)
    | (go_at_call 64; refine (HP.out _ _).mono ?_; rintro e w3 ⟨rfl, rfl⟩))
  go_end0
  exact ⟨rfl, hb2⟩
end Go.Proofs.YtemoepcfmpapoaaGreatDoor
