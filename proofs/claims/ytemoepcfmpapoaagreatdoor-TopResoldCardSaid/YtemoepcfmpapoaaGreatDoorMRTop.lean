/-
  resold: the law's own small functions; by contract.
-/
import Derived.Test.YtemoepcfmpapoaaGreatDoorMRStk
import Derived.Test.YtemoepcfmpapoaaGreatDoorMRAns
namespace Go.Proofs.YtemoepcfmpapoaaGreatDoor
open Go.RowKit Go.Proofs Go.Shelf
attribute [local go_sem] Oper.semAt_some

set_option maxRecDepth 100000
/-- The cells of debts that lie in a row. -/
theorem debt_cells {w : World} {base c n : Nat} {a : Option Addr} {L : List Pay} (h : w.ownsRow base 43 3 (.slice a n c) L.length (flatP L)) (h1 : 1 ≤ L.length) :
    ∃ g, a = some ⟨g, 0, none⟩ ∧ n = L.length ∧ base ≤ g ∧ ∀ j, j < L.length → w.cell? ⟨g, j * 3, none⟩ = some (.int .i64 (L[j]?.getD default).1) ∧ w.cell? ⟨g, j * 3 + 1, none⟩ = some (.int .i64 (L[j]?.getD default).2.1) ∧ w.cell? ⟨g, j * 3 + 2, none⟩ = some (.int .i64 (L[j]?.getD default).2.2) := by
  obtain ⟨_, h2⟩ := h
  rcases h2 with ⟨hv, h0⟩ | ⟨g, cap, cur, hv, hg, hh, hn, hm, hs, ht⟩
  · omega
  · simp only [Value.slice.injEq] at hv
    obtain ⟨rfl, rfl, rfl⟩ := hv
    refine ⟨g, rfl, rfl, hg, fun j hj => ?_⟩
    have hc : ∀ i, i < L.length * 3 → w.cell? ⟨g, i, none⟩ = (flatP L)[i]? := fun i hi => by
      rw [← ht, List.getElem?_take, if_pos hi]
      simp [World.cell?, hh]
    obtain ⟨f1, f2, f3⟩ := flatP_at L j hj
    exact ⟨(hc _ (by omega)).trans f1, (hc _ (by omega)).trans f2, (hc _ (by omega)).trans f3⟩
/-- Two lists of one equal debt. -/
theorem SameDebts_any (g g2 c c2 : Nat) (x y p : Int) (w : World) (h0 : w.cell? ⟨g, 0, none⟩ = some (.int .i64 x)) (h1 : w.cell? ⟨g, 1, none⟩ = some (.int .i64 y)) (h2 : w.cell? ⟨g, 2, none⟩ = some (.int .i64 p))
    (k0 : w.cell? ⟨g2, 0, none⟩ = some (.int .i64 x)) (k1 : w.cell? ⟨g2, 1, none⟩ = some (.int .i64 y)) (k2 : w.cell? ⟨g2, 2, none⟩ = some (.int .i64 p)) :
    Calls Tryz.prog 12 #[.slice (some ⟨g, 0, none⟩) 1 c, .slice (some ⟨g2, 0, none⟩) 1 c2] w (BoolEnd true w) := by
  go_enter Tryz.func12, Tryz.ntmps12
  go_wp2_with fail
  go_loopw [5] (fun i wr => (i = .int .i64 0 ∧ wr = w) ∨ (i = .int .i64 1 ∧ Below w.heap.size w wr)) (fun i _ => 1 - (intOf i).toNat)
  case atStart => exact .inl ⟨rfl, rfl⟩
  case round =>
    rcases hrel with ⟨rfl, rfl⟩ | ⟨rfl, hb⟩
    · go_upto_region 4 with (fail)
      go_region
      go_wp2_with fail
      go_roundw
      case rel => exact .inr ⟨by go_num, (Below.refl _ _).drew⟩
      case measure => simp [intOf]
    · go_wp2_with fail
      go_ret
      exact ⟨rfl, hb⟩

/-! ### resold -/
def OwEnd (Ps : List Int) (w : World) (e : Ending) (w' : World) : Prop := ∃ pg pc dg dc, e = .returned (owV (Ps.length + 1) Ps pg pc dg dc) ∧ OwB (Ps.length + 1) Ps pg pc dg dc w' ∧ Below w.heap.size w w'
theorem Tryz.infoCoins : (Tryz.prog.info? 22).map (fun i => (i.zero, i.size, i.bytes)) = some (some (.slice none 0 0), 1, 24) := by kernel_rfl
theorem made_coins (n : Nat) : madeCells (Value.slice none 0 0).cells (n * 1) = Array.replicate n (.slice none 0 0) := by
  have h : (Value.slice none 0 0).cells = #[.slice none 0 0] := by rfl
  rw [h, Nat.mul_one]
  apply Array.toList_inj.1
  rw [toList_madeCells_one]
  simp
theorem make_coins (n : Nat) (hn : n ≤ 100) (w : World) :
    (Instr.makeSlice 32 (.int .i64 n) (.int .i64 n)).run Tryz.prog w = .ok (.slice (some ⟨w.heap.size, 0, none⟩) n n) (w.alloc (.cells (Array.replicate n (.slice none 0 0)) 22)) := by
  obtain ⟨i0, hi, hz0, hz1, hz2⟩ := info_parts Tryz.infoCoins
  have h := run_make (P := Tryz.prog) w 32 22 i0 _ Tryz.underlying32 hi hz0 .i64 .i64 n n (by omega) (Int.le_refl _) (by rw [hz2]; omega) (by omega)
  rw [Int.toNat_natCast, hz1, made_coins] at h
  exact h
def owD (Ps : List Int) (j : Nat) : List Pay := (List.range j).map fun (i : Nat) => (((i : Int) + 1), (i : Int), Ps[i]?.getD 0)
theorem owD_len (Ps : List Int) (j : Nat) : (owD Ps j).length = j := by simp [owD]
theorem owD_succ (Ps : List Int) (j : Nat) : owD Ps (j + 1) = owD Ps j ++ [(((j : Int) + 1), (j : Int), Ps[j]?.getD 0)] := by simp [owD, List.range_succ]
structure RS (Ps : List Int) (L R0 : Nat) (w : World) (j : Nat) (dv : Value) (wr : World) : Prop where
  o : wr.heap[R0 + 2]? = some (.cells #[.slice (some ⟨R0 + 1, 0, none⟩) (L + 1) (L + 1), dv] 35 (0, 0))
  d : wr.ownsRow (R0 + 3) 43 3 dv j (flatP (owD Ps j))
  r : wr.heap[R0]? = some (.cells #[.slice none 0 0, .slice none 0 0] 35 (0, 0))
  p : wr.heap[R0 + 1]? = some (.cells (Array.replicate (L + 1) (.slice none 0 0)) 22 (0, 0))
  s : R0 + 3 ≤ wr.heap.size
  b : Below w.heap.size w wr
theorem ow_cells0 {w : World} {N : Nat} {a b : Value} {T : TypeId} (h : w.heap[N]? = some (.cells #[a, b] T (0, 0))) : w.cell? ⟨N, 0, none⟩ = some a ∧ w.cell? ⟨N, 1, none⟩ = some b ∧ w.frozen? ⟨N, 0, none⟩ = false ∧ w.frozen? ⟨N, 1, none⟩ = false := by
  simp [World.cell?, World.frozen?, h]
theorem RS.step {Ps : List Int} {L R0 j : Nat} {w wr w8 wg : World} {dv g : Value} {p : Int} (h : RS Ps L R0 w j dv wr) (hw : w.heap.size = R0) (h8 : Below wr.heap.size wr w8) (hg : w8.grownBy wg dv.ownBlock)
    (ho : wg.ownsRow (R0 + 3) 43 3 g (j + 1) (flatP (owD Ps j) ++ [.int .i64 ((j : Int) + 1), .int .i64 j, .int .i64 p])) (hp : Ps[j]?.getD 0 = p) :
    (∀ k, k < R0 + 3 → wg.heap[k]? = wr.heap[k]?) ∧ RS Ps L R0 w (j + 1) g (wg.setCell ⟨R0 + 1 + 1, 1, none⟩ g) := by
  have hob : ∀ k, dv.ownBlock = some k → R0 + 3 ≤ k := fun k hk => (h.d.lt k hk).1
  have hG : ∀ k, k < R0 + 3 → wg.heap[k]? = wr.heap[k]? := fun k hk =>
    (hg.block k (by have := h.s; have := h8.size; omega) (fun e => by have := hob k e.symm; omega)).trans (h8.block k (by have := h.s; omega))
  have hs : ∀ k, k ≠ R0 + 2 → (wg.setCell ⟨R0 + 1 + 1, 1, none⟩ g).heap[k]? = wg.heap[k]? := fun k hk => Below.heap_setCell _ _ _ _ (by show k ≠ R0 + 1 + 1; omega)
  refine ⟨hG, ⟨?_, ?_, ?_, ?_, ?_, ?_⟩⟩
  · have := heap_setCell_cells (i := 1) ((hG (R0 + 2) (by omega)).trans h.o) g
    simpa using this
  · have e : flatP (owD Ps (j + 1)) = flatP (owD Ps j) ++ [.int .i64 ((j : Int) + 1), .int .i64 j, .int .i64 p] := by rw [owD_succ, flatP_add, hp]
    rw [e]
    exact owns_of_heap ho fun k hk _ => hs k (by omega)
  · exact (hs _ (by omega)).trans ((hG _ (by omega)).trans h.r)
  · exact (hs _ (by omega)).trans ((hG _ (by omega)).trans h.p)
  · have := h.s; have := h8.size; have := hg.size; simp; omega
  · refine ⟨?_, ?_, ?_, ?_, fun k hk => ?_⟩
    · exact (hg.os.trans h8.os).trans h.b.os
    · exact (hg.tape.trans h8.tape).trans h.b.tape
    · exact (hg.output.trans h8.output).trans h.b.output
    · have := h.b.size; have := h8.size; have := hg.size; simp; omega
    · exact (hs k (by omega)).trans ((hG k (by omega)).trans (h.b.block k hk))
theorem RS.start (Ps : List Int) (L : Nat) (w : World) : RS Ps L w.heap.size w 0 (.slice none 0 0) (((w.alloc (.cells #[.slice none 0 0, .slice none 0 0] 35)).alloc (.cells (Array.replicate (L + 1) (.slice none 0 0)) 22)).alloc (.cells #[.slice (some ⟨w.heap.size + 1, 0, none⟩) (L + 1) (L + 1), .slice none 0 0] 35)) := by
  obtain ⟨A, hA⟩ : ∃ A, w.alloc (.cells #[.slice none 0 0, .slice none 0 0] 35) = A := ⟨_, rfl⟩
  have h1 : A.heap[w.heap.size]? = some (.cells #[.slice none 0 0, .slice none 0 0] 35 (0, 0)) := hA ▸ heap_new w _
  have s1 : A.heap.size = w.heap.size + 1 := by rw [← hA]; simp
  have b1 : Below w.heap.size w A := hA ▸ below_alloc w _
  rw [hA]
  obtain ⟨B, hB⟩ : ∃ B, A.alloc (.cells (Array.replicate (L + 1) (.slice none 0 0)) 22) = B := ⟨_, rfl⟩
  have h2 : B.heap[w.heap.size + 1]? = some (.cells (Array.replicate (L + 1) (.slice none 0 0)) 22 (0, 0)) := hB ▸ heap_at A _ s1
  have s2 : B.heap.size = w.heap.size + 1 + 1 := by rw [← hB]; simp [s1]
  have b2 : Below A.heap.size A B := hB ▸ below_alloc A _
  rw [hB]
  have h3 := heap_at B (.cells #[.slice (some ⟨w.heap.size + 1, 0, none⟩) (L + 1) (L + 1), .slice none 0 0] 35) s2
  have b3 := below_alloc B (.cells #[.slice (some ⟨w.heap.size + 1, 0, none⟩) (L + 1) (L + 1), .slice none 0 0] 35)
  exact ⟨h3, by simpa [owD, flatP] using World.ownsRow_nil _ _ _ _, below_heap b3 (below_heap b2 h1), below_heap b3 h2, by simp [s2], below_trans (below_trans b1 b2) b3⟩
theorem Tryz.infoOwing : (Tryz.prog.info? 35).map (·.size) = some 2 := by kernel_rfl
set_option maxHeartbeats 3200000 in
theorem resold_any (pb cap : Nat) (Ps : List Int) (w : World) (hl : 1 ≤ Ps.length ∧ Ps.length ≤ 4) (hv : ∀ x ∈ Ps, 1 ≤ x ∧ x ≤ 9) (hc : ∀ j, j < Ps.length → w.cell? ⟨pb, j, none⟩ = some (.int .i64 (Ps[j]?.getD 0))) :
    Calls Tryz.prog 9 #[.slice (some ⟨pb, 0, none⟩) Ps.length cap] w (OwEnd Ps w) := by
  obtain ⟨L, hL⟩ : ∃ L, Ps.length = L := ⟨_, rfl⟩
  have HL := Lib.hid hL
  have HC := Lib.hid hc
  have HV := Lib.hid hv
  unfold OwEnd
  rw [hL] at hl ⊢
  have HHL := Lib.hid hl
  clear hc hv hL hl
  have hw1 : IntKind.i64.wrap ((L : Int) + 1) = (L : Int) + 1 := IntWalk.i64_in _ (by have := HHL.out; omega)
  have hmk : ∀ w : World, (Instr.makeSlice 32 (.int .i64 ((L : Int) + 1)) (.int .i64 ((L : Int) + 1))).run Tryz.prog w = .ok (.slice (some ⟨w.heap.size, 0, none⟩) (L + 1) (L + 1)) (w.alloc (.cells (Array.replicate (L + 1) (.slice none 0 0)) 22)) := fun w => make_coins (L + 1) (by have := HHL.out; omega) w
  obtain ⟨i0, hi0, hz0, hz1, hz2⟩ := info_parts Tryz.infoDebt
  go_enter Tryz.func9, Tryz.ntmps9
  go_wp2_with fail
  go_loopw [4] (fun i wr => ∃ (j : Nat) (dv : Value), j ≤ L ∧ i = .int .i64 j ∧ RS Ps L w.heap.size w j dv wr) (fun i _ => L - (intOf i).toNat)
  case atStart => exact ⟨0, _, Nat.zero_le _, rfl, RS.start Ps L w⟩
  case round =>
    obtain ⟨j, dv, hj, rfl, hrs⟩ := hrel
    obtain ⟨c0, c1, f0, f1⟩ := ow_cells0 hrs.o
    replace c0 : wr.cell? ⟨w.heap.size + 1 + 1, 0, none⟩ = _ := c0
    replace c1 : wr.cell? ⟨w.heap.size + 1 + 1, 1, none⟩ = _ := c1
    replace f0 : wr.frozen? ⟨w.heap.size + 1 + 1, 0, none⟩ = _ := f0
    replace f1 : wr.frozen? ⟨w.heap.size + 1 + 1, 1, none⟩ = _ := f1
    by_cases hjl : (j : Int) < (L : Int)
    · have hjn : j < L := by omega
      have hcp := below_cell hrs.b (HC.out j (by have := HL.out; omega))
      have lpb : pb < wr.heap.size := World.block_lt_of_cell? _ _ hcp
      have lN : w.heap.size + 1 + 1 < wr.heap.size := World.block_lt_of_cell? _ _ c1
      have hw2 : IntKind.i64.wrap ((j : Int) + 1) = (j : Int) + 1 := IntWalk.i64_in _ (by have := HHL.out; omega)
      obtain ⟨p, hp⟩ : ∃ p, Ps[j]?.getD 0 = p := ⟨_, rfl⟩
      rw [hp] at hcp
      have HP := Lib.hid hp
      have HRS := Lib.hid hrs
      have HJN := Lib.hid hjn
      clear hp hrs hjn hj
      go_upto_region 5 with (fail)
      try simp only [Act.put]
      have toS : ∀ u : World, Below wr.heap.size wr u → (u.cell? ⟨w.heap.size + 1 + 1, 1, none⟩ = wr.cell? ⟨w.heap.size + 1 + 1, 1, none⟩ ∧ u.cell? ⟨pb, j, none⟩ = wr.cell? ⟨pb, j, none⟩) := fun u h => ⟨h.cell lN, h.cell lpb⟩
      refine wp_region_late (fun w' : World => w'.cell? ⟨w.heap.size + 1 + 1, 1, none⟩ = wr.cell? ⟨w.heap.size + 1 + 1, 1, none⟩ ∧ w'.cell? ⟨pb, j, none⟩ = wr.cell? ⟨pb, j, none⟩) (fun i => i == 13) (by kernel_rfl) ?_
      have hd9 : Below wr.heap.size wr wr.drew := (Below.refl _ wr).drew
      have hS := toS _ hd9
      obtain ⟨wd, hwd⟩ : ∃ x, x = wr.drew := ⟨_, rfl⟩
      rw [← hwd] at hS hd9 ⊢
      have HWD := Lib.hid hwd
      clear hwd
      refine late_take (i := 0) (v := ?_) (by simp only [List.getElem?_toArray, List.getElem?_cons_zero, List.getElem?_cons_succ]; exact rfl) (by kernel_rfl) (by kernel_rfl) (by exact fun _ _ _ h => h) 13 _ _ _ (by kernel_rfl) (List.mem_of_elem_eq_true (by kernel_rfl)) (Or.inl ⟨by rfl, ?_⟩) hS ?_
      rotate_left
      · intro w9 hw9
        try dsimp only at hw9
        obtain ⟨hw0, hw1⟩ := hw9
        go_simp
        try with_reducible rfl
      try simp only [Act.put, List.setIfInBounds_toArray, List.set_cons_zero, List.set_cons_succ]
      refine late_take (i := 1) (v := ?_) (by simp only [List.getElem?_toArray, List.getElem?_cons_zero, List.getElem?_cons_succ]; exact rfl) (by kernel_rfl) (by kernel_rfl) (by exact fun _ _ _ h => h) 12 _ _ _ (by kernel_rfl) (List.mem_of_elem_eq_true (by kernel_rfl)) (Or.inl ⟨by rfl, ?_⟩) hS ?_
      rotate_left
      · intro w9 hw9
        try dsimp only at hw9
        obtain ⟨hw0, hw1⟩ := hw9
        go_simp
        try with_reducible rfl
      try simp only [Act.put, List.setIfInBounds_toArray, List.set_cons_zero, List.set_cons_succ]
      refine late_take (i := 2) (v := ?_) (by simp only [List.getElem?_toArray, List.getElem?_cons_zero, List.getElem?_cons_succ]; exact rfl) (by kernel_rfl) (by kernel_rfl) (by exact fun _ _ _ h => h) 11 _ _ _ (by kernel_rfl) (List.mem_of_elem_eq_true (by kernel_rfl)) (Or.inl ⟨by rfl, ?_⟩) hS ?_
      rotate_left
      · intro w9 hw9
        try dsimp only at hw9
        obtain ⟨hw0, hw1⟩ := hw9
        go_simp
        try with_reducible rfl
      try simp only [Act.put, List.setIfInBounds_toArray, List.set_cons_zero, List.set_cons_succ]
      refine late_take (i := 3) (v := ?_) (by simp only [List.getElem?_toArray, List.getElem?_cons_zero, List.getElem?_cons_succ]; exact rfl) (by kernel_rfl) (by kernel_rfl) (by exact fun _ _ _ h => h) 10 _ _ _ (by kernel_rfl) (List.mem_of_elem_eq_true (by kernel_rfl)) (Or.inl ⟨by rfl, ?_⟩) hS ?_
      rotate_left
      · intro w9 hw9
        try dsimp only at hw9
        obtain ⟨hw0, hw1⟩ := hw9
        go_simp
        try with_reducible rfl
      try simp only [Act.put, List.setIfInBounds_toArray, List.set_cons_zero, List.set_cons_succ]
      refine late_take (i := 4) (v := ?_) (by simp only [List.getElem?_toArray, List.getElem?_cons_zero, List.getElem?_cons_succ]; exact rfl) (by kernel_rfl) (by kernel_rfl) (by exact fun _ _ _ h => h) 9 _ _ _ (by kernel_rfl) (List.mem_of_elem_eq_true (by kernel_rfl)) (Or.inl ⟨by rfl, ?_⟩) hS ?_
      rotate_left
      · intro w9 hw9
        try dsimp only at hw9
        obtain ⟨hw0, hw1⟩ := hw9
        go_simp
        try with_reducible rfl
      try simp only [Act.put, List.setIfInBounds_toArray, List.set_cons_zero, List.set_cons_succ]
      refine late_take (i := 5) (v := ?_) (by simp only [List.getElem?_toArray, List.getElem?_cons_zero, List.getElem?_cons_succ]; exact rfl) (by kernel_rfl) (by kernel_rfl) (by exact fun _ _ _ h => h) 8 _ _ _ (by kernel_rfl) (List.mem_of_elem_eq_true (by kernel_rfl)) (Or.inl ⟨by rfl, ?_⟩) hS ?_
      rotate_left
      · intro w9 hw9
        try dsimp only at hw9
        obtain ⟨hw0, hw1⟩ := hw9
        go_simp
        try with_reducible rfl
      try simp only [Act.put, List.setIfInBounds_toArray, List.set_cons_zero, List.set_cons_succ]
      refine late_take (i := 6) (v := ?_) (by simp only [List.getElem?_toArray, List.getElem?_cons_zero, List.getElem?_cons_succ]; exact rfl) (by kernel_rfl) (by kernel_rfl) (by exact fun _ _ _ h => h) 7 _ _ _ (by kernel_rfl) (List.mem_of_elem_eq_true (by kernel_rfl)) (Or.inl ⟨by rfl, ?_⟩) hS ?_
      rotate_left
      · intro w9 hw9
        try dsimp only at hw9
        obtain ⟨hw0, hw1⟩ := hw9
        go_simp
        try with_reducible rfl
      try simp only [Act.put, List.setIfInBounds_toArray, List.set_cons_zero, List.set_cons_succ]
      refine late_take (i := 7) (v := ?_) (by simp only [List.getElem?_toArray, List.getElem?_cons_zero, List.getElem?_cons_succ]; exact rfl) (by kernel_rfl) (by kernel_rfl) (by exact fun _ _ _ h => h) 6 _ _ _ (by kernel_rfl) (List.mem_of_elem_eq_true (by kernel_rfl)) (Or.inl ⟨by rfl, ?_⟩) hS ?_
      rotate_left
      · intro w9 hw9
        try dsimp only at hw9
        obtain ⟨hw0, hw1⟩ := hw9
        go_simp
        try with_reducible rfl
      try simp only [Act.put, List.setIfInBounds_toArray, List.set_cons_zero, List.set_cons_succ]
      refine late_take (i := 8) (v := ?_) (by simp only [List.getElem?_toArray, List.getElem?_cons_zero, List.getElem?_cons_succ]; exact rfl) (by kernel_rfl) (by kernel_rfl) (by exact fun _ _ _ h => h) 5 _ _ _ (by kernel_rfl) (List.mem_of_elem_eq_true (by kernel_rfl)) (Or.inl ⟨by rfl, ?_⟩) hS ?_
      rotate_left
      · intro w9 hw9
        try dsimp only at hw9
        obtain ⟨hw0, hw1⟩ := hw9
        go_simp
        try with_reducible rfl
      try simp only [Act.put, List.setIfInBounds_toArray, List.set_cons_zero, List.set_cons_succ]
      refine late_take (i := 9) (v := ?_) (by simp only [List.getElem?_toArray, List.getElem?_cons_zero, List.getElem?_cons_succ]; exact rfl) (by kernel_rfl) (by kernel_rfl) (by exact fun _ _ _ h => h) 4 _ _ _ (by kernel_rfl) (List.mem_of_elem_eq_true (by kernel_rfl)) (Or.inl ⟨by rfl, ?_⟩) hS ?_
      rotate_left
      · intro w9 hw9
        try dsimp only at hw9
        obtain ⟨hw0, hw1⟩ := hw9
        go_simp
        try with_reducible rfl
      try simp only [Act.put, List.setIfInBounds_toArray, List.set_cons_zero, List.set_cons_succ]
      refine late_one (i := 10) (by kernel_rfl) (by simp only [List.getElem?_toArray, List.getElem?_cons_zero, List.getElem?_cons_succ]; exact rfl) (by rfl) ?_
      intro K hK
      go_simp
      have hb8 := below_trans hd9 (below_alloc wd (.cells #[.int .i64 ((j : Int) + 1), .int .i64 j, .int .i64 p] 43))
      have hN8 := heap_new wd (.cells #[.int .i64 ((j : Int) + 1), .int .i64 j, .int .i64 p] 43)
      refine hK _ _ (fun _ => toS _ hb8) ?_
      clear hK K
      try simp only [Act.put, List.setIfInBounds_toArray, List.set_cons_zero, List.set_cons_succ]
      refine late_one (i := 11) (by kernel_rfl) (by simp only [List.getElem?_toArray, List.getElem?_cons_zero, List.getElem?_cons_succ]; exact rfl) (by rfl) ?_
      intro K hK
      refine wp_append_lies _ _ _ 33 rfl (w.heap.size + 3) 43 i0 (.agg #[.int .i64 0, .int .i64 0, .int .i64 0]) 3 24 Tryz.underlying33 hi0 hz0 hz1 hz2 rfl (by decide) dv j (flatP (owD Ps j)) rfl (owns_below HRS.out.d hb8) ⟨wd.heap.size, 0, none⟩ 1 1 [.int .i64 ((j : Int) + 1), .int .i64 j, .int .i64 p] rfl rfl ?n1 ?n2 (by decide) ?n3 ?n4 ?n5 _ rfl ?_
      case n1 => exact World.news_of_block hN8
      case n2 => intro u hu; simp at hu; rcases hu with rfl | rfl | rfl <;> rfl
      case n3 => have := HJN.out; have := HHL.out; unfold maxLen; omega
      case n4 => have := HJN.out; have := HHL.out; omega
      case n5 => have := HRS.out.s; have := hb8.size; omega
      intro g cg wg hog hgg hgo hgl
      obtain ⟨hG, hstep⟩ := HRS.out.step rfl hb8 hgg hog HP.out
      have lpw : pb < w.heap.size := World.block_lt_of_cell? _ _ (HC.out j (by have := HL.out; have := HJN.out; omega))
      have hcg1 : wg.cell? ⟨w.heap.size + 1 + 1, 1, none⟩ = wr.cell? ⟨w.heap.size + 1 + 1, 1, none⟩ := by simp only [World.cell?]; rw [hG (w.heap.size + 1 + 1) (by omega)]
      have hcg2 : wg.cell? ⟨pb, j, none⟩ = wr.cell? ⟨pb, j, none⟩ := by simp only [World.cell?]; rw [hG pb (by omega)]
      have hfg1 : wg.frozen? ⟨w.heap.size + 1 + 1, 1, none⟩ = false := by simp only [World.frozen?]; rw [hG (w.heap.size + 1 + 1) (by omega)]; exact f1
      have hcg3 := hcg1.trans c1
      refine hK _ _ (fun _ => ⟨hcg1, hcg2⟩) ?_
      clear hK K
      try simp only [Act.put, List.setIfInBounds_toArray, List.set_cons_zero, List.set_cons_succ]
      have HST := Lib.hid hstep
      clear hgg hog hgo hstep hG hN8
      refine late_one (i := 12) (by kernel_rfl) (by simp only [List.getElem?_toArray, List.getElem?_cons_zero, List.getElem?_cons_succ]; exact rfl) (by rfl) ?_
      intro K hK
      go_simp
      refine hK _ _ (fun _ => ⟨hcg1, hcg2⟩) ?_
      clear hK K
      try simp only [Act.put, List.setIfInBounds_toArray, List.set_cons_zero, List.set_cons_succ]
      refine late_one (i := 13) (by kernel_rfl) (by simp only [List.getElem?_toArray, List.getElem?_cons_zero, List.getElem?_cons_succ]; exact rfl) (by rfl) ?_
      intro K hK
      go_simp
      refine hK _ _ (fun h => by simp at h) ?_
      clear hK K
      try simp only [Act.put, List.setIfInBounds_toArray, List.set_cons_zero, List.set_cons_succ]
      refine late_done (by kernel_rfl) ?_ _
      obtain ⟨w9, hw9⟩ : ∃ w9, wg.setCell ⟨w.heap.size + 1 + 1, 1, none⟩ (.slice (some ⟨g, 0, none⟩) (j + 1) cg) = w9 := ⟨_, rfl⟩
      have HST9 : Hid (RS Ps L w.heap.size w (j + 1) (.slice (some ⟨g, 0, none⟩) (j + 1) cg) w9) := hw9 ▸ HST.out
      rw [hw9]
      clear hw9 HST hcg1 hcg2 hcg3 hfg1 hS toS hcp c0 c1 f0 f1
      go_wp2_with fail
      go_roundw
      case rel => exact ⟨j + 1, _, by have := HJN.out; omega, by go_num, HST9.out⟩
      case measure => simp only [intOf]; omega
    · obtain rfl : j = L := by omega
      have HRS := Lib.hid hrs
      obtain ⟨va, vc, rfl⟩ := owns_len hrs.d
      obtain ⟨dg, rfl, -, hdg, hcs⟩ := debt_cells (L := owD Ps j) (by rw [owD_len]; exact hrs.d) (by rw [owD_len]; exact HHL.out.1)
      rw [owD_len] at hcs
      have HCS := Lib.hid hcs
      have HDG := Lib.hid hdg
      have HT := Lib.hid (known_there (o := 0) (n := 2) hrs.r (by simp))
      have HIN := Lib.hid Tryz.infoOwing
      clear hrs hj hcs hdg
      go_wp2_with (refine wpList_store_mid rfl 35 (.tmp 2) (.tmp 29) rfl w.heap.size 0 #[.slice (some ⟨w.heap.size + 1, 0, none⟩) (j + 1) (j + 1), .slice (some ⟨dg, 0, none⟩) j vc] rfl rfl HT.out HIN.out (by simp [Value.oneCell']) ?_)
      refine bodyPost_ret (v := .agg #[.slice (some ⟨w.heap.size + 1, 0, none⟩) (j + 1) (j + 1), .slice (some ⟨dg, 0, none⟩) j vc]) (by simp [results, Tryz.results9, go_sem, World.cell?, heap_setCells _ _ HRS.out.r, putAll]) rfl ?_
      have hne : ∀ k, k ≠ w.heap.size → ∀ o, (wr.setCells w.heap.size 0 [.slice (some ⟨w.heap.size + 1, 0, none⟩) (j + 1) (j + 1), .slice (some ⟨dg, 0, none⟩) j vc]).cell? ⟨k, o, none⟩ = wr.cell? ⟨k, o, none⟩ := fun k hk o => by
        simp only [World.cell?, heap_setCells_ne _ _ _ k hk]
      have hdg := HDG.out
      refine ⟨w.heap.size + 1, j + 1, dg, vc, by unfold owV; rw [HL.out], ⟨by rw [HL.out], by have := HHL.out; omega, HV.out, fun i hi => ?_, fun i hi => ?_⟩, below_setCells (Nat.le_refl _) _ _ HRS.out.b⟩
      · rw [hne _ (by omega)]
        have := HRS.out.p
        simp only [World.cell?, this]
        rw [Array.getElem?_replicate, if_pos hi]
        rfl
      · rw [HL.out] at hi
        rw [hne _ (by omega), hne _ (by omega), hne _ (by omega)]
        have := HCS.out i hi
        simpa [owD, hi] using this

/-! ### resoldAwake -/
theorem awakeP : (Pl.mk 10 2 0 0 6 6 6 6).val 2 2 = 6 := by kernel_rfl
theorem awakeV : BV 10 2 0 2 3 4 6 5 8 := by constructor <;> omega
theorem awakeO (w : World) : OwB (1 + 1) (List.replicate 1 6) w.heap.size 2 (w.heap.size + 1) 1 ((w.alloc (.cells #[.slice none 0 0, .slice none 0 0] 22)).alloc (.cells #[.int .i64 1, .int .i64 0, .int .i64 6] 43)) := by
  have h1 := below_heap (below_alloc _ (.cells #[.int .i64 1, .int .i64 0, .int .i64 6] 43)) (heap_new w (.cells #[.slice none 0 0, .slice none 0 0] 22))
  have h2 := heap_at (w.alloc (.cells #[.slice none 0 0, .slice none 0 0] 22)) (.cells #[.int .i64 1, .int .i64 0, .int .i64 6] 43) (n := w.heap.size + 1) (by simp)
  refine ⟨rfl, by omega, fun x hx => ?_, fun i hi => ?_, fun i hi => ?_⟩
  · have := List.eq_of_mem_replicate hx; omega
  · rcases (by omega : i = 0 ∨ i = 1) with rfl | rfl <;> simp [World.cell?, h1]
  · obtain rfl : i = 0 := by simpa using hi
    simp only [World.cell?, h2]; simp [List.replicate]
set_option maxHeartbeats 1600000 in
theorem resoldAwake_any (w : World) : Calls Tryz.prog 7 #[] w (BoolEnd true w) := by
  have HP := Lib.hid (fun w => Price_any 10 2 0 2 3 4 6 5 8 6 6 w awakeV (by omega) (by omega) (by omega) (by omega))
  rw [show ((3 : Int) - 2 + 1).toNat = 2 by rfl, awakeP] at HP
  unfold bgV at HP
  have HF : Hid (∀ w : World, Calls Tryz.prog 10 #[.agg #[.slice (some ⟨w.heap.size, 0, none⟩) 2 2, .slice (some ⟨w.heap.size + 1, 0, none⟩) 1 1]] ((w.alloc (.cells #[.slice none 0 0, .slice none 0 0] 22)).alloc (.cells #[.int .i64 1, .int .i64 0, .int .i64 6] 43)) (AskEnd (OneDebt 1 6) ((w.alloc (.cells #[.slice none 0 0, .slice none 0 0] 22)).alloc (.cells #[.int .i64 1, .int .i64 0, .int .i64 6] 43)))) :=
    Lib.hid (fun w => Fewest_any 1 6 w.heap.size 2 (w.heap.size + 1) 1 _ (awakeO w) (by omega) (by omega) (by omega) (by omega))
  go_enter Tryz.func7, Tryz.ntmps7
  go_wp2_with (first
    | (go_at_call 16; refine (HP.out _).mono ?_; rintro q w2 ⟨rfl, hb2⟩; have HB2 := Lib.hid hb2; clear hb2)
    | (go_at_call 10; refine (HF.out _).mono ?_; rintro q w3 ⟨v, rfl, hone, hb3⟩; obtain ⟨va, vc, rfl⟩ := owns_len hone; obtain ⟨g, rfl, -, -, hcs⟩ := debt_cells (L := [((1 : Int), (0 : Int), (6 : Int))]) hone (by simp); have HCS := Lib.hid (hcs 0 (by simp)); have HB3 := Lib.hid (below_trans (below_trans (below_trans HB2.out (below_alloc _ _)) (below_alloc _ _)) hb3); clear hone hcs hb3)
    | (go_at_call 12; obtain ⟨k0, k1, k2⟩ := cells3 (heap_new w3 (.cells #[.int .i64 1, .int .i64 0, .int .i64 6] 43)); refine (SameDebts_any g w3.heap.size vc 1 1 0 6 _ (below_cell (below_alloc _ _) HCS.out.1) (below_cell (below_alloc _ _) HCS.out.2.1) (below_cell (below_alloc _ _) HCS.out.2.2) k0 k1 k2).mono ?_; rintro q w4 ⟨rfl, hb4⟩; have HB4 := Lib.hid (below_trans (below_trans HB3.out (below_alloc _ _)) hb4); clear k0 k1 k2 hb4))
  go_ret
  exact ⟨rfl, HB4.out⟩
end Go.Proofs.YtemoepcfmpapoaaGreatDoor

/-
  palfreytop: TopResold, by contract.
-/
namespace Go.Proofs.YtemoepcfmpapoaaGreatDoor
open Go.RowKit Go.Proofs Go.Shelf
attribute [local go_sem] Oper.semAt_some

set_option maxRecDepth 100000
def TrueEnd (w : World) (e : Ending) (w' : World) : Prop := e = .returned (.bool true) ∧ Below w.heap.size w w'
theorem below_kept {n b : Nat} {w w1 w2 : World} (h : Below n w w1) (hk : Kept b w1 w2) (hn : n ≤ b) (hs : n ≤ w1.heap.size) : Below n w w2 :=
  ⟨hk.os.trans h.os, hk.tape.trans h.tape, hk.output.trans h.output, Nat.le_trans h.size hk.size, fun k hkn => (hk.block k (by omega) (by omega)).trans (h.block k hkn)⟩
theorem below_all {n : Nat} {w w1 w2 : World} (h : Below n w w1) (h2 : Below w1.heap.size w1 w2) (hs : n ≤ w.heap.size := by exact Nat.le_refl _) : Below n w w2 := ⟨h2.os.trans h.os, h2.tape.trans h.tape, h2.output.trans h.output, Nat.le_trans h.size h2.size, fun k hk => (h2.block k (Nat.lt_of_lt_of_le hk (Nat.le_trans hs h.size))).trans (h.block k hk)⟩
/-- The prices that were struck. -/
structure PR (b M : Nat) (w : World) (j t : Nat) (Ps : List Int) (v : Value) (wr : World) : Prop where
  len : Ps.length = j
  val : ∀ x ∈ Ps, 1 ≤ x ∧ x ≤ 9
  bag : Bag wr b t
  tt : t ≤ 12 * j + 1
  own : wr.ownsRow (b + 1) 3 1 v j (Ps.map (Value.int .i64))
  be : Below w.heap.size w wr
  sz : b + 1 ≤ wr.heap.size
theorem PR.kept {b M j t t' : Nat} {w wr w2 : World} {Ps : List Int} {v : Value} (h : PR b M w j t Ps v wr) (hb : b = w.heap.size) (hk : Kept b wr w2) : Below w.heap.size w w2 ∧ w2.ownsRow (b + 1) 3 1 v j (Ps.map (Value.int .i64)) ∧ b + 1 ≤ w2.heap.size :=
  ⟨below_kept h.be hk (by omega) (by have := h.sz; omega), owns_of_heap h.own fun k h1 h2 => hk.block k h2 (by omega), Nat.le_trans h.sz hk.size⟩
theorem PR.push {b M j t : Nat} {w wr w2 w3 w4 : World} {Ps : List Int} {v v' : Value} {p : Int} (h : PR b M w j t Ps v wr) (hb : b = w.heap.size) (hk : Kept b wr w2) (h3 : Below w2.heap.size w2 w3) (hg : w3.grownBy w4 v.ownBlock)
    (ho : w4.ownsRow (b + 1) 3 1 v' (j + 1) (Ps.map (Value.int .i64) ++ [.int .i64 p])) (hB : Bag w2 b (t + 12)) (hp : 1 ≤ p ∧ p ≤ 9) : PR b M w (j + 1) (t + 12) (Ps ++ [p]) v' w4 := by
  obtain ⟨hb2, ho2, hs2⟩ := h.kept (t' := 0) hb hk
  have hob : ∀ k, v.ownBlock = some k → b + 1 ≤ k := fun k hk => (h.own.lt k hk).1
  have hG : ∀ k, k < b + 1 → w4.heap[k]? = w2.heap[k]? := fun k hk =>
    (hg.block k (by have := h3.size; omega) (fun e => by have := hob k e.symm; omega)).trans (h3.block k (by omega))
  refine ⟨by simp [h.len], fun x hx => ?_, ?_, by have := h.tt; omega, by simpa using ho, ?_, by have := h3.size; have := hg.size; omega⟩
  · rcases List.mem_append.1 hx with hx | hx
    · exact h.val x hx
    · obtain rfl := List.mem_singleton.1 hx; exact hp
  · exact hB.same fun k hk => hG k (by omega)
  · exact ⟨(hg.os.trans h3.os).trans hb2.os, (hg.tape.trans h3.tape).trans hb2.tape, (hg.output.trans h3.output).trans hb2.output, by have := h3.size; have := hg.size; have := hb2.size; omega, fun k hk => (hG k (by omega)).trans (hb2.block k hk)⟩
/-- The prices lie in a block. -/
def PC (g M : Nat) (Ps : List Int) (w : World) : Prop := ∃ cur, w.heap[g]? = some (.cells cur 3 (0, 0)) ∧ M ≤ cur.size ∧ ∀ k, k < M → cur[k]? = some (.int .i64 (Ps[k]?.getD 0))
theorem PC.cell {g M : Nat} {Ps : List Int} {w : World} (h : PC g M Ps w) {k : Nat} (hk : k < M) : w.cell? ⟨g, k, none⟩ = some (.int .i64 (Ps[k]?.getD 0)) := by
  obtain ⟨cur, hh, _, hc⟩ := h
  simpa [World.cell?, hh] using hc k hk
theorem PC.free {g M : Nat} {Ps : List Int} {w : World} (h : PC g M Ps w) (k : Nat) : w.frozen? ⟨g, k, none⟩ = false := by
  obtain ⟨cur, hh, _⟩ := h
  simp [World.frozen?, hh]
theorem PC.heap {g M : Nat} {Ps : List Int} {w w' : World} (h : PC g M Ps w) (hs : w'.heap[g]? = w.heap[g]?) : PC g M Ps w' := by
  obtain ⟨cur, hh, r⟩ := h
  exact ⟨cur, hs.trans hh, r⟩
theorem pc_of_owns {w : World} {B M : Nat} {v : Value} {Ps : List Int} (h : w.ownsRow B 3 1 v M (Ps.map (Value.int .i64))) (hM : 1 ≤ M) (hl : Ps.length = M) : ∃ g c, v = .slice (some ⟨g, 0, none⟩) M c ∧ B ≤ g ∧ PC g M Ps w := by
  obtain ⟨_, h2⟩ := h
  rcases h2 with ⟨_, h0⟩ | ⟨g, cap, cur, hv, hg, hh, hn, hm, hs, ht⟩
  · omega
  · refine ⟨g, cap, hv, hg, cur, hh, by omega, fun k hk => ?_⟩
    have e : cur[k]? = (Ps.map (Value.int .i64))[k]? := by
      rw [← ht, List.getElem?_take, if_pos (by omega)]
      simp
    rw [e, List.getElem?_map, List.getElem?_eq_getElem (by omega)]
    simp
theorem netL_len (Ps : List Int) : (netL Ps).length = 5 := by simp [netL]
theorem net_cells {w : World} {v : Value} {Ps : List Int} {j : Nat} (h : Ints w v ((netL Ps).take (j + 1))) (hl : Ps.length = j) (hj : j ≤ 4) : ∃ nb off c, v = .slice (some ⟨nb, off, none⟩) (j + 1) c ∧ ∀ k, k ≤ j → w.cell? ⟨nb, off + k, none⟩ = some (.int .i64 (netAt Ps j k)) := by
  obtain ⟨a, cap, hv, hc⟩ := h
  have e : ((netL Ps).take (j + 1)).length = j + 1 := by rw [List.length_take, netL_len]; omega
  rw [e] at hv hc
  obtain ⟨nb, off, rfl, hcc⟩ := hc (by omega)
  refine ⟨nb, off, cap, hv, fun k hk => ?_⟩
  have := hcc k (by omega)
  rw [List.getElem?_take, if_pos (by omega)] at this
  rwa [netL_at Ps (by omega), hl] at this
theorem k_cases {k j : Nat} (h : k ≤ j) : k = 0 ∨ (∃ m, k = m + 1 ∧ m + 1 < j) ∨ ∃ m, k = m + 1 ∧ m + 1 = j := by
  cases k with
  | zero => exact .inl rfl
  | succ m =>
    rcases Nat.lt_or_ge (m + 1) j with h1 | h1
    · exact .inr (.inl ⟨m, rfl, h1⟩)
    · exact .inr (.inr ⟨m, rfl, by omega⟩)
theorem netAt_first (Ps : List Int) {j : Nat} (h : 1 ≤ j) : netAt Ps j 0 = Ps[0]?.getD 0 := by simp [netAt]; omega
theorem netAt_mid (Ps : List Int) {j m : Nat} (h : m + 1 < j) : netAt Ps j (m + 1) = Ps[m + 1]?.getD 0 - Ps[m]?.getD 0 := by
  unfold netAt
  rw [if_pos h, if_pos ⟨by omega, by omega⟩]
  rfl
theorem netAt_last (Ps : List Int) {j m : Nat} (h : m + 1 = j) : netAt Ps j (m + 1) = -Ps[m]?.getD 0 := by
  unfold netAt
  rw [if_neg (by omega), if_pos ⟨by omega, by omega⟩]
  simp
theorem PC.set {g M : Nat} {Qs : List Int} {w : World} (h : PC g M Qs w) (hl : Qs.length = M) {k : Nat} (hk : k < M) (p : Int) : PC g M (Qs.set k p) (w.setCell ⟨g, k, none⟩ (.int .i64 p)) := by
  obtain ⟨cur, hh, hs, hc⟩ := h
  refine ⟨_, heap_setCell_cells (i := k) hh _, by simpa using hs, fun m hm => ?_⟩
  by_cases e : m = k
  · subst e
    rw [Array.getElem?_setIfInBounds_self_of_lt (by omega), List.getElem?_set_self (by omega)]
    rfl
  · rw [Array.getElem?_setIfInBounds_ne (by omega), List.getElem?_set_ne (by omega)]
    exact hc m hm
set_option maxHeartbeats 6400000 in
theorem topResold_any (a : Option Addr) (len cap : Nat) (w : World) (h : ∀ j, j < len → ∃ nb off x, a = some ⟨nb, off, none⟩ ∧ nb < w.heap.size ∧ w.cell? ⟨nb, off + j, none⟩ = some (.int .i64 x)) :
    Calls Tryz.prog 3 #[.slice a len cap] w (TrueEnd w) := by
  obtain ⟨i0, hi, hz0, hz1, hz2⟩ := info_parts Tryz.infoInt
  have HNB := Lib.hid (newBag_any a len cap w h)
  have HAW := Lib.hid (fun w => resoldAwake_any w)
  clear h
  go_enter Tryz.func3, Tryz.ntmps3
  go_wp2_with (first
    | (go_at_call 4; refine HNB.out.mono ?_; rintro e w1 ⟨rfl, hB1, hbl1⟩; have HB1 := Lib.hid hB1; have HBL1 := Lib.hid hbl1; clear hB1 hbl1)
    | (go_at_call 5; refine (among_any w.heap.size 0 1 4 w1 HB1.out (by omega) (by omega) (by omega) (by omega) (by omega)).mono ?_; rintro e w2 ⟨r, hr1, hr2, rfl, hB2, hk2⟩; have HB2 := Lib.hid hB2; have HK2 := Lib.hid hk2; have HR := Lib.hid (And.intro hr1 hr2); clear hB2 hk2 hr1 hr2))
  obtain ⟨M, rfl⟩ : ∃ M : Nat, r = (M : Int) := ⟨r.toNat, by have := HR.out; omega⟩
  have HM : Hid (1 ≤ M ∧ M ≤ 4) := by have := HR.out; constructor <;> omega
  obtain ⟨b, hb⟩ : ∃ b, b = w.heap.size := ⟨_, rfl⟩
  rw [← hb] at HB2 HK2 HBL1 ⊢
  have HBE := Lib.hid hb
  clear HR HB1 hb
  have HST : Hid (PR b M w 0 1 [] (.slice none 0 0) w2) := by
    have hlt := HB2.out.lt
    have hk := HK2.out
    have hb1 := HBL1.out
    have hbe := HBE.out
    exact ⟨rfl, fun x hx => (by cases hx), HB2.out, by omega, (by simpa using World.ownsRow_nil w2 (b + 1) 3 1), ⟨hk.os.trans hb1.os, hk.tape.trans hb1.tape, hk.output.trans hb1.output, Nat.le_trans hb1.size hk.size, fun k hkn => (hk.block k (Nat.lt_of_lt_of_le hkn hb1.size) (by omega)).trans (hb1.block k (by omega))⟩, by omega⟩
  go_loopw [5, 6] (fun v i wr => ∃ (j t : Nat) (Ps : List Int), j ≤ M ∧ i = .int .i64 j ∧ PR b M w j t Ps v wr) (fun _ i _ => M - (intOf i).toNat)
  case atStart => exact ⟨0, 1, [], Nat.zero_le _, rfl, HST.out⟩
  case round =>
    obtain ⟨j, t, Ps, hj, rfl, hpr⟩ := hrel
    have HPR := Lib.hid hpr
    have HJ := Lib.hid hj
    by_cases hjm : (j : Int) < (M : Int)
    · have HJM := Lib.hid (show j < M by omega)
      have HSK := Lib.hid (struckOf_any b t wr hpr.bag (by have := hpr.tt; have := HM.out; omega))
      obtain ⟨va, vc, rfl⟩ := owns_len hpr.own
      clear hpr hj
      go_upto_region 8 with (go_at_call 6; refine HSK.out.mono ?_; rintro e w3 ⟨p, hp1, hp2, rfl, hB3, hk3⟩; have HB3 := Lib.hid hB3; have HK3 := Lib.hid hk3; have HP := Lib.hid (And.intro hp1 hp2); clear hB3 hk3 hp1 hp2)
      by_cases hq1 : p < 1
      · go_wp2_with (go_at_call 7; refine (HAW.out _).mono ?_; rintro e w4 ⟨rfl, hb4⟩; have HB4 := Lib.hid hb4; clear hb4)
        go_ret
        exact ⟨rfl, below_all (HPR.out.kept (t' := 0) HBE.out HK3.out).1 HB4.out⟩
      · by_cases hq2 : 9 < p
        · go_wp2_with (go_at_call 7; refine (HAW.out _).mono ?_; rintro e w4 ⟨rfl, hb4⟩; have HB4 := Lib.hid hb4; clear hb4)
          go_ret
          exact ⟨rfl, below_all (HPR.out.kept (t' := 0) HBE.out HK3.out).1 HB4.out⟩
        · have HO3 := Lib.hid (HPR.out.kept (t' := 0) HBE.out HK3.out)
          have hw1 : IntKind.i64.wrap ((j : Int) + 1) = (j : Int) + 1 := IntWalk.i64_in _ (by have := HM.out; omega)
          go_wp2_with (at_builtin; refine wpList_append_own _ rfl _ _ 22 rfl (b + 1) 3 i0 (.int .i64 0) 1 8 Tryz.underlying22 hi hz0 hz1 hz2 rfl (by decide) (.slice va j vc) j (Ps.map (Value.int .i64)) rfl (owns_below HO3.out.2.1 (below_alloc _ _)) ⟨_, 0, none⟩ 1 1 [.int .i64 p] rfl rfl (World.news_of_block (heap_at _ _ (by simp))) (fun u hu => by obtain rfl := List.mem_singleton.1 hu; rfl) ?c3 ?c4 ?c5 ?_)
          case c3 => have := HM.out; have := HJM.out; unfold maxLen; omega
          case c4 => have := HM.out; have := HJM.out; omega
          case c5 => have := HO3.out.2.2; simp; omega
          intro v' w4 hown' hgrow _
          have HPU := Lib.hid (HPR.out.push HBE.out HK3.out (below_alloc _ _) hgrow hown' HB3.out (p := p) (by omega))
          clear hown' hgrow
          go_wp2_with fail
          go_roundw
          case rel => exact ⟨j + 1, _, _, HJM.out, by go_num, HPU.out⟩
          case measure => simp only [intOf]; have := HJM.out; omega
    · obtain rfl : j = M := by omega
      obtain ⟨g, vc, rfl, hgb, hpc⟩ := pc_of_owns hpr.own HM.out.1 hpr.len
      have HPC := Lib.hid hpc
      have HGB := Lib.hid hgb
      have HLEN := Lib.hid hpr.len
      have hres := resold_any g vc Ps wr (by rw [hpr.len]; exact HM.out) hpr.val (by rw [hpr.len]; exact fun k hk => hpc.cell hk)
      rw [hpr.len] at hres
      have HRES := Lib.hid hres
      have hnet := fun pg pc dg dc w h => Net_any (Ps.length + 1) Ps pg pc dg dc w h
      unfold owV at hnet
      simp only [hpr.len] at hnet
      have HNET := Lib.hid hnet
      have hw0 : IntKind.i64.wrap ((j : Int) + 1) = (j : Int) + 1 := IntWalk.i64_in _ (by have := HM.out; omega)
      clear hpr hj hpc hgb hres hnet hjm
      go_wp2_with (first
        | (go_at_call 9; refine HRES.out.mono ?_; rintro e w5 ⟨pg, pc, dg, dc, rfl, how, hb5⟩; unfold owV; rw [HLEN.out] at how ⊢; have HOW := Lib.hid how; have HB5 := Lib.hid hb5; clear how hb5)
        | (go_at_call 8; refine (HNET.out _ _ _ _ _ HOW.out).mono ?_; rintro e w6 ⟨v6, rfl, hints, hb6⟩; obtain ⟨nb, off, ncap, rfl, hnc⟩ := net_cells hints HLEN.out (by have := HM.out; omega); have HNC := Lib.hid hnc; have HB6 := Lib.hid (below_trans HB5.out hb6); clear hints hnc hb6))
      have hP : ∀ k, k < j → w6.cell? ⟨g, k, none⟩ = some (.int .i64 (Ps[k]?.getD 0)) := fun k hk => below_cell HB6.out (HPC.out.cell hk)
      have HPP := Lib.hid hP
      have HPB : Hid (∀ k, k < j → 1 ≤ Ps[k]?.getD 0 ∧ Ps[k]?.getD 0 ≤ 9) := fun k hk => by
        rw [List.getElem?_eq_getElem (by have := HLEN.out; omega)]
        exact HPR.out.val _ (List.getElem_mem _)
      clear hP
      go_loopw [11] (fun i wq => ∃ k : Nat, k ≤ j + 1 ∧ i = .int .i64 k ∧ wq = w6) (fun i _ => j + 1 - (intOf i).toNat)
      case atStart => exact ⟨0, by omega, rfl, rfl⟩
      case round =>
        obtain ⟨k, hk, rfl, rfl⟩ := hrel
        have hw1 : IntKind.i64.wrap ((k : Int) + 1) = (k : Int) + 1 := IntWalk.i64_in _ (by have := HM.out; omega)
        by_cases hkj : (k : Int) ≤ (j : Int)
        · have hn := HNC.out k (by omega)
          have HK := Lib.hid hk
          rcases k_cases (show k ≤ j by omega) with rfl | ⟨m, rfl, hm⟩ | ⟨m, rfl, hm⟩
          · have h0 := HPP.out 0 (by have := HM.out; omega)
            rw [netAt_first Ps HM.out.1, Nat.add_zero] at hn
            obtain ⟨p0, hp0⟩ : ∃ p0, Ps[0]?.getD 0 = p0 := ⟨_, rfl⟩
            rw [hp0] at hn h0
            have hj0 : (0 : Int) < (j : Int) := by have := HM.out; omega
            clear hp0 hk
            go_wp2_with fail
            go_roundw
            case rel => exact ⟨1, by omega, by go_num, trivial⟩
            case measure => simp only [intOf]; omega
          · have h0 := HPP.out (m + 1) hm
            have h1 := HPP.out m (by omega)
            have hb0 := HPB.out (m + 1) hm
            have hb1 := HPB.out m (by omega)
            rw [netAt_mid Ps hm] at hn
            obtain ⟨p0, hp0⟩ : ∃ p0, Ps[m + 1]?.getD 0 = p0 := ⟨_, rfl⟩
            obtain ⟨p1, hp1⟩ : ∃ p1, Ps[m]?.getD 0 = p1 := ⟨_, rfl⟩
            rw [hp0] at hn h0 hb0
            rw [hp1] at hn h1 hb1
            have hw2 : IntKind.i64.wrap (p0 - p1) = p0 - p1 := IntWalk.i64_in _ (by omega)
            have hw3 : IntKind.i64.wrap (m : Int) = m := IntWalk.i64_in _ (by have := HM.out; omega)
            have hmj : (m : Int) + 1 < (j : Int) := by omega
            have hmj' : (m : Int) < (j : Int) := by omega
            have hm0 : (0 : Int) < (m : Int) + 1 := by omega
            have hw4 : IntKind.i64.wrap ((m : Int) + 1 + 1) = (m : Int) + 1 + 1 := IntWalk.i64_in _ (by have := HM.out; omega)
            clear hp0 hp1 hk hb0 hb1 hw1
            go_wp2_with fail
            go_roundw
            case rel => exact ⟨m + 1 + 1, by omega, by go_num, trivial⟩
            case measure => simp only [intOf]; omega
          · have h1 := HPP.out m (by omega)
            have hb1 := HPB.out m (by omega)
            rw [netAt_last Ps hm] at hn
            obtain ⟨p1, hp1⟩ : ∃ p1, Ps[m]?.getD 0 = p1 := ⟨_, rfl⟩
            rw [hp1] at hn h1 hb1
            have hw2 : IntKind.i64.wrap (-p1) = -p1 := IntWalk.i64_in _ (by omega)
            have hw3 : IntKind.i64.wrap (m : Int) = m := IntWalk.i64_in _ (by have := HM.out; omega)
            have hmj : ¬ ((m : Int) + 1 < (j : Int)) := by omega
            have hmj' : (m : Int) < (j : Int) := by omega
            have hm0 : (0 : Int) < (m : Int) + 1 := by omega
            have hw4 : IntKind.i64.wrap ((m : Int) + 1 + 1) = (m : Int) + 1 + 1 := IntWalk.i64_in _ (by have := HM.out; omega)
            have hmj2 : (m : Int) + 1 ≤ (j : Int) := by omega
            have HMJ := Lib.hid hm
            clear hp1 hk hb1 hw1 hm hkj
            go_wp2_with fail
            go_roundw
            case rel => exact ⟨m + 1 + 1, by omega, by go_num, trivial⟩
            case measure => simp only [intOf]; omega
        · obtain rfl : k = j + 1 := by omega
          have HW6 : Hid (PC g j Ps wr) := Lib.hid (HPC.out.heap (HB6.out.block g (Array.getElem?_eq_some_iff.1 HPC.out.choose_spec.1).1))
          have HBW : Hid (Below w.heap.size w wr) := Lib.hid (below_all HPR.out.be HB6.out)
          have HGW : Hid (w.heap.size ≤ g) := Lib.hid (by have := HGB.out; have := HBE.out; omega)
          obtain ⟨P, hP0⟩ : ∃ P, Ps[0]?.getD 0 = P := ⟨_, rfl⟩
          have HPB0 : Hid (1 ≤ P ∧ P ≤ 9) := Lib.hid (by rw [← hP0]; exact HPB.out 0 (by have := HM.out; omega))
          have HP0 := Lib.hid hP0
          clear hk hw1 hP0 HPB HPP HNC HNET HRES HB5 HOW HB6 HST HK2 HBL1 HB2 hi hz0 hz1 hz2
          go_wp2_with fail
          go_loopw [13] (fun i wq => ∃ (k : Nat) (Qs : List Int), 1 ≤ k ∧ k ≤ j ∧ i = .int .i64 k ∧ PC g j Qs wq ∧ Qs.length = j ∧ (∀ m, m < k → Qs[m]?.getD 0 = P) ∧ Below w.heap.size w wq) (fun i _ => j - (intOf i).toNat)
          case atStart => exact ⟨1, Ps, Nat.le_refl _, HM.out.1, rfl, HW6.out, HLEN.out, fun m hm => by obtain rfl : m = 0 := (by omega); exact HP0.out, HBW.out⟩
          case round =>
            obtain ⟨k, Qs, hk1, hk2, rfl, hpc, hql, hqp, hbq⟩ := hrel
            have HPCQ := Lib.hid hpc
            have HQ := Lib.hid (And.intro hql (And.intro hqp hbq))
            by_cases hkj2 : (k : Int) < (j : Int)
            · have h0 := hpc.cell (k := 0) (by have := HM.out; omega)
              rw [hqp 0 (by omega)] at h0
              have h1 := hpc.cell (k := k) (by omega)
              have f1 := hpc.free k
              have hj0 : (0 : Int) < (j : Int) := by have := HM.out; omega
              have hw1 : IntKind.i64.wrap ((k : Int) + 1) = (k : Int) + 1 := IntWalk.i64_in _ (by have := HM.out; omega)
              have HK := Lib.hid (show 1 ≤ k ∧ k < j by omega)
              clear hpc hql hqp hbq hk1 hk2
              go_wp2_with fail
              go_roundw
              case rel =>
                obtain ⟨hql, hqp, hbq⟩ := HQ.out
                have hk := HK.out
                refine ⟨k + 1, Qs.set k P, by omega, by omega, by go_num, HPCQ.out.set hql hk.2 P, by simp [hql], fun m hm => ?_, below_setCells HGW.out [.int .i64 P] k hbq⟩
                by_cases e : m = k
                · subst e
                  rw [List.getElem?_set_self (by omega)]
                  rfl
                · rw [List.getElem?_set_ne (by omega)]
                  exact hqp m (by omega)
              case measure => simp only [intOf]; have := HK.out; omega
            · obtain rfl : j = k := by omega
              obtain rfl : Qs = List.replicate j P := by
                refine List.ext_getElem (by simp [hql]) fun m h1 h2 => ?_
                have := hqp m (by omega)
                rw [List.getElem?_eq_getElem h1] at this
                simpa using this
              have hres := resold_any g vc (List.replicate j P) wr (by simpa using HM.out) (fun x hx => by rw [List.eq_of_mem_replicate hx]; exact HPB0.out) (by simpa using fun k hk => hpc.cell hk)
              rw [List.length_replicate] at hres
              have HRES := Lib.hid hres
              have hfw := fun pg pc dg dc w h => Fewest_any j P pg pc dg dc w h HM.out.1 HM.out.2 HPB0.out.1 HPB0.out.2
              have hct := fun pg pc dg dc w h => Count_any j P pg pc dg dc w h HM.out.1 HM.out.2 HPB0.out.1 HPB0.out.2
              have hvd := fun pg pc dg dc x y w h hx hy hxy => Verdict_any j P pg pc dg dc x y w h HM.out.1 HM.out.2 HPB0.out.1 HPB0.out.2 hx hy hxy
              unfold owV at hfw hct hvd
              simp only [List.length_replicate] at hfw hct hvd
              have HFW := Lib.hid hfw
              have HCT := Lib.hid hct
              have HVD := Lib.hid hvd
              have hpj := hpc.cell (k := 0) HM.out.1
              rw [hqp 0 HM.out.1] at hpj
              have HPJ := Lib.hid hpj
              have hj0 : (0 : Int) < (j : Int) := by have := HM.out; omega
              clear hpc hql hqp hbq hk1 hk2 hres hfw hct hvd hpj hkj2 HPCQ HP0 HPC HW6 HBW
              go_wp2_with (first
                | (go_at_call 9; refine HRES.out.mono ?_; rintro e w8 ⟨pg, pc, dg, dc, rfl, how, hb8⟩; unfold owV; simp only [List.length_replicate] at how ⊢; have HOW := Lib.hid how; have HB8 := Lib.hid hb8; clear how hb8)
                | (go_at_call 10; refine (HFW.out _ _ _ _ _ (HOW.out.below (below_alloc _ _))).mono ?_; rintro e w10 ⟨v, rfl, hone, hb10⟩; obtain ⟨va, vd, rfl⟩ := owns_len hone; obtain ⟨dg2, rfl, -, -, hcs⟩ := debt_cells (L := [((j : Int), (0 : Int), P)]) hone (by simp); have HCS := Lib.hid (hcs 0 (by simp)); obtain ⟨x0, x1⟩ := ow_cells (below_heap hb10 (heap_new w8 _)); have HB10 := Lib.hid (below_trans (below_alloc w8 _) hb10); clear hone hcs hb10)
                | (go_at_call 11; refine (HCT.out _ _ _ _ _ (HOW.out.below HB10.out)).mono ?_; rintro e w11 ⟨v, rfl, rfl, hb11⟩; have y0 := below_cell hb11 x0; have y1 := below_cell hb11 x1; have hp0 := below_cell (below_trans (below_trans HB8.out HB10.out) hb11) HPJ.out; have HB11 := Lib.hid hb11; clear hb11 x0 x1)
                | (go_at_call 12; obtain ⟨q0, q1, q2⟩ := cells3 (heap_new w11 (.cells #[.int .i64 j, .int .i64 0, .int .i64 P] 43)); have HX := Lib.hid (below_trans HB11.out (below_alloc w11 (.cells #[.int .i64 j, .int .i64 0, .int .i64 P] 43))); refine (SameDebts_any dg2 w11.heap.size vd 1 j 0 P _ (below_cell HX.out HCS.out.1) (below_cell HX.out HCS.out.2.1) (below_cell HX.out HCS.out.2.2) q0 q1 q2).mono ?_; rintro e w13 ⟨rfl, hb13⟩; have z0 := below_cell hb13 (below_cell (below_alloc w11 (.cells #[.int .i64 j, .int .i64 0, .int .i64 P] 43)) y0); have z1 := below_cell hb13 (below_cell (below_alloc w11 (.cells #[.int .i64 j, .int .i64 0, .int .i64 P] 43)) y1); have HB13 := Lib.hid (below_trans (below_trans HB10.out HX.out) hb13); clear hb13 y0 y1 q0 q1 q2))
              have HZ := Lib.hid (And.intro z0 z1)
              have HBZ : Hid (Below w.heap.size w w13) := Lib.hid (below_all (below_all HQ.out.2.2 HB8.out) HB13.out)
              have HOZ := Lib.hid (HOW.out.below HB13.out)
              clear z0 z1 hp0
              go_loopw [18] (fun i wq => ∃ k : Nat, k ≤ j + 1 ∧ i = .int .i64 k ∧ Below w13.heap.size w13 wq) (fun i _ => j + 1 - (intOf i).toNat)
              case atStart => exact ⟨0, by omega, rfl, Below.refl _ _⟩
              case round =>
                obtain ⟨x, hx, rfl, hbx⟩ := hrel
                have HBX := Lib.hid hbx
                have hw1 : IntKind.i64.wrap ((x : Int) + 1) = (x : Int) + 1 := IntWalk.i64_in _ (by have := HM.out; omega)
                by_cases hxj : (x : Int) ≤ (j : Int)
                · have HXJ := Lib.hid (show x ≤ j by omega)
                  clear hx hbx
                  go_wp2_with fail
                  go_loopw [19] (fun i wq => ∃ k : Nat, k ≤ j + 1 ∧ i = .int .i64 k ∧ Below w13.heap.size w13 wq) (fun i _ => j + 1 - (intOf i).toNat)
                  case atStart => exact ⟨0, by omega, rfl, HBX.out⟩
                  case round =>
                    obtain ⟨y, hy, rfl, hby⟩ := hrel
                    have HBY := Lib.hid hby
                    have hw2 : IntKind.i64.wrap ((y : Int) + 1) = (y : Int) + 1 := IntWalk.i64_in _ (by have := HM.out; omega)
                    by_cases hyj : (y : Int) ≤ (j : Int)
                    · have HYJ := Lib.hid (show y ≤ j by omega)
                      obtain ⟨z0, z1⟩ := And.intro (below_cell hby HZ.out.1) (below_cell hby HZ.out.2)
                      have HOY := Lib.hid (HOZ.out.below hby)
                      clear hy hby
                      by_cases hxy : x = y
                      · subst hxy
                        go_wp2_with fail
                        go_roundw
                        case rel => exact ⟨x + 1, by have := HYJ.out; omega, by go_num, HBY.out⟩
                        case measure => simp only [intOf]; have := HYJ.out; omega
                      · by_cases h1 : x = j
                        · obtain rfl : j = x := h1.symm
                          by_cases h2 : y = 0
                          · subst h2
                            have hv : (if isPay (j : Int) ((0 : Nat) : Int) ((j : Int), 0, P) then (1 : Int) else 2) = 1 := by simp [isPay]
                            have hcall := HVD.out pg pc dg dc j 0 wr HOY.out HXJ.out HYJ.out hxy
                            rw [hv] at hcall
                            rw [show ((0 : Nat) : Int) = 0 from rfl] at hcall
                            have HCALL := Lib.hid hcall
                            have HXY := Lib.hid hxy
                            clear hv hcall
                            go_wp2_with (go_at_call 13; (with_reducible refine HCALL.out.mono ?_); rintro e w15 ⟨v, rfl, rfl, hb15⟩; have HB15 := Lib.hid hb15; clear hb15)
                            go_roundw
                            case rel => exact ⟨0 + 1, by have := HYJ.out; omega, by go_num, below_all HBY.out HB15.out⟩
                            case measure => simp only [intOf]; have := HYJ.out; omega
                          · skip
                            have hv : (if isPay (j : Int) (y : Int) ((j : Int), 0, P) then (1 : Int) else 2) = 2 := by simp [isPay]; omega
                            have hcall := HVD.out pg pc dg dc j y wr HOY.out HXJ.out HYJ.out hxy
                            rw [hv] at hcall
                            have HCALL := Lib.hid hcall
                            have HXY := Lib.hid hxy
                            clear hv hcall
                            go_wp2_with (go_at_call 13; (with_reducible refine HCALL.out.mono ?_); rintro e w15 ⟨v, rfl, rfl, hb15⟩; have HB15 := Lib.hid hb15; clear hb15)
                            go_roundw
                            case rel => exact ⟨y + 1, by have := HYJ.out; omega, by go_num, below_all HBY.out HB15.out⟩
                            case measure => simp only [intOf]; have := HYJ.out; omega
                        · skip
                          have hv : (if isPay (x : Int) (y : Int) ((j : Int), 0, P) then (1 : Int) else 2) = 2 := by simp [isPay]; omega
                          have hcall := HVD.out pg pc dg dc x y wr HOY.out HXJ.out HYJ.out hxy
                          rw [hv] at hcall
                          have HCALL := Lib.hid hcall
                          have HXY := Lib.hid hxy
                          clear hv hcall
                          go_wp2_with (go_at_call 13; (with_reducible refine HCALL.out.mono ?_); rintro e w15 ⟨v, rfl, rfl, hb15⟩; have HB15 := Lib.hid hb15; clear hb15)
                          go_roundw
                          case rel => exact ⟨y + 1, by have := HYJ.out; omega, by go_num, below_all HBY.out HB15.out⟩
                          case measure => simp only [intOf]; have := HYJ.out; omega
                    · clear hy hby
                      go_wp2_with fail
                      go_roundw
                      case rel => exact ⟨x + 1, by have := HXJ.out; omega, by go_num, HBY.out⟩
                      case measure => simp only [intOf]; have := HXJ.out; omega
                · clear hx hbx
                  go_wp2_with (go_at_call 7; refine (HAW.out _).mono ?_; rintro e w16 ⟨rfl, hb16⟩; have HB16 := Lib.hid hb16; clear hb16)
                  go_ret
                  exact ⟨rfl, below_all (below_all HBZ.out HBX.out) HB16.out⟩
end Go.Proofs.YtemoepcfmpapoaaGreatDoor
