/-
  debt: the owing at work, and the net of each person; by contract.
-/
import Derived.Test.YtemoepcfmpapoaaGreatDoorMRNets
import Derived.Lib.SliceRun
namespace Go.Proofs.YtemoepcfmpapoaaGreatDoor
open Go.RowKit Go.Proofs Go.Shelf
attribute [local go_sem] Oper.semAt_some

set_option maxRecDepth 100000
theorem netL_at (Ps : List Int) {i : Nat} (hi : i < 5) : (netL Ps)[i]?.getD 0 = netAt Ps Ps.length i := by
  unfold netL
  simp [hi]
def WorkEnd2 (n : Nat) (Ps : List Int) (w : World) (e : Ending) (w' : World) : Prop := ∃ Dw, e = .returned (.pointer (some ⟨Dw, 0, none⟩)) ∧ WkD Dw n (netL Ps) w' ∧ Below w.heap.size w w'
set_option maxHeartbeats 3200000 in
theorem dnewWork_any (n : Nat) (Ps : List Int) (pg pc dg dc : Nat) (w : World) (h : OwB n Ps pg pc dg dc w) : Calls Tryz.prog 40 #[owV n Ps pg pc dg dc] w (WorkEnd2 n Ps w) := by
  have HNT := Lib.hid (fun w' (hb : Below w.heap.size w w') => netsOf_any n Ps pg pc dg dc w' (h.below hb))
  obtain ⟨x0, hx0⟩ : ∃ x, netAt Ps Ps.length 0 = x := ⟨_, rfl⟩
  obtain ⟨x1, hx1⟩ : ∃ x, netAt Ps Ps.length 1 = x := ⟨_, rfl⟩
  obtain ⟨x2, hx2⟩ : ∃ x, netAt Ps Ps.length 2 = x := ⟨_, rfl⟩
  obtain ⟨x3, hx3⟩ : ∃ x, netAt Ps Ps.length 3 = x := ⟨_, rfl⟩
  obtain ⟨x4, hx4⟩ : ∃ x, netAt Ps Ps.length 4 = x := ⟨_, rfl⟩
  have HNL : Hid (∀ i, i < 5 → (.int .i64 ((netL Ps)[i]?.getD 0) : Value) = (#[.int .i64 x0, .int .i64 x1, .int .i64 x2, .int .i64 x3, .int .i64 x4] : Array Value)[i]?.getD undef) := fun i hi => by
    rw [netL_at Ps hi]
    rcases (by omega : i = 0 ∨ i = 1 ∨ i = 2 ∨ i = 3 ∨ i = 4) with rfl | rfl | rfl | rfl | rfl
    · rw [hx0]; rfl
    · rw [hx1]; rfl
    · rw [hx2]; rfl
    · rw [hx3]; rfl
    · rw [hx4]; rfl
  unfold nets5 at HNT
  rw [hx0, hx1, hx2, hx3, hx4] at HNT
  obtain ⟨L, hL⟩ : ∃ L, Ps.length = L := ⟨_, rfl⟩
  unfold owV
  rw [hL] at HNT ⊢
  clear h hx0 hx1 hx2 hx3 hx4 hL
  obtain ⟨W0, hW0⟩ : ∃ W0, w.alloc (.cells #[.slice (some ⟨pg, 0, none⟩) n pc, .slice (some ⟨dg, 0, none⟩) L dc] 35) = W0 := ⟨_, rfl⟩
  have hb0 : Below w.heap.size w W0 := by rw [← hW0]; exact below_alloc _ _
  obtain ⟨c0, c1⟩ := ow_cells (show W0.heap[w.heap.size]? = some (.cells #[.slice (some ⟨pg, 0, none⟩) n pc, .slice (some ⟨dg, 0, none⟩) L dc] 35 (0, 0)) by rw [← hW0]; exact heap_new w _)
  have HB0 := Lib.hid hb0
  have l0 : w.heap.size < W0.heap.size := World.block_lt_of_cell? _ _ c0
  clear hb0
  go_enter Tryz.func40, Tryz.ntmps40
  go_upto_region 1 with fail
  clear hW0
  have toS : ∀ u : World, Below W0.heap.size W0 u → (u.cell? ⟨w.heap.size, 0, none⟩ = W0.cell? ⟨w.heap.size, 0, none⟩ ∧ u.cell? ⟨w.heap.size, 1, none⟩ = W0.cell? ⟨w.heap.size, 1, none⟩) := fun u h => ⟨h.cell l0, h.cell l0⟩
  refine wp_region_late (fun w' : World => w'.cell? ⟨w.heap.size, 0, none⟩ = W0.cell? ⟨w.heap.size, 0, none⟩ ∧ w'.cell? ⟨w.heap.size, 1, none⟩ = W0.cell? ⟨w.heap.size, 1, none⟩) (fun i => false) (by kernel_rfl) ?_
  have hd9 : Below W0.heap.size W0 W0.drew := (Below.refl _ W0).drew
  have hS := toS _ hd9
  obtain ⟨wd, hwd⟩ : ∃ x, x = W0.drew := ⟨_, rfl⟩
  rw [← hwd] at hS hd9 ⊢
  have HWD := Lib.hid hwd
  clear hwd
  refine late_take (i := 0) (v := ?_) (by simp only [List.getElem?_toArray, List.getElem?_cons_zero, List.getElem?_cons_succ]; exact rfl) (by kernel_rfl) (by kernel_rfl) (by exact fun _ _ _ h => h) 6 _ _ _ (by kernel_rfl) (List.mem_of_elem_eq_true (by kernel_rfl)) (Or.inl ⟨by rfl, ?_⟩) hS ?_
  rotate_left
  · intro w9 hw9
    try dsimp only at hw9
    obtain ⟨hw0, hw1⟩ := hw9
    go_simp
    try with_reducible rfl
  try simp only [Act.put, List.setIfInBounds_toArray, List.set_cons_zero, List.set_cons_succ]
  refine late_take (i := 1) (v := ?_) (by simp only [List.getElem?_toArray, List.getElem?_cons_zero, List.getElem?_cons_succ]; exact rfl) (by kernel_rfl) (by kernel_rfl) (by exact fun _ _ _ h => h) 5 _ _ _ (by kernel_rfl) (List.mem_of_elem_eq_true (by kernel_rfl)) (Or.inl ⟨by rfl, ?_⟩) hS ?_
  rotate_left
  · intro w9 hw9
    try dsimp only at hw9
    obtain ⟨hw0, hw1⟩ := hw9
    go_simp
    try with_reducible rfl
  try simp only [Act.put, List.setIfInBounds_toArray, List.set_cons_zero, List.set_cons_succ]
  refine late_take (i := 2) (v := ?_) (by simp only [List.getElem?_toArray, List.getElem?_cons_zero, List.getElem?_cons_succ]; exact rfl) (by kernel_rfl) (by kernel_rfl) (by exact fun _ _ _ h => h) 4 _ _ _ (by kernel_rfl) (List.mem_of_elem_eq_true (by kernel_rfl)) (Or.inl ⟨by rfl, ?_⟩) hS ?_
  rotate_left
  · intro w9 hw9
    try dsimp only at hw9
    obtain ⟨hw0, hw1⟩ := hw9
    go_simp
    try with_reducible rfl
  try simp only [Act.put, List.setIfInBounds_toArray, List.set_cons_zero, List.set_cons_succ]
  refine late_one (i := 3) (by kernel_rfl) (by simp only [List.getElem?_toArray, List.getElem?_cons_zero, List.getElem?_cons_succ]; exact rfl) (by rfl) ?_
  intro K hK
  go_simp
  refine (HNT.out _ (below_trans HB0.out hd9)).mono ?_
  rintro e w2 ⟨rfl, hb2⟩
  dsimp only
  have hk2 := below_trans hd9 hb2
  refine hK _ _ (fun _ => toS _ hk2) ?_
  clear hK K hb2
  try simp only [Act.put, List.setIfInBounds_toArray, List.set_cons_zero, List.set_cons_succ]
  refine late_one (i := 4) (by kernel_rfl) (by simp only [List.getElem?_toArray, List.getElem?_cons_zero, List.getElem?_cons_succ]; exact rfl) (by rfl) ?_
  intro K hK
  go_simp
  refine hK _ _ (fun _ => toS _ hk2) ?_
  clear hK K
  try simp only [Act.put, List.setIfInBounds_toArray, List.set_cons_zero, List.set_cons_succ]
  refine late_one (i := 5) (by kernel_rfl) (by simp only [List.getElem?_toArray, List.getElem?_cons_zero, List.getElem?_cons_succ]; exact rfl) (by rfl) ?_
  intro K hK
  go_simp
  refine hK _ _ (fun _ => toS _ (below_trans hk2 (below_alloc w2 _))) ?_
  clear hK K
  try simp only [Act.put, List.setIfInBounds_toArray, List.set_cons_zero, List.set_cons_succ]
  refine late_one (i := 6) (by kernel_rfl) (by simp only [List.getElem?_toArray, List.getElem?_cons_zero, List.getElem?_cons_succ]; exact rfl) (by rfl) ?_
  intro K hK
  go_simp
  refine hK _ _ (fun _ => toS _ (below_trans hk2 (below_alloc w2 _))) ?_
  clear hK K
  try simp only [Act.put, List.setIfInBounds_toArray, List.set_cons_zero, List.set_cons_succ]
  refine late_done (by kernel_rfl) ?_ _
  have HK2 := Lib.hid (below_trans HB0.out hk2)
  clear hS toS hk2 hd9 c0 c1
  go_wp2
  go_ret
  have hh := heap_new w2 (.cells #[.slice (some ⟨pg, 0, none⟩) n pc, .slice (some ⟨dg, 0, none⟩) L dc, .int .i64 x0, .int .i64 x1, .int .i64 x2, .int .i64 x3, .int .i64 x4] 65)
  have hb9 := below_trans HK2.out (below_alloc w2 (.cells #[.slice (some ⟨pg, 0, none⟩) n pc, .slice (some ⟨dg, 0, none⟩) L dc, .int .i64 x0, .int .i64 x1, .int .i64 x2, .int .i64 x3, .int .i64 x4] 65))
  generalize w2.alloc _ = W9 at *
  refine ⟨w2.heap.size, rfl, ⟨⟨some ⟨pg, 0, none⟩, pc, by simp [World.cell?, hh]⟩, fun i hi => ?_⟩, hb9⟩
  rw [HNL.out i hi]
  rcases (by omega : i = 0 ∨ i = 1 ∨ i = 2 ∨ i = 3 ∨ i = 4) with rfl | rfl | rfl | rfl | rfl <;> simp [World.cell?, hh]

theorem addr_add (b o j : Nat) : (⟨b, o, none⟩ : Addr).add j = ⟨b, o + j, none⟩ := by
  cases j <;> simp [Addr.add]
def CloneEnd (P : List Int) (w : World) (e : Ending) (w' : World) : Prop := ∃ v, e = .returned v ∧ Ints w' v P ∧ Below w.heap.size w w'
set_option maxHeartbeats 1600000 in
theorem clone_any (H off cap : Nat) (P : List Int) (w : World) (hn : P.length ≤ 100) (h1 : 1 ≤ P.length) (hc : ∀ j, j < P.length → w.cell? ⟨H, off + j, none⟩ = some (.int .i64 (P[j]?.getD 0))) :
    Calls Tryz.prog 19 #[.slice (some ⟨H, off, none⟩) P.length cap] w (CloneEnd P w) := by
  obtain ⟨i0, hi, hz0, hz1, hz2⟩ := info_parts Tryz.infoInt
  have hnil := fun w => Lib.run_eql_slice_nil (P := Tryz.prog) (w := w)
  have hown := World.ownsRow_lit (base := w.heap.size) (e := 3) (size := 1) w #[] 0 (Nat.le_refl _) (by unfold maxLen; omega) (by rfl)
  have hlen : (P.map (Value.int .i64)).length = P.length * 1 := by simp
  have hnews : ∀ j u, (P.map (Value.int .i64))[j]? = some u → (w.alloc (.cells #[] 3)).cell? ((⟨H, off, none⟩ : Addr).add j) = some u := by
    intro j u hj
    have hjl : j < P.length := by
      have := (List.getElem?_eq_some_iff.1 hj).1
      rw [hlen] at this; omega
    rw [addr_add, below_cell (below_alloc w _) (hc j hjl)]
    simp only [List.getElem?_map, List.getElem?_eq_getElem hjl, Option.map_some, Option.some.injEq] at hj
    subst hj
    simp [hjl]
  have hcells : ∀ u ∈ P.map (Value.int .i64), u.oneCell' = true := by
    intro u hu
    obtain ⟨z, _, rfl⟩ := List.mem_map.1 hu
    rfl
  have HN := Lib.hid hnews
  have HC := Lib.hid hcells
  have HO := Lib.hid hown
  obtain ⟨Ln, hLn⟩ : ∃ Ln, P.length = Ln := ⟨_, rfl⟩
  have HLN := Lib.hid hLn
  rw [hLn] at hlen hn h1 ⊢
  clear hnews hcells hown hc hLn
  go_enter Tryz.func19, Tryz.ntmps19
  go_wp2_with (at_builtin; refine wpList_append_own _ rfl _ _ 22 rfl w.heap.size 3 i0 (.int .i64 0) 1 8 Tryz.underlying22 hi hz0 hz1 hz2 rfl (by decide) _ _ _ rfl HO.out ⟨H, off, none⟩ Ln cap _ rfl hlen HN.out HC.out ?c3 ?c4 ?c5 ?_)
  case c3 => unfold maxLen; omega
  case c4 => omega

  intro v' w3 hown' hgrow _
  obtain ⟨va, vc, rfl⟩ := owns_len hown'
  have HO3 := Lib.hid hown'
  have HG3 := Lib.hid hgrow
  clear hown' hgrow
  go_wp2
  go_ret
  refine ⟨_, rfl, ints_of_owns (base := w.heap.size) (T := 3) ?_, ((below_alloc w _).grown HG3.out (by simp) (fun j hj => (HO.out.lt j hj).1))⟩
  have := HO3.out
  simpa [HLN.out] using this

def NetEnd (n : Nat) (Ps : List Int) (w : World) (e : Ending) (w' : World) : Prop := ∃ v, e = .returned (.tuple #[v, .nilIface]) ∧ Ints w' v ((netL Ps).take n) ∧ Below w.heap.size w w'
set_option maxHeartbeats 3200000 in
theorem net1_any (Dw n : Nat) (Ps : List Int) (w : World) (hW : WkD Dw n (netL Ps) w) (hn : 2 ≤ n ∧ n ≤ 5) : Calls Tryz.prog 18 #[.pointer (some ⟨Dw, 0, none⟩)] w (NetEnd n Ps w) := by
  obtain ⟨pa, pc, c0⟩ := hW.pu
  have l0 : Dw < w.heap.size := World.block_lt_of_cell? _ _ c0
  have hlt : ((netL Ps).take n).length = n := by simp [netL]; omega
  have HCL : Hid (∀ w', Below w.heap.size w w' → Calls Tryz.prog 19 #[.slice (some ⟨Dw, 2, none⟩) n 5] w' (CloneEnd ((netL Ps).take n) w')) := fun w' hb => by
    have := clone_any Dw 2 5 ((netL Ps).take n) w' (by omega) (by omega) fun j hj => by
      rw [below_cell hb (hW.nt j (by omega)), List.getElem?_take, if_pos (by omega)]
    rwa [hlt] at this
  have hn0 : (0 : Int) ≤ (n : Int) := by omega
  have hn5 : (n : Int) ≤ 5 := by omega
  have hn5' : n ≤ 5 := hn.2
  clear hW hlt
  go_enter Tryz.func18, Tryz.ntmps18
  go_upto_region 1 with fail
  have toS : ∀ u : World, Below w.heap.size w u → (u.cell? ⟨Dw, 0, none⟩ = w.cell? ⟨Dw, 0, none⟩) := fun u h => h.cell l0
  refine wp_region_late (fun w' : World => w'.cell? ⟨Dw, 0, none⟩ = w.cell? ⟨Dw, 0, none⟩) (fun i => false) (by kernel_rfl) ?_
  have hd9 : Below w.heap.size w w.drew := (Below.refl _ w).drew
  have hS := toS _ hd9
  obtain ⟨wd, hwd⟩ : ∃ x, x = w.drew := ⟨_, rfl⟩
  rw [← hwd] at hS hd9 ⊢
  have HWD := Lib.hid hwd
  clear hwd
  refine late_take (i := 0) (v := ?_) (by simp only [List.getElem?_toArray, List.getElem?_cons_zero, List.getElem?_cons_succ]; exact rfl) (by kernel_rfl) (by kernel_rfl) (by exact fun _ _ _ h => h) 12 _ _ _ (by kernel_rfl) (List.mem_of_elem_eq_true (by kernel_rfl)) (Or.inl ⟨by rfl, ?_⟩) hS ?_
  rotate_left
  · intro w9 hw9
    try dsimp only at hw9
    go_simp
    try with_reducible rfl
  try simp only [Act.put, List.setIfInBounds_toArray, List.set_cons_zero, List.set_cons_succ]
  refine late_take (i := 1) (v := ?_) (by simp only [List.getElem?_toArray, List.getElem?_cons_zero, List.getElem?_cons_succ]; exact rfl) (by kernel_rfl) (by kernel_rfl) (by exact fun _ _ _ h => h) 11 _ _ _ (by kernel_rfl) (List.mem_of_elem_eq_true (by kernel_rfl)) (Or.inl ⟨by rfl, ?_⟩) hS ?_
  rotate_left
  · intro w9 hw9
    try dsimp only at hw9
    go_simp
    try with_reducible rfl
  try simp only [Act.put, List.setIfInBounds_toArray, List.set_cons_zero, List.set_cons_succ]
  refine late_take (i := 2) (v := ?_) (by simp only [List.getElem?_toArray, List.getElem?_cons_zero, List.getElem?_cons_succ]; exact rfl) (by kernel_rfl) (by kernel_rfl) (by exact fun _ _ _ h => h) 10 _ _ _ (by kernel_rfl) (List.mem_of_elem_eq_true (by kernel_rfl)) (Or.inl ⟨by rfl, ?_⟩) hS ?_
  rotate_left
  · intro w9 hw9
    try dsimp only at hw9
    go_simp
    try with_reducible rfl
  try simp only [Act.put, List.setIfInBounds_toArray, List.set_cons_zero, List.set_cons_succ]
  refine late_take (i := 3) (v := ?_) (by simp only [List.getElem?_toArray, List.getElem?_cons_zero, List.getElem?_cons_succ]; exact rfl) (by kernel_rfl) (by kernel_rfl) (by exact fun _ _ _ h => h) 9 _ _ _ (by kernel_rfl) (List.mem_of_elem_eq_true (by kernel_rfl)) (Or.inl ⟨by rfl, ?_⟩) hS ?_
  rotate_left
  · intro w9 hw9
    try dsimp only at hw9
    go_simp
    try with_reducible rfl
  try simp only [Act.put, List.setIfInBounds_toArray, List.set_cons_zero, List.set_cons_succ]
  refine late_take (i := 4) (v := ?_) (by simp only [List.getElem?_toArray, List.getElem?_cons_zero, List.getElem?_cons_succ]; exact rfl) (by kernel_rfl) (by kernel_rfl) (by exact fun _ _ _ h => h) 8 _ _ _ (by kernel_rfl) (List.mem_of_elem_eq_true (by kernel_rfl)) (Or.inl ⟨by rfl, ?_⟩) hS ?_
  rotate_left
  · intro w9 hw9
    try dsimp only at hw9
    go_simp
    try with_reducible rfl
  try simp only [Act.put, List.setIfInBounds_toArray, List.set_cons_zero, List.set_cons_succ]
  refine late_take (i := 5) (v := ?_) (by simp only [List.getElem?_toArray, List.getElem?_cons_zero, List.getElem?_cons_succ]; exact rfl) (by kernel_rfl) (by kernel_rfl) (by exact fun _ _ _ h => h) 7 _ _ _ (by kernel_rfl) (List.mem_of_elem_eq_true (by kernel_rfl)) (Or.inl ⟨by rfl, ?_⟩) hS ?_
  rotate_left
  · intro w9 hw9
    try dsimp only at hw9
    go_simp
    try with_reducible rfl
  try simp only [Act.put, List.setIfInBounds_toArray, List.set_cons_zero, List.set_cons_succ]
  refine late_take (i := 6) (v := ?_) (by simp only [List.getElem?_toArray, List.getElem?_cons_zero, List.getElem?_cons_succ]; exact rfl) (by kernel_rfl) (by kernel_rfl) (by exact fun _ _ _ h => h) 6 _ _ _ (by kernel_rfl) (List.mem_of_elem_eq_true (by kernel_rfl)) (Or.inl ⟨by rfl, ?_⟩) hS ?_
  rotate_left
  · intro w9 hw9
    try dsimp only at hw9
    go_simp
    try with_reducible rfl
  try simp only [Act.put, List.setIfInBounds_toArray, List.set_cons_zero, List.set_cons_succ]
  refine late_take (i := 7) (v := ?_) (by simp only [List.getElem?_toArray, List.getElem?_cons_zero, List.getElem?_cons_succ]; exact rfl) (by kernel_rfl) (by kernel_rfl) (by exact fun _ _ _ h => h) 5 _ _ _ (by kernel_rfl) (List.mem_of_elem_eq_true (by kernel_rfl)) (Or.inl ⟨by rfl, ?_⟩) hS ?_
  rotate_left
  · intro w9 hw9
    try dsimp only at hw9
    go_simp
    try with_reducible rfl
  try simp only [Act.put, List.setIfInBounds_toArray, List.set_cons_zero, List.set_cons_succ]
  refine late_take (i := 8) (v := ?_) (by simp only [List.getElem?_toArray, List.getElem?_cons_zero, List.getElem?_cons_succ]; exact rfl) (by kernel_rfl) (by kernel_rfl) (by exact fun _ _ _ h => h) 4 _ _ _ (by kernel_rfl) (List.mem_of_elem_eq_true (by kernel_rfl)) (Or.inl ⟨by rfl, ?_⟩) hS ?_
  rotate_left
  · intro w9 hw9
    try dsimp only at hw9
    go_simp
    try with_reducible rfl
  try simp only [Act.put, List.setIfInBounds_toArray, List.set_cons_zero, List.set_cons_succ]
  refine late_take (i := 9) (v := ?_) (by simp only [List.getElem?_toArray, List.getElem?_cons_zero, List.getElem?_cons_succ]; exact rfl) (by kernel_rfl) (by kernel_rfl) (by exact fun _ _ _ h => h) 3 _ _ _ (by kernel_rfl) (List.mem_of_elem_eq_true (by kernel_rfl)) (Or.inl ⟨by rfl, ?_⟩) hS ?_
  rotate_left
  · intro w9 hw9
    try dsimp only at hw9
    go_simp
    try with_reducible rfl
  try simp only [Act.put, List.setIfInBounds_toArray, List.set_cons_zero, List.set_cons_succ]
  refine late_one (i := 10) (by kernel_rfl) (by simp only [List.getElem?_toArray, List.getElem?_cons_zero, List.getElem?_cons_succ]; exact rfl) (by rfl) ?_
  intro K hK
  go_simp
  refine (HCL.out _ hd9).mono ?_
  rintro e w2 ⟨v, rfl, hv, hb2⟩
  dsimp only
  have hk2 := below_trans hd9 hb2
  have HV := Lib.hid hv
  refine hK _ _ (fun _ => toS _ hk2) ?_
  clear hK K hb2 hv
  try simp only [Act.put, List.setIfInBounds_toArray, List.set_cons_zero, List.set_cons_succ]
  refine late_one (i := 11) (by kernel_rfl) (by simp only [List.getElem?_toArray, List.getElem?_cons_zero, List.getElem?_cons_succ]; exact rfl) (by rfl) ?_
  intro K hK
  go_simp
  refine hK _ _ (fun _ => toS _ hk2) ?_
  clear hK K
  try simp only [Act.put, List.setIfInBounds_toArray, List.set_cons_zero, List.set_cons_succ]
  refine late_one (i := 12) (by kernel_rfl) (by simp only [List.getElem?_toArray, List.getElem?_cons_zero, List.getElem?_cons_succ]; exact rfl) (by rfl) ?_
  intro K hK
  go_simp
  refine hK _ _ (fun _ => toS _ hk2) ?_
  clear hK K
  try simp only [Act.put, List.setIfInBounds_toArray, List.set_cons_zero, List.set_cons_succ]
  refine late_done (by kernel_rfl) ?_ _
  have HK2 := Lib.hid hk2
  clear hS toS hk2 hd9 c0
  go_wp2
  refine bodyPost_ret (v := .tuple #[v, .nilIface]) (by simp [results, Tryz.results18, go_sem]) rfl ?_
  exact ⟨v, rfl, HV.out, HK2.out⟩
end Go.Proofs.YtemoepcfmpapoaaGreatDoor

/-
  debt: what is asked of an owing; by contract.
-/
namespace Go.Proofs.YtemoepcfmpapoaaGreatDoor
open Go.RowKit Go.Proofs Go.Shelf
attribute [local go_sem] Oper.semAt_some

set_option maxRecDepth 100000
def AskEnd (Φ : Value → World → Prop) (w : World) (e : Ending) (w' : World) : Prop := ∃ v, e = .returned (.tuple #[v, .int .i64 0]) ∧ Φ v w' ∧ Below w.heap.size w w'

set_option maxHeartbeats 1600000 in
theorem askNet_any (n : Nat) (Ps : List Int) (pg pc dg dc : Nat)  (w : World) (h : OwB n Ps pg pc dg dc w) (Φ : Value → World → Prop)
    (hf : ∀ Dw w', Below w.heap.size w w' → WkD Dw n (netL Ps) w' → Calls Tryz.prog 18 #[.pointer (some ⟨Dw, 0, none⟩)] w' (fun e w'' => ∃ v, e = .returned (.tuple #[v, .nilIface]) ∧ Φ v w'' ∧ Below w'.heap.size w' w'')) :
    Calls Tryz.prog 17 #[owV n Ps pg pc dg dc, .func (.func 18) #[] #[]] w (AskEnd Φ w) := by
  have HC := Lib.hid (fun w' (hb : Below w.heap.size w w') => checkOwing_any n Ps pg pc dg dc w' (h.below hb))
  have HN := Lib.hid (fun w' (hb : Below w.heap.size w w') => dnewWork_any n Ps pg pc dg dc w' (h.below hb))
  have HF := Lib.hid hf
  clear hf h
  unfold owV at *
  obtain ⟨L, hL⟩ : ∃ L, Ps.length = L := ⟨_, rfl⟩
  simp only [hL] at HC HN ⊢
  clear hL
  go_enter Tryz.func17, Tryz.ntmps17
  go_wp2_with (first
    | (go_at_call 38; refine (HC.out _ (below_alloc w _)).mono ?_; rintro q w2 ⟨rfl, hb2⟩; obtain ⟨k0, k1⟩ := ow_cells (below_heap hb2 (heap_new w _)); have HB2 := Lib.hid (below_trans (below_alloc w _) hb2); clear hb2)
    | (go_at_call 40; refine (HN.out _ HB2.out).mono ?_; rintro q w3 ⟨Dw, rfl, hwd, hb3⟩; have HWD := Lib.hid hwd; have HB3 := Lib.hid (below_trans HB2.out hb3); clear hwd hb3 k0 k1)
    | (go_at_call 18; refine (HF.out Dw _ HB3.out HWD.out).mono ?_; rintro q w4 ⟨v, rfl, hphi, hb4⟩; have HPHI := Lib.hid hphi; have HB4 := Lib.hid (below_trans HB3.out hb4); clear hphi hb4))
  refine bodyPost_ret (v := .tuple #[v, .int .i64 0]) (by simp [results, Tryz.results17, go_sem]) rfl ?_
  exact ⟨v, rfl, HPHI.out, HB4.out⟩

set_option maxHeartbeats 1600000 in
theorem askFewest_any (n : Nat) (Ps : List Int) (pg pc dg dc : Nat)  (w : World) (h : OwB n Ps pg pc dg dc w) (Φ : Value → World → Prop)
    (hf : ∀ Dw w', Below w.heap.size w w' → WkD Dw n (netL Ps) w' → Calls Tryz.prog 21 #[.pointer (some ⟨Dw, 0, none⟩)] w' (fun e w'' => ∃ v, e = .returned (.tuple #[v, .nilIface]) ∧ Φ v w'' ∧ Below w'.heap.size w' w'')) :
    Calls Tryz.prog 20 #[owV n Ps pg pc dg dc, .func (.func 21) #[] #[]] w (AskEnd Φ w) := by
  have HC := Lib.hid (fun w' (hb : Below w.heap.size w w') => checkOwing_any n Ps pg pc dg dc w' (h.below hb))
  have HN := Lib.hid (fun w' (hb : Below w.heap.size w w') => dnewWork_any n Ps pg pc dg dc w' (h.below hb))
  have HF := Lib.hid hf
  clear hf h
  unfold owV at *
  obtain ⟨L, hL⟩ : ∃ L, Ps.length = L := ⟨_, rfl⟩
  simp only [hL] at HC HN ⊢
  clear hL
  go_enter Tryz.func20, Tryz.ntmps20
  go_wp2_with (first
    | (go_at_call 38; refine (HC.out _ (below_alloc w _)).mono ?_; rintro q w2 ⟨rfl, hb2⟩; obtain ⟨k0, k1⟩ := ow_cells (below_heap hb2 (heap_new w _)); have HB2 := Lib.hid (below_trans (below_alloc w _) hb2); clear hb2)
    | (go_at_call 40; refine (HN.out _ HB2.out).mono ?_; rintro q w3 ⟨Dw, rfl, hwd, hb3⟩; have HWD := Lib.hid hwd; have HB3 := Lib.hid (below_trans HB2.out hb3); clear hwd hb3 k0 k1)
    | (go_at_call 21; refine (HF.out Dw _ HB3.out HWD.out).mono ?_; rintro q w4 ⟨v, rfl, hphi, hb4⟩; have HPHI := Lib.hid hphi; have HB4 := Lib.hid (below_trans HB3.out hb4); clear hphi hb4))
  refine bodyPost_ret (v := .tuple #[v, .int .i64 0]) (by simp [results, Tryz.results20, go_sem]) rfl ?_
  exact ⟨v, rfl, HPHI.out, HB4.out⟩

set_option maxHeartbeats 1600000 in
theorem askCount_any (n : Nat) (Ps : List Int) (pg pc dg dc : Nat)  (w : World) (h : OwB n Ps pg pc dg dc w) (Φ : Value → World → Prop)
    (hf : ∀ Dw w', Below w.heap.size w w' → WkD Dw n (netL Ps) w' → Calls Tryz.prog 25 #[.pointer (some ⟨Dw, 0, none⟩)] w' (fun e w'' => ∃ v, e = .returned (.tuple #[v, .nilIface]) ∧ Φ v w'' ∧ Below w'.heap.size w' w'')) :
    Calls Tryz.prog 24 #[owV n Ps pg pc dg dc, .func (.func 25) #[] #[]] w (AskEnd Φ w) := by
  have HC := Lib.hid (fun w' (hb : Below w.heap.size w w') => checkOwing_any n Ps pg pc dg dc w' (h.below hb))
  have HN := Lib.hid (fun w' (hb : Below w.heap.size w w') => dnewWork_any n Ps pg pc dg dc w' (h.below hb))
  have HF := Lib.hid hf
  clear hf h
  unfold owV at *
  obtain ⟨L, hL⟩ : ∃ L, Ps.length = L := ⟨_, rfl⟩
  simp only [hL] at HC HN ⊢
  clear hL
  go_enter Tryz.func24, Tryz.ntmps24
  go_wp2_with (first
    | (go_at_call 38; refine (HC.out _ (below_alloc w _)).mono ?_; rintro q w2 ⟨rfl, hb2⟩; obtain ⟨k0, k1⟩ := ow_cells (below_heap hb2 (heap_new w _)); have HB2 := Lib.hid (below_trans (below_alloc w _) hb2); clear hb2)
    | (go_at_call 40; refine (HN.out _ HB2.out).mono ?_; rintro q w3 ⟨Dw, rfl, hwd, hb3⟩; have HWD := Lib.hid hwd; have HB3 := Lib.hid (below_trans HB2.out hb3); clear hwd hb3 k0 k1)
    | (go_at_call 25; refine (HF.out Dw _ HB3.out HWD.out).mono ?_; rintro q w4 ⟨v, rfl, hphi, hb4⟩; have HPHI := Lib.hid hphi; have HB4 := Lib.hid (below_trans HB3.out hb4); clear hphi hb4))
  refine bodyPost_ret (v := .tuple #[v, .int .i64 0]) (by simp [results, Tryz.results24, go_sem]) rfl ?_
  exact ⟨v, rfl, HPHI.out, HB4.out⟩

set_option maxHeartbeats 1600000 in
theorem askVerdict_any (n : Nat) (Ps : List Int) (pg pc dg dc : Nat) (xb yb : Nat) (w : World) (h : OwB n Ps pg pc dg dc w) (Φ : Value → World → Prop)
    (hf : ∀ Dw w', Below w.heap.size w w' → WkD Dw n (netL Ps) w' → Calls Tryz.prog 26 #[.pointer (some ⟨Dw, 0, none⟩), .pointer (some ⟨xb, 0, none⟩), .pointer (some ⟨yb, 0, none⟩)] w' (fun e w'' => ∃ v, e = .returned (.tuple #[v, .nilIface]) ∧ Φ v w'' ∧ Below w'.heap.size w' w'')) :
    Calls Tryz.prog 24 #[owV n Ps pg pc dg dc, .func (.func 26) #[] #[.pointer (some ⟨xb, 0, none⟩), .pointer (some ⟨yb, 0, none⟩)]] w (AskEnd Φ w) := by
  have HC := Lib.hid (fun w' (hb : Below w.heap.size w w') => checkOwing_any n Ps pg pc dg dc w' (h.below hb))
  have HN := Lib.hid (fun w' (hb : Below w.heap.size w w') => dnewWork_any n Ps pg pc dg dc w' (h.below hb))
  have HF := Lib.hid hf
  clear hf h
  unfold owV at *
  obtain ⟨L, hL⟩ : ∃ L, Ps.length = L := ⟨_, rfl⟩
  simp only [hL] at HC HN ⊢
  clear hL
  go_enter Tryz.func24, Tryz.ntmps24
  go_wp2_with (first
    | (go_at_call 38; refine (HC.out _ (below_alloc w _)).mono ?_; rintro q w2 ⟨rfl, hb2⟩; obtain ⟨k0, k1⟩ := ow_cells (below_heap hb2 (heap_new w _)); have HB2 := Lib.hid (below_trans (below_alloc w _) hb2); clear hb2)
    | (go_at_call 40; refine (HN.out _ HB2.out).mono ?_; rintro q w3 ⟨Dw, rfl, hwd, hb3⟩; have HWD := Lib.hid hwd; have HB3 := Lib.hid (below_trans HB2.out hb3); clear hwd hb3 k0 k1)
    | (go_at_call 26; refine (HF.out Dw _ HB3.out HWD.out).mono ?_; rintro q w4 ⟨v, rfl, hphi, hb4⟩; have HPHI := Lib.hid hphi; have HB4 := Lib.hid (below_trans HB3.out hb4); clear hphi hb4))
  refine bodyPost_ret (v := .tuple #[v, .int .i64 0]) (by simp [results, Tryz.results24, go_sem]) rfl ?_
  exact ⟨v, rfl, HPHI.out, HB4.out⟩

set_option maxHeartbeats 1600000 in
/-- The net of each person. -/
theorem Net_any (n : Nat) (Ps : List Int) (pg pc dg dc : Nat) (w : World) (h : OwB n Ps pg pc dg dc w) :
    Calls Tryz.prog 8 #[owV n Ps pg pc dg dc] w (AskEnd (fun v w' => Ints w' v ((netL Ps).take n)) w) := by
  have hn := h.n5
  have HA := Lib.hid (fun w' (hb : Below w.heap.size w w') => askNet_any n Ps pg pc dg dc w' (h.below hb) (fun v w' => Ints w' v ((netL Ps).take n)) (fun Dw w' _ hW => net1_any Dw n Ps w' hW hn))
  clear h hn
  unfold owV at *
  obtain ⟨L, hL⟩ : ∃ L, Ps.length = L := ⟨_, rfl⟩
  simp only [hL] at HA ⊢
  clear hL
  go_enter Tryz.func8, Tryz.ntmps8
  go_wp2_with (go_at_call 17; refine (HA.out _ (below_alloc w _)).mono ?_; rintro q w2 ⟨v, rfl, hphi, hb2⟩; have HPHI := Lib.hid hphi; have HB2 := Lib.hid (below_trans (below_alloc w _) hb2); clear hphi hb2)
  refine bodyPost_ret (v := .tuple #[v, .int .i64 0]) (by simp [results, Tryz.results8, go_sem]) rfl ?_
  exact ⟨v, rfl, HPHI.out, HB2.out⟩
end Go.Proofs.YtemoepcfmpapoaaGreatDoor

/-
  debt: the one settlement of a horse that was sold on and on at one price: Fewest, Count, Verdict; by contract.
-/
namespace Go.Proofs.YtemoepcfmpapoaaGreatDoor
open Go.RowKit Go.Proofs Go.Shelf
attribute [local go_sem] Oper.semAt_some

set_option maxRecDepth 100000
theorem chain_nets {k : Nat} {P : Int} (h1 : 1 ≤ k) (h4 : k ≤ 4) : netL (List.replicate k P) = chainN k P := by
  rcases (by omega : k = 1 ∨ k = 2 ∨ k = 3 ∨ k = 4) with rfl | rfl | rfl | rfl <;> simp [netL, netAt, chainN, List.range_succ, List.replicate]
def lensCheck : Bool := (List.range 4).all fun k => decide ((pairSets (k + 2)).length ≤ 100000)
theorem lensCheck_true : lensCheck = true := by kernel_rfl
theorem comeF_len (n : Nat) (N : List Int) : ∀ S : List Nat, (comeF n N S).length ≤ S.length
  | [] => Nat.le_refl _
  | s :: r => by
    unfold comeF
    have := comeF_len n N r
    split <;> simp <;> omega
theorem chain_len {k : Nat} (N : List Int) (h1 : 1 ≤ k) (h4 : k ≤ 4) : (comeF (k + 1) N (pairSets (k + 1))).length ≤ 100000 := by
  have h := lensCheck_true
  unfold lensCheck at h
  rw [List.all_eq_true] at h
  have h2 := of_decide_eq_true (h (k - 1) (List.mem_range.2 (by omega)))
  rw [show k - 1 + 2 = k + 1 by omega] at h2
  exact Nat.le_trans (comeF_len _ _ _) h2
theorem chain_bound {k : Nat} {P : Int} (h1 : 1 ≤ P) (h9 : P ≤ 9) : ∀ x ∈ chainN k P, -100 ≤ x ∧ x ≤ 100 := fun x hx => by
  unfold chainN at hx
  rcases List.mem_or_eq_of_mem_set hx with h | rfl
  · rcases List.mem_or_eq_of_mem_set h with h | rfl
    · have := List.eq_of_mem_replicate h; omega
    · omega
  · omega
/-- The fewest payments of a horse that was sold on and on at one price: one. -/
theorem chainFewest_any (Dw k : Nat) (P : Int) (w : World) (hW : WkD Dw (k + 1) (netL (List.replicate k P)) w) (h1 : 1 ≤ k) (h4 : k ≤ 4) (hP1 : 1 ≤ P) (hP9 : P ≤ 9) :
    Calls Tryz.prog 23 #[.pointer (some ⟨Dw, 0, none⟩)] w (FewEnd [((k : Int), 0, P)] w) := by
  rw [chain_nets h1 h4] at hW
  exact fewest_any Dw (k + 1) (chainN k P) _ w hW (by omega) (chain_bound hP1 hP9) (chain_few h1 h4 hP1 hP9) (chain_len _ h1 h4)

theorem owns3 {w : World} {base : Nat} {a : Option Addr} {c : Nat} {q : Pay} (h : w.ownsRow base 78 3 (.slice a 1 c) 1 (flatP [q])) :
    ∃ g, a = some ⟨g, 0, none⟩ ∧ w.cell? ⟨g, 0, none⟩ = some (.int .i64 q.1) ∧ w.cell? ⟨g, 1, none⟩ = some (.int .i64 q.2.1) ∧ w.cell? ⟨g, 2, none⟩ = some (.int .i64 q.2.2) := by
  rcases pst_of_owns (L := [q]) h with ⟨_, h0⟩ | ⟨g, cap, C, hv, _, hp, _⟩
  · cases h0
  · simp only [Value.slice.injEq] at hv
    obtain ⟨rfl, -, -⟩ := hv
    obtain ⟨h1, h2, h3⟩ := hp.cell (j := 0) (by simp) rfl
    exact ⟨g, rfl, h1, h2, h3⟩

/-! ### Count -/
theorem count1_any (Dw k : Nat) (P : Int) (w : World) (hW : WkD Dw (k + 1) (netL (List.replicate k P)) w) (h1 : 1 ≤ k) (h4 : k ≤ 4) (hP1 : 1 ≤ P) (hP9 : P ≤ 9) :
    Calls Tryz.prog 25 #[.pointer (some ⟨Dw, 0, none⟩)] w (fun e w'' => ∃ v, e = .returned (.tuple #[v, .nilIface]) ∧ v = .int .i64 1 ∧ Below w.heap.size w w'') := by
  have HF := Lib.hid (chainFewest_any Dw k P w hW h1 h4 hP1 hP9)
  clear hW h1 h4 hP1 hP9
  go_enter Tryz.func25, Tryz.ntmps25
  go_wp2_with (go_at_call 23; refine HF.out.mono ?_; rintro q w2 ⟨g, c, a, c', rfl, h1, h2, h3, hb2⟩; have HB2 := Lib.hid hb2; clear h1 h2 h3 hb2)
  refine bodyPost_ret (v := .tuple #[.int .i64 1, .nilIface]) (by simp [results, Tryz.results25, go_sem]) rfl ?_
  exact ⟨_, rfl, rfl, HB2.out⟩

/-! ### Verdict -/
def isPay (x y : Int) (q : Pay) : Bool := q.1 == x && q.2.1 == y
theorem verdict11_any (xb yb : Nat) (x y : Int) (q : Pay) (w : World) (hx : w.cell? ⟨xb, 0, none⟩ = some (.int .i64 x)) (hy : w.cell? ⟨yb, 0, none⟩ = some (.int .i64 y)) :
    Calls Tryz.prog 29 #[payV q, .pointer (some ⟨xb, 0, none⟩), .pointer (some ⟨yb, 0, none⟩)] w (BoolEnd (isPay x y q) w) := by
  obtain ⟨q1, q2, q3⟩ := q
  have hx' := fun o => below_cell (below_alloc w o) hx
  have hy' := fun o => below_cell (below_alloc w o) hy
  unfold payV
  by_cases h1 : q1 = x
  · have hd : (q1 == x) = true := by simpa using h1
    have HV := Lib.hid (show isPay x y (q1, q2, q3) = (q2 == y) by simp [isPay, hd])
    clear h1
    go_enter Tryz.func29, Tryz.ntmps29
    go_wp2
    go_ret
    exact ⟨by rw [HV.out]; rfl, below_alloc w _⟩
  · have hd : (q1 == x) = false := by simpa using h1
    have HV := Lib.hid (show isPay x y (q1, q2, q3) = false by simp [isPay, hd])
    clear h1
    go_enter Tryz.func29, Tryz.ntmps29
    go_wp2
    go_ret
    exact ⟨by rw [HV.out]; rfl, below_alloc w _⟩
theorem indexFunc1_any (g c xb yb : Nat) (x y : Int) (q : Pay) (w : World) (hx : w.cell? ⟨xb, 0, none⟩ = some (.int .i64 x)) (hy : w.cell? ⟨yb, 0, none⟩ = some (.int .i64 y))
    (h0 : w.cell? ⟨g, 0, none⟩ = some (.int .i64 q.1)) (h1 : w.cell? ⟨g, 1, none⟩ = some (.int .i64 q.2.1)) (h2 : w.cell? ⟨g, 2, none⟩ = some (.int .i64 q.2.2)) :
    Calls Tryz.prog 69 #[.slice (some ⟨g, 0, none⟩) 1 c, .func (.func 29) #[] #[.pointer (some ⟨xb, 0, none⟩), .pointer (some ⟨yb, 0, none⟩)]] w (IntEnd (if isPay x y q then 0 else -1) w) := by
  have HV := verdict11_any xb yb x y q w hx hy
  obtain ⟨q1, q2, q3⟩ := q
  unfold payV at HV
  simp only at h0 h1 h2
  clear hx hy
  revert HV
  cases isPay x y (q1, q2, q3) with
  | true =>
    intro HV
    have HV := Lib.hid HV
    show Calls _ _ _ _ (IntEnd 0 w)
    go_enter Tryz.func69, Tryz.ntmps69
    go_wp2_with fail
    go_loopw [8] (fun i wr => i = .int .i64 0 ∧ wr = w) (fun _ _ => 0)
    case atStart => exact ⟨rfl, rfl⟩
    case round =>
      obtain ⟨rfl, rfl⟩ := hrel
      go_wp2_with (go_at_call 29; refine HV.out.mono ?_; rintro e w2 ⟨rfl, hb2⟩)
      go_ret
      exact ⟨rfl, hb2⟩
  | false =>
    intro HV
    have HV := Lib.hid HV
    show Calls _ _ _ _ (IntEnd (-1) w)
    go_enter Tryz.func69, Tryz.ntmps69
    go_wp2_with fail
    go_loopw [8] (fun i wr => (i = .int .i64 0 ∧ wr = w) ∨ (i = .int .i64 1 ∧ Below w.heap.size w wr)) (fun i _ => 1 - (intOf i).toNat)
    case atStart => exact .inl ⟨rfl, rfl⟩
    case round =>
      rcases hrel with ⟨rfl, rfl⟩ | ⟨rfl, hb⟩
      · go_wp2_with (go_at_call 29; refine HV.out.mono ?_; rintro e w2 ⟨rfl, hb2⟩)
        go_roundw
        case rel => exact .inr ⟨by go_num, hb2⟩
        case measure => simp [intOf]
      · go_wp2_with fail
        go_ret
        exact ⟨rfl, hb⟩
theorem containsFunc1_any (g c xb yb : Nat) (x y : Int) (q : Pay) (w : World) (hx : w.cell? ⟨xb, 0, none⟩ = some (.int .i64 x)) (hy : w.cell? ⟨yb, 0, none⟩ = some (.int .i64 y))
    (h0 : w.cell? ⟨g, 0, none⟩ = some (.int .i64 q.1)) (h1 : w.cell? ⟨g, 1, none⟩ = some (.int .i64 q.2.1)) (h2 : w.cell? ⟨g, 2, none⟩ = some (.int .i64 q.2.2)) :
    Calls Tryz.prog 47 #[.slice (some ⟨g, 0, none⟩) 1 c, .func (.func 29) #[] #[.pointer (some ⟨xb, 0, none⟩), .pointer (some ⟨yb, 0, none⟩)]] w (BoolEnd (isPay x y q) w) := by
  have HI := indexFunc1_any g c xb yb x y q w hx hy h0 h1 h2
  clear hx hy h0 h1 h2
  revert HI
  cases isPay x y q with
  | true =>
    intro HI
    have HI := Lib.hid (show Calls _ _ _ _ (IntEnd 0 w) from HI)
    go_enter Tryz.func47, Tryz.ntmps47
    go_wp2_with (go_at_call 69; refine HI.out.mono ?_; rintro e w2 ⟨rfl, hb2⟩)
    go_ret
    exact ⟨rfl, hb2⟩
  | false =>
    intro HI
    have HI := Lib.hid (show Calls _ _ _ _ (IntEnd (-1) w) from HI)
    go_enter Tryz.func47, Tryz.ntmps47
    go_wp2_with (go_at_call 69; refine HI.out.mono ?_; rintro e w2 ⟨rfl, hb2⟩)
    go_ret
    exact ⟨rfl, hb2⟩
set_option maxHeartbeats 1600000 in
theorem verdict_any (Dw k xb yb : Nat) (x y P : Int) (w : World) (hW : WkD Dw (k + 1) (netL (List.replicate k P)) w) (h1 : 1 ≤ k) (h4 : k ≤ 4) (hP1 : 1 ≤ P) (hP9 : P ≤ 9) (hx : w.cell? ⟨xb, 0, none⟩ = some (.int .i64 x)) (hy : w.cell? ⟨yb, 0, none⟩ = some (.int .i64 y)) :
    Calls Tryz.prog 28 #[.pointer (some ⟨Dw, 0, none⟩), .func (.func 29) #[] #[.pointer (some ⟨xb, 0, none⟩), .pointer (some ⟨yb, 0, none⟩)]] w (IntEnd (if isPay x y ((k : Int), 0, P) then 1 else 2) w) := by
  have HF := Lib.hid (chainFewest_any Dw k P w hW h1 h4 hP1 hP9)
  have HC := fun g c w' (hb : Below w.heap.size w w') h0 h1 h2 => containsFunc1_any g c xb yb x y ((k : Int), 0, P) w' (below_cell hb hx) (below_cell hb hy) h0 h1 h2
  have HE : Hid (([((k : Int), (0 : Int), P)] : List Pay).length = 1) := rfl
  clear hW h1 h4 hP1 hP9 hx hy
  revert HC
  cases isPay x y ((k : Int), 0, P) with
  | true =>
    intro HC
    have HC := Lib.hid HC
    show Calls _ _ _ _ (IntEnd 1 w)
    go_enter Tryz.func28, Tryz.ntmps28
    go_wp2_with (go_at_call 23; refine HF.out.mono ?_; rintro q w2 ⟨g, c, a, c', rfl, hc0, hro, _, hb2⟩; obtain ⟨g1, rfl, hq0, hq1, hq2⟩ := owns3 hro; have HQ := Lib.hid (HC.out g1 c' w2 hb2 hq0 hq1 hq2); have HB2 := Lib.hid hb2; clear hro hq0 hq1 hq2 hb2)
    go_loopw [6, 14] (fun ys i wr => (i = .int .i64 0 ∧ ys = .int .i64 0 ∧ wr = w2) ∨ (i = .int .i64 1 ∧ ys = .int .i64 1 ∧ Below w2.heap.size w2 wr)) (fun _ i _ => 1 - (intOf i).toNat)
    case atStart => exact .inl ⟨rfl, rfl, rfl⟩
    case round =>
      rcases hrel with ⟨rfl, rfl, rfl⟩ | ⟨rfl, rfl, hb⟩
      · rw [HE.out] at hc0
        go_wp2_with (go_at_call 47; refine HQ.out.mono ?_; rintro e w3 ⟨rfl, hb3⟩)
        go_roundw
        case rel => exact .inr ⟨by go_num, by go_num, hb3⟩
        case measure => simp [intOf]
      · have HB3 := Lib.hid (below_trans HB2.out hb)
        clear hb
        go_wp2_with fail
        go_ret
        exact ⟨rfl, HB3.out⟩
  | false =>
    intro HC
    have HC := Lib.hid HC
    show Calls _ _ _ _ (IntEnd 2 w)
    go_enter Tryz.func28, Tryz.ntmps28
    go_wp2_with (go_at_call 23; refine HF.out.mono ?_; rintro q w2 ⟨g, c, a, c', rfl, hc0, hro, _, hb2⟩; obtain ⟨g1, rfl, hq0, hq1, hq2⟩ := owns3 hro; have HQ := Lib.hid (HC.out g1 c' w2 hb2 hq0 hq1 hq2); have HB2 := Lib.hid hb2; clear hro hq0 hq1 hq2 hb2)
    go_loopw [6, 14] (fun ys i wr => (i = .int .i64 0 ∧ ys = .int .i64 0 ∧ wr = w2) ∨ (i = .int .i64 1 ∧ ys = .int .i64 0 ∧ Below w2.heap.size w2 wr)) (fun _ i _ => 1 - (intOf i).toNat)
    case atStart => exact .inl ⟨rfl, rfl, rfl⟩
    case round =>
      rcases hrel with ⟨rfl, rfl, rfl⟩ | ⟨rfl, rfl, hb⟩
      · rw [HE.out] at hc0
        go_wp2_with (go_at_call 47; refine HQ.out.mono ?_; rintro e w3 ⟨rfl, hb3⟩)
        go_roundw
        case rel => exact .inr ⟨by go_num, rfl, hb3⟩
        case measure => simp [intOf]
      · have HB3 := Lib.hid (below_trans HB2.out hb)
        clear hb
        go_wp2_with fail
        go_ret
        exact ⟨rfl, HB3.out⟩
end Go.Proofs.YtemoepcfmpapoaaGreatDoor

/-
  debt: the answers about a horse that was sold on and on at one price: Fewest, Count, Verdict; by contract.
-/
namespace Go.Proofs.YtemoepcfmpapoaaGreatDoor
open Go.RowKit Go.Proofs Go.Shelf
attribute [local go_sem] Oper.semAt_some

set_option maxRecDepth 100000
theorem heap_at (w : World) (o : Obj) {n : Nat} (h : w.heap.size = n) : (w.alloc o).heap[n]? = some o := h ▸ heap_new w o
theorem cell_new (w : World) (v : Value) (T : TypeId) {n : Nat} (h : w.heap.size = n) : (w.alloc (.cells #[v] T)).cell? ⟨n, 0, none⟩ = some v := cell_of_one (h ▸ heap_new w _)
theorem mcheckTwo_any (Dw x y n : Nat) (N : List Int) (w : World) (hW : WkD Dw n N w) (hx : x < n) (hy : y < n) (hn : n ≤ 100) (hxy : x ≠ y) :
    Calls Tryz.prog 27 #[.pointer (some ⟨Dw, 0, none⟩), .int .i64 x, .int .i64 y] w (ValEnd .nilIface w) := by
  have HT := Lib.hid (dcheckTwo_any x y n w hx hy hn hxy)
  obtain ⟨pa, pc, hp⟩ := hW.pu
  clear hW hx hy hn hxy
  go_enter Tryz.func27, Tryz.ntmps27
  go_wp2_with (go_at_call 46; refine HT.out.mono ?_; rintro q w2 ⟨rfl, hb2⟩)
  go_ret
  exact ⟨rfl, hb2⟩
theorem verdict1_any (Dw k xb yb x y : Nat) (P : Int) (w : World) (hW : WkD Dw (k + 1) (netL (List.replicate k P)) w) (h1 : 1 ≤ k) (h4 : k ≤ 4) (hP1 : 1 ≤ P) (hP9 : P ≤ 9) (hx : w.cell? ⟨xb, 0, none⟩ = some (.int .i64 x)) (hy : w.cell? ⟨yb, 0, none⟩ = some (.int .i64 y))
    (hxk : x ≤ k) (hyk : y ≤ k) (hxy : x ≠ y) :
    Calls Tryz.prog 26 #[.pointer (some ⟨Dw, 0, none⟩), .pointer (some ⟨xb, 0, none⟩), .pointer (some ⟨yb, 0, none⟩)] w (fun e w'' => ∃ v, e = .returned (.tuple #[v, .nilIface]) ∧ v = .int .i64 (if isPay x y ((k : Int), 0, P) then 1 else 2) ∧ Below w.heap.size w w'') := by
  have HT := Lib.hid (mcheckTwo_any Dw x y (k + 1) _ w hW (by omega) (by omega) (by omega) hxy)
  have HV := Lib.hid (fun w' (hb : Below w.heap.size w w') => verdict_any Dw k xb yb x y P w' (hW.below hb) h1 h4 hP1 hP9 (below_cell hb hx) (below_cell hb hy))
  generalize (if isPay x y ((k : Int), 0, P) then (1 : Int) else 2) = r at HV ⊢
  clear hW h1 h4 hP1 hP9 hxk hyk hxy
  go_enter Tryz.func26, Tryz.ntmps26
  go_wp2_with (first
    | (go_at_call 27; refine HT.out.mono ?_; rintro q w2 ⟨rfl, hb2⟩; have HB2 := Lib.hid hb2; clear hb2)
    | (go_at_call 28; refine (HV.out _ HB2.out).mono ?_; rintro q w3 ⟨rfl, hb3⟩; have HB3 := Lib.hid (below_trans HB2.out hb3); clear hb3))
  refine bodyPost_ret (v := .tuple #[.int .i64 r, .nilIface]) (by simp [results, Tryz.results26, go_sem]) rfl ?_
  exact ⟨_, rfl, rfl, HB3.out⟩
set_option maxHeartbeats 1600000 in
/-- Whether x pays y: only the last one pays the first one. -/
theorem Verdict_any (k : Nat) (P : Int) (pg pc dg dc x y : Nat) (w : World) (h : OwB (k + 1) (List.replicate k P) pg pc dg dc w) (h1 : 1 ≤ k) (h4 : k ≤ 4) (hP1 : 1 ≤ P) (hP9 : P ≤ 9) (hxk : x ≤ k) (hyk : y ≤ k) (hxy : x ≠ y) :
    Calls Tryz.prog 13 #[owV (k + 1) (List.replicate k P) pg pc dg dc, .int .i64 x, .int .i64 y] w (AskEnd (fun v _ => v = .int .i64 (if isPay x y ((k : Int), 0, P) then 1 else 2)) w) := by
  have HA := Lib.hid (fun xb yb w' (hb : Below w.heap.size w w') hx hy => askVerdict_any (k + 1) (List.replicate k P) pg pc dg dc xb yb w' (h.below hb) (fun v _ => v = .int .i64 (if isPay x y ((k : Int), 0, P) then 1 else 2))
    (fun Dw w' hb' hW => verdict1_any Dw k xb yb x y P w' hW h1 h4 hP1 hP9 (below_cell hb' hx) (below_cell hb' hy) hxk hyk hxy))
  clear h h1 h4 hP1 hP9 hxk hyk hxy
  generalize (if isPay x y ((k : Int), 0, P) then (1 : Int) else 2) = r at HA ⊢
  unfold owV at *
  obtain ⟨L, hL⟩ : ∃ L, (List.replicate k P).length = L := ⟨_, rfl⟩
  simp only [hL] at HA ⊢
  clear hL
  go_enter Tryz.func13, Tryz.ntmps13
  go_wp2_with (go_at_call 24; refine (HA.out _ _ _ (below_trans (below_trans (below_alloc w _) (below_alloc _ _)) (below_alloc _ _)) (below_cell (below_alloc _ _) (cell_new _ _ _ (by simp))) (cell_new _ _ _ (by simp))).mono ?_; rintro q w2 ⟨v, rfl, hphi, hb2⟩; have HPHI := Lib.hid hphi; have HB2 := Lib.hid (below_trans (below_trans (below_trans (below_alloc w _) (below_alloc _ _)) (below_alloc _ _)) hb2); clear hphi hb2)
  refine bodyPost_ret (v := .tuple #[v, .int .i64 0]) (by simp [results, Tryz.results13, go_sem]) rfl ?_
  exact ⟨v, rfl, HPHI.out, HB2.out⟩
set_option maxHeartbeats 1600000 in
/-- How many settlements there are with the fewest payments: one. -/
theorem Count_any (k : Nat) (P : Int) (pg pc dg dc : Nat) (w : World) (h : OwB (k + 1) (List.replicate k P) pg pc dg dc w) (h1 : 1 ≤ k) (h4 : k ≤ 4) (hP1 : 1 ≤ P) (hP9 : P ≤ 9) :
    Calls Tryz.prog 11 #[owV (k + 1) (List.replicate k P) pg pc dg dc] w (AskEnd (fun v _ => v = .int .i64 1) w) := by
  have HA := Lib.hid (fun w' (hb : Below w.heap.size w w') => askCount_any (k + 1) (List.replicate k P) pg pc dg dc w' (h.below hb) (fun v _ => v = .int .i64 1) (fun Dw w' _ hW => count1_any Dw k P w' hW h1 h4 hP1 hP9))
  clear h h1 h4 hP1 hP9
  unfold owV at *
  obtain ⟨L, hL⟩ : ∃ L, (List.replicate k P).length = L := ⟨_, rfl⟩
  simp only [hL] at HA ⊢
  clear hL
  go_enter Tryz.func11, Tryz.ntmps11
  go_wp2_with (go_at_call 24; refine (HA.out _ (below_alloc w _)).mono ?_; rintro q w2 ⟨v, rfl, hphi, hb2⟩; have HPHI := Lib.hid hphi; have HB2 := Lib.hid (below_trans (below_alloc w _) hb2); clear hphi hb2)
  refine bodyPost_ret (v := .tuple #[v, .int .i64 0]) (by simp [results, Tryz.results11, go_sem]) rfl ?_
  exact ⟨v, rfl, HPHI.out, HB2.out⟩

/-! ### Fewest -/
def DbtEnd (q : Pay) (w : World) (e : Ending) (w' : World) : Prop := ∃ v, e = .returned v ∧ w'.ownsRow 0 43 3 v 1 (flatP [q]) ∧ Below w.heap.size w w'
theorem Tryz.infoDebt : (Tryz.prog.info? 43).map (fun i => (i.zero, i.size, i.bytes)) = some (some (.agg #[.int .i64 0, .int .i64 0, .int .i64 0]), 3, 24) := by kernel_rfl
set_option maxHeartbeats 1600000 in
theorem debtsOf_any (g c : Nat) (q : Pay) (w : World) (h0 : w.cell? ⟨g, 0, none⟩ = some (.int .i64 q.1)) (h1 : w.cell? ⟨g, 1, none⟩ = some (.int .i64 q.2.1)) (h2 : w.cell? ⟨g, 2, none⟩ = some (.int .i64 q.2.2)) :
    Calls Tryz.prog 22 #[.slice (some ⟨g, 0, none⟩) 1 c] w (DbtEnd q w) := by
  obtain ⟨q1, q2, q3⟩ := q
  simp only at h0 h1 h2
  obtain ⟨i0, hi0, hz0, hz1, hz2⟩ := info_parts Tryz.infoDebt
  go_enter Tryz.func22, Tryz.ntmps22
  go_wp2_with fail
  go_loopw [3, 8] (fun ys i wr => (i = .int .i64 0 ∧ ys = .slice none 0 0 ∧ wr = w) ∨ (i = .int .i64 1 ∧ wr.ownsRow w.heap.size 43 3 ys 1 (flatP [(q1, q2, q3)]) ∧ Below w.heap.size w wr)) (fun _ i _ => 1 - (intOf i).toNat)
  case atStart => exact .inl ⟨rfl, rfl, rfl⟩
  case round =>
    rcases hrel with ⟨rfl, rfl, rfl⟩ | ⟨rfl, ho, hb⟩
    · go_wp2_with (at_builtin; refine wpList_append_own _ rfl _ _ 33 rfl wr.heap.size 43 i0 (.agg #[.int .i64 0, .int .i64 0, .int .i64 0]) 3 24 Tryz.underlying33 hi0 hz0 hz1 hz2 rfl (by decide) (.slice none 0 0) 0 [] rfl (World.ownsRow_nil _ _ _ _) ⟨_, 0, none⟩ 1 1 [.int .i64 q1, .int .i64 q2, .int .i64 q3] rfl rfl (World.news_of_block (heap_at _ _ (by simp))) ?c2 ?c3 ?c4 ?c5 ?_)
      case c2 => intro u hu; simp at hu; rcases hu with rfl | rfl | rfl <;> rfl
      case c3 => unfold maxLen; omega
      case c4 => omega
      case c5 => simp; omega
      intro v' w3 hown' hgrow _
      have HO3 := Lib.hid hown'
      have HG3 := Lib.hid hgrow
      clear hown' hgrow
      go_wp2_with fail
      go_roundw
      case rel => exact .inr ⟨by go_num, HO3.out, (below_trans (below_alloc _ _) (below_alloc _ _)).grown HG3.out (by simp; omega) (fun j hj => by cases hj)⟩
      case measure => simp [intOf]
    · obtain ⟨va, vc, rfl⟩ := owns_len ho
      have HO := Lib.hid ho
      have HB := Lib.hid hb
      clear ho hb
      go_wp2_with fail
      go_ret
      exact ⟨_, rfl, owns_mono HO.out (Nat.zero_le _), HB.out⟩

/-- One payment that settles all: the last one pays the first one. -/
def OneDebt (k : Nat) (P : Int) (v : Value) (w : World) : Prop := w.ownsRow 0 43 3 v 1 (flatP [((k : Int), 0, P)])
theorem fewest1_any (Dw k : Nat) (P : Int) (w : World) (hW : WkD Dw (k + 1) (netL (List.replicate k P)) w) (h1 : 1 ≤ k) (h4 : k ≤ 4) (hP1 : 1 ≤ P) (hP9 : P ≤ 9) :
    Calls Tryz.prog 21 #[.pointer (some ⟨Dw, 0, none⟩)] w (fun e w'' => ∃ v, e = .returned (.tuple #[v, .nilIface]) ∧ OneDebt k P v w'' ∧ Below w.heap.size w w'') := by
  have HF := Lib.hid (chainFewest_any Dw k P w hW h1 h4 hP1 hP9)
  have HD := Lib.hid (fun g c w' => debtsOf_any g c ((k : Int), 0, P) w')
  have HE : Hid (([((k : Int), (0 : Int), P)] : List Pay).length = 1) := rfl
  clear hW h1 h4 hP1 hP9
  go_enter Tryz.func21, Tryz.ntmps21
  go_wp2_with (first
    | (go_at_call 23; refine HF.out.mono ?_; rintro q w2 ⟨g, c, a, c', rfl, hc0, hro, _, hb2⟩; obtain ⟨g1, rfl, hq0, hq1, hq2⟩ := owns3 hro; rw [HE.out] at hc0; have HQ := Lib.hid (HD.out g1 c' w2 hq0 hq1 hq2); have HB2 := Lib.hid hb2; clear hro hq0 hq1 hq2 hb2)
    | (go_at_call 22; refine HQ.out.mono ?_; rintro q w3 ⟨v, rfl, ho, hb3⟩; have HO := Lib.hid ho; have HB3 := Lib.hid (below_trans HB2.out hb3); clear ho hb3))
  refine bodyPost_ret (v := .tuple #[v, .nilIface]) (by simp [results, Tryz.results21, go_sem]) rfl ?_
  exact ⟨_, rfl, HO.out, HB3.out⟩
set_option maxHeartbeats 1600000 in
theorem Fewest_any (k : Nat) (P : Int) (pg pc dg dc : Nat) (w : World) (h : OwB (k + 1) (List.replicate k P) pg pc dg dc w) (h1 : 1 ≤ k) (h4 : k ≤ 4) (hP1 : 1 ≤ P) (hP9 : P ≤ 9) :
    Calls Tryz.prog 10 #[owV (k + 1) (List.replicate k P) pg pc dg dc] w (AskEnd (OneDebt k P) w) := by
  have HA := Lib.hid (fun w' (hb : Below w.heap.size w w') => askFewest_any (k + 1) (List.replicate k P) pg pc dg dc w' (h.below hb) (OneDebt k P) (fun Dw w' _ hW => fewest1_any Dw k P w' hW h1 h4 hP1 hP9))
  clear h h1 h4 hP1 hP9
  unfold owV at *
  obtain ⟨L, hL⟩ : ∃ L, (List.replicate k P).length = L := ⟨_, rfl⟩
  simp only [hL] at HA ⊢
  clear hL
  go_enter Tryz.func10, Tryz.ntmps10
  go_wp2_with (go_at_call 20; refine (HA.out _ (below_alloc w _)).mono ?_; rintro q w2 ⟨v, rfl, hphi, hb2⟩; have HPHI := Lib.hid hphi; have HB2 := Lib.hid (below_trans (below_alloc w _) hb2); clear hphi hb2)
  refine bodyPost_ret (v := .tuple #[v, .int .i64 0]) (by simp [results, Tryz.results10, go_sem]) rfl ?_
  exact ⟨v, rfl, HPHI.out, HB2.out⟩
end Go.Proofs.YtemoepcfmpapoaaGreatDoor
