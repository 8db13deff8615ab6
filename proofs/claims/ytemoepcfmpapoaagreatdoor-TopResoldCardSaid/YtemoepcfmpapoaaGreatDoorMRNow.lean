/-
  bargain: what is said, by contract.
-/
import Derived.Test.YtemoepcfmpapoaaGreatDoorMRNm
import Derived.Test.YtemoepcfmpapoaaGreatDoorMRRel
namespace Go.Proofs.YtemoepcfmpapoaaGreatDoor
open Go.RowKit Go.Proofs Go.Shelf

theorem eight_free {w : World} {N : Nat} {C : Array Value} {T : TypeId} (h : w.heap[N]? = some (.cells C T (0, 0))) (i : Nat) : w.frozen? ⟨N, i, none⟩ = false := by simp [World.frozen?, h]
def zer8 : Array Value := #[.int .i64 0, .int .i64 0, .int .i64 0, .int .i64 0, .int .i64 0, .int .i64 0, .int .i64 0, .int .i64 0]

theorem rgV_cells {w : World} {N : Nat} {x y : Int} {T : TypeId} (h : w.heap[N]? = some (.cells #[.int .i64 x, .int .i64 y] T (0, 0))) : w.cell? ⟨N, 0, none⟩ = some (.int .i64 x) ∧ w.cell? ⟨N, 1, none⟩ = some (.int .i64 y) := by
  refine ⟨?_, ?_⟩ <;> simp [World.cell?, h]
theorem named_any (sd : Bool) (x y n : Int) (w : World) : Calls Tryz.prog (if sd then 169 else 172) #[.agg #[], rgV x y, .int .i64 n] w (ValEnd (namedV sd x y n) w) := by
  cases sd with
  | true => exact snamed_any x y n w
  | false => exact bnamed_any x y n w
theorem unable_any (sd : Bool) (x y n : Int) (w : World) (h1 : -1000 ≤ n) (h2 : n ≤ 1000) : Calls Tryz.prog (if sd then 170 else 173) #[.agg #[], rgV x y, .int .i64 n] w (ValEnd (unableV sd x y n) w) := by
  cases sd with
  | true => exact sunable_any x y n w h1 h2
  | false => exact bunable_any x y n w h1 h2

set_option maxRecDepth 100000 in
set_option maxHeartbeats 3200000 in
/-- A number is named. -/
theorem after_named (a b t s c d e f n : Int) (nv : Value) (w : World) (h1 : n ≠ -1) (ht : -100 ≤ t ∧ t ≤ 100) :
    Calls Tryz.prog 108 #[plV a b t s c d e f, .int .i64 n, nv] w (ValEnd (if t == 0 then plV n b (1 - t) 0 c (min d n) e f else plV a n (1 - t) 0 c d (max e n) f) w) := by
  have hm0 : ∀ w, (method 370 117 (.agg #[]) "palfrey/bargain.named").run Tryz.prog w = .ok (169, .agg #[]) w := fun _ => by kernel_rfl
  have hm1 : ∀ w, (method 370 118 (.agg #[]) "palfrey/bargain.named").run Tryz.prog w = .ok (172, .agg #[]) w := fun _ => by kernel_rfl
  have hw1 : IntKind.i64.wrap (1 - t) = 1 - t := IntWalk.i64_in _ (by omega)
  obtain ⟨sd, hsd⟩ : ∃ sd, (t == 0) = sd := ⟨_, rfl⟩
  have HS := Lib.hid (fun w => side_any a b t s c d e f w)
  rw [hsd] at HS
  rw [hsd]
  have HL := Lib.hid (fun w => left_any sd a b t s c d e f w)
  have hn1 : (n != -1) = true := by simpa using h1
  have HPr := Lib.hid (fun w => withPrice_any sd a b (1 - t) 0 c d e f n w)
  have HNm := Lib.hid (fun w => named_any sd (if sd then c else e) (if sd then d else f) n w)
  have HWl := Lib.hid (fun w => withLeft_any sd (if sd then n else a) (if sd then b else n) (1 - t) 0 c d e f (if sd then c else max e n) (if sd then min d n else f) w)
  obtain ⟨W0, hW0⟩ : ∃ W0, (w.alloc (.cells #[.int .i64 a, .int .i64 b, .int .i64 t, .int .i64 s, .int .i64 c, .int .i64 d, .int .i64 e, .int .i64 f] 90)).alloc (.cells #[.int .i64 0, .int .i64 0, .int .i64 0, .int .i64 0, .int .i64 0, .int .i64 0, .int .i64 0, .int .i64 0] 90) = W0 := ⟨_, rfl⟩
  have hs0 : W0.heap.size = w.heap.size + 1 + 1 := by rw [← hW0]; simp
  have hb0 : Below w.heap.size w W0 := by rw [← hW0]; exact (below_alloc w _).alloc (by simp) _
  have hp0 : W0.heap[w.heap.size]? = some (.cells #[.int .i64 a, .int .i64 b, .int .i64 t, .int .i64 s, .int .i64 c, .int .i64 d, .int .i64 e, .int .i64 f] 90 (0, 0)) := by rw [← hW0]; exact heap2_0 w _ _
  have hz0 : W0.heap[w.heap.size + 1]? = some (.cells #[.int .i64 0, .int .i64 0, .int .i64 0, .int .i64 0, .int .i64 0, .int .i64 0, .int .i64 0, .int .i64 0] 90 (0, 0)) := by rw [← hW0]; exact heap2_1 w _ _
  obtain ⟨d0, d1, d2, d3, d4, d5, d6, d7⟩ := plV_cells hp0
  have HB0 := Lib.hid hb0
  have HZ0 := Lib.hid hz0
  have HP0 := Lib.hid hp0
  have HS0 := Lib.hid hs0
  have HT := Lib.hid ht
  clear hb0 hz0 hp0 hs0 h1 hsd ht
  unfold plV at *
  cases sd
  all_goals
    simp only [sdV, sdT, Bool.false_eq_true, if_true, if_false, rgV, namedV] at HS HL HPr HNm HWl ⊢
    go_enter Tryz.func108, Tryz.ntmps108
    go_wp2_with (first
      | (go_at_call 56; refine (HS.out _).mono ?_; rintro q w1 ⟨rfl, hb1⟩; have g0 := below_cell hb1 d0; have g1 := below_cell hb1 d1; have g2 := below_cell hb1 d2; have g3 := below_cell hb1 d3; have g4 := below_cell hb1 d4; have g5 := below_cell hb1 d5; have g6 := below_cell hb1 d6; have g7 := below_cell hb1 d7; clear d0 d1 d2 d3 d4 d5 d6 d7)
      | (go_at_call 74; refine (HL.out _).mono ?_; rintro q w2 ⟨rfl, hb2⟩; have k0 := fun o => below_cell (below_alloc w2 o) (below_cell hb2 g0); have k1 := fun o => below_cell (below_alloc w2 o) (below_cell hb2 g1); have k2 := fun o => below_cell (below_alloc w2 o) (below_cell hb2 g2); have k3 := fun o => below_cell (below_alloc w2 o) (below_cell hb2 g3); have k4 := fun o => below_cell (below_alloc w2 o) (below_cell hb2 g4); have k5 := fun o => below_cell (below_alloc w2 o) (below_cell hb2 g5); have k6 := fun o => below_cell (below_alloc w2 o) (below_cell hb2 g6); have k7 := fun o => below_cell (below_alloc w2 o) (below_cell hb2 g7); have kk2 := fun o o2 => below_cell (below_alloc (w2.alloc o) o2) (k2 o); have HB2 := Lib.hid (hb1.trans (hb2.mono hb1.size)); clear g0 g1 g2 g3 g4 g5 g6 g7 hb1 hb2))
    have hr5 := fun o1 o2 => heap2_0 w2 o1 o2
    have hq5 := fun o1 o2 => heap2_1 w2 o1 o2
    have hz5 : ∀ o1 o2, ((w2.alloc o1).alloc o2).heap[w.heap.size + 1]? = some (.cells #[.int .i64 0, .int .i64 0, .int .i64 0, .int .i64 0, .int .i64 0, .int .i64 0, .int .i64 0, .int .i64 0] 90 (0, 0)) := fun o1 o2 =>
      below_heap (below_alloc _ o2) (below_heap (below_alloc w2 o1) (below_heap HB2.out HZ0.out))
    have hb5 := fun o1 o2 => HB2.out.trans (((below_alloc w2 o1).trans ((below_alloc (w2.alloc o1) o2).mono (by simp))).mono HB2.out.size)
    generalize hW5 : (w2.alloc _).alloc _ = W5
    have hr5' := congrArg (fun x : World => x.heap[w2.heap.size]?) hW5
    have hq5' := congrArg (fun x : World => x.heap[w2.heap.size + 1]?) hW5
    have hz5' := congrArg (fun x : World => x.heap[w.heap.size + 1]?) hW5
    have hb5' : Below W0.heap.size W0 W5 := hW5 ▸ hb5 _ _
    simp only [hr5, hq5, hz5] at hr5' hq5' hz5'
    obtain ⟨x0, x1, x2, x3, x4, x5, x6, x7⟩ := plV_cells hq5'.symm
    obtain ⟨y0, y1⟩ := rgV_cells hr5'.symm
    have hth := known_there (o := 0) (n := 8) hz5'.symm (by simp)
    have HZ5 := Lib.hid hz5'.symm
    have HB5 := Lib.hid hb5'
    have HIP := Lib.hid Tryz.infoPl
    clear hr5 hq5 hz5 hb5 hr5' hq5' hz5' hb5' hW5 k0 k1 k2 k3 k4 k5 k6 k7 kk2
    have toS : ∀ u : World, Below W5.heap.size W5 u → (u.cell? ⟨w2.heap.size, 0, none⟩ = W5.cell? ⟨w2.heap.size, 0, none⟩ ∧ u.cell? ⟨w2.heap.size, 1, none⟩ = W5.cell? ⟨w2.heap.size, 1, none⟩ ∧ u.cell? ⟨w2.heap.size + 1, 0, none⟩ = W5.cell? ⟨w2.heap.size + 1, 0, none⟩ ∧ u.cell? ⟨w2.heap.size + 1, 1, none⟩ = W5.cell? ⟨w2.heap.size + 1, 1, none⟩ ∧ u.cell? ⟨w2.heap.size + 1, 2, none⟩ = W5.cell? ⟨w2.heap.size + 1, 2, none⟩ ∧ u.cell? ⟨w2.heap.size + 1, 3, none⟩ = W5.cell? ⟨w2.heap.size + 1, 3, none⟩ ∧ u.cell? ⟨w2.heap.size + 1, 4, none⟩ = W5.cell? ⟨w2.heap.size + 1, 4, none⟩ ∧ u.cell? ⟨w2.heap.size + 1, 5, none⟩ = W5.cell? ⟨w2.heap.size + 1, 5, none⟩ ∧ u.cell? ⟨w2.heap.size + 1, 6, none⟩ = W5.cell? ⟨w2.heap.size + 1, 6, none⟩ ∧ u.cell? ⟨w2.heap.size + 1, 7, none⟩ = W5.cell? ⟨w2.heap.size + 1, 7, none⟩) := fun u h => ⟨h.cell (World.block_lt_of_cell? _ _ y0), h.cell (World.block_lt_of_cell? _ _ y1), h.cell (World.block_lt_of_cell? _ _ x0), h.cell (World.block_lt_of_cell? _ _ x1), h.cell (World.block_lt_of_cell? _ _ x2), h.cell (World.block_lt_of_cell? _ _ x3), h.cell (World.block_lt_of_cell? _ _ x4), h.cell (World.block_lt_of_cell? _ _ x5), h.cell (World.block_lt_of_cell? _ _ x6), h.cell (World.block_lt_of_cell? _ _ x7)⟩
    refine wp_region_late (fun w' : World => w'.cell? ⟨w2.heap.size, 0, none⟩ = W5.cell? ⟨w2.heap.size, 0, none⟩ ∧ w'.cell? ⟨w2.heap.size, 1, none⟩ = W5.cell? ⟨w2.heap.size, 1, none⟩ ∧ w'.cell? ⟨w2.heap.size + 1, 0, none⟩ = W5.cell? ⟨w2.heap.size + 1, 0, none⟩ ∧ w'.cell? ⟨w2.heap.size + 1, 1, none⟩ = W5.cell? ⟨w2.heap.size + 1, 1, none⟩ ∧ w'.cell? ⟨w2.heap.size + 1, 2, none⟩ = W5.cell? ⟨w2.heap.size + 1, 2, none⟩ ∧ w'.cell? ⟨w2.heap.size + 1, 3, none⟩ = W5.cell? ⟨w2.heap.size + 1, 3, none⟩ ∧ w'.cell? ⟨w2.heap.size + 1, 4, none⟩ = W5.cell? ⟨w2.heap.size + 1, 4, none⟩ ∧ w'.cell? ⟨w2.heap.size + 1, 5, none⟩ = W5.cell? ⟨w2.heap.size + 1, 5, none⟩ ∧ w'.cell? ⟨w2.heap.size + 1, 6, none⟩ = W5.cell? ⟨w2.heap.size + 1, 6, none⟩ ∧ w'.cell? ⟨w2.heap.size + 1, 7, none⟩ = W5.cell? ⟨w2.heap.size + 1, 7, none⟩) (fun i => i == 10) (by kernel_rfl) ?_
    have hb5 : Below W5.heap.size W5 W5.drew := (Below.refl _ W5).drew
    have hS := toS _ hb5
    obtain ⟨wd, hwd⟩ : ∃ x, x = W5.drew := ⟨_, rfl⟩
    rw [← hwd] at hS hb5 ⊢
    have HWD := Lib.hid hwd
    clear hwd
    refine late_take (i := 0) (v := ?_) (by simp only [List.getElem?_toArray, List.getElem?_cons_zero, List.getElem?_cons_succ]; exact rfl) (by kernel_rfl) (by kernel_rfl) (by exact fun _ _ _ h => h) 10 _ _ _ (by kernel_rfl) (List.mem_of_elem_eq_true (by kernel_rfl)) (Or.inl ⟨by rfl, ?_⟩) hS ?_
    rotate_left
    · intro w9 hw9
      try dsimp only at hw9
      obtain ⟨hw0, hw1, hw2, hw3, hw4, hw5, hw6, hw7, hw8, hw9⟩ := hw9
      go_simp
      try with_reducible rfl
    try simp only [Act.put, List.setIfInBounds_toArray, List.set_cons_zero, List.set_cons_succ]
    refine late_take (i := 1) (v := ?_) (by simp only [List.getElem?_toArray, List.getElem?_cons_zero, List.getElem?_cons_succ]; exact rfl) (by kernel_rfl) (by kernel_rfl) (by exact fun _ _ _ h => h) 9 _ _ _ (by kernel_rfl) (List.mem_of_elem_eq_true (by kernel_rfl)) (Or.inl ⟨by rfl, ?_⟩) hS ?_
    rotate_left
    · intro w9 hw9
      try dsimp only at hw9
      obtain ⟨hw0, hw1, hw2, hw3, hw4, hw5, hw6, hw7, hw8, hw9⟩ := hw9
      go_simp
      try with_reducible rfl
    try simp only [Act.put, List.setIfInBounds_toArray, List.set_cons_zero, List.set_cons_succ]
    refine late_take (i := 2) (v := ?_) (by simp only [List.getElem?_toArray, List.getElem?_cons_zero, List.getElem?_cons_succ]; exact rfl) (by kernel_rfl) (by kernel_rfl) (by exact fun _ _ _ h => h) 8 _ _ _ (by kernel_rfl) (List.mem_of_elem_eq_true (by kernel_rfl)) (Or.inl ⟨by rfl, ?_⟩) hS ?_
    rotate_left
    · intro w9 hw9
      try dsimp only at hw9
      obtain ⟨hw0, hw1, hw2, hw3, hw4, hw5, hw6, hw7, hw8, hw9⟩ := hw9
      go_simp
      try with_reducible rfl
    try simp only [Act.put, List.setIfInBounds_toArray, List.set_cons_zero, List.set_cons_succ]
    refine late_take (i := 4) (v := ?_) (by simp only [List.getElem?_toArray, List.getElem?_cons_zero, List.getElem?_cons_succ]; exact rfl) (by kernel_rfl) (by kernel_rfl) (by exact fun _ _ _ h => h) 7 _ _ _ (by kernel_rfl) (List.mem_of_elem_eq_true (by kernel_rfl)) (Or.inl ⟨by rfl, ?_⟩) hS ?_
    rotate_left
    · intro w9 hw9
      try dsimp only at hw9
      obtain ⟨hw0, hw1, hw2, hw3, hw4, hw5, hw6, hw7, hw8, hw9⟩ := hw9
      go_simp
      try with_reducible rfl
    try simp only [Act.put, List.setIfInBounds_toArray, List.set_cons_zero, List.set_cons_succ]
    refine late_take (i := 5) (v := ?_) (by simp only [List.getElem?_toArray, List.getElem?_cons_zero, List.getElem?_cons_succ]; exact rfl) (by kernel_rfl) (by kernel_rfl) (by exact fun _ _ _ h => h) 6 _ _ _ (by kernel_rfl) (List.mem_of_elem_eq_true (by kernel_rfl)) (Or.inl ⟨by rfl, ?_⟩) hS ?_
    rotate_left
    · intro w9 hw9
      try dsimp only at hw9
      obtain ⟨hw0, hw1, hw2, hw3, hw4, hw5, hw6, hw7, hw8, hw9⟩ := hw9
      go_simp
      try with_reducible rfl
    try simp only [Act.put, List.setIfInBounds_toArray, List.set_cons_zero, List.set_cons_succ]
    refine late_take (i := 6) (v := ?_) (by simp only [List.getElem?_toArray, List.getElem?_cons_zero, List.getElem?_cons_succ]; exact rfl) (by kernel_rfl) (by kernel_rfl) (by exact fun _ _ _ h => h) 5 _ _ _ (by kernel_rfl) (List.mem_of_elem_eq_true (by kernel_rfl)) (Or.inl ⟨by rfl, ?_⟩) hS ?_
    rotate_left
    · intro w9 hw9
      try dsimp only at hw9
      obtain ⟨hw0, hw1, hw2, hw3, hw4, hw5, hw6, hw7, hw8, hw9⟩ := hw9
      go_simp
      try with_reducible rfl
    try simp only [Act.put, List.setIfInBounds_toArray, List.set_cons_zero, List.set_cons_succ]
    refine late_take (i := 7) (v := ?_) (by simp only [List.getElem?_toArray, List.getElem?_cons_zero, List.getElem?_cons_succ]; exact rfl) (by kernel_rfl) (by kernel_rfl) (by exact fun _ _ _ h => h) 4 _ _ _ (by kernel_rfl) (List.mem_of_elem_eq_true (by kernel_rfl)) (Or.inl ⟨by rfl, ?_⟩) hS ?_
    rotate_left
    · intro w9 hw9
      try dsimp only at hw9
      obtain ⟨hw0, hw1, hw2, hw3, hw4, hw5, hw6, hw7, hw8, hw9⟩ := hw9
      go_simp
      try with_reducible rfl
    try simp only [Act.put, List.setIfInBounds_toArray, List.set_cons_zero, List.set_cons_succ]
    refine late_one (i := 3) (by kernel_rfl) (by simp only [List.getElem?_toArray, List.getElem?_cons_zero, List.getElem?_cons_succ]; exact rfl) (by rfl) ?_
    intro K hK
    go_simp
    refine (HPr.out _).mono ?_
    rintro q w6 ⟨rfl, hbx⟩
    dsimp only
    have hb6 := hb5.trans (hbx.mono hb5.size)
    refine hK _ _ (fun _ => toS _ hb6) ?_
    clear hK K hbx
    try simp only [Act.put, List.setIfInBounds_toArray, List.set_cons_zero, List.set_cons_succ]
    refine late_one (i := 8) (by kernel_rfl) (by simp only [List.getElem?_toArray, List.getElem?_cons_zero, List.getElem?_cons_succ]; exact rfl) (by rfl) ?_
    intro K hK
    go_simp
    refine (HNm.out _).mono ?_
    rintro q w7 ⟨rfl, hbx⟩
    dsimp only
    have hb7 := hb6.trans (hbx.mono hb6.size)
    refine hK _ _ (fun _ => toS _ hb7) ?_
    clear hK K hbx
    try simp only [Act.put, List.setIfInBounds_toArray, List.set_cons_zero, List.set_cons_succ]
    refine late_one (i := 9) (by kernel_rfl) (by simp only [List.getElem?_toArray, List.getElem?_cons_zero, List.getElem?_cons_succ]; exact rfl) (by rfl) ?_
    intro K hK
    go_simp
    refine (HWl.out _).mono ?_
    rintro q w8 ⟨rfl, hbx⟩
    dsimp only
    have hb8 := hb7.trans (hbx.mono hb7.size)
    refine hK _ _ (fun _ => toS _ hb8) ?_
    clear hK K hbx
    try simp only [Act.put, List.setIfInBounds_toArray, List.set_cons_zero, List.set_cons_succ]
    refine late_one (i := 10) (by kernel_rfl) (by simp only [List.getElem?_toArray, List.getElem?_cons_zero, List.getElem?_cons_succ]; exact rfl) (by rfl) ?_
    intro K hK
    have ht8 := below_there hb8 hth
    first
      | refine wp_store_mid 90 (.tmp 6) (.tmp 32) rfl (w.heap.size + 1) 0 #[.int .i64 n, .int .i64 b, .int .i64 (1 - t), .int .i64 0, .int .i64 c, .int .i64 (min d n), .int .i64 e, .int .i64 f] rfl rfl ht8 HIP.out (by simp [Value.oneCell']) ?_
      | refine wp_store_mid 90 (.tmp 6) (.tmp 32) rfl (w.heap.size + 1) 0 #[.int .i64 a, .int .i64 n, .int .i64 (1 - t), .int .i64 0, .int .i64 c, .int .i64 d, .int .i64 (max e n), .int .i64 f] rfl rfl ht8 HIP.out (by simp [Value.oneCell']) ?_
    refine hK _ _ (fun h => by simp at h) ?_
    clear hK K
    try simp only [Act.put, List.setIfInBounds_toArray, List.set_cons_zero, List.set_cons_succ]
    refine late_done (by kernel_rfl) ?_ _
    have hz8 := below_heap hb8 HZ5.out
    have HBE : Hid (Below w.heap.size w w8) := below_trans HB0.out (below_trans HB5.out hb8)
    clear hS toS
    go_wp2_with fail
    first
      | (refine bodyPost_ret (v := plV n b (1 - t) 0 c (min d n) e f) (by simp [results, Tryz.results108, go_sem, plV, World.cell?, heap_setCells _ _ hz8, putAll]) rfl ⟨rfl, ?_⟩; exact below_setCells (by omega) _ _ HBE.out)
      | (refine bodyPost_ret (v := plV a n (1 - t) 0 c d (max e n) f) (by simp [results, Tryz.results108, go_sem, plV, World.cell?, heap_setCells _ _ hz8, putAll]) rfl ⟨rfl, ?_⟩; exact below_setCells (by omega) _ _ HBE.out)
end Go.Proofs.YtemoepcfmpapoaaGreatDoor

/-
  bargain: a side stands, by contract.
-/
namespace Go.Proofs.YtemoepcfmpapoaaGreatDoor
open Go.RowKit Go.Proofs Go.Shelf

set_option maxRecDepth 100000 in
set_option maxHeartbeats 3200000 in
/-- A side stands. -/
theorem after_stand (a b t s c d e f : Int) (ns : List Int) (nv : Value) (w : World) (hN : Ints w nv ns) (hl : ns.length ≤ 1000) (ht : -100 ≤ t ∧ t ≤ 100) (hs : -100 ≤ s ∧ s ≤ 100) (hns : ∀ x ∈ ns, -100 ≤ x ∧ x ≤ 100) :
    Calls Tryz.prog 108 #[plV a b t s c d e f, .int .i64 (-1), nv] w (ValEnd (Pl.after ⟨a, b, t, s, c, d, e, f⟩ (-1) ns).v w) := by
  have hm0 : ∀ w, (method 370 117 (.agg #[]) "palfrey/bargain.unable").run Tryz.prog w = .ok (170, .agg #[]) w := fun _ => by kernel_rfl
  have hm1 : ∀ w, (method 370 118 (.agg #[]) "palfrey/bargain.unable").run Tryz.prog w = .ok (173, .agg #[]) w := fun _ => by kernel_rfl
  have hw1 : IntKind.i64.wrap (1 - t) = 1 - t := IntWalk.i64_in _ (by omega)
  obtain ⟨sd, hsd⟩ : ∃ sd, (t == 0) = sd := ⟨_, rfl⟩
  have HS := Lib.hid (fun w => side_any a b t s c d e f w)
  rw [hsd] at HS
  have HL := Lib.hid (fun w => left_any sd a b t s c d e f w)
  have hw2 : IntKind.i64.wrap (s + 1) = s + 1 := IntWalk.i64_in _ (by omega)
  have hpsd : (Pl.mk a b t s c d e f).sd = sd := hsd
  obtain ⟨av, cap, rfl, hNc⟩ := hN
  have HNc := Lib.hid hNc
  have HNS := Lib.hid hns
  obtain ⟨W0, hW0⟩ : ∃ W0, (w.alloc (.cells #[.int .i64 a, .int .i64 b, .int .i64 t, .int .i64 s, .int .i64 c, .int .i64 d, .int .i64 e, .int .i64 f] 90)).alloc (.cells #[.int .i64 0, .int .i64 0, .int .i64 0, .int .i64 0, .int .i64 0, .int .i64 0, .int .i64 0, .int .i64 0] 90) = W0 := ⟨_, rfl⟩
  have hs0 : W0.heap.size = w.heap.size + 1 + 1 := by rw [← hW0]; simp
  have hb0 : Below w.heap.size w W0 := by rw [← hW0]; exact (below_alloc w _).alloc (by simp) _
  have hp0 : W0.heap[w.heap.size]? = some (.cells #[.int .i64 a, .int .i64 b, .int .i64 t, .int .i64 s, .int .i64 c, .int .i64 d, .int .i64 e, .int .i64 f] 90 (0, 0)) := by rw [← hW0]; exact heap2_0 w _ _
  have hz0 : W0.heap[w.heap.size + 1]? = some (.cells #[.int .i64 0, .int .i64 0, .int .i64 0, .int .i64 0, .int .i64 0, .int .i64 0, .int .i64 0, .int .i64 0] 90 (0, 0)) := by rw [← hW0]; exact heap2_1 w _ _
  obtain ⟨d0, d1, d2, d3, d4, d5, d6, d7⟩ := plV_cells hp0
  have HB0 := Lib.hid hb0
  have HZ0 := Lib.hid hz0
  have HP0 := Lib.hid hp0
  have HS0 := Lib.hid hs0
  have HT := Lib.hid ht
  have HPS := Lib.hid hpsd
  clear hb0 hz0 hp0 hs0 hsd ht hs hNc hns hpsd
  unfold plV at *
  have HIP := Lib.hid Tryz.infoPl
  cases ns with
  | nil =>
    simp only [Pl.after, if_true]
    simp only [List.length_nil] at *
    cases sd
    all_goals
      simp only [sdV, sdT, Bool.false_eq_true, if_true, if_false, rgV, Bool.true_eq_false] at HS HL ⊢
      go_enter Tryz.func108, Tryz.ntmps108
      go_wp2_with (first
        | (go_at_call 56; refine (HS.out _).mono ?_; rintro q w1 ⟨rfl, hb1⟩; have g0 := below_cell hb1 d0; have g1 := below_cell hb1 d1; have g2 := below_cell hb1 d2; have g3 := below_cell hb1 d3; have g4 := below_cell hb1 d4; have g5 := below_cell hb1 d5; have g6 := below_cell hb1 d6; have g7 := below_cell hb1 d7; clear d0 d1 d2 d3 d4 d5 d6 d7)
        | (go_at_call 74; refine (HL.out _).mono ?_; rintro q w2 ⟨rfl, hb2⟩; have k0 := fun o => below_cell (below_alloc w2 o) (below_cell hb2 g0); have k1 := fun o => below_cell (below_alloc w2 o) (below_cell hb2 g1); have k2 := fun o => below_cell (below_alloc w2 o) (below_cell hb2 g2); have k3 := fun o => below_cell (below_alloc w2 o) (below_cell hb2 g3); have k4 := fun o => below_cell (below_alloc w2 o) (below_cell hb2 g4); have k5 := fun o => below_cell (below_alloc w2 o) (below_cell hb2 g5); have k6 := fun o => below_cell (below_alloc w2 o) (below_cell hb2 g6); have k7 := fun o => below_cell (below_alloc w2 o) (below_cell hb2 g7); have kk2 := fun o o2 => below_cell (below_alloc (w2.alloc o) o2) (k2 o); have hth5 : ∀ o1 o2, ((w2.alloc o1).alloc o2).heap[w.heap.size + 1]? = _ := fun o1 o2 => below_heap (below_alloc _ o2) (below_heap (below_alloc w2 o1) (below_heap (hb1.trans (hb2.mono hb1.size)) HZ0.out)); have HT5 := Lib.hid (fun o1 o2 => known_there (o := 0) (n := 8) (hth5 o1 o2) (by simp)); have HH5 := Lib.hid hth5; clear hth5; have HB2 := Lib.hid (hb1.trans (hb2.mono hb1.size)); clear g0 g1 g2 g3 g4 g5 g6 g7 hb1 hb2)
        | (refine wpList_store_mid rfl 90 (.tmp 6) (.tmp 40) rfl (w.heap.size + 1) 0 #[.int .i64 a, .int .i64 b, .int .i64 (1 - t), .int .i64 (s + 1), .int .i64 c, .int .i64 d, .int .i64 e, .int .i64 f] rfl rfl (HT5.out _ _) HIP.out (by simp [Value.oneCell']) ?_))
      have HBE : Hid (Below w.heap.size w w2) := below_trans HB0.out HB2.out
      refine bodyPost_ret (v := plV a b (1 - t) (s + 1) c d e f) (by simp [results, Tryz.results108, go_sem, plV, World.cell?, heap_setCells _ _ (HH5.out _ _), putAll]) rfl ⟨rfl, ?_⟩
      have hsz2 := HBE.out.size
      exact below_setCells (by omega) _ _ ((HBE.out.alloc hsz2 _).alloc (by first | (simp; done) | (simp; omega)) _)
  | cons n0 r =>
    have hn0 := HNS.out n0 (by simp)
    obtain ⟨nb, off, rfl, hcc⟩ := HNc.out (by simp)
    have hc0 : w.cell? ⟨nb, off, none⟩ = some (.int .i64 n0) := by simpa using hcc 0 (by simp)
    have hrl : (0 : Int) < ((n0 :: r).length : Int) := by simp only [List.length_cons]; omega
    have HUn := Lib.hid (fun w => unable_any sd (if sd then c else e) (if sd then d else f) n0 w (by omega) (by omega))
    have HWl := Lib.hid (fun w => withLeft_any sd a b (1 - t) (s + 1) c d e f (if sd then max c (n0 + 1) else e) (if sd then d else min f (n0 - 1)) w)
    have HPA : Hid ((Pl.after ⟨a, b, t, s, c, d, e, f⟩ (-1) (n0 :: r)).v = if sd then plV a b (1 - t) (s + 1) (max c (n0 + 1)) d e f else plV a b (1 - t) (s + 1) c d e (min f (n0 - 1))) := by
      show _ = _
      simp only [Pl.after, if_true, HPS.out]
      cases sd <;> rfl
    rw [HPA.out]
    have hrn : 0 < (n0 :: r).length := by simp
    generalize hL : (n0 :: r).length = L at *
    have HLL := Lib.hid hL
    clear hcc hn0 HPA HPS hL
    have hd1 := below_cell HB0.out hc0
    unfold plV at *
    cases sd
    all_goals
      simp only [sdV, sdT, Bool.false_eq_true, if_true, if_false, rgV, unableV, Bool.true_eq_false] at HUn HWl ⊢
      simp only [sdV, sdT, Bool.false_eq_true, if_true, if_false, rgV, Bool.true_eq_false] at HS HL ⊢
      go_enter Tryz.func108, Tryz.ntmps108
      go_wp2_with (first
        | (go_at_call 56; refine (HS.out _).mono ?_; rintro q w1 ⟨rfl, hb1⟩; have gn := below_cell hb1 hd1; have g0 := below_cell hb1 d0; have g1 := below_cell hb1 d1; have g2 := below_cell hb1 d2; have g3 := below_cell hb1 d3; have g4 := below_cell hb1 d4; have g5 := below_cell hb1 d5; have g6 := below_cell hb1 d6; have g7 := below_cell hb1 d7; clear d0 d1 d2 d3 d4 d5 d6 d7)
        | (go_at_call 74; refine (HL.out _).mono ?_; rintro q w2 ⟨rfl, hb2⟩; have kn := below_cell hb2 gn; have k0 := fun o => below_cell (below_alloc w2 o) (below_cell hb2 g0); have k1 := fun o => below_cell (below_alloc w2 o) (below_cell hb2 g1); have k2 := fun o => below_cell (below_alloc w2 o) (below_cell hb2 g2); have k3 := fun o => below_cell (below_alloc w2 o) (below_cell hb2 g3); have k4 := fun o => below_cell (below_alloc w2 o) (below_cell hb2 g4); have k5 := fun o => below_cell (below_alloc w2 o) (below_cell hb2 g5); have k6 := fun o => below_cell (below_alloc w2 o) (below_cell hb2 g6); have k7 := fun o => below_cell (below_alloc w2 o) (below_cell hb2 g7); have kk2 := fun o o2 => below_cell (below_alloc (w2.alloc o) o2) (k2 o); have hth5 : ∀ o1 o2, ((w2.alloc o1).alloc o2).heap[w.heap.size + 1]? = _ := fun o1 o2 => below_heap (below_alloc _ o2) (below_heap (below_alloc w2 o1) (below_heap (hb1.trans (hb2.mono hb1.size)) HZ0.out)); have HT5 := Lib.hid (fun o1 o2 => known_there (o := 0) (n := 8) (hth5 o1 o2) (by simp)); have HH5 := Lib.hid hth5; clear hth5; have HB2 := Lib.hid (hb1.trans (hb2.mono hb1.size)); clear g0 g1 g2 g3 g4 g5 g6 g7 hb1 hb2))
      have hr5 := fun o1 o2 => heap2_0 w2 o1 o2
      have hq5 := fun o1 o2 => heap2_1 w2 o1 o2
      have hz5 := HH5.out
      have hb5 := fun o1 o2 => HB2.out.trans (((below_alloc w2 o1).trans ((below_alloc (w2.alloc o1) o2).mono (by simp))).mono HB2.out.size)
      have hn5 := fun o1 o2 => below_cell (below_alloc _ o2) (below_cell (below_alloc w2 o1) kn)
      generalize hW5 : (w2.alloc _).alloc _ = W5
      have hr5' := congrArg (fun x : World => x.heap[w2.heap.size]?) hW5
      have hq5' := congrArg (fun x : World => x.heap[w2.heap.size + 1]?) hW5
      have hz5' := congrArg (fun x : World => x.heap[w.heap.size + 1]?) hW5
      have hb5' : Below W0.heap.size W0 W5 := hW5 ▸ hb5 _ _
      have hn5' : W5.cell? ⟨nb, off, none⟩ = some (.int .i64 n0) := hW5 ▸ hn5 _ _
      simp only [hr5, hq5, hz5] at hr5' hq5' hz5'
      obtain ⟨x0, x1, x2, x3, x4, x5, x6, x7⟩ := plV_cells hq5'.symm
      obtain ⟨y0, y1⟩ := rgV_cells hr5'.symm
      have hth := known_there (o := 0) (n := 8) hz5'.symm (by simp)
      have HZ5 := Lib.hid hz5'.symm
      have HB5 := Lib.hid hb5'
      clear hr5 hq5 hz5 hb5 hr5' hq5' hz5' hb5' hn5 hW5 k0 k1 k2 k3 k4 k5 k6 k7 kk2
      have hna0 : ∀ w, (nilAhead 370 117 (.agg #[]) "palfrey/bargain.unable").run Tryz.prog w = .ok (some false) w := fun _ => by kernel_rfl
      have hna1 : ∀ w, (nilAhead 370 118 (.agg #[]) "palfrey/bargain.unable").run Tryz.prog w = .ok (some false) w := fun _ => by kernel_rfl
      have hmf : ∀ (fn : Fn) (first cap : Array Value) (w : World), (Instr.makeFunc fn first cap).run Tryz.prog w = .ok (.func fn first cap) w := fun _ _ _ _ => rfl
      have toS : ∀ u : World, Below W5.heap.size W5 u → (u.cell? ⟨w2.heap.size, 0, none⟩ = W5.cell? ⟨w2.heap.size, 0, none⟩ ∧ u.cell? ⟨w2.heap.size, 1, none⟩ = W5.cell? ⟨w2.heap.size, 1, none⟩ ∧ u.cell? ⟨w2.heap.size + 1, 0, none⟩ = W5.cell? ⟨w2.heap.size + 1, 0, none⟩ ∧ u.cell? ⟨w2.heap.size + 1, 1, none⟩ = W5.cell? ⟨w2.heap.size + 1, 1, none⟩ ∧ u.cell? ⟨w2.heap.size + 1, 2, none⟩ = W5.cell? ⟨w2.heap.size + 1, 2, none⟩ ∧ u.cell? ⟨w2.heap.size + 1, 3, none⟩ = W5.cell? ⟨w2.heap.size + 1, 3, none⟩ ∧ u.cell? ⟨w2.heap.size + 1, 4, none⟩ = W5.cell? ⟨w2.heap.size + 1, 4, none⟩ ∧ u.cell? ⟨w2.heap.size + 1, 5, none⟩ = W5.cell? ⟨w2.heap.size + 1, 5, none⟩ ∧ u.cell? ⟨w2.heap.size + 1, 6, none⟩ = W5.cell? ⟨w2.heap.size + 1, 6, none⟩ ∧ u.cell? ⟨w2.heap.size + 1, 7, none⟩ = W5.cell? ⟨w2.heap.size + 1, 7, none⟩ ∧ u.cell? ⟨nb, off, none⟩ = W5.cell? ⟨nb, off, none⟩) := fun u h => ⟨h.cell (World.block_lt_of_cell? _ _ y0), h.cell (World.block_lt_of_cell? _ _ y1), h.cell (World.block_lt_of_cell? _ _ x0), h.cell (World.block_lt_of_cell? _ _ x1), h.cell (World.block_lt_of_cell? _ _ x2), h.cell (World.block_lt_of_cell? _ _ x3), h.cell (World.block_lt_of_cell? _ _ x4), h.cell (World.block_lt_of_cell? _ _ x5), h.cell (World.block_lt_of_cell? _ _ x6), h.cell (World.block_lt_of_cell? _ _ x7), h.cell (World.block_lt_of_cell? _ _ hn5')⟩
      refine wp_region_late (fun w' : World => w'.cell? ⟨w2.heap.size, 0, none⟩ = W5.cell? ⟨w2.heap.size, 0, none⟩ ∧ w'.cell? ⟨w2.heap.size, 1, none⟩ = W5.cell? ⟨w2.heap.size, 1, none⟩ ∧ w'.cell? ⟨w2.heap.size + 1, 0, none⟩ = W5.cell? ⟨w2.heap.size + 1, 0, none⟩ ∧ w'.cell? ⟨w2.heap.size + 1, 1, none⟩ = W5.cell? ⟨w2.heap.size + 1, 1, none⟩ ∧ w'.cell? ⟨w2.heap.size + 1, 2, none⟩ = W5.cell? ⟨w2.heap.size + 1, 2, none⟩ ∧ w'.cell? ⟨w2.heap.size + 1, 3, none⟩ = W5.cell? ⟨w2.heap.size + 1, 3, none⟩ ∧ w'.cell? ⟨w2.heap.size + 1, 4, none⟩ = W5.cell? ⟨w2.heap.size + 1, 4, none⟩ ∧ w'.cell? ⟨w2.heap.size + 1, 5, none⟩ = W5.cell? ⟨w2.heap.size + 1, 5, none⟩ ∧ w'.cell? ⟨w2.heap.size + 1, 6, none⟩ = W5.cell? ⟨w2.heap.size + 1, 6, none⟩ ∧ w'.cell? ⟨w2.heap.size + 1, 7, none⟩ = W5.cell? ⟨w2.heap.size + 1, 7, none⟩ ∧ w'.cell? ⟨nb, off, none⟩ = W5.cell? ⟨nb, off, none⟩) (fun i => i == 12) (by kernel_rfl) ?_
      have hb5 : Below W5.heap.size W5 W5.drew := (Below.refl _ W5).drew
      have hS := toS _ hb5
      obtain ⟨wd, hwd⟩ : ∃ x, x = W5.drew := ⟨_, rfl⟩
      rw [← hwd] at hS hb5 ⊢
      have HWD := Lib.hid hwd
      clear hwd
      refine late_take (i := 0) (v := ?_) (by simp only [List.getElem?_toArray, List.getElem?_cons_zero, List.getElem?_cons_succ]; exact rfl) (by kernel_rfl) (by kernel_rfl) (by exact fun _ _ _ h => h) 12 _ _ _ (by kernel_rfl) (List.mem_of_elem_eq_true (by kernel_rfl)) (Or.inl ⟨by rfl, ?_⟩) hS ?_
      rotate_left
      · intro w9 hw9
        try dsimp only at hw9
        obtain ⟨hw0, hw1, hw2, hw3, hw4, hw5, hw6, hw7, hw8, hw9, hw10⟩ := hw9
        go_simp
        try with_reducible rfl
      try simp only [Act.put, List.setIfInBounds_toArray, List.set_cons_zero, List.set_cons_succ]
      refine late_take (i := 1) (v := ?_) (by simp only [List.getElem?_toArray, List.getElem?_cons_zero, List.getElem?_cons_succ]; exact rfl) (by kernel_rfl) (by kernel_rfl) (by exact fun _ _ _ h => h) 11 _ _ _ (by kernel_rfl) (List.mem_of_elem_eq_true (by kernel_rfl)) (Or.inl ⟨by rfl, ?_⟩) hS ?_
      rotate_left
      · intro w9 hw9
        try dsimp only at hw9
        obtain ⟨hw0, hw1, hw2, hw3, hw4, hw5, hw6, hw7, hw8, hw9, hw10⟩ := hw9
        go_simp
        try with_reducible rfl
      try simp only [Act.put, List.setIfInBounds_toArray, List.set_cons_zero, List.set_cons_succ]
      refine late_take (i := 2) (v := ?_) (by simp only [List.getElem?_toArray, List.getElem?_cons_zero, List.getElem?_cons_succ]; exact rfl) (by kernel_rfl) (by kernel_rfl) (by exact fun _ _ _ h => h) 10 _ _ _ (by kernel_rfl) (List.mem_of_elem_eq_true (by kernel_rfl)) (Or.inl ⟨by rfl, ?_⟩) hS ?_
      rotate_left
      · intro w9 hw9
        try dsimp only at hw9
        obtain ⟨hw0, hw1, hw2, hw3, hw4, hw5, hw6, hw7, hw8, hw9, hw10⟩ := hw9
        go_simp
        try with_reducible rfl
      try simp only [Act.put, List.setIfInBounds_toArray, List.set_cons_zero, List.set_cons_succ]
      refine late_take (i := 3) (v := ?_) (by simp only [List.getElem?_toArray, List.getElem?_cons_zero, List.getElem?_cons_succ]; exact rfl) (by kernel_rfl) (by kernel_rfl) (by exact fun _ _ _ h => h) 9 _ _ _ (by kernel_rfl) (List.mem_of_elem_eq_true (by kernel_rfl)) (Or.inl ⟨by rfl, ?_⟩) hS ?_
      rotate_left
      · intro w9 hw9
        try dsimp only at hw9
        obtain ⟨hw0, hw1, hw2, hw3, hw4, hw5, hw6, hw7, hw8, hw9, hw10⟩ := hw9
        go_simp
        try with_reducible rfl
      try simp only [Act.put, List.setIfInBounds_toArray, List.set_cons_zero, List.set_cons_succ]
      refine late_take (i := 4) (v := ?_) (by simp only [List.getElem?_toArray, List.getElem?_cons_zero, List.getElem?_cons_succ]; exact rfl) (by kernel_rfl) (by kernel_rfl) (by exact fun _ _ _ h => h) 8 _ _ _ (by kernel_rfl) (List.mem_of_elem_eq_true (by kernel_rfl)) (Or.inl ⟨by rfl, ?_⟩) hS ?_
      rotate_left
      · intro w9 hw9
        try dsimp only at hw9
        obtain ⟨hw0, hw1, hw2, hw3, hw4, hw5, hw6, hw7, hw8, hw9, hw10⟩ := hw9
        go_simp
        try with_reducible rfl
      try simp only [Act.put, List.setIfInBounds_toArray, List.set_cons_zero, List.set_cons_succ]
      refine late_take (i := 5) (v := ?_) (by simp only [List.getElem?_toArray, List.getElem?_cons_zero, List.getElem?_cons_succ]; exact rfl) (by kernel_rfl) (by kernel_rfl) (by exact fun _ _ _ h => h) 7 _ _ _ (by kernel_rfl) (List.mem_of_elem_eq_true (by kernel_rfl)) (Or.inl ⟨by rfl, ?_⟩) hS ?_
      rotate_left
      · intro w9 hw9
        try dsimp only at hw9
        obtain ⟨hw0, hw1, hw2, hw3, hw4, hw5, hw6, hw7, hw8, hw9, hw10⟩ := hw9
        go_simp
        try with_reducible rfl
      try simp only [Act.put, List.setIfInBounds_toArray, List.set_cons_zero, List.set_cons_succ]
      refine late_take (i := 6) (v := ?_) (by simp only [List.getElem?_toArray, List.getElem?_cons_zero, List.getElem?_cons_succ]; exact rfl) (by kernel_rfl) (by kernel_rfl) (by exact fun _ _ _ h => h) 6 _ _ _ (by kernel_rfl) (List.mem_of_elem_eq_true (by kernel_rfl)) (Or.inl ⟨by rfl, ?_⟩) hS ?_
      rotate_left
      · intro w9 hw9
        try dsimp only at hw9
        obtain ⟨hw0, hw1, hw2, hw3, hw4, hw5, hw6, hw7, hw8, hw9, hw10⟩ := hw9
        go_simp
        try with_reducible rfl
      try simp only [Act.put, List.setIfInBounds_toArray, List.set_cons_zero, List.set_cons_succ]
      refine late_take (i := 7) (v := ?_) (by simp only [List.getElem?_toArray, List.getElem?_cons_zero, List.getElem?_cons_succ]; exact rfl) (by kernel_rfl) (by kernel_rfl) (by exact fun _ _ _ h => h) 5 _ _ _ (by kernel_rfl) (List.mem_of_elem_eq_true (by kernel_rfl)) (Or.inl ⟨by rfl, ?_⟩) hS ?_
      rotate_left
      · intro w9 hw9
        try dsimp only at hw9
        obtain ⟨hw0, hw1, hw2, hw3, hw4, hw5, hw6, hw7, hw8, hw9, hw10⟩ := hw9
        go_simp
        try with_reducible rfl
      try simp only [Act.put, List.setIfInBounds_toArray, List.set_cons_zero, List.set_cons_succ]
      refine late_take (i := 8) (v := ?_) (by simp only [List.getElem?_toArray, List.getElem?_cons_zero, List.getElem?_cons_succ]; exact rfl) (by kernel_rfl) (by kernel_rfl) (by exact fun _ _ _ h => h) 4 _ _ _ (by kernel_rfl) (List.mem_of_elem_eq_true (by kernel_rfl)) (Or.inl ⟨by rfl, ?_⟩) hS ?_
      rotate_left
      · intro w9 hw9
        try dsimp only at hw9
        obtain ⟨hw0, hw1, hw2, hw3, hw4, hw5, hw6, hw7, hw8, hw9, hw10⟩ := hw9
        go_simp
        try with_reducible rfl
      try simp only [Act.put, List.setIfInBounds_toArray, List.set_cons_zero, List.set_cons_succ]
      refine late_take (i := 9) (v := ?_) (by simp only [List.getElem?_toArray, List.getElem?_cons_zero, List.getElem?_cons_succ]; exact rfl) (by kernel_rfl) (by kernel_rfl) (by exact fun _ _ _ h => h) 3 _ _ _ (by kernel_rfl) (List.mem_of_elem_eq_true (by kernel_rfl)) (Or.inl ⟨by rfl, ?_⟩) hS ?_
      rotate_left
      · intro w9 hw9
        try dsimp only at hw9
        obtain ⟨hw0, hw1, hw2, hw3, hw4, hw5, hw6, hw7, hw8, hw9, hw10⟩ := hw9
        go_simp
        try with_reducible rfl
      try simp only [Act.put, List.setIfInBounds_toArray, List.set_cons_zero, List.set_cons_succ]
      refine late_one (i := 10) (by kernel_rfl) (by simp only [List.getElem?_toArray, List.getElem?_cons_zero, List.getElem?_cons_succ]; exact rfl) (by rfl) ?_
      intro K hK
      go_simp
      refine (HUn.out _).mono ?_
      rintro q w6 ⟨rfl, hbx⟩
      dsimp only
      have hb6 := hb5.trans (hbx.mono hb5.size)
      refine hK _ _ (fun _ => toS _ hb6) ?_
      clear hK K hbx
      try simp only [Act.put, List.setIfInBounds_toArray, List.set_cons_zero, List.set_cons_succ]
      refine late_one (i := 11) (by kernel_rfl) (by simp only [List.getElem?_toArray, List.getElem?_cons_zero, List.getElem?_cons_succ]; exact rfl) (by rfl) ?_
      intro K hK
      go_simp
      refine (HWl.out _).mono ?_
      rintro q w8 ⟨rfl, hbx⟩
      dsimp only
      have hb8 := hb6.trans (hbx.mono hb6.size)
      refine hK _ _ (fun _ => toS _ hb8) ?_
      clear hK K hbx
      try simp only [Act.put, List.setIfInBounds_toArray, List.set_cons_zero, List.set_cons_succ]
      refine late_one (i := 12) (by kernel_rfl) (by simp only [List.getElem?_toArray, List.getElem?_cons_zero, List.getElem?_cons_succ]; exact rfl) (by rfl) ?_
      intro K hK
      have ht8 := below_there hb8 hth
      first
        | refine wp_store_mid 90 (.tmp 6) (.tmp 52) rfl (w.heap.size + 1) 0 #[.int .i64 a, .int .i64 b, .int .i64 (1 - t), .int .i64 (s + 1), .int .i64 (max c (n0 + 1)), .int .i64 d, .int .i64 e, .int .i64 f] rfl rfl ht8 HIP.out (by simp [Value.oneCell']) ?_
        | refine wp_store_mid 90 (.tmp 6) (.tmp 52) rfl (w.heap.size + 1) 0 #[.int .i64 a, .int .i64 b, .int .i64 (1 - t), .int .i64 (s + 1), .int .i64 c, .int .i64 d, .int .i64 e, .int .i64 (min f (n0 - 1))] rfl rfl ht8 HIP.out (by simp [Value.oneCell']) ?_
      refine hK _ _ (fun h => by simp at h) ?_
      clear hK K
      try simp only [Act.put, List.setIfInBounds_toArray, List.set_cons_zero, List.set_cons_succ]
      refine late_done (by kernel_rfl) ?_ _
      have hz8 := below_heap hb8 HZ5.out
      have HBE : Hid (Below w.heap.size w w8) := below_trans HB0.out (below_trans HB5.out hb8)
      clear hS toS
      go_wp2_with fail
      first
        | (refine bodyPost_ret (v := plV a b (1 - t) (s + 1) (max c (n0 + 1)) d e f) (by simp [results, Tryz.results108, go_sem, plV, World.cell?, heap_setCells _ _ hz8, putAll]) rfl ⟨rfl, ?_⟩; exact below_setCells (by omega) _ _ HBE.out)
        | (refine bodyPost_ret (v := plV a b (1 - t) (s + 1) c d e (min f (n0 - 1))) (by simp [results, Tryz.results108, go_sem, plV, World.cell?, heap_setCells _ _ hz8, putAll]) rfl ⟨rfl, ?_⟩; exact below_setCells (by omega) _ _ HBE.out)
end Go.Proofs.YtemoepcfmpapoaaGreatDoor

/-
  bargain: what a side says, by contract.
-/
namespace Go.Proofs.YtemoepcfmpapoaaGreatDoor
open Go.RowKit Go.Proofs Go.Shelf

/-- All that lay there stays; the places in N4 and N9 can be read. -/
def SB (N4 N9 : Nat) (W w' : World) : Prop := Below W.heap.size W w' ∧ w'.cell? ⟨N4, 0, none⟩ = W.cell? ⟨N4, 0, none⟩ ∧ w'.cell? ⟨N4, 1, none⟩ = W.cell? ⟨N4, 1, none⟩ ∧ w'.cell? ⟨N4, 2, none⟩ = W.cell? ⟨N4, 2, none⟩ ∧ w'.cell? ⟨N4, 3, none⟩ = W.cell? ⟨N4, 3, none⟩ ∧ w'.cell? ⟨N4, 4, none⟩ = W.cell? ⟨N4, 4, none⟩ ∧ w'.cell? ⟨N4, 5, none⟩ = W.cell? ⟨N4, 5, none⟩ ∧ w'.cell? ⟨N4, 6, none⟩ = W.cell? ⟨N4, 6, none⟩ ∧ w'.cell? ⟨N4, 7, none⟩ = W.cell? ⟨N4, 7, none⟩ ∧ w'.cell? ⟨N9, 0, none⟩ = W.cell? ⟨N9, 0, none⟩ ∧ w'.cell? ⟨N9, 1, none⟩ = W.cell? ⟨N9, 1, none⟩ ∧ w'.cell? ⟨N9, 2, none⟩ = W.cell? ⟨N9, 2, none⟩ ∧ w'.cell? ⟨N9, 3, none⟩ = W.cell? ⟨N9, 3, none⟩ ∧ w'.cell? ⟨N9, 4, none⟩ = W.cell? ⟨N9, 4, none⟩ ∧ w'.cell? ⟨N9, 5, none⟩ = W.cell? ⟨N9, 5, none⟩ ∧ w'.cell? ⟨N9, 6, none⟩ = W.cell? ⟨N9, 6, none⟩ ∧ w'.cell? ⟨N9, 7, none⟩ = W.cell? ⟨N9, 7, none⟩
theorem SB.mk' {N4 N9 : Nat} {W u : World} (l4 : N4 < W.heap.size) (l9 : N9 < W.heap.size) (h : Below W.heap.size W u) : SB N4 N9 W u :=
  ⟨h, h.cell l4, h.cell l4, h.cell l4, h.cell l4, h.cell l4, h.cell l4, h.cell l4, h.cell l4, h.cell l9, h.cell l9, h.cell l9, h.cell l9, h.cell l9, h.cell l9, h.cell l9, h.cell l9⟩
theorem SB.go {N4 N9 : Nat} {W y z : World} (l4 : N4 < W.heap.size) (l9 : N9 < W.heap.size) (hb : Below y.heap.size y z) (h : SB N4 N9 W y) : SB N4 N9 W z := .mk' l4 l9 (below_trans h.1 hb)
theorem SB.alloc {N4 N9 : Nat} {W y : World} (l4 : N4 < W.heap.size) (l9 : N9 < W.heap.size) (o : Obj) (h : SB N4 N9 W y) : SB N4 N9 W (y.alloc o) := .mk' l4 l9 (h.1.alloc h.1.size o)

def errV (n : Int) : Value := .iface 151 (.agg #[.int .i64 n])
def SayEnd (p q : Pl) (w : World) (e : Ending) (w' : World) : Prop :=
  e = .returned (.tuple #[if p.fits q then q.v else plV 0 0 0 0 0 0 0 0, if p.fits q then .nilIface else errV 9]) ∧ Below w.heap.size w w'

theorem after_any (p : Pl) (n : Int) (ns : List Int) (nv : Value) (w : World) (hN : Ints w nv ns) (hl : ns.length ≤ 1000) (ht : -100 ≤ p.t ∧ p.t ≤ 100) (hs : -100 ≤ p.s ∧ p.s ≤ 100) (hns : ∀ x ∈ ns, -100 ≤ x ∧ x ≤ 100) :
    Calls Tryz.prog 108 #[p.v, .int .i64 n, nv] w (ValEnd (p.after n ns).v w) := by
  obtain ⟨a, b, t, s, c, d, e, f⟩ := p
  by_cases h : n = -1
  · subst h
    exact after_stand a b t s c d e f ns nv w hN hl ht hs hns
  · have h1 := after_named a b t s c d e f n nv w h ht
    have e1 : (Pl.after ⟨a, b, t, s, c, d, e, f⟩ n ns).v = if t == 0 then plV n b (1 - t) 0 c (min d n) e f else plV a n (1 - t) 0 c d (max e n) f := by
      by_cases h0 : (t == 0) = true
      · have hs0 : (Pl.mk a b t s c d e f).sd = true := h0
        unfold Pl.after; rw [if_neg h, if_pos hs0, if_pos h0]; rfl
      · have hs0 : ¬ (Pl.mk a b t s c d e f).sd = true := h0
        unfold Pl.after; rw [if_neg h, if_neg hs0, if_neg h0]; rfl
    rw [e1]
    exact h1

set_option maxRecDepth 100000 in
set_option maxHeartbeats 3200000 in
theorem say_any (Wk : Nat) (lo hi : Int) (p : Pl) (n : Int) (w : World) (hW : WkB Wk lo hi w) (h1 : 1 ≤ lo) (h2 : lo ≤ hi) (h3 : hi ≤ 3) (hp : PV p) (ho : p.over = false) (hn : n ∈ p.names lo (hi - lo + 1).toNat ∨ n = -1) :
    Calls Tryz.prog 73 #[.pointer (some ⟨Wk, 0, none⟩), p.v, .int .i64 n] w (SayEnd p (p.after n (p.names lo (hi - lo + 1).toNat)) w) := by
  obtain ⟨ns, hns⟩ : ∃ ns, p.names lo (hi - lo + 1).toNat = ns := ⟨_, rfl⟩
  have hb0 := hp.b0
  have hba := hp.ba
  have ha12 := hp.a12
  have hlen : ns.length ≤ 1000 := by have := names_le lo p (hi - lo + 1).toNat; rw [hns] at this; omega
  have hmem : ∀ x ∈ ns, 0 ≤ x ∧ x ≤ 12 := fun x hx => by have := Pl.mem_names (p := p) (lo := lo) (k := (hi - lo + 1).toNat) (x := x) (by rw [hns]; exact hx); omega
  have HNM := Lib.hid (fun w' (h : Below w.heap.size w w') => names_any Wk lo hi p w' (hW.below h) h1 h2 h3 (by omega) (by omega))
  rw [hns] at HNM hn ⊢
  obtain ⟨q, hq⟩ : ∃ q, p.after n ns = q := ⟨_, rfl⟩
  obtain ⟨fi, hfi⟩ : ∃ fi, p.fits q = fi := ⟨_, rfl⟩
  have HAF := Lib.hid (fun nv w' (h : Ints w' nv ns) => after_any p n ns nv w' h hlen (by have := hp.t; omega) (by have := hp.s; omega) (fun x hx => by have := hmem x hx; omega))
  rw [hq] at HAF ⊢
  unfold SayEnd
  rw [hfi]
  have HCO : Hid (n ≠ -1 → ∀ nv w', Ints w' nv ns → Calls Tryz.prog 107 #[nv, .int .i64 n] w' (BoolEnd true w')) := fun h9 nv w' h => by
    have h8 := contains_any nv ns n w' h (by omega)
    rwa [decide_eq_true (hn.resolve_right h9)] at h8
  have HOU : Hid (n ≠ -1 → ∀ w', Calls Tryz.prog 75 #[.int .i64 n, .int .i64 0, .int .i64 12] w' (BoolEnd false w')) := fun h9 w' => by
    have h8 := boutside_any n 0 12 w'
    have h7 := hmem n (hn.resolve_right h9)
    rwa [decide_eq_false (by omega), decide_eq_false (by omega), Bool.or_false] at h8
  obtain ⟨a, b, t, s, c, d, e, f⟩ := p
  obtain ⟨a', b', t', s', c', d', e', f'⟩ := q
  have HOV := Lib.hid (fun w => over_any a b t s c d e f w)
  have ho' : (a == b || s == 2) = false := ho
  rw [ho'] at HOV
  have HSI := Lib.hid (fun w => side_any a b t s c d e f w)
  obtain ⟨sd, hsd⟩ : ∃ sd, (t == 0) = sd := ⟨_, rfl⟩
  rw [hsd] at HSI
  have HLE := Lib.hid (fun w => left_any sd a' b' t' s' c' d' e' f' w)
  obtain ⟨x, hx⟩ : ∃ x : Int, (if sd then c' else e') = x := ⟨_, rfl⟩
  obtain ⟨y, hy⟩ : ∃ y : Int, (if sd then d' else f') = y := ⟨_, rfl⟩
  have hxy : (if sd then rgV c' d' else rgV e' f') = rgV x y := by rw [← hx, ← hy]; cases sd <;> rfl
  simp only [hxy] at HLE
  have hfit : decide (y < x) = !fi := by
    rw [← hfi, ← hx, ← hy]
    have h9 : (Pl.mk a b t s c d e f).sd = sd := hsd
    unfold Pl.fits
    rw [h9]
    cases sd
    · simp only [Bool.false_eq_true, if_false]
      by_cases h8 : f' < e'
      · simp [h8]
      · simp [h8]; omega
    · simp only [if_true]
      by_cases h8 : d' < c'
      · simp [h8]
      · simp [h8]; omega
  obtain ⟨W0, hW0⟩ : ∃ W0, (w.alloc (.cells #[.int .i64 a, .int .i64 b, .int .i64 t, .int .i64 s, .int .i64 c, .int .i64 d, .int .i64 e, .int .i64 f] 90)).alloc (.cells #[.int .i64 0, .int .i64 0, .int .i64 0, .int .i64 0, .int .i64 0, .int .i64 0, .int .i64 0, .int .i64 0] 90) = W0 := ⟨_, rfl⟩
  have hs0 : W0.heap.size = w.heap.size + 1 + 1 := by rw [← hW0]; simp
  have hb00 : Below w.heap.size w W0 := by rw [← hW0]; exact (below_alloc w _).alloc (by simp) _
  have hp0 : W0.heap[w.heap.size]? = some (.cells #[.int .i64 a, .int .i64 b, .int .i64 t, .int .i64 s, .int .i64 c, .int .i64 d, .int .i64 e, .int .i64 f] 90 (0, 0)) := by rw [← hW0]; exact heap2_0 w _ _
  have hz0 : W0.heap[w.heap.size + 1]? = some (.cells #[.int .i64 0, .int .i64 0, .int .i64 0, .int .i64 0, .int .i64 0, .int .i64 0, .int .i64 0, .int .i64 0] 90 (0, 0)) := by rw [← hW0]; exact heap2_1 w _ _
  obtain ⟨d0, d1, d2, d3, d4, d5, d6, d7⟩ := plV_cells hp0
  have HB0 := Lib.hid hb00
  have HZ0 := Lib.hid hz0
  have HP0 := Lib.hid hp0
  have HS0 := Lib.hid hs0
  have HFIT := Lib.hid hfit
  have HMEM := Lib.hid hmem
  have HN := Lib.hid hn
  clear hb00 hz0 hp0 hs0 hfit hmem hx hy hxy hsd ho ho' hW hp hq hfi hns hn hb0 hba ha12
  unfold Pl.v at *
  simp only at *
  unfold plV at *
  have hmf : ∀ (fn : Fn) (first cap : Array Value) (w : World), (Instr.makeFunc fn first cap).run Tryz.prog w = .ok (.func fn first cap) w := fun _ _ _ _ => rfl
  rcases Classical.em (n = -1) with hn1 | hn1
  case' inl => subst hn1
  case' inr => have hnb : (n != -1) = true := by simpa using hn1
  all_goals
    go_enter Tryz.func73, Tryz.ntmps73
    go_wp2_with (first
      | (go_at_call 105; refine (HOV.out _).mono ?_; rintro q w1 ⟨rfl, hb1⟩; have g0 := below_cell hb1 d0; have g1 := below_cell hb1 d1; have g2 := below_cell hb1 d2; have g3 := below_cell hb1 d3; have g4 := below_cell hb1 d4; have g5 := below_cell hb1 d5; have g6 := below_cell hb1 d6; have g7 := below_cell hb1 d7; have B1 := Lib.hid hb1; clear d0 d1 d2 d3 d4 d5 d6 d7)
      | (go_at_call 106; refine (HNM.out _ (below_trans HB0.out B1.out)).mono ?_; rintro q w2 ⟨nv, rfl, hown, hb2⟩; obtain ⟨na, nc, hnv⟩ := slice_of_owns hown; obtain rfl := hnv.1; have k0 := below_cell hb2 g0; have k1 := below_cell hb2 g1; have k2 := below_cell hb2 g2; have k3 := below_cell hb2 g3; have k4 := below_cell hb2 g4; have k5 := below_cell hb2 g5; have k6 := below_cell hb2 g6; have k7 := below_cell hb2 g7; have HIN := Lib.hid (ints_of_owns hown); have B2 := Lib.hid (below_trans B1.out hb2); clear hown hnv g0 g1 g2 g3 g4 g5 g6 g7)
      | (go_at_call 108; refine (HAF.out _ _ HIN.out).mono ?_; rintro q w3 ⟨rfl, hb3⟩)
      | (go_at_call 75; refine (HOU.out hn1 _).mono ?_; rintro q w1b ⟨rfl, hb1b⟩; have gg0 := below_cell hb1b g0; have gg1 := below_cell hb1b g1; have gg2 := below_cell hb1b g2; have gg3 := below_cell hb1b g3; have gg4 := below_cell hb1b g4; have gg5 := below_cell hb1b g5; have gg6 := below_cell hb1b g6; have gg7 := below_cell hb1b g7; have B1b := Lib.hid (below_trans B1.out hb1b); clear g0 g1 g2 g3 g4 g5 g6 g7)
      | (go_at_call 106; refine (HNM.out _ (below_trans HB0.out B1b.out)).mono ?_; rintro q w2 ⟨nv, rfl, hown, hb2⟩; obtain ⟨na, nc, hnv⟩ := slice_of_owns hown; obtain rfl := hnv.1; have k0 := below_cell hb2 gg0; have k1 := below_cell hb2 gg1; have k2 := below_cell hb2 gg2; have k3 := below_cell hb2 gg3; have k4 := below_cell hb2 gg4; have k5 := below_cell hb2 gg5; have k6 := below_cell hb2 gg6; have k7 := below_cell hb2 gg7; have HIN := Lib.hid (ints_of_owns hown); have B2 := Lib.hid (below_trans B1b.out hb2); clear hown hnv gg0 gg1 gg2 gg3 gg4 gg5 gg6 gg7)
      | (go_at_call 107; refine (HCO.out hn1 _ _ HIN.out).mono ?_; rintro q w2b ⟨rfl, hb2b⟩; have kk0 := below_cell hb2b k0; have kk1 := below_cell hb2b k1; have kk2 := below_cell hb2b k2; have kk3 := below_cell hb2b k3; have kk4 := below_cell hb2b k4; have kk5 := below_cell hb2b k5; have kk6 := below_cell hb2b k6; have kk7 := below_cell hb2b k7; have HINb := Lib.hid (HIN.out.same fun _ _ h => below_cell hb2b h); have B2b := Lib.hid (below_trans B2.out hb2b); clear k0 k1 k2 k3 k4 k5 k6 k7 hb2b)
      | (go_at_call 108; refine (HAF.out _ _ HINb.out).mono ?_; rintro q w3 ⟨rfl, hb3⟩))
    first
      | (have m0 := below_cell hb3 kk0; have m1 := below_cell hb3 kk1; have m2 := below_cell hb3 kk2; have m3 := below_cell hb3 kk3; have m4 := below_cell hb3 kk4; have m5 := below_cell hb3 kk5; have m6 := below_cell hb3 kk6; have m7 := below_cell hb3 kk7; have B3 := Lib.hid (below_trans B2b.out hb3); clear kk0 kk1 kk2 kk3 kk4 kk5 kk6 kk7)
      | (have m0 := below_cell hb3 k0; have m1 := below_cell hb3 k1; have m2 := below_cell hb3 k2; have m3 := below_cell hb3 k3; have m4 := below_cell hb3 k4; have m5 := below_cell hb3 k5; have m6 := below_cell hb3 k6; have m7 := below_cell hb3 k7; have B3 := Lib.hid (below_trans B2.out hb3); clear k0 k1 k2 k3 k4 k5 k6 k7)
    have hz3 := below_heap (below_trans B3.out (below_alloc w3 (.cells #[.int .i64 a', .int .i64 b', .int .i64 t', .int .i64 s', .int .i64 c', .int .i64 d', .int .i64 e', .int .i64 f'] 90))) HZ0.out
    have B9 := Lib.hid (below_trans B3.out (below_alloc w3 (.cells #[.int .i64 a', .int .i64 b', .int .i64 t', .int .i64 s', .int .i64 c', .int .i64 d', .int .i64 e', .int .i64 f'] 90)))
    have hq9 := heap_new w3 (.cells #[.int .i64 a', .int .i64 b', .int .i64 t', .int .i64 s', .int .i64 c', .int .i64 d', .int .i64 e', .int .i64 f'] 90)
    have al := fun {a : Addr} {v : Value} (h : w3.cell? a = some v) => below_cell (below_alloc w3 (.cells #[.int .i64 a', .int .i64 b', .int .i64 t', .int .i64 s', .int .i64 c', .int .i64 d', .int .i64 e', .int .i64 f'] 90)) h
    replace m0 := al m0
    replace m1 := al m1
    replace m2 := al m2
    replace m3 := al m3
    replace m4 := al m4
    replace m5 := al m5
    replace m6 := al m6
    replace m7 := al m7
    clear al hb3
    generalize hW9 : w3.alloc _ = W9 at *
    obtain ⟨x0, x1, x2, x3, x4, x5, x6, x7⟩ := plV_cells hq9
    have l4 : w.heap.size < W9.heap.size := World.block_lt_of_cell? _ _ m0
    have l9 : w3.heap.size < W9.heap.size := World.block_lt_of_cell? _ _ x0
    have hd9 : Below W9.heap.size W9 W9.drew := (Below.refl _ W9).drew
    have HZ3 := Lib.hid hz3
    clear hz3 hq9 hW9
    have HIR := Lib.hid Tryz.infoRg
    go_cut [10] from 43 to 46 (fun r w' => ∃ NA, r = .pointer (some ⟨NA, 0, none⟩) ∧ w'.cell? ⟨NA, 0, none⟩ = some (.int .i64 x) ∧ w'.cell? ⟨NA, 1, none⟩ = some (.int .i64 y) ∧ Below W9.heap.size W9 w')
    case first =>
      have toS : ∀ u : World, Below W9.heap.size W9 u → (u.cell? ⟨w.heap.size, 0, none⟩ = W9.cell? ⟨w.heap.size, 0, none⟩ ∧ u.cell? ⟨w.heap.size, 1, none⟩ = W9.cell? ⟨w.heap.size, 1, none⟩ ∧ u.cell? ⟨w.heap.size, 2, none⟩ = W9.cell? ⟨w.heap.size, 2, none⟩ ∧ u.cell? ⟨w.heap.size, 3, none⟩ = W9.cell? ⟨w.heap.size, 3, none⟩ ∧ u.cell? ⟨w.heap.size, 4, none⟩ = W9.cell? ⟨w.heap.size, 4, none⟩ ∧ u.cell? ⟨w.heap.size, 5, none⟩ = W9.cell? ⟨w.heap.size, 5, none⟩ ∧ u.cell? ⟨w.heap.size, 6, none⟩ = W9.cell? ⟨w.heap.size, 6, none⟩ ∧ u.cell? ⟨w.heap.size, 7, none⟩ = W9.cell? ⟨w.heap.size, 7, none⟩ ∧ u.cell? ⟨w3.heap.size, 0, none⟩ = W9.cell? ⟨w3.heap.size, 0, none⟩ ∧ u.cell? ⟨w3.heap.size, 1, none⟩ = W9.cell? ⟨w3.heap.size, 1, none⟩ ∧ u.cell? ⟨w3.heap.size, 2, none⟩ = W9.cell? ⟨w3.heap.size, 2, none⟩ ∧ u.cell? ⟨w3.heap.size, 3, none⟩ = W9.cell? ⟨w3.heap.size, 3, none⟩ ∧ u.cell? ⟨w3.heap.size, 4, none⟩ = W9.cell? ⟨w3.heap.size, 4, none⟩ ∧ u.cell? ⟨w3.heap.size, 5, none⟩ = W9.cell? ⟨w3.heap.size, 5, none⟩ ∧ u.cell? ⟨w3.heap.size, 6, none⟩ = W9.cell? ⟨w3.heap.size, 6, none⟩ ∧ u.cell? ⟨w3.heap.size, 7, none⟩ = W9.cell? ⟨w3.heap.size, 7, none⟩) := fun u h => ⟨h.cell l4, h.cell l4, h.cell l4, h.cell l4, h.cell l4, h.cell l4, h.cell l4, h.cell l4, h.cell l9, h.cell l9, h.cell l9, h.cell l9, h.cell l9, h.cell l9, h.cell l9, h.cell l9⟩
      refine wp_region_late (fun w' : World => w'.cell? ⟨w.heap.size, 0, none⟩ = W9.cell? ⟨w.heap.size, 0, none⟩ ∧ w'.cell? ⟨w.heap.size, 1, none⟩ = W9.cell? ⟨w.heap.size, 1, none⟩ ∧ w'.cell? ⟨w.heap.size, 2, none⟩ = W9.cell? ⟨w.heap.size, 2, none⟩ ∧ w'.cell? ⟨w.heap.size, 3, none⟩ = W9.cell? ⟨w.heap.size, 3, none⟩ ∧ w'.cell? ⟨w.heap.size, 4, none⟩ = W9.cell? ⟨w.heap.size, 4, none⟩ ∧ w'.cell? ⟨w.heap.size, 5, none⟩ = W9.cell? ⟨w.heap.size, 5, none⟩ ∧ w'.cell? ⟨w.heap.size, 6, none⟩ = W9.cell? ⟨w.heap.size, 6, none⟩ ∧ w'.cell? ⟨w.heap.size, 7, none⟩ = W9.cell? ⟨w.heap.size, 7, none⟩ ∧ w'.cell? ⟨w3.heap.size, 0, none⟩ = W9.cell? ⟨w3.heap.size, 0, none⟩ ∧ w'.cell? ⟨w3.heap.size, 1, none⟩ = W9.cell? ⟨w3.heap.size, 1, none⟩ ∧ w'.cell? ⟨w3.heap.size, 2, none⟩ = W9.cell? ⟨w3.heap.size, 2, none⟩ ∧ w'.cell? ⟨w3.heap.size, 3, none⟩ = W9.cell? ⟨w3.heap.size, 3, none⟩ ∧ w'.cell? ⟨w3.heap.size, 4, none⟩ = W9.cell? ⟨w3.heap.size, 4, none⟩ ∧ w'.cell? ⟨w3.heap.size, 5, none⟩ = W9.cell? ⟨w3.heap.size, 5, none⟩ ∧ w'.cell? ⟨w3.heap.size, 6, none⟩ = W9.cell? ⟨w3.heap.size, 6, none⟩ ∧ w'.cell? ⟨w3.heap.size, 7, none⟩ = W9.cell? ⟨w3.heap.size, 7, none⟩) (fun i => i == 5) (by kernel_rfl) ?_
      have hS := toS _ hd9
      obtain ⟨wd, hwd⟩ : ∃ x, x = W9.drew := ⟨_, rfl⟩
      rw [← hwd] at hS hd9 ⊢
      clear hwd
      refine late_take (i := 0) (v := ?_) (by simp only [List.getElem?_toArray, List.getElem?_cons_zero, List.getElem?_cons_succ]; exact rfl) (by kernel_rfl) (by kernel_rfl) (by exact fun _ _ _ h => h) 5 _ _ _ (by kernel_rfl) (List.mem_of_elem_eq_true (by kernel_rfl)) (Or.inl ⟨by rfl, ?_⟩) hS ?_
      rotate_left
      · intro w9 hw9
        try dsimp only at hw9
        obtain ⟨hw0, hw1, hw2, hw3, hw4, hw5, hw6, hw7, hw8, hw9, hw10, hw11, hw12, hw13, hw14, hw15⟩ := hw9
        go_simp
        try with_reducible rfl
      try simp only [Act.put, List.setIfInBounds_toArray, List.set_cons_zero, List.set_cons_succ]
      refine late_take (i := 1) (v := ?_) (by simp only [List.getElem?_toArray, List.getElem?_cons_zero, List.getElem?_cons_succ]; exact rfl) (by kernel_rfl) (by kernel_rfl) (by exact fun _ _ _ h => h) 4 _ _ _ (by kernel_rfl) (List.mem_of_elem_eq_true (by kernel_rfl)) (Or.inl ⟨by rfl, ?_⟩) hS ?_
      rotate_left
      · intro w9 hw9
        try dsimp only at hw9
        obtain ⟨hw0, hw1, hw2, hw3, hw4, hw5, hw6, hw7, hw8, hw9, hw10, hw11, hw12, hw13, hw14, hw15⟩ := hw9
        go_simp
        try with_reducible rfl
      try simp only [Act.put, List.setIfInBounds_toArray, List.set_cons_zero, List.set_cons_succ]
      refine late_two (i := 2) (k := 4) (by kernel_rfl) (by simp only [List.getElem?_toArray, List.getElem?_cons_zero, List.getElem?_cons_succ]; exact rfl) (by rfl) (by simp only [List.getElem?_toArray, List.getElem?_cons_zero, List.getElem?_cons_succ]; exact rfl) (by rfl) ?_ ?_
      · intro K hK
        go_simp
        refine (HSI.out _).mono ?_
        rintro q w4 ⟨rfl, hbx⟩
        dsimp only
        have hb4 := below_trans hd9 hbx
        refine hK _ _ (fun _ => toS _ hb4) ?_
        clear hK K hbx
        try simp only [Act.put, List.setIfInBounds_toArray, List.set_cons_zero, List.set_cons_succ]
        refine late_two (i := 3) (k := 4) (by kernel_rfl) (by simp only [List.getElem?_toArray, List.getElem?_cons_zero, List.getElem?_cons_succ]; exact rfl) (by rfl) (by simp only [List.getElem?_toArray, List.getElem?_cons_zero, List.getElem?_cons_succ]; exact rfl) (by rfl) ?_ ?_
        · intro K hK
          go_simp
          refine (HLE.out _).mono ?_
          rintro q w5 ⟨rfl, hbx⟩
          dsimp only
          have hb5 := below_trans hb4 hbx
          refine hK _ _ (fun _ => toS _ hb5) ?_
          clear hK K hbx
          try simp only [Act.put, List.setIfInBounds_toArray, List.set_cons_zero, List.set_cons_succ]
          refine late_one (i := 4) (by kernel_rfl) (by simp only [List.getElem?_toArray, List.getElem?_cons_zero, List.getElem?_cons_succ]; exact rfl) (by rfl) ?_
          intro K hK
          go_simp
          have hbA := hb5.alloc hb5.size (.cells #[.int .i64 0, .int .i64 0] 51)
          have hzA := heap_new w5 (.cells #[.int .i64 0, .int .i64 0] 51)
          have hsA := hb5.size
          refine hK _ _ (fun _ => toS _ hbA) ?_
          clear hK K
          try simp only [Act.put, List.setIfInBounds_toArray, List.set_cons_zero, List.set_cons_succ]
          generalize hg : w5.alloc _ = wA at *
          generalize hgN : w5.heap.size = NA at *
          clear hg hgN
          refine late_one (i := 5) (by kernel_rfl) (by simp only [List.getElem?_toArray, List.getElem?_cons_zero, List.getElem?_cons_succ]; exact rfl) (by rfl) ?_
          intro K hK
          refine wp_store_mid 51 (.tmp 10) (.tmp 46) rfl NA 0 #[.int .i64 x, .int .i64 y] rfl rfl (known_there (o := 0) (n := 2) hzA (by simp)) HIR.out (by simp [Value.oneCell']) ?_
          refine hK _ _ (fun h => by simp at h) ?_
          clear hK K
          try simp only [Act.put, List.setIfInBounds_toArray, List.set_cons_zero, List.set_cons_succ]
          refine late_done (by kernel_rfl) ?_ _
          obtain ⟨r0, r1⟩ := rgV_cells (show (wA.setCells NA 0 [.int .i64 x, .int .i64 y]).heap[NA]? = some (.cells #[.int .i64 x, .int .i64 y] 51 (0, 0)) by have := heap_setCells [.int .i64 x, .int .i64 y] 0 hzA; simpa [putAll] using this)
          have HR := Lib.hid (And.intro r0 (And.intro r1 (below_setCells hsA [.int .i64 x, .int .i64 y] 0 hbA)))
          clear hS toS r0 r1
          go_wp2_with fail
          go_meet
          case rel => exact ⟨NA, rfl, HR.out⟩
        · intro K hK
          go_simp
          have hbA := hb4.alloc hb4.size (.cells #[.int .i64 0, .int .i64 0] 51)
          have hzA := heap_new w4 (.cells #[.int .i64 0, .int .i64 0] 51)
          have hsA := hb4.size
          refine hK _ _ (fun _ => toS _ hbA) ?_
          clear hK K
          try simp only [Act.put, List.setIfInBounds_toArray, List.set_cons_zero, List.set_cons_succ]
          generalize hg : w4.alloc _ = wA at *
          generalize hgN : w4.heap.size = NA at *
          clear hg hgN
          refine late_one (i := 3) (by kernel_rfl) (by simp only [List.getElem?_toArray, List.getElem?_cons_zero, List.getElem?_cons_succ]; exact rfl) (by rfl) ?_
          intro K hK
          go_simp
          refine (HLE.out _).mono ?_
          rintro q w6 ⟨rfl, hbx⟩
          dsimp only
          have hb6 := below_trans hbA hbx
          have hzA6 := below_heap hbx hzA
          refine hK _ _ (fun _ => toS _ hb6) ?_
          clear hK K hbx
          try simp only [Act.put, List.setIfInBounds_toArray, List.set_cons_zero, List.set_cons_succ]
          refine late_one (i := 5) (by kernel_rfl) (by simp only [List.getElem?_toArray, List.getElem?_cons_zero, List.getElem?_cons_succ]; exact rfl) (by rfl) ?_
          intro K hK
          refine wp_store_mid 51 (.tmp 10) (.tmp 46) rfl NA 0 #[.int .i64 x, .int .i64 y] rfl rfl (known_there (o := 0) (n := 2) hzA6 (by simp)) HIR.out (by simp [Value.oneCell']) ?_
          refine hK _ _ (fun h => by simp at h) ?_
          clear hK K
          try simp only [Act.put, List.setIfInBounds_toArray, List.set_cons_zero, List.set_cons_succ]
          refine late_done (by kernel_rfl) ?_ _
          obtain ⟨r0, r1⟩ := rgV_cells (show (w6.setCells NA 0 [.int .i64 x, .int .i64 y]).heap[NA]? = some (.cells #[.int .i64 x, .int .i64 y] 51 (0, 0)) by have := heap_setCells [.int .i64 x, .int .i64 y] 0 hzA6; simpa [putAll] using this)
          have HR := Lib.hid (And.intro r0 (And.intro r1 (below_setCells hsA [.int .i64 x, .int .i64 y] 0 hb6)))
          clear hS toS r0 r1
          go_wp2_with fail
          go_meet
          case rel => exact ⟨NA, rfl, HR.out⟩
      · intro K hK
        go_simp
        have hbA := hd9.alloc hd9.size (.cells #[.int .i64 0, .int .i64 0] 51)
        have hzA := heap_new wd (.cells #[.int .i64 0, .int .i64 0] 51)
        have hsA := hd9.size
        refine hK _ _ (fun _ => toS _ hbA) ?_
        clear hK K
        try simp only [Act.put, List.setIfInBounds_toArray, List.set_cons_zero, List.set_cons_succ]
        generalize hg : wd.alloc _ = wA at *
        generalize hgN : wd.heap.size = NA at *
        clear hg hgN
        refine late_one (i := 2) (by kernel_rfl) (by simp only [List.getElem?_toArray, List.getElem?_cons_zero, List.getElem?_cons_succ]; exact rfl) (by rfl) ?_
        intro K hK
        go_simp
        refine (HSI.out _).mono ?_
        rintro q w6 ⟨rfl, hbx⟩
        dsimp only
        have hb6 := below_trans hbA hbx
        have hzA6 := below_heap hbx hzA
        refine hK _ _ (fun _ => toS _ hb6) ?_
        clear hK K hbx
        try simp only [Act.put, List.setIfInBounds_toArray, List.set_cons_zero, List.set_cons_succ]
        refine late_one (i := 3) (by kernel_rfl) (by simp only [List.getElem?_toArray, List.getElem?_cons_zero, List.getElem?_cons_succ]; exact rfl) (by rfl) ?_
        intro K hK
        go_simp
        refine (HLE.out _).mono ?_
        rintro q w7 ⟨rfl, hbx⟩
        dsimp only
        have hb7 := below_trans hb6 hbx
        have hzA7 := below_heap hbx hzA6
        refine hK _ _ (fun _ => toS _ hb7) ?_
        clear hK K hbx
        try simp only [Act.put, List.setIfInBounds_toArray, List.set_cons_zero, List.set_cons_succ]
        refine late_one (i := 5) (by kernel_rfl) (by simp only [List.getElem?_toArray, List.getElem?_cons_zero, List.getElem?_cons_succ]; exact rfl) (by rfl) ?_
        intro K hK
        refine wp_store_mid 51 (.tmp 10) (.tmp 46) rfl NA 0 #[.int .i64 x, .int .i64 y] rfl rfl (known_there (o := 0) (n := 2) hzA7 (by simp)) HIR.out (by simp [Value.oneCell']) ?_
        refine hK _ _ (fun h => by simp at h) ?_
        clear hK K
        try simp only [Act.put, List.setIfInBounds_toArray, List.set_cons_zero, List.set_cons_succ]
        refine late_done (by kernel_rfl) ?_ _
        obtain ⟨r0, r1⟩ := rgV_cells (show (w7.setCells NA 0 [.int .i64 x, .int .i64 y]).heap[NA]? = some (.cells #[.int .i64 x, .int .i64 y] 51 (0, 0)) by have := heap_setCells [.int .i64 x, .int .i64 y] 0 hzA7; simpa [putAll] using this)
        have HR := Lib.hid (And.intro r0 (And.intro r1 (below_setCells hsA [.int .i64 x, .int .i64 y] 0 hb7)))
        clear hS toS r0 r1
        go_wp2_with fail
        go_meet
        case rel => exact ⟨NA, rfl, HR.out⟩
    case rest =>
      obtain ⟨NA, rfl, r0, r1, hbr⟩ := hcut
      have HIP := Lib.hid Tryz.infoPl
      have hz := below_heap hbr HZ3.out
      have ht8 := known_there (o := 0) (n := 8) hz (by simp)
      have HBE : Hid (Below w.heap.size w wc) := below_trans HB0.out (below_trans B9.out hbr)
      have hF := HFIT.out
      have z0 := below_cell hbr x0
      have z1 := below_cell hbr x1
      have z2 := below_cell hbr x2
      have z3 := below_cell hbr x3
      have z4 := below_cell hbr x4
      have z5 := below_cell hbr x5
      have z6 := below_cell hbr x6
      have z7 := below_cell hbr x7
      have HZ := Lib.hid hz
      have HT8 := Lib.hid ht8
      have hszw := HBE.out.size
      clear x0 x1 x2 x3 x4 x5 x6 x7 hz ht8 hbr m0 m1 m2 m3 m4 m5 m6 m7 hd9
      cases fi with
      | false =>
        have hF' : decide (y < x) = true := by simpa using hF
        go_wp2_with (refine wpList_store_mid rfl 90 (.tmp 6) (.tmp 52) rfl (w.heap.size + 1) 0 #[.int .i64 0, .int .i64 0, .int .i64 0, .int .i64 0, .int .i64 0, .int .i64 0, .int .i64 0, .int .i64 0] rfl rfl HT8.out HIP.out (by simp [Value.oneCell']) ?_)
        refine bodyPost_ret (v := .tuple #[plV 0 0 0 0 0 0 0 0, errV 9]) (by simp [results, Tryz.results73, go_sem, plV, errV, World.cell?, heap_setCells _ _ HZ.out, putAll]) rfl ⟨by simp [plV], ?_⟩
        exact below_setCells (by omega) _ _ HBE.out
      | true =>
        have hF' : decide (y < x) = false := by simpa using hF
        go_wp2_with (refine wpList_store_mid rfl 90 (.tmp 6) (.tmp 55) rfl (w.heap.size + 1) 0 #[.int .i64 a', .int .i64 b', .int .i64 t', .int .i64 s', .int .i64 c', .int .i64 d', .int .i64 e', .int .i64 f'] rfl rfl HT8.out HIP.out (by simp [Value.oneCell']) ?_)
        refine bodyPost_ret (v := .tuple #[plV a' b' t' s' c' d' e' f', .nilIface]) (by simp [results, Tryz.results73, go_sem, plV, World.cell?, heap_setCells _ _ HZ.out, putAll]) rfl ⟨by simp [plV], ?_⟩
        exact below_setCells (by omega) _ _ HBE.out
end Go.Proofs.YtemoepcfmpapoaaGreatDoor

/-
  bargain: limits that are left; by contract.
-/
namespace Go.Proofs.YtemoepcfmpapoaaGreatDoor
open Go.RowKit Go.Proofs Go.Shelf
attribute [local go_sem] Oper.semAt_some

set_option maxRecDepth 100000
theorem leaves_any (sd : Bool) (a b t s c d e f x l r : Int) (hlr : (if sd then rgV c d else rgV e f) = rgV l r) (w : World) :
    Calls Tryz.prog 52 #[plV a b t s c d e f, sdV sd, .int .i64 x] w (BoolEnd (!(decide (x < l) || decide (r < x))) w) := by
  have HL := fun w => left_any sd a b t s c d e f w
  simp only [hlr] at HL
  obtain ⟨g, hg⟩ : ∃ g, (decide (x < l) || decide (r < x)) = g := ⟨_, rfl⟩
  have HO := fun w => boutside_any x l r w
  simp only [hg] at HO
  rw [hg]
  clear hg hlr
  unfold plV rgV sdV at *
  go_enter Tryz.func52, Tryz.ntmps52
  go_wp2_with (first
    | (go_at_call 74; refine (HL _).mono ?_; rintro q w2 ⟨rfl, hb2⟩; have HB2 := Lib.hid (below_trans (below_alloc w _) hb2); clear hb2)
    | (go_at_call 75; refine (HO _).mono ?_; rintro q w3 ⟨rfl, hb3⟩))
  go_ret
  exact ⟨rfl, below_trans (below_trans HB2.out (below_alloc w2 _)) hb3⟩

/-- The work with one place: the one at first. -/
structure WkP (Wk : Nat) (p : Pl) (w : World) : Prop where
  g : ∃ pg cap, w.cell? ⟨Wk, 10, none⟩ = some (.slice (some ⟨pg, 0, none⟩) 1 cap) ∧ w.heap[pg]? = some (.cells #[.int .i64 p.a, .int .i64 p.b, .int .i64 p.t, .int .i64 p.s, .int .i64 p.c, .int .i64 p.d, .int .i64 p.e, .int .i64 p.f] 90 (0, 0))
theorem WkP.below {Wk : Nat} {p : Pl} {w w' : World} (h : WkP Wk p w) (hb : Below w.heap.size w w') : WkP Wk p w' := by
  obtain ⟨pg, cap, h1, h2⟩ := h.g
  exact ⟨pg, cap, below_cell hb h1, below_heap hb h2⟩

theorem now_any (Wk : Nat) (p : Pl) (w : World) (h : WkP Wk p w) : Calls Tryz.prog 51 #[.pointer (some ⟨Wk, 0, none⟩)] w (ValEnd p.v w) := by
  obtain ⟨pg, cap, h1, h2⟩ := h.g
  obtain ⟨a, b, t, s, c, d, e, f⟩ := p
  obtain ⟨c0, c1, c2, c3, c4, c5, c6, c7⟩ := plV_cells h2
  clear h h2
  simp only at *
  unfold Pl.v plV
  have al := fun {a : Addr} {v : Value} (h : w.cell? a = some v) => below_cell (below_alloc w (.cells #[.int .i64 0, .int .i64 0, .int .i64 0, .int .i64 0, .int .i64 0, .int .i64 0, .int .i64 0, .int .i64 0] 90)) h
  replace h1 := al h1
  replace c0 := al c0
  replace c1 := al c1
  replace c2 := al c2
  replace c3 := al c3
  replace c4 := al c4
  replace c5 := al c5
  replace c6 := al c6
  replace c7 := al c7
  clear al
  have hz := heap_new w (.cells #[.int .i64 0, .int .i64 0, .int .i64 0, .int .i64 0, .int .i64 0, .int .i64 0, .int .i64 0, .int .i64 0] 90)
  have HBW := Lib.hid (below_alloc w (.cells #[.int .i64 0, .int .i64 0, .int .i64 0, .int .i64 0, .int .i64 0, .int .i64 0, .int .i64 0, .int .i64 0] 90))
  go_enter Tryz.func51, Tryz.ntmps51
  go_wp2
  generalize hW9 : w.alloc _ = W9 at *
  clear hW9
  have hwr0 : IntKind.i64.wrap 0 = 0 := by decide
  have HT8 := Lib.hid (known_there (o := 0) (n := 8) (w := W9.drew) hz (by simp))
  have HZ9 := Lib.hid (show W9.drew.heap[w.heap.size]? = _ from hz)
  have HIP := Lib.hid Tryz.infoPl
  have lk : Wk < W9.heap.size := World.block_lt_of_cell? _ _ h1
  have lg : pg < W9.heap.size := World.block_lt_of_cell? _ _ c0
  clear hz
  have toS : ∀ u : World, Below W9.heap.size W9 u → (u.cell? ⟨Wk, 10, none⟩ = W9.cell? ⟨Wk, 10, none⟩ ∧ u.cell? ⟨pg, 0, none⟩ = W9.cell? ⟨pg, 0, none⟩ ∧ u.cell? ⟨pg, 1, none⟩ = W9.cell? ⟨pg, 1, none⟩ ∧ u.cell? ⟨pg, 2, none⟩ = W9.cell? ⟨pg, 2, none⟩ ∧ u.cell? ⟨pg, 3, none⟩ = W9.cell? ⟨pg, 3, none⟩ ∧ u.cell? ⟨pg, 4, none⟩ = W9.cell? ⟨pg, 4, none⟩ ∧ u.cell? ⟨pg, 5, none⟩ = W9.cell? ⟨pg, 5, none⟩ ∧ u.cell? ⟨pg, 6, none⟩ = W9.cell? ⟨pg, 6, none⟩ ∧ u.cell? ⟨pg, 7, none⟩ = W9.cell? ⟨pg, 7, none⟩) := fun u h => ⟨h.cell lk, h.cell lg, h.cell lg, h.cell lg, h.cell lg, h.cell lg, h.cell lg, h.cell lg, h.cell lg⟩
  refine wp_region_late (fun w' : World => w'.cell? ⟨Wk, 10, none⟩ = W9.cell? ⟨Wk, 10, none⟩ ∧ w'.cell? ⟨pg, 0, none⟩ = W9.cell? ⟨pg, 0, none⟩ ∧ w'.cell? ⟨pg, 1, none⟩ = W9.cell? ⟨pg, 1, none⟩ ∧ w'.cell? ⟨pg, 2, none⟩ = W9.cell? ⟨pg, 2, none⟩ ∧ w'.cell? ⟨pg, 3, none⟩ = W9.cell? ⟨pg, 3, none⟩ ∧ w'.cell? ⟨pg, 4, none⟩ = W9.cell? ⟨pg, 4, none⟩ ∧ w'.cell? ⟨pg, 5, none⟩ = W9.cell? ⟨pg, 5, none⟩ ∧ w'.cell? ⟨pg, 6, none⟩ = W9.cell? ⟨pg, 6, none⟩ ∧ w'.cell? ⟨pg, 7, none⟩ = W9.cell? ⟨pg, 7, none⟩) (fun i => i == 12) (by kernel_rfl) ?_
  have hd9 : Below W9.heap.size W9 W9.drew := (Below.refl _ W9).drew
  have hS := toS _ hd9
  obtain ⟨wd, hwd⟩ : ∃ x, x = W9.drew := ⟨_, rfl⟩
  rw [← hwd] at hS hd9 ⊢
  have HWD := Lib.hid hwd
  clear hwd
  refine late_take (i := 0) (v := ?_) (by simp only [List.getElem?_toArray, List.getElem?_cons_zero, List.getElem?_cons_succ]; exact rfl) (by kernel_rfl) (by kernel_rfl) (by exact fun _ _ _ h => h) 12 _ _ _ (by kernel_rfl) (List.mem_of_elem_eq_true (by kernel_rfl)) (Or.inl ⟨by rfl, ?_⟩) hS ?_
  rotate_left
  · intro w9 hw9
    try dsimp only at hw9
    obtain ⟨hw0, hw1, hw2, hw3, hw4, hw5, hw6, hw7, hw8⟩ := hw9
    go_simp
    try with_reducible rfl
  try simp only [Act.put, List.setIfInBounds_toArray, List.set_cons_zero, List.set_cons_succ]
  refine late_take (i := 1) (v := ?_) (by simp only [List.getElem?_toArray, List.getElem?_cons_zero, List.getElem?_cons_succ]; exact rfl) (by kernel_rfl) (by kernel_rfl) (by exact fun _ _ _ h => h) 11 _ _ _ (by kernel_rfl) (List.mem_of_elem_eq_true (by kernel_rfl)) (Or.inl ⟨by rfl, ?_⟩) hS ?_
  rotate_left
  · intro w9 hw9
    try dsimp only at hw9
    obtain ⟨hw0, hw1, hw2, hw3, hw4, hw5, hw6, hw7, hw8⟩ := hw9
    go_simp
    try with_reducible rfl
  try simp only [Act.put, List.setIfInBounds_toArray, List.set_cons_zero, List.set_cons_succ]
  refine late_take (i := 2) (v := ?_) (by simp only [List.getElem?_toArray, List.getElem?_cons_zero, List.getElem?_cons_succ]; exact rfl) (by kernel_rfl) (by kernel_rfl) (by exact fun _ _ _ h => h) 10 _ _ _ (by kernel_rfl) (List.mem_of_elem_eq_true (by kernel_rfl)) (Or.inl ⟨by rfl, ?_⟩) hS ?_
  rotate_left
  · intro w9 hw9
    try dsimp only at hw9
    obtain ⟨hw0, hw1, hw2, hw3, hw4, hw5, hw6, hw7, hw8⟩ := hw9
    go_simp
    try with_reducible rfl
  try simp only [Act.put, List.setIfInBounds_toArray, List.set_cons_zero, List.set_cons_succ]
  refine late_take (i := 3) (v := ?_) (by simp only [List.getElem?_toArray, List.getElem?_cons_zero, List.getElem?_cons_succ]; exact rfl) (by kernel_rfl) (by kernel_rfl) (by exact fun _ _ _ h => h) 9 _ _ _ (by kernel_rfl) (List.mem_of_elem_eq_true (by kernel_rfl)) (Or.inl ⟨by rfl, ?_⟩) hS ?_
  rotate_left
  · intro w9 hw9
    try dsimp only at hw9
    obtain ⟨hw0, hw1, hw2, hw3, hw4, hw5, hw6, hw7, hw8⟩ := hw9
    go_simp
    try with_reducible rfl
  try simp only [Act.put, List.setIfInBounds_toArray, List.set_cons_zero, List.set_cons_succ]
  refine late_take (i := 4) (v := ?_) (by simp only [List.getElem?_toArray, List.getElem?_cons_zero, List.getElem?_cons_succ]; exact rfl) (by kernel_rfl) (by kernel_rfl) (by exact fun _ _ _ h => h) 8 _ _ _ (by kernel_rfl) (List.mem_of_elem_eq_true (by kernel_rfl)) (Or.inl ⟨by rfl, ?_⟩) hS ?_
  rotate_left
  · intro w9 hw9
    try dsimp only at hw9
    obtain ⟨hw0, hw1, hw2, hw3, hw4, hw5, hw6, hw7, hw8⟩ := hw9
    go_simp
    try with_reducible rfl
  try simp only [Act.put, List.setIfInBounds_toArray, List.set_cons_zero, List.set_cons_succ]
  refine late_take (i := 5) (v := ?_) (by simp only [List.getElem?_toArray, List.getElem?_cons_zero, List.getElem?_cons_succ]; exact rfl) (by kernel_rfl) (by kernel_rfl) (by exact fun _ _ _ h => h) 7 _ _ _ (by kernel_rfl) (List.mem_of_elem_eq_true (by kernel_rfl)) (Or.inl ⟨by rfl, ?_⟩) hS ?_
  rotate_left
  · intro w9 hw9
    try dsimp only at hw9
    obtain ⟨hw0, hw1, hw2, hw3, hw4, hw5, hw6, hw7, hw8⟩ := hw9
    go_simp
    try with_reducible rfl
  try simp only [Act.put, List.setIfInBounds_toArray, List.set_cons_zero, List.set_cons_succ]
  refine late_take (i := 6) (v := ?_) (by simp only [List.getElem?_toArray, List.getElem?_cons_zero, List.getElem?_cons_succ]; exact rfl) (by kernel_rfl) (by kernel_rfl) (by exact fun _ _ _ h => h) 6 _ _ _ (by kernel_rfl) (List.mem_of_elem_eq_true (by kernel_rfl)) (Or.inl ⟨by rfl, ?_⟩) hS ?_
  rotate_left
  · intro w9 hw9
    try dsimp only at hw9
    obtain ⟨hw0, hw1, hw2, hw3, hw4, hw5, hw6, hw7, hw8⟩ := hw9
    go_simp
    try with_reducible rfl
  try simp only [Act.put, List.setIfInBounds_toArray, List.set_cons_zero, List.set_cons_succ]
  refine late_take (i := 7) (v := ?_) (by simp only [List.getElem?_toArray, List.getElem?_cons_zero, List.getElem?_cons_succ]; exact rfl) (by kernel_rfl) (by kernel_rfl) (by exact fun _ _ _ h => h) 5 _ _ _ (by kernel_rfl) (List.mem_of_elem_eq_true (by kernel_rfl)) (Or.inl ⟨by rfl, ?_⟩) hS ?_
  rotate_left
  · intro w9 hw9
    try dsimp only at hw9
    obtain ⟨hw0, hw1, hw2, hw3, hw4, hw5, hw6, hw7, hw8⟩ := hw9
    go_simp
    try with_reducible rfl
  try simp only [Act.put, List.setIfInBounds_toArray, List.set_cons_zero, List.set_cons_succ]
  refine late_take (i := 8) (v := ?_) (by simp only [List.getElem?_toArray, List.getElem?_cons_zero, List.getElem?_cons_succ]; exact rfl) (by kernel_rfl) (by kernel_rfl) (by exact fun _ _ _ h => h) 4 _ _ _ (by kernel_rfl) (List.mem_of_elem_eq_true (by kernel_rfl)) (Or.inl ⟨by rfl, ?_⟩) hS ?_
  rotate_left
  · intro w9 hw9
    try dsimp only at hw9
    obtain ⟨hw0, hw1, hw2, hw3, hw4, hw5, hw6, hw7, hw8⟩ := hw9
    go_simp
    try with_reducible rfl
  try simp only [Act.put, List.setIfInBounds_toArray, List.set_cons_zero, List.set_cons_succ]
  refine late_take (i := 9) (v := ?_) (by simp only [List.getElem?_toArray, List.getElem?_cons_zero, List.getElem?_cons_succ]; exact rfl) (by kernel_rfl) (by kernel_rfl) (by exact fun _ _ _ h => h) 3 _ _ _ (by kernel_rfl) (List.mem_of_elem_eq_true (by kernel_rfl)) (Or.inl ⟨by rfl, ?_⟩) hS ?_
  rotate_left
  · intro w9 hw9
    try dsimp only at hw9
    obtain ⟨hw0, hw1, hw2, hw3, hw4, hw5, hw6, hw7, hw8⟩ := hw9
    go_simp
    try with_reducible rfl
  try simp only [Act.put, List.setIfInBounds_toArray, List.set_cons_zero, List.set_cons_succ]
  refine late_take (i := 10) (v := ?_) (by simp only [List.getElem?_toArray, List.getElem?_cons_zero, List.getElem?_cons_succ]; exact rfl) (by kernel_rfl) (by kernel_rfl) (by exact fun _ _ _ h => h) 2 _ _ _ (by kernel_rfl) (List.mem_of_elem_eq_true (by kernel_rfl)) (Or.inl ⟨by rfl, ?_⟩) hS ?_
  rotate_left
  · intro w9 hw9
    try dsimp only at hw9
    obtain ⟨hw0, hw1, hw2, hw3, hw4, hw5, hw6, hw7, hw8⟩ := hw9
    go_simp
    try with_reducible rfl
  try simp only [Act.put, List.setIfInBounds_toArray, List.set_cons_zero, List.set_cons_succ]
  refine late_take (i := 11) (v := ?_) (by simp only [List.getElem?_toArray, List.getElem?_cons_zero, List.getElem?_cons_succ]; exact rfl) (by kernel_rfl) (by kernel_rfl) (by exact fun _ _ _ h => h) 1 _ _ _ (by kernel_rfl) (List.mem_of_elem_eq_true (by kernel_rfl)) (Or.inl ⟨by rfl, ?_⟩) hS ?_
  rotate_left
  · intro w9 hw9
    try dsimp only at hw9
    obtain ⟨hw0, hw1, hw2, hw3, hw4, hw5, hw6, hw7, hw8⟩ := hw9
    go_simp
    try with_reducible rfl
  try simp only [Act.put, List.setIfInBounds_toArray, List.set_cons_zero, List.set_cons_succ]
  refine late_one (i := 12) (by kernel_rfl) (by simp only [List.getElem?_toArray, List.getElem?_cons_zero, List.getElem?_cons_succ]; exact rfl) (by rfl) ?_
  intro K hK
  obtain rfl := HWD.out
  refine wp_store_mid 90 (.tmp 2) (.tmp 14) rfl w.heap.size 0 #[.int .i64 a, .int .i64 b, .int .i64 t, .int .i64 s, .int .i64 c, .int .i64 d, .int .i64 e, .int .i64 f] rfl rfl HT8.out HIP.out (by simp [Value.oneCell']) ?_
  refine hK _ _ (fun h => by simp at h) ?_
  clear hK K
  try simp only [Act.put, List.setIfInBounds_toArray, List.set_cons_zero, List.set_cons_succ]
  refine late_done (by kernel_rfl) ?_ _
  go_wp2
  refine bodyPost_ret (v := plV a b t s c d e f) (by simp [results, Tryz.results51, go_sem, plV, World.cell?, heap_setCells _ _ HZ9.out, putAll]) rfl ⟨rfl, ?_⟩
  exact below_setCells (Nat.le_refl _) _ _ (HBW.out.drew)
end Go.Proofs.YtemoepcfmpapoaaGreatDoor
