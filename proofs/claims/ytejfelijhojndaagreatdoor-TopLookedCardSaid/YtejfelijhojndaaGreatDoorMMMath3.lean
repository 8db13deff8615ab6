/-
  palfreykit: FairOf without entries, by contract.
-/
import Derived.Test.YtejfelijhojndaaGreatDoorMFairR
import Derived.Deep.CutRange
import Derived.Deep.CutBlock
import Derived.Deep.RegionHeld3
namespace Go.Proofs.YtejfelijhojndaaGreatDoor
open Go.RowKit Go.Proofs Go.Shelf

def FairEnd (b t : Nat) (w : World) (e : Ending) (w' : World) : Prop :=
  ∃ (n : Nat) (m : Nat → Nat → Int) (rv : Value) (sF sT dye most : Int) (t' : Nat), e = .returned (fairV (.slice none 0 0) rv ⟨[], matL n m, sF, sT, dye, most⟩) ∧ RowsM (fun k => w.heap.size ≤ k) w' rv (matL n m) ∧
    FairOK ⟨[], matL n m, sF, sT, dye, most⟩ ∧ sT ≤ 2 ∧ dye ≤ 4 ∧ t' ≤ t + 30 ∧ Bag w' b t' ∧ Kept b w w'

set_option maxRecDepth 100000 in
set_option maxHeartbeats 1600000 in
theorem fairOf_any (b t : Nat) (w : World) (hB : Bag w b t) (ht : t ≤ 100000) :
    Calls Tryz.prog 13 #[.pointer (some ⟨b, 0, none⟩), .int .i64 0] w (FairEnd b t w) := by
  have hbw := hB.lt
  go_enter Tryz.func13, Tryz.ntmps13
  go_wp2_with fail
  refine (among_any b t 1 4 _ (hB.alloc _) (by omega) (by omega) (by omega) (by omega) (by omega)).mono ?_
  rintro e w2 ⟨dye, hd1, hd2, rfl, hB2, hk2⟩
  have hres : w2.heap[w.heap.size]? = some (.cells #[.slice none 0 0, .slice none 0 0, .int .i64 0, .int .i64 0, .int .i64 0, .int .i64 0] 30 (0, 0)) := (hk2.block _ (by simp) (by omega)).trans (heap_new w _)
  have hK2 : Kept b w w2 := ((Kept.refl b w).alloc _).trans hk2
  have hs2 : w.heap.size < w2.heap.size := (Array.getElem?_eq_some_iff.1 hres).1
  have HRES := Lib.hid hres
  have HK2 := Lib.hid hK2
  clear hk2 hres hK2
  go_wp2_with fail
  refine (pick_new b (t + 1) [1, 2, 2, 3, 3, 6] _ _ _ hB2 (by omega) (by simp) (by simp)).mono ?_
  rintro e w3 ⟨most, hm3, rfl, hB3, hk3⟩
  have hmo : 1 ≤ most ∧ most ≤ 6 := by
    simp only [List.mem_cons, List.not_mem_nil, or_false] at hm3
    omega
  have hres : w3.heap[w.heap.size]? = some (.cells #[.slice none 0 0, .slice none 0 0, .int .i64 0, .int .i64 0, .int .i64 0, .int .i64 0] 30 (0, 0)) := (hk3.block _ (by simp; omega) (by omega)).trans ((Below.heap_alloc _ _ _ hs2).trans HRES.out)
  have hK3 : Kept b w w3 := (HK2.out.alloc _).trans hk3
  have hs3 : w.heap.size < w3.heap.size := (Array.getElem?_eq_some_iff.1 hres).1
  have HR3 := Lib.hid hres
  have HK3 := Lib.hid hK3
  clear hk3 hres hK3 hm3 HK2 HRES hB2
  go_wp2_with fail
  have F0 : ∀ n, FRel b (t + 2) w3.heap.size n w (w3.alloc (.cells #[.slice none 0 0, .slice none 0 0, .int .i64 0, .int .i64 0, .int .i64 dye, .int .i64 most] 30)) (.slice none 0 0) 0 (fun _ => 0) (fun _ _ => 0) 0 0 dye most := fun n =>
    { bag := ⟨_, by omega, hB3.alloc _⟩, kept := HK3.out.alloc _, lt := hs3, res := (Below.heap_alloc _ _ _ hs3).trans HR3.out, blk := heap_new w3 _, own := World.ownsRow_nil _ _ _ _, row := fun a ha => by omega, inj := fun a c ha => by omega }
  obtain ⟨n1, hn1⟩ : ∃ n1, n1 = w3.heap.size := ⟨_, rfl⟩
  rw [← hn1] at F0 hs3 ⊢
  have HF0 := Lib.hid F0
  have hB4 := hB3.alloc (.cells #[.slice none 0 0, .slice none 0 0, .int .i64 0, .int .i64 0, .int .i64 dye, .int .i64 most] 30)
  obtain ⟨w4, hw4⟩ : ∃ w4, w3.alloc (.cells #[.slice none 0 0, .slice none 0 0, .int .i64 0, .int .i64 0, .int .i64 dye, .int .i64 most] 30) = w4 := ⟨_, rfl⟩
  rw [hw4] at HF0 hB4 ⊢
  clear HR3 HK3 F0 hw4 hn1 hB3
  refine (among_any b (t + 1 + 1) 1 3 _ hB4 (by omega) (by omega) (by omega) (by omega) (by omega)).mono ?_
  rintro e w5 ⟨n', hn1', hn2', rfl, hB5, hk5⟩
  obtain ⟨n, rfl⟩ := Int.eq_ofNat_of_zero_le (show 0 ≤ n' by omega)
  have HK5 := Lib.hid hk5
  clear hk5
  go_wp2_with fail
  refine (upTo_any b (t + 1 + 1 + 1) 4 _ hB5 (by omega) (by omega) (by omega)).mono ?_
  rintro e w6 ⟨least, hl1, hl2, rfl, hB6, hk6⟩
  have HF6 := Lib.hid ((HF0.out n).keep (T' := t + 4) hbw (HK5.out.trans hk6) hB6 (by omega))
  clear hk6 HK5 HF0 hB4 hB5 hB6
  go_wp2_with fail
  go_loopw [8] (fun i wr => ∃ (k : Nat) (rv : Value) (g : Nat → Nat), k ≤ n ∧ i = .int .i64 k ∧ FRel b (t + 4) n1 n w wr rv k g (fun _ _ => 0) 0 0 dye most) (fun i _ => n - (intOf i).toNat)
  case atStart => exact ⟨0, _, _, Nat.zero_le _, rfl, HF6.out⟩
  case round =>
    clear HF6
    obtain ⟨k, rv, g, hk, rfl, F⟩ := hrel
    by_cases hlt : k < n
    · have hklt : (k : Int) < (n : Int) := by omega
      have HF := Lib.hid F
      clear F
      go_upto_region 7 with fail
      obtain ⟨i0, hi, hz0, hz1, hz2⟩ := info_parts Tryz.infoInts
      have c1 : wr.cell? ⟨n1, 1, none⟩ = some rv := by simp [World.cell?, HF.out.blk]
      have hl1b := (Array.getElem?_eq_some_iff.1 HF.out.blk).1
      have hro : ∀ x, rv.ownBlock = some x → n1 < x := fun x e => by have := HF.out.own.lt _ e; omega
      have HRO := Lib.hid hro
      clear hro
      refine wp_region_late (fun w' => w'.cell? ⟨n1, 1, none⟩ = some rv) (fun i => i == 6 || i == 7) (by kernel_rfl) ?_
      obtain ⟨wd, hwd⟩ : ∃ x, x = wr.drew := ⟨_, rfl⟩
      have hS : (fun w' : World => w'.cell? ⟨n1, 1, none⟩ = some rv) wd := by rw [hwd]; exact c1
      rw [← hwd]
      have hmk := make_int n (by omega) wd
      have hsd : wd.heap.size = wr.heap.size := by rw [hwd]; rfl
      have HWD := Lib.hid hwd
      clear hwd c1
      refine late_take (i := 0) (v := ?_) (by simp only [List.getElem?_toArray, List.getElem?_cons_zero, List.getElem?_cons_succ]; exact rfl) (by kernel_rfl) (by kernel_rfl) (by exact fun _ _ _ h => h) 7 _ _ _ (by kernel_rfl) (List.mem_of_elem_eq_true (by kernel_rfl)) (Or.inl ⟨by rfl, ?_⟩) hS ?_
      rotate_left
      · intro w2 hw2
        try dsimp only at hw2
        go_simp
        try with_reducible rfl
      try simp only [Act.put, List.setIfInBounds_toArray, List.set_cons_zero, List.set_cons_succ]
      refine late_take (i := 1) (v := ?_) (by simp only [List.getElem?_toArray, List.getElem?_cons_zero, List.getElem?_cons_succ]; exact rfl) (by kernel_rfl) (by kernel_rfl) (by exact fun _ _ _ h => h) 6 _ _ _ (by kernel_rfl) (List.mem_of_elem_eq_true (by kernel_rfl)) (Or.inl ⟨by rfl, ?_⟩) hS ?_
      rotate_left
      · intro w2 hw2
        try dsimp only at hw2
        go_simp
        try with_reducible rfl
      try simp only [Act.put, List.setIfInBounds_toArray, List.set_cons_zero, List.set_cons_succ]
      refine late_take (i := 2) (v := ?_) (by simp only [List.getElem?_toArray, List.getElem?_cons_zero, List.getElem?_cons_succ]; exact rfl) (by kernel_rfl) (by kernel_rfl) (by exact fun _ _ _ h => h) 5 _ _ _ (by kernel_rfl) (List.mem_of_elem_eq_true (by kernel_rfl)) (Or.inl ⟨by rfl, ?_⟩) hS ?_
      rotate_left
      · intro w2 hw2
        try dsimp only at hw2
        go_simp
        try with_reducible rfl
      try simp only [Act.put, List.setIfInBounds_toArray, List.set_cons_zero, List.set_cons_succ]
      refine late_one (i := 3) (by kernel_rfl) (by simp only [List.getElem?_toArray, List.getElem?_cons_zero, List.getElem?_cons_succ]; exact rfl) (by rfl) ?_
      intro K hK
      go_simp
      obtain ⟨u1, hu1⟩ : ∃ x, x = wd.alloc (.cells (rowA n (fun _ _ => 0) 0) 3) := ⟨_, rfl⟩
      rw [← hu1]
      have q1 : u1.cell? ⟨n1, 1, none⟩ = some rv := by rw [hu1, World.cell?_alloc_lt _ _ _ (by exact hsd ▸ hl1b)]; exact hS
      refine hK _ _ (fun _ => q1) ?_
      clear hK K hmk
      rw [HWD.out] at hu1
      have Hu1 := Lib.hid hu1
      clear hu1 hS
      try simp only [Act.put, List.setIfInBounds_toArray, List.set_cons_zero, List.set_cons_succ]
      refine late_one (i := 4) (by kernel_rfl) (by simp only [List.getElem?_toArray, List.getElem?_cons_zero, List.getElem?_cons_succ]; exact rfl) (by rfl) ?_
      intro K hK
      go_simp
      obtain ⟨u2, hu2⟩ : ∃ x, x = u1.alloc (.cells #[.slice (some ⟨wr.heap.size, 0, none⟩) n n] 22) := ⟨_, rfl⟩
      rw [← hu2]
      have lit : u2.heap[u1.heap.size]? = some (.cells #[.slice (some ⟨wr.heap.size, 0, none⟩) n n] 22 (0, 0)) := by rw [hu2]; exact heap_new _ _
      have hl1 : n1 < u1.heap.size := by rw [Hu1.out]; simp; omega
      have q2 : u2.cell? ⟨n1, 1, none⟩ = some rv := by rw [hu2, World.cell?_alloc_lt _ _ _ (by exact hl1)]; exact q1
      have own2 : u2.ownsRow (n1 + 1) 22 1 rv k ((List.range k).map fun a => .slice (some ⟨g a, 0, none⟩) n n) := by rw [hu2, Hu1.out]; exact ((HF.out.own.drew).alloc _).alloc _
      have sz2 : n1 + 1 ≤ u2.heap.size := by rw [hu2]; simp; omega
      have fz2 : u2.frozen? ⟨n1, 1, none⟩ = false := by
        have : u2.heap[n1]? = some (.cells #[.slice none 0 0, rv, .int .i64 0, .int .i64 0, .int .i64 dye, .int .i64 most] 30 (0, 0)) := by
          rw [hu2, Hu1.out]; exact (Below.heap_alloc _ _ _ (by simp; omega)).trans ((Below.heap_alloc _ _ _ (by exact hl1b)).trans HF.out.blk)
        simp [World.frozen?, this]
      refine hK _ _ (fun _ => q2) ?_
      clear hK K q1
      have Hu2 := Lib.hid hu2
      clear hu2
      try simp only [Act.put, List.setIfInBounds_toArray, List.set_cons_zero, List.set_cons_succ]
      refine late_one (i := 5) (by kernel_rfl) (by simp only [List.getElem?_toArray, List.getElem?_cons_zero, List.getElem?_cons_succ]; exact rfl) (by rfl) ?_
      intro K hK
      refine wp_append_lies _ _ _ 26 rfl (n1 + 1) 22 i0 (.slice none 0 0) 1 24 Tryz.underlying26 hi hz0 hz1 hz2 rfl (by decide) rv k _ rfl own2 ⟨u1.heap.size, 0, none⟩ 1 1 [.slice (some ⟨wr.heap.size, 0, none⟩) n n] rfl rfl (World.news_of_block lit) ?ha (by decide) ?hb ?hc ?hd _ rfl ?_
      case ha => intro u hu; simp at hu; subst hu; rfl
      case hb => unfold maxLen; omega
      case hc => omega
      case hd => exact sz2
      intro g' cap' u3 own3 grow3 at3 lt3
      have q3 : u3.cell? ⟨n1, 1, none⟩ = some rv := (grow3.cell_far ⟨n1, 1, none⟩ (by show n1 < _; omega) (fun e => by have := HRO.out n1 e.symm; omega)).trans q2
      have fz3 : u3.frozen? ⟨n1, 1, none⟩ = false := (grow3.frozen_far ⟨n1, 1, none⟩ (by show n1 < _; omega) (fun e => by have := HRO.out n1 e.symm; omega)).trans fz2
      have HA := Lib.hid (HF.out.add hbw Hu1.out Hu2.out own3 grow3 at3)
      refine hK _ _ (fun _ => q3) ?_
      clear hK K own3 grow3 at3 own2 lit q2 fz2
      try simp only [Act.put, List.setIfInBounds_toArray, List.set_cons_zero, List.set_cons_succ]
      refine late_one (i := 6) (by kernel_rfl) (by simp only [List.getElem?_toArray, List.getElem?_cons_zero, List.getElem?_cons_succ]; exact rfl) (by rfl) ?_
      intro K hK
      go_simp
      refine hK _ _ (fun h => by simp at h) ?_
      clear hK K
      try simp only [Act.put, List.setIfInBounds_toArray, List.set_cons_zero, List.set_cons_succ]
      refine late_one (i := 7) (by kernel_rfl) (by simp only [List.getElem?_toArray, List.getElem?_cons_zero, List.getElem?_cons_succ]; exact rfl) (by rfl) ?_
      intro K hK
      go_simp
      refine hK _ _ (fun h => by simp at h) ?_
      clear hK K
      try simp only [Act.put, List.setIfInBounds_toArray, List.set_cons_zero, List.set_cons_succ]
      refine late_done (by kernel_rfl) ?_ _
      clear q3 fz3
      go_wp2_with fail
      go_roundw
      case rel => exact ⟨k + 1, _, _, by omega, by go_num, HA.out⟩
      case measure => simp [intOf]; omega
    · obtain rfl : k = n := by omega
      have hklt : (k : Int) ≤ (k : Int) := by omega
      clear hlt
      have HF := Lib.hid F
      clear F
      go_wp2_with fail
      have hn0 : 0 < k := by omega
      have HP0 : Hid (PM k least (fun _ _ => 0) 0 0) := ⟨fun _ _ => rfl, fun p q _ _ h => by omega⟩
      go_loopw [9] (fun i wr => ∃ (i' : Nat) (m : Nat → Nat → Int), i' ≤ k ∧ i = .int .i64 i' ∧ FRel b (t + 4 + 3 * i') n1 k w wr rv k g m 0 0 dye most ∧ PM k least m i' 0) (fun i _ => k - (intOf i).toNat)
      case atStart => exact ⟨0, _, Nat.zero_le _, rfl, HF.out, HP0.out⟩
      case round =>
        clear HF HP0
        obtain ⟨i, m, hik, rfl, F, hPM⟩ := hrel
        by_cases hlt : i < k
        · have hilt : (i : Int) < (k : Int) := by omega
          have HF := Lib.hid F
          have HPM := Lib.hid hPM
          clear F hPM
          go_wp2_with fail
          go_loopw [10] (fun ci wr => ∃ (c : Nat) (m : Nat → Nat → Int), c ≤ i ∧ ci = .int .i64 c ∧ FRel b (t + 4 + 3 * i + c) n1 k w wr rv k g m 0 0 dye most ∧ PM k least m i c) (fun ci _ => i - (intOf ci).toNat)
          case atStart => exact ⟨0, _, Nat.zero_le _, rfl, HF.out, HPM.out⟩
          case round =>
            clear HF HPM
            obtain ⟨c, m, hci, rfl, F, hPM⟩ := hrel
            by_cases hlc : c < i
            · have hclt : (c : Int) < (i : Int) := by omega
              obtain ⟨t1, ht1, hB1⟩ := F.bag
              have HF := Lib.hid F
              have HPM := Lib.hid hPM
              clear F hPM
              go_upto_region 15 with (go_at_call 14; refine (among_any b t1 least (2 * least) _ hB1 (by omega) (by omega) (by omega) (by omega) (by omega)).mono ?_; rintro e w7 ⟨x, hx1, hx2, rfl, hB7, hk7⟩)
              have HF7 := Lib.hid (HF.out.keep (T' := t + 4 + 3 * i + c + 1) hbw hk7 hB7 (by omega))
              clear hk7 HF hB1 hB7
              obtain ⟨gr, cap, hrv, hgr, _, c1, hcs⟩ := HF7.out.cells hn0
              obtain ⟨ci1, ci2, ci3, ci4⟩ := hcs i (by omega)
              obtain ⟨cc1, cc2, cc3, cc4⟩ := hcs c (by omega)
              obtain ⟨s1, s2⟩ := ci4 c (by omega)
              obtain ⟨s3, s4⟩ := cc4 i (by omega)
              have hgne : g i ≠ g c := fun e => by have := HF7.out.inj i c (by omega) (by omega) e; omega
              have HA := Lib.hid (HF7.out.pair (x := x) hbw (show i < k by omega) (show c < k by omega) (by omega))
              have HPA := Lib.hid (HPM.out.next (x := x) hlc hx1 (by omega))
              subst hrv
              obtain ⟨gi, hgi⟩ : ∃ y, y = g i := ⟨_, rfl⟩
              obtain ⟨gc, hgc⟩ : ∃ y, y = g c := ⟨_, rfl⟩
              rw [← hgi] at ci1 ci2 ci3 s1 s2 hgne HA
              rw [← hgc] at cc1 cc2 cc3 s3 s4 hgne HA
              clear ci4 cc4 hcs hgi hgc HF7 HPM
              have hi0 : (0 : Int) ≤ (i : Int) := by omega
              have hc0 : (0 : Int) ≤ (c : Int) := by omega
              have hck : (c : Int) < (k : Int) := by omega
              have e1 : n1 ≠ gi := by omega
              have e2 : n1 ≠ gc := by omega
              have e3 : gr ≠ gi := by omega
              have e4 : gr ≠ gc := by omega
              go_region_held3 (fun w' => w'.cell? ⟨n1, 1, none⟩ = some (.slice (some ⟨gr, 0, none⟩) k cap) ∧ w'.cell? ⟨gr, i, none⟩ = some (.slice (some ⟨gi, 0, none⟩) k k) ∧ w'.cell? ⟨gr, c, none⟩ = some (.slice (some ⟨gc, 0, none⟩) k k)) ((refine ⟨?_, ?_, ?_⟩ <;> (first | assumption | exact cell_far_drew (by assumption) (by assumption) | exact cell_far_drew2 (by assumption) (by assumption) (by assumption)))) (fail)
              rename_i hHeld1
              have HAd : Hid (FRel b (t + 4 + 3 * i + c + 1) n1 k w ((w7.setCell ⟨gi, c, none⟩ (.int .i64 x)).setCell ⟨gc, i, none⟩ (.int .i64 x)).drew (.slice (some ⟨gr, 0, none⟩) k cap) k g (fun p q => if (p = i ∧ q = c) ∨ (p = c ∧ q = i) then x else m p q) 0 0 dye most) := HA.out
              clear HA c1 ci1 cc1 s1 s2 s3 s4 e1 e2 e3 e4
              clear hHeld1
              go_wp2_with fail
              go_roundw
              case rel => exact ⟨c + 1, _, by omega, by go_num, HAd.out, HPA.out⟩
              case measure => simp [intOf]; omega
            · obtain rfl : c = i := by omega
              have hclt : (c : Int) ≤ (c : Int) := by omega
              clear hlc
              obtain ⟨t1, ht1, hB1⟩ := F.bag
              have HF := Lib.hid (F.keep (T' := t + 4 + 3 * (c + 1)) hbw (Kept.refl _ _) hB1 (by omega))
              have HPM := Lib.hid hPM.up
              clear F hPM hB1
              go_wp2_with fail
              go_roundw
              case rel => exact ⟨c + 1, m, by omega, by go_num, HF.out, HPM.out⟩
              case measure => simp [intOf]; omega
        · obtain rfl : i = k := by omega
          have hilt : (i : Int) ≤ (i : Int) := by omega
          clear hlt
          obtain ⟨t1, ht1, hB1⟩ := F.bag
          have HF := Lib.hid F
          have HPM := Lib.hid hPM
          clear F hPM
          go_wp2_with fail
          refine (upTo_any b t1 2 _ hB1 (by omega) (by omega) (by omega)).mono ?_
          rintro e w7 ⟨sF, hs1, hs2, rfl, hB7, hk7⟩
          have HF7 := Lib.hid (HF.out.keep (T' := t + 14) hbw hk7 hB7 (by omega))
          clear hk7 hB1 HF
          go_wp2_with fail
          refine (among_any b (t1 + 1) sF 2 _ hB7 (by omega) (by omega) (by omega) (by omega) (by omega)).mono ?_
          rintro e w8 ⟨sT, hs3, hs4, rfl, hB8, hk8⟩
          have HF8 := Lib.hid (HF7.out.keep (T' := t + 15) hbw hk8 hB8 (by omega))
          clear hk8 hB7 HF7
          obtain ⟨q0, q1, q2, q3, q4, q5⟩ := six_cells HF8.out.blk
          have fz := six_free HF8.out.blk
          go_wp2_with fail
          have HF9 := Lib.hid (HF8.out.shoe hbw sF sT)
          obtain ⟨w9, hw9⟩ : ∃ w9, (w8.setCell ⟨n1, 2, none⟩ (.int .i64 sF)).setCell ⟨n1, 3, none⟩ (.int .i64 sT) = w9 := ⟨_, rfl⟩
          rw [hw9] at HF9 ⊢
          clear hw9 q0 q1 q2 q3 q4 q5 fz HF8 hB8
          obtain ⟨t9, ht9, hB9⟩ := HF9.out.bag
          refine (upTo_any b t9 0 _ hB9 (by omega) (by omega) (by omega)).mono ?_
          rintro e w10 ⟨r, hr1, hr2, rfl, hB10, hk10⟩
          obtain rfl : r = 0 := by omega
          have HFA := Lib.hid (HF9.out.keep (T' := t + 16) hbw hk10 hB10 (by omega))
          clear hk10 hB9 HF9 hr1 hr2
          obtain ⟨q0, q1, q2, q3, q4, q5⟩ := six_cells HFA.out.blk
          obtain ⟨z0, z1, z2, z3, z4, z5⟩ := six_cells HFA.out.res
          have fz := six_free HFA.out.res
          obtain ⟨gr, cap, hrv, hgr, hxa, hxb⟩ := HFA.out.cells hn0
          subst hrv
          clear hxa hxb
          go_wp2_with fail
          go_loopw [13] (fun r wr => r = .int .i64 0 ∧ w10 = wr) (fun _ _ => 0)
          case atStart => exact ⟨rfl, rfl⟩
          case round =>
            obtain ⟨rfl, rfl⟩ := hrel
            go_wp2_with fail
            refine bodyPost_ret (v := .agg #[.slice none 0 0, .slice (some ⟨gr, 0, none⟩) i cap, .int .i64 sF, .int .i64 sT, .int .i64 dye, .int .i64 most]) ?_ rfl ?_
            · simp [results, Tryz.results13, go_sem, z0, z1, z2, z3, z4, z5]
            · obtain ⟨tA, htA, hBA⟩ := HFA.out.bag
              have hk := HFA.out.kept
              have hlw := HFA.out.lt
              refine ⟨i, m, _, sF, sT, dye, most, tA, rfl, (HFA.out.rowsM hn0).step (by simp) (fun x hx hp => ?_) (fun x _ hp => by omega), ⟨HPM.out.roads (by omega) (by omega) (by omega) (by omega), ⟨hs1, hs3, by show sT ≤ 3; omega⟩, ⟨by show 1 ≤ dye; omega, by show dye ≤ 6; omega⟩, hmo, by simp, fun j hj => by simp at hj⟩, by omega, by omega, by omega, ?_, ?_⟩
              · have hne : x ≠ w.heap.size := by omega
                exact (Below.heap_setCell _ _ _ _ (by exact hne)).trans ((Below.heap_setCell _ _ _ _ (by exact hne)).trans ((Below.heap_setCell _ _ _ _ (by exact hne)).trans ((Below.heap_setCell _ _ _ _ (by exact hne)).trans ((Below.heap_setCell _ _ _ _ (by exact hne)).trans (Below.heap_setCell _ _ _ _ (by exact hne))))))
              · exact (((((hBA.setCell (by exact hbw) _).setCell (by exact hbw) _).setCell (by exact hbw) _).setCell (by exact hbw) _).setCell (by exact hbw) _).setCell (by exact hbw) _
              · exact (((((hk.setCell (.inr (Nat.le_refl _)) _).setCell (.inr (Nat.le_refl _)) _).setCell (.inr (Nat.le_refl _)) _).setCell (.inr (Nat.le_refl _)) _).setCell (.inr (Nat.le_refl _)) _).setCell (.inr (Nat.le_refl _)) _
end Go.Proofs.YtejfelijhojndaaGreatDoor

/-
  palfreykit: SeenOf, the plain part: a row of entries and a row of integers that grow.
-/
namespace Go.Proofs.YtejfelijhojndaaGreatDoor
open Go.RowKit Go.Proofs Go.Shelf

def ecells (z : Ent × Value) : List Value := [.int .i64 z.1.hour, .int .i64 z.1.place, .int .i64 z.1.coat, z.2, .int .i64 z.1.height, .int .i64 z.1.shod]

/-- From world wc on two rows alone have grown. -/
structure Sg (base : Nat) (TA TB : TypeId) (sA sB : Nat) (wc : World) (nv dv : Value) (u : World) (V W : Value) (p q : Nat) (xs ys : List Value) : Prop where
  os : u.os = wc.os
  tape : u.tape = wc.tape
  output : u.output = wc.output
  size : wc.heap.size ≤ u.heap.size
  other : ∀ g, g < wc.heap.size → nv.ownBlock ≠ some g → dv.ownBlock ≠ some g → u.heap[g]? = wc.heap[g]?
  ownN : u.ownsRow base TA sA V p xs
  ownD : u.ownsRow base TB sB W q ys
  apart : ∀ g, V.ownBlock = some g → W.ownBlock ≠ some g
  newN : ∀ g, V.ownBlock = some g → nv.ownBlock = some g ∨ wc.heap.size ≤ g
  newD : ∀ g, W.ownBlock = some g → dv.ownBlock = some g ∨ wc.heap.size ≤ g
section
variable {base p q sA sB : Nat} {TA TB : TypeId} {wc u : World} {nv dv V W : Value} {xs ys : List Value}
theorem Sg.swap (h : Sg base TA TB sA sB wc nv dv u V W p q xs ys) : Sg base TB TA sB sA wc dv nv u W V q p ys xs :=
  ⟨h.os, h.tape, h.output, h.size, fun g a b c => h.other g a c b, h.ownD, h.ownN, fun g a b => h.apart g b a, h.newD, h.newN⟩
theorem Sg.refl (h1 : wc.ownsRow base TA sA nv p xs) (h2 : wc.ownsRow base TB sB dv q ys) (ha : ∀ g, nv.ownBlock = some g → dv.ownBlock ≠ some g) : Sg base TA TB sA sB wc nv dv wc nv dv p q xs ys :=
  ⟨rfl, rfl, rfl, Nat.le_refl _, fun _ _ _ _ => rfl, h1, h2, ha, fun _ h => .inl h, fun _ h => .inl h⟩
theorem Sg.alloc (h : Sg base TA TB sA sB wc nv dv u V W p q xs ys) (o : Obj) : Sg base TA TB sA sB wc nv dv (u.alloc o) V W p q xs ys :=
  ⟨h.os, h.tape, h.output, Nat.le_trans h.size (by simp), fun g a b c => (Below.heap_alloc _ _ _ (by have := h.size; omega)).trans (h.other g a b c), h.ownN.alloc _, h.ownD.alloc _, h.apart, h.newN, h.newD⟩
theorem Sg.append {g m cap : Nat} {u' : World} {zs : List Value} (h : Sg base TA TB sA sB wc nv dv u V W p q xs ys)
    (ho : u'.ownsRow base TA sA (.slice (some ⟨g, 0, none⟩) m cap) m zs) (hg : u.grownBy u' V.ownBlock) (ha : V.ownBlock = some g ∨ g = u.heap.size) :
    Sg base TA TB sA sB wc nv dv u' (.slice (some ⟨g, 0, none⟩) m cap) W m q zs ys := by
  have hsz := h.size
  refine ⟨hg.os.trans h.os, hg.tape.trans h.tape, hg.output.trans h.output, Nat.le_trans hsz hg.size, fun g2 a b c => (hg.block g2 (by omega) (fun e => ?_)).trans (h.other g2 a b c), ho, h.ownD.kept hg ?_, fun g2 e1 e2 => ?_, fun g2 e => ?_, h.newD⟩
  · rcases h.newN g2 e.symm with h1 | h1
    · exact b h1
    · omega
  · cases hw : W.ownBlock with
    | none => exact .inl rfl
    | some g3 => right; intro e; exact h.apart g3 e.symm hw
  · simp only [Value.ownBlock, Option.some.injEq] at e1
    subst e1
    rcases ha with ha | ha
    · exact h.apart _ ha e2
    · have := (h.ownD.lt _ e2).2; omega
  · simp only [Value.ownBlock, Option.some.injEq] at e
    subst e
    rcases ha with ha | ha
    · exact h.newN _ ha
    · right; omega
/-- Draws and new blocks that no row owns (a bag's block b lies below the rows). -/
theorem Sg.keep {b : Nat} {u' : World} (h : Sg base TA TB sA sB wc nv dv u V W p q xs ys) (hb : b < base) (hk : Kept b u u') : (∀ g, g < wc.heap.size → g ≠ b → nv.ownBlock ≠ some g → dv.ownBlock ≠ some g → u'.heap[g]? = wc.heap[g]?) ∧ u'.ownsRow base TA sA V p xs ∧ u'.ownsRow base TB sB W q ys := by
  have hsz := h.size
  refine ⟨fun g a a2 b2 c => (hk.block g (by omega) a2).trans (h.other g a b2 c), h.ownN.kept hk.grownBy ?_, h.ownD.kept hk.grownBy ?_⟩
  · cases hw : V.ownBlock with
    | none => exact .inl rfl
    | some g3 => right; intro e; cases e; have := h.ownN.lt _ hw; omega
  · cases hw : W.ownBlock with
    | none => exact .inl rfl
    | some g3 => right; intro e; cases e; have := h.ownD.lt _ hw; omega
end

/-- The blocks that stay. -/
def FixP (n0 n1 ex : Nat) (V W : Value) (g : Nat) : Prop := n0 < g ∧ g ≠ n1 ∧ g ≠ ex ∧ V.ownBlock ≠ some g ∧ W.ownBlock ≠ some g

structure GRel (b T n1 ex : Nat) (w wr : World) (e0 rv V W : Value) (Z : List (Ent × Value)) (I : List Int) (M : List (List Int)) (sF sT dye most : Int) : Prop where
  bag : ∃ t', t' ≤ T ∧ Bag wr b t'
  kept : Kept b w wr
  lt : w.heap.size < n1
  lex : n1 ≤ ex
  res : wr.heap[w.heap.size]? = some (.cells #[.slice none 0 0, .slice none 0 0, .int .i64 0, .int .i64 0, .int .i64 0, .int .i64 0] 30 (0, 0))
  blk : wr.heap[n1]? = some (.cells #[e0, rv, .int .i64 sF, .int .i64 sT, .int .i64 dye, .int .i64 most] 30 (0, 0))
  ownV : wr.ownsRow (n1 + 1) 57 6 V Z.length (Z.flatMap ecells)
  ownW : wr.ownsRow (n1 + 1) 3 1 W I.length (I.map (Value.int .i64))
  apart : ∀ g, V.ownBlock = some g → W.ownBlock ≠ some g
  offV : V.ownBlock ≠ some ex
  offW : W.ownBlock ≠ some ex
  exl : ex < wr.heap.size
  rows : RowsM (FixP w.heap.size n1 ex V W) wr rv M
  mZ : ∀ z ∈ Z, IntsM (FixP w.heap.size n1 ex V W) wr z.2 z.1.marks

section
variable {b T n1 ex : Nat} {w wr : World} {e0 rv V W : Value} {Z : List (Ent × Value)} {I : List Int} {M : List (List Int)} {sF sT dye most : Int}
theorem GRel.keep {T' t' : Nat} {w' : World} (h : GRel b T n1 ex w wr e0 rv V W Z I M sF sT dye most) (hbw : b < w.heap.size) (hk : Kept b wr w') (hB : Bag w' b t') (ht : t' ≤ T') : GRel b T' n1 ex w w' e0 rv V W Z I M sF sT dye most := by
  obtain ⟨_, kept, lt, lex, res, blk, ownV, ownW, apart, offV, offW, exl, rows, mZ⟩ := h
  have l1 := (Array.getElem?_eq_some_iff.1 res).1
  have l2 := (Array.getElem?_eq_some_iff.1 blk).1
  have far : ∀ v : Value, (∀ k, v.ownBlock = some k → n1 + 1 ≤ k ∧ k < wr.heap.size) → v.ownBlock = none ∨ v.ownBlock ≠ some b := fun v ho => by
    cases hv : v.ownBlock with
    | none => exact .inl rfl
    | some g => right; intro e; cases e; have := ho _ hv; omega
  exact ⟨⟨t', ht, hB⟩, kept.trans hk, lt, lex, (hk.block _ l1 (by omega)).trans res, (hk.block _ l2 (by omega)).trans blk, ownV.kept hk.grownBy (far _ fun k e => ownV.lt k e), ownW.kept hk.grownBy (far _ fun k e => ownW.lt k e), apart, offV, offW, Nat.lt_of_lt_of_le exl hk.size,
    rows.step hk.size (fun g hg hp => hk.block g hg (by have := hp.1; omega)) (fun _ _ h => h), fun z hz => (mZ z hz).step hk.size (fun g hg hp => hk.block g hg (by have := hp.1; omega)) (fun _ _ h => h)⟩

/-- What stays when the rows have grown. -/
theorem GRel.fix {ud : World} {V' W' : Value} {p q : Nat} {xs ys : List Value} (h : GRel b T n1 ex w wr e0 rv V W Z I M sF sT dye most) (st : Sg (n1 + 1) 57 3 6 1 wr V W ud V' W' p q xs ys) :
    (∀ g, g < wr.heap.size → FixP w.heap.size n1 ex V W g → ud.heap[g]? = wr.heap[g]?) ∧ (∀ g, g < wr.heap.size → FixP w.heap.size n1 ex V W g → FixP w.heap.size n1 ex V' W' g) ∧ (∀ g, g ≤ n1 ∨ g = ex → ud.heap[g]? = wr.heap[g]?) := by
  have l2 := (Array.getElem?_eq_some_iff.1 h.blk).1
  refine ⟨fun g hg hp => st.other g hg hp.2.2.2.1 hp.2.2.2.2, fun g hg hp => ⟨hp.1, hp.2.1, hp.2.2.1, fun e => ?_, fun e => ?_⟩, fun g hg => ?_⟩
  · rcases st.newN g e with h1 | h1
    · exact hp.2.2.2.1 h1
    · omega
  · rcases st.newD g e with h1 | h1
    · exact hp.2.2.2.2 h1
    · omega
  · rcases hg with hg | rfl
    · exact st.other g (by omega) (fun e => by have := (h.ownV.lt _ e).1; omega) (fun e => by have := (h.ownW.lt _ e).1; omega)
    · exact st.other g h.exl h.offV h.offW

theorem GRel.grow {ud : World} {V' W' : Value} {Z' : List (Ent × Value)} {I' : List Int} (h : GRel b T n1 ex w wr e0 rv V W Z I M sF sT dye most) (hbw : b < w.heap.size)
    (st : Sg (n1 + 1) 57 3 6 1 wr V W ud V' W' Z'.length I'.length (Z'.flatMap ecells) (I'.map (Value.int .i64)))
    (hz : ∀ z ∈ Z', z ∈ Z ∨ IntsM (FixP w.heap.size n1 ex V W) wr z.2 z.1.marks) : GRel b T n1 ex w ud e0 rv V' W' Z' I' M sF sT dye most := by
  obtain ⟨f1, f2, f3⟩ := h.fix st
  obtain ⟨⟨t', ht, hB⟩, kept, lt, lex, res, blk, ownV, ownW, apart, offV, offW, exl, rows, mZ⟩ := h
  have hst := st.size
  refine ⟨⟨t', ht, hB.same fun k hk => f3 k (.inl (by omega))⟩, ⟨st.os.trans kept.os, st.tape.trans kept.tape, st.output.trans kept.output, by have := kept.size; omega, fun k hk hb => (f3 k (.inl (by omega))).trans (kept.block k hk hb)⟩, lt, lex, (f3 _ (.inl (by omega))).trans res, (f3 _ (.inl (Nat.le_refl _))).trans blk, st.ownN, st.ownD, st.apart, fun e => ?_, fun e => ?_, by omega, rows.step hst f1 f2, fun y hy => ?_⟩
  · rcases st.newN _ e with h1 | h1
    · exact offV h1
    · omega
  · rcases st.newD _ e with h1 | h1
    · exact offW h1
    · omega
  · rcases hz y hy with hy | hy
    · exact (mZ y hy).step hst f1 f2
    · exact hy.step hst f1 f2

/-- The fair's entries are stored. -/
theorem GRel.setE (h : GRel b T n1 ex w wr e0 rv V W Z I M sF sT dye most) (hbw : b < w.heap.size) (v : Value) : GRel b T n1 ex w (wr.setCell ⟨n1, 0, none⟩ v) v rv V W Z I M sF sT dye most := by
  obtain ⟨⟨t', ht, hB⟩, kept, lt, lex, res, blk, ownV, ownW, apart, offV, offW, exl, rows, mZ⟩ := h
  have old : ∀ g, g ≠ n1 → (wr.setCell ⟨n1, 0, none⟩ v).heap[g]? = wr.heap[g]? := fun g hg => Below.heap_setCell _ _ _ _ (by exact hg)
  refine ⟨⟨t', ht, hB.setCell (by show b < n1; omega) _⟩, kept.setCell (.inr (by show _ ≤ n1; omega)) _, lt, lex, (old _ (by omega)).trans res, ?_, ownsRow_setCell_below ownV (a := ⟨n1, 0, none⟩) (by show n1 < n1 + 1; omega) _, ownsRow_setCell_below ownW (a := ⟨n1, 0, none⟩) (by show n1 < n1 + 1; omega) _, apart, offV, offW, by simpa using exl,
    rows.step (by simp) (fun g hg hp => old g hp.2.1) (fun _ _ h => h), fun z hz => (mZ z hz).step (by simp) (fun g hg hp => old g hp.2.1) (fun _ _ h => h)⟩
  simp [World.setCell, Array.getElem?_modify, blk]
end
end Go.Proofs.YtejfelijhojndaaGreatDoor

/-
  palfreykit: SeenOf, the plain part of the second loop.
-/
namespace Go.Proofs.YtejfelijhojndaaGreatDoor
open Go.RowKit Go.Proofs Go.Shelf

theorem Tryz.infoEntry : (Tryz.prog.info? 57).map (fun i => (i.zero, i.size, i.bytes)) = some (some (.agg #[.int .i64 0, .int .i64 0, .int .i64 0, .slice none 0 0, .int .i64 0, .int .i64 0]), 6, 64) := by kernel_rfl
theorem intsM_new {B : Nat} {w : World} {v : Value} {l : List Int} (h : Ints w v l) (ho : ∀ k, v.ownBlock = some k → B ≤ k) : IntsM (fun k => B ≤ k) w v l := by
  obtain ⟨a, cap, rfl, hc⟩ := h
  refine ⟨a, cap, rfl, fun hl => ?_⟩
  obtain ⟨g, off, rfl, hd⟩ := hc hl
  exact ⟨g, off, rfl, ho g rfl, World.block_lt_of_cell? w _ (hd 0 hl), hd⟩

theorem intsM_own {P : Nat → Prop} {w : World} {base : Nat} {v : Value} {l : List Int} (h : w.ownsRow base 3 1 v l.length (l.map (Value.int .i64))) (hP : ∀ k, v.ownBlock = some k → P k) : IntsM P w v l := by
  have h0 := intsM_new (B := 0) (ints_of_owns h) (fun _ _ => Nat.zero_le _)
  obtain ⟨a, cap, rfl, hc⟩ := h0
  exact ⟨a, cap, rfl, fun hl => by obtain ⟨b, off, rfl, _, r⟩ := hc hl; exact ⟨b, off, rfl, hP b rfl, r⟩⟩
theorem ints_slice {w : World} {v : Value} {l : List Int} (h : Ints w v l) : ∃ a c, v = .slice a l.length c := by
  obtain ⟨a, c, h, _⟩ := h; exact ⟨a, c, h⟩

theorem GRel.newP {b T n1 ex : Nat} {w wr : World} {e0 rv V W : Value} {Z : List (Ent × Value)} {I : List Int} {M : List (List Int)} {sF sT dye most : Int} (h : GRel b T n1 ex w wr e0 rv V W Z I M sF sT dye most) {g : Nat} (hg : wr.heap.size ≤ g) : FixP w.heap.size n1 ex V W g := by
  have l1 := (Array.getElem?_eq_some_iff.1 h.blk).1
  have := h.exl
  have := h.lt
  exact ⟨by omega, by omega, by omega, fun e => by have := (h.ownV.lt _ e).2; omega, fun e => by have := (h.ownW.lt _ e).2; omega⟩

structure HorseOK (z : Ent × Value) (places : Nat) : Prop where
  place : 0 ≤ z.1.place ∧ z.1.place < places
  coat : 0 ≤ z.1.coat ∧ z.1.coat ≤ 1
  marks : z.1.marks.Pairwise (· < ·) ∧ (∀ x ∈ z.1.marks, 0 ≤ x ∧ x < 3) ∧ z.1.marks.length ≤ 3
  hour : 0 ≤ z.1.hour ∧ z.1.hour ≤ 72
  slice : ∃ a c, z.2 = .slice a z.1.marks.length c

theorem six_get : ∀ (Z : List (Ent × Value)) (k j : Nat), j < 6 → (hk : k < Z.length) → (Z.flatMap ecells)[k * 6 + j]? = (ecells Z[k])[j]?
  | [], k, j, _, hk => by simp at hk
  | z :: Z, 0, j, hj, _ => by
    simp only [List.flatMap_cons, Nat.zero_mul, Nat.zero_add, List.getElem_cons_zero]
    rw [List.getElem?_append_left (by simpa [ecells] using hj)]
  | z :: Z, k + 1, j, hj, hk => by
    simp only [List.flatMap_cons, List.getElem_cons_succ]
    rw [List.getElem?_append_right (by simp [ecells]; omega), ← six_get Z k j hj (by simpa using hk)]
    congr 1
    simp [ecells]; omega

/-- The horses' last entries and their heights. -/
structure LRel (n0 n1 lG most : Nat) (wr : World) (V W tv : Value) (La : Nat → Ent × Value) (hs : Nat → Int) : Prop where
  last : ∃ cur T', wr.heap[lG]? = some (.cells cur T' (0, 0)) ∧ ∀ k, k < most → ∀ j, j < 6 → cur[k * 6 + j]? = (ecells (La k))[j]?
  mL : ∀ k, k < most → IntsM (FixP n0 n1 lG V W) wr (La k).2 (La k).1.marks
  hts : IntsM (FixP n0 n1 lG V W) wr tv ((List.range most).map hs)
theorem LRel.keep {b n0 n1 lG most : Nat} {wr w' : World} {V W tv : Value} {La : Nat → Ent × Value} {hs : Nat → Int} (h : LRel n0 n1 lG most wr V W tv La hs) (hb : b ≤ n0) (hl : n0 < lG) (hk : Kept b wr w') : LRel n0 n1 lG most w' V W tv La hs := by
  obtain ⟨⟨cur, T', h1, h2⟩, mL, hts⟩ := h
  have hlt := (Array.getElem?_eq_some_iff.1 h1).1
  exact ⟨⟨cur, T', (hk.block _ hlt (by omega)).trans h1, h2⟩, fun k hk2 => (mL k hk2).step hk.size (fun g hg hp => hk.block g hg (by have := hp.1; omega)) (fun _ _ h => h), hts.step hk.size (fun g hg hp => hk.block g hg (by have := hp.1; omega)) (fun _ _ h => h)⟩
/-- The six cells of a horse's last entry. -/
theorem LRel.cells {n0 n1 lG most k : Nat} {wr : World} {V W tv : Value} {La : Nat → Ent × Value} {hs : Nat → Int} (h : LRel n0 n1 lG most wr V W tv La hs) (hk : k < most) :
    wr.cell? ⟨lG, k * 6, none⟩ = some (.int .i64 (La k).1.hour) ∧ wr.cell? ⟨lG, k * 6 + 1, none⟩ = some (.int .i64 (La k).1.place) ∧ wr.cell? ⟨lG, k * 6 + 2, none⟩ = some (.int .i64 (La k).1.coat) ∧
    wr.cell? ⟨lG, k * 6 + 3, none⟩ = some (La k).2 ∧ wr.cell? ⟨lG, k * 6 + 4, none⟩ = some (.int .i64 (La k).1.height) ∧ wr.cell? ⟨lG, k * 6 + 5, none⟩ = some (.int .i64 (La k).1.shod) ∧ ∀ i, wr.frozen? ⟨lG, i, none⟩ = false := by
  obtain ⟨cur, T', h1, h2⟩ := h.last
  have h2 := h2 k hk
  simp only [World.cell?, World.frozen?, h1]
  refine ⟨by simpa [ecells] using h2 0 (by omega), by simpa [ecells] using h2 1 (by omega), by simpa [ecells] using h2 2 (by omega), by simpa [ecells] using h2 3 (by omega), by simpa [ecells] using h2 4 (by omega), by simpa [ecells] using h2 5 (by omega), fun i => by simp⟩
theorem LRel.height {n0 n1 lG most k : Nat} {wr : World} {V W : Value} {ha : Addr} {hc hcap : Nat} {La : Nat → Ent × Value} {hs : Nat → Int} (h : LRel n0 n1 lG most wr V W (.slice (some ha) hc hcap) La hs) (hk : k < most) :
    hc = most ∧ ∃ hb ho, ha = ⟨hb, ho, none⟩ ∧ wr.cell? ⟨hb, ho + k, none⟩ = some (.int .i64 (hs k)) := by
  obtain ⟨a, cap, hv, hd⟩ := h.hts
  obtain ⟨hb, ho, rfl, _, _, hcc⟩ := hd (by simp; omega)
  simp at hv
  obtain ⟨rfl, rfl, rfl⟩ := hv
  refine ⟨rfl, hb, ho, rfl, ?_⟩
  have := hcc k (by simpa using hk)
  simpa [hk] using this

/-- A horse's last entry is another now. -/
theorem LRel.store {n0 n1 lG most k : Nat} {wr : World} {V W tv : Value} {La : Nat → Ent × Value} {hs : Nat → Int} {z : Ent × Value} (h : LRel n0 n1 lG most wr V W tv La hs) (hk : k < most) (hz : IntsM (FixP n0 n1 lG V W) wr z.2 z.1.marks) {w' : World}
    (hw : w' = (((((wr.setCell ⟨lG, k * 6, none⟩ (.int .i64 z.1.hour)).setCell ⟨lG, k * 6 + 1, none⟩ (.int .i64 z.1.place)).setCell ⟨lG, k * 6 + 2, none⟩ (.int .i64 z.1.coat)).setCell ⟨lG, k * 6 + 3, none⟩ z.2).setCell ⟨lG, k * 6 + 4, none⟩ (.int .i64 z.1.height)).setCell ⟨lG, k * 6 + 5, none⟩ (.int .i64 z.1.shod)) :
    LRel n0 n1 lG most w' V W tv (fun i => if i = k then z else La i) hs := by
  obtain ⟨⟨cur, T', h1, h2⟩, mL, hts⟩ := h
  have old : ∀ g, g ≠ lG → w'.heap[g]? = wr.heap[g]? := fun g hg => by
    rw [hw]
    exact (Below.heap_setCell _ _ _ _ (by exact hg)).trans ((Below.heap_setCell _ _ _ _ (by exact hg)).trans ((Below.heap_setCell _ _ _ _ (by exact hg)).trans ((Below.heap_setCell _ _ _ _ (by exact hg)).trans ((Below.heap_setCell _ _ _ _ (by exact hg)).trans (Below.heap_setCell _ _ _ _ (by exact hg))))))
  have hsz : w'.heap.size = wr.heap.size := by rw [hw]; simp
  refine ⟨⟨_, T', by rw [hw]; simp [World.setCell, Array.getElem?_modify, h1]; rfl, fun i hi j hj => ?_⟩, fun i hi => ?_, hts.step (by omega) (fun g _ hp => old g hp.2.2.1) (fun _ _ h => h)⟩
  · have hl : ∀ j, j < 6 → k * 6 + j < cur.size := fun j hj => by
      have := h2 k hk j hj
      have hsm : ((ecells (La k))[j]?).isSome := by simp [ecells, hj]
      rw [← this] at hsm
      simpa using hsm
    by_cases hik : i = k
    · subst hik
      rw [if_pos rfl]
      have := hl j hj
      match j, hj with
      | 0, _ => simp [Array.getElem?_setIfInBounds, ecells]; have := hl 0 (by omega); omega
      | 1, _ => simp [Array.getElem?_setIfInBounds, ecells]; have := hl 1 (by omega); omega
      | 2, _ => simp [Array.getElem?_setIfInBounds, ecells]; have := hl 2 (by omega); omega
      | 3, _ => simp [Array.getElem?_setIfInBounds, ecells]; have := hl 3 (by omega); omega
      | 4, _ => simp [Array.getElem?_setIfInBounds, ecells]; have := hl 4 (by omega); omega
      | 5, _ => simp [Array.getElem?_setIfInBounds, ecells]; have := hl 5 (by omega); omega
    · rw [if_neg hik, ← h2 i hi j hj]
      simp only [Array.getElem?_setIfInBounds]
      rw [if_neg (by omega), if_neg (by omega), if_neg (by omega), if_neg (by omega), if_neg (by omega), if_neg (by omega)]
  · by_cases hik : i = k
    · subst hik
      simp only [if_pos]
      exact hz.step (by omega) (fun g _ hp => old g hp.2.2.1) (fun _ _ h => h)
    · simp only [if_neg hik]
      exact (mL i hi).step (by omega) (fun g _ hp => old g hp.2.2.1) (fun _ _ h => h)
/-- The entry in the making: the block that was new at w7. -/
structure NRel (b T : Nat) (w7 w' : World) (h p c : Int) (mv : Value) (t s : Int) : Prop where
  kept : Kept b w7 w'
  bag : ∃ t', t' ≤ T ∧ Bag w' b t'
  blk : w'.heap[w7.heap.size]? = some (.cells #[.int .i64 h, .int .i64 p, .int .i64 c, mv, .int .i64 t, .int .i64 s] 57 (0, 0))
section
variable {b T : Nat} {w7 w' : World} {h p c t s : Int} {mv : Value}
theorem NRel.draw {T' t' : Nat} {w2 : World} (H : NRel b T w7 w' h p c mv t s) (hb : b < w7.heap.size) (hk : Kept b w' w2) (hB : Bag w2 b t') (ht : t' ≤ T') : NRel b T' w7 w2 h p c mv t s :=
  ⟨H.kept.trans hk, ⟨t', ht, hB⟩, (hk.block _ (Array.getElem?_eq_some_iff.1 H.blk).1 (by omega)).trans H.blk⟩
theorem NRel.hour (H : NRel b T w7 w' h p c mv t s) (hb : b < w7.heap.size) (x : Int) : NRel b T w7 (w'.setCell ⟨w7.heap.size, 0, none⟩ (.int .i64 x)) x p c mv t s := by
  obtain ⟨k, ⟨t', ht, hB⟩, bl⟩ := H
  exact ⟨k.setCell (.inr (Nat.le_refl _)) _, ⟨t', ht, hB.setCell (by exact hb) _⟩, by simp [World.setCell, Array.getElem?_modify, bl]⟩
theorem NRel.coat (H : NRel b T w7 w' h p c mv t s) (hb : b < w7.heap.size) (x : Int) : NRel b T w7 (w'.setCell ⟨w7.heap.size, 2, none⟩ (.int .i64 x)) h p x mv t s := by
  obtain ⟨k, ⟨t', ht, hB⟩, bl⟩ := H
  exact ⟨k.setCell (.inr (Nat.le_refl _)) _, ⟨t', ht, hB.setCell (by exact hb) _⟩, by simp [World.setCell, Array.getElem?_modify, bl]⟩
theorem NRel.height (H : NRel b T w7 w' h p c mv t s) (hb : b < w7.heap.size) (x : Int) : NRel b T w7 (w'.setCell ⟨w7.heap.size, 4, none⟩ (.int .i64 x)) h p c mv x s := by
  obtain ⟨k, ⟨t', ht, hB⟩, bl⟩ := H
  exact ⟨k.setCell (.inr (Nat.le_refl _)) _, ⟨t', ht, hB.setCell (by exact hb) _⟩, by simp [World.setCell, Array.getElem?_modify, bl]⟩
theorem NRel.shod (H : NRel b T w7 w' h p c mv t s) (hb : b < w7.heap.size) (x : Int) : NRel b T w7 (w'.setCell ⟨w7.heap.size, 5, none⟩ (.int .i64 x)) h p c mv t x := by
  obtain ⟨k, ⟨t', ht, hB⟩, bl⟩ := H
  exact ⟨k.setCell (.inr (Nat.le_refl _)) _, ⟨t', ht, hB.setCell (by exact hb) _⟩, by simp [World.setCell, Array.getElem?_modify, bl]⟩
end
end Go.Proofs.YtejfelijhojndaaGreatDoor

/-
  palfreykit: SeenOf: what is true of the entries and of the horses.
-/
namespace Go.Proofs.YtejfelijhojndaaGreatDoor
open Go.RowKit Go.Proofs Go.Shelf

def roadAt (M : List (List Int)) (x y : Ent) : Int := (M[x.place.toNat]?.getD [])[y.place.toNat]?.getD 0
/-- A height that a horse of height h can have in an entry. -/
def HgtOK (sF sT : Int) (e : Ent) (h : Int) : Prop := (e.shod ≠ 1 ∧ e.height = h) ∨ (e.shod ≠ 0 ∧ ∃ a, sF ≤ a ∧ a ≤ sT ∧ e.height = h + a)

structure MInv (M : List (List Int)) (sF sT dye : Int) (most : Nat) (Z : List (Ent × Value)) (I : List Int) (La : Nat → Ent × Value) (hs : Nat → Int) : Prop where
  len : I.length = Z.length
  lt : ∀ x ∈ I, 0 ≤ x ∧ x < most
  okZ : ∀ z ∈ Z, HorseOK z M.length ∧ (0 ≤ z.1.height ∧ z.1.height ≤ 30) ∧ (0 ≤ z.1.shod ∧ z.1.shod ≤ 2)
  okL : ∀ k, k < most → HorseOK (La k) M.length
  hsr : ∀ k, k < most → 13 ≤ hs k ∧ hs k ≤ 16
  coat : ∀ (i : Nat) z (h : Nat), Z[i]? = some z → I[i]? = some (h : Int) → z.1.coat = (La h).1.coat
  hgt : ∀ (i : Nat) z (h : Nat), Z[i]? = some z → I[i]? = some (h : Int) → HgtOK sF sT z.1 (hs h)
  last : ∀ h : Nat, (h : Int) ∈ I → ∃ i : Nat, I[i]? = some (h : Int) ∧ (∀ j : Nat, i < j → I[j]? ≠ some (h : Int)) ∧ Z[i]? = some (La h)
  step : ∀ (i j : Nat) x y (h : Nat), i < j → I[i]? = some (h : Int) → I[j]? = some (h : Int) → (∀ k : Nat, i < k → k < j → I[k]? ≠ some (h : Int)) → Z[i]? = some x → Z[j]? = some y → x.1.hour + roadAt M x.1 y.1 + dye * (changed x.1.marks y.1.marks : Nat) ≤ y.1.hour

theorem MInv.next {M : List (List Int)} {sF sT dye : Int} {most : Nat} {Z : List (Ent × Value)} {I : List Int} {La : Nat → Ent × Value} {hs : Nat → Int} (h : MInv M sF sT dye most Z I La hs) {k : Nat} {z : Ent × Value} (hk : k < most)
    (h1 : HorseOK z M.length) (h2 : 0 ≤ z.1.height ∧ z.1.height ≤ 30) (h3 : 0 ≤ z.1.shod ∧ z.1.shod ≤ 2) (h4 : z.1.coat = (La k).1.coat) (h5 : HgtOK sF sT z.1 (hs k))
    (h6 : (k : Int) ∈ I → (La k).1.hour + roadAt M (La k).1 z.1 + dye * (changed (La k).1.marks z.1.marks : Nat) ≤ z.1.hour) :
    MInv M sF sT dye most (Z ++ [z]) (I ++ [(k : Int)]) (fun i => if i = k then z else La i) hs := by
  have len := h.len
  have gz : ∀ (i : Nat) y, (Z ++ [z])[i]? = some y → (i < Z.length ∧ Z[i]? = some y) ∨ (i = Z.length ∧ y = z) := fun i y e => by
    by_cases hi : i < Z.length
    · rw [List.getElem?_append_left hi] at e; exact .inl ⟨hi, e⟩
    · have hl := (List.getElem?_eq_some_iff.1 e).1
      simp at hl
      have : i = Z.length := by omega
      subst this
      simp at e; exact .inr ⟨rfl, e.symm⟩
  have gi : ∀ (i : Nat) y, (I ++ [(k : Int)])[i]? = some y → (i < Z.length ∧ I[i]? = some y) ∨ (i = Z.length ∧ y = k) := fun i y e => by
    by_cases hi : i < I.length
    · rw [List.getElem?_append_left hi] at e; exact .inl ⟨by omega, e⟩
    · have hl := (List.getElem?_eq_some_iff.1 e).1
      simp at hl
      have : i = I.length := by omega
      subst this
      simp at e; exact .inr ⟨len, e.symm⟩
  have gio : ∀ (i : Nat), i < Z.length → (I ++ [(k : Int)])[i]? = I[i]? := fun i hi => List.getElem?_append_left (by omega)
  refine ⟨by simp [len], fun x hx => ?_, fun y hy => ?_, fun i hi => ?_, h.hsr, fun i y g hy hg => ?_, fun i y g hy hg => ?_, fun g hg => ?_, fun i j x y g hij hi hj hno hx hy => ?_⟩
  · rcases List.mem_append.1 hx with h' | h'
    · exact h.lt x h'
    · simp at h'; subst h'; omega
  · rcases List.mem_append.1 hy with h' | h'
    · exact h.okZ y h'
    · simp at h'; subst h'; exact ⟨h1, h2, h3⟩
  · by_cases e : i = k
    · rw [if_pos e]; exact h1
    · rw [if_neg e]; exact h.okL i hi
  · rcases gz i y hy with ⟨hi, hy⟩ | ⟨rfl, rfl⟩
    · rw [gio i hi] at hg
      have := h.coat i y g hy hg
      by_cases e : g = k
      · rw [if_pos e, this, h4, e]
      · rw [if_neg e]; exact this
    · rcases gi _ _ hg with ⟨h', _⟩ | ⟨_, e⟩
      · omega
      · have : g = k := by omega
        subst this; simp
  · rcases gz i y hy with ⟨hi, hy⟩ | ⟨rfl, rfl⟩
    · rw [gio i hi] at hg
      exact h.hgt i y g hy hg
    · rcases gi _ _ hg with ⟨h', _⟩ | ⟨_, e⟩
      · omega
      · have : g = k := by omega
        subst this; exact h5
  · by_cases e : g = k
    · subst e
      refine ⟨Z.length, by rw [← len]; simp, fun j hj hc => ?_, by simp⟩
      rcases gi _ _ hc with ⟨h', _⟩ | ⟨h', _⟩ <;> omega
    · have hg' : (g : Int) ∈ I := by
        rcases List.mem_append.1 hg with h' | h'
        · exact h'
        · simp at h'; omega
      obtain ⟨i, i1, i2, i3⟩ := h.last g hg'
      have hi := (List.getElem?_eq_some_iff.1 i3).1
      refine ⟨i, by rw [gio i hi]; exact i1, fun j hj hc => ?_, by rw [if_neg e, List.getElem?_append_left hi]; exact i3⟩
      rcases gi _ _ hc with ⟨_, h'⟩ | ⟨_, h'⟩
      · exact i2 j hj h'
      · omega
  · rcases gz j y hy with ⟨hj2, hy⟩ | ⟨rfl, rfl⟩
    · rcases gz i x hx with ⟨hi2, hx⟩ | ⟨rfl, rfl⟩
      · rw [gio i hi2] at hi
        rw [gio j hj2] at hj
        exact h.step i j x y g hij hi hj (fun m hm1 hm2 => by have := hno m hm1 hm2; rw [gio m (by omega)] at this; exact this) hx hy
      · omega
    · rcases gi _ _ hj with ⟨h', _⟩ | ⟨_, e⟩
      · omega
      · have : g = k := by omega
        subst this
        rcases gz i x hx with ⟨hi2, hx⟩ | ⟨rfl, rfl⟩
        · rw [gio i hi2] at hi
          obtain ⟨i', e1, e2, e3⟩ := h.last g (List.mem_of_getElem? hi)
          have : i' = i := by
            rcases Nat.lt_trichotomy i i' with hl | hl | hl
            · have hl3 := (List.getElem?_eq_some_iff.1 e3).1
              exact absurd e1 (by have := hno i' hl hl3; rw [gio i' hl3] at this; exact this)
            · exact hl.symm
            · exact absurd hi (e2 i hl)
          subst this
          rw [hx] at e3
          cases e3
          exact h6 (List.mem_of_getElem? hi)
        · omega
end Go.Proofs.YtejfelijhojndaaGreatDoor

/-
  palfreykit: SeenOf: the end of a round, and of all.
-/
namespace Go.Proofs.YtejfelijhojndaaGreatDoor
open Go.RowKit Go.Proofs Go.Shelf

/-- The extra block alone is written. -/
theorem GRel.exSet {b T n1 ex : Nat} {w wr w' : World} {e0 rv V W : Value} {Z : List (Ent × Value)} {I : List Int} {M : List (List Int)} {sF sT dye most : Int} (h : GRel b T n1 ex w wr e0 rv V W Z I M sF sT dye most) (hbw : b < w.heap.size) (hne : n1 ≠ ex)
    (ho : w'.os = wr.os) (htp : w'.tape = wr.tape) (hou : w'.output = wr.output) (hsz : w'.heap.size = wr.heap.size) (old : ∀ g, g ≠ ex → w'.heap[g]? = wr.heap[g]?) : GRel b T n1 ex w w' e0 rv V W Z I M sF sT dye most := by
  obtain ⟨⟨t', ht, hB⟩, kept, lt, lex, res, blk, ownV, ownW, apart, offV, offW, exl, rows, mZ⟩ := h
  have own : ∀ {T s v n xs}, wr.ownsRow (n1 + 1) T s v n xs → v.ownBlock ≠ some ex → w'.ownsRow (n1 + 1) T s v n xs := fun {T s v n xs} ⟨o1, o2⟩ hx => by
    refine ⟨o1, ?_⟩
    rcases o2 with o2 | ⟨G, cap, cur, hv, hG, hh, r⟩
    · exact .inl o2
    · exact .inr ⟨G, cap, cur, hv, hG, (old G (fun e => hx (by rw [hv, ← e]; rfl))).trans hh, r⟩
  exact ⟨⟨t', ht, hB.same fun k hk => old k (by omega)⟩, ⟨ho.trans kept.os, htp.trans kept.tape, hou.trans kept.output, by have := kept.size; omega, fun k hk hb => (old k (by omega)).trans (kept.block k hk hb)⟩, lt, lex, (old _ (by omega)).trans res, (old _ hne).trans blk, own ownV offV, own ownW offW, apart, offV, offW, by omega,
    rows.step (by omega) (fun g _ hp => old g hp.2.2.1) (fun _ _ h => h), fun z hz => (mZ z hz).step (by omega) (fun g _ hp => old g hp.2.2.1) (fun _ _ h => h)⟩

theorem tq_le {t q z : Nat} (h : z ≤ t + 69 + 16 * (5 - q) + 16) (h0 : 0 < q) (h5 : q ≤ 5) : z ≤ t + 69 + 16 * (5 - (q - 1)) := by omega
theorem zq_le {z q : Nat} (h : z + q ≤ 5) (h0 : 0 < q) : z + 1 + (q - 1) ≤ 5 := by omega
theorem hgt_le {h tt sF sT sh : Int} (h1 : 13 ≤ h ∧ h ≤ 16) (h2 : 0 ≤ sF ∧ sF ≤ sT ∧ sT ≤ 3) (h3 : (sh ≠ 1 ∧ tt = h) ∨ (sh ≠ 0 ∧ ∃ a, sF ≤ a ∧ a ≤ sT ∧ tt = h + a)) : 0 ≤ tt ∧ tt ≤ 30 := by
  rcases h3 with ⟨_, h3⟩ | ⟨_, a, h3, h4, h5⟩ <;> omega
theorem set_os (w : World) (a : Addr) (v : Value) : (w.setCell a v).os = w.os := rfl
theorem set_tape (w : World) (a : Addr) (v : Value) : (w.setCell a v).tape = w.tape := rfl
theorem set_out (w : World) (a : Addr) (v : Value) : (w.setCell a v).output = w.output := rfl
theorem six_keeps {w w' : World} {G o : Nat} {v0 v1 v2 v3 v4 v5 : Value} (h : w' = (((((w.setCell ⟨G, o, none⟩ v0).setCell ⟨G, o + 1, none⟩ v1).setCell ⟨G, o + 2, none⟩ v2).setCell ⟨G, o + 3, none⟩ v3).setCell ⟨G, o + 4, none⟩ v4).setCell ⟨G, o + 5, none⟩ v5) :
    w'.os = w.os ∧ w'.tape = w.tape ∧ w'.output = w.output ∧ w'.heap.size = w.heap.size ∧ ∀ g, g ≠ G → w'.heap[g]? = w.heap[g]? := by
  subst h
  refine ⟨by simp only [set_os], by simp only [set_tape], by simp only [set_out], by simp, fun g hg => ?_⟩
  exact (Below.heap_setCell _ _ _ _ (by exact hg)).trans ((Below.heap_setCell _ _ _ _ (by exact hg)).trans ((Below.heap_setCell _ _ _ _ (by exact hg)).trans ((Below.heap_setCell _ _ _ _ (by exact hg)).trans ((Below.heap_setCell _ _ _ _ (by exact hg)).trans (Below.heap_setCell _ _ _ _ (by exact hg))))))

theorem LRel.grow {n0 n1 lG most : Nat} {wr ud : World} {V W V' W' tv : Value} {La : Nat → Ent × Value} {hs : Nat → Int} (h : LRel n0 n1 lG most wr V W tv La hs) (hst : wr.heap.size ≤ ud.heap.size) (f1 : ∀ g, g < wr.heap.size → FixP n0 n1 lG V W g → ud.heap[g]? = wr.heap[g]?) (f2 : ∀ g, g < wr.heap.size → FixP n0 n1 lG V W g → FixP n0 n1 lG V' W' g)
    (f3 : ud.heap[lG]? = wr.heap[lG]?) : LRel n0 n1 lG most ud V' W' tv La hs := by
  obtain ⟨⟨cur, T', h1, h2⟩, mL, hts⟩ := h
  exact ⟨⟨cur, T', f3.trans h1, h2⟩, fun k hk => (mL k hk).step hst f1 f2, hts.step hst f1 f2⟩
theorem LRel.setE {n0 n1 lG most : Nat} {wr : World} {V W tv : Value} {La : Nat → Ent × Value} {hs : Nat → Int} (h : LRel n0 n1 lG most wr V W tv La hs) (hne : lG ≠ n1) (v : Value) : LRel n0 n1 lG most (wr.setCell ⟨n1, 0, none⟩ v) V W tv La hs :=
  h.grow (by simp) (fun g _ hp => Below.heap_setCell _ _ _ _ (by exact hp.2.1)) (fun _ _ h => h) (Below.heap_setCell _ _ _ _ (by exact hne))

/-- The slice v reads as the entries Z, in blocks of the kind P. -/
def EntsM (P : Nat → Prop) (w : World) (v : Value) (Z : List (Ent × Value)) : Prop :=
  ∃ a cap, v = .slice a Z.length cap ∧ (0 < Z.length → ∃ g, a = some ⟨g, 0, none⟩ ∧ P g ∧ g < w.heap.size ∧ ∀ k (hk : k < Z.length) j, j < 6 → w.cell? ⟨g, k * 6 + j, none⟩ = (ecells Z[k])[j]?) ∧ ∀ z ∈ Z, IntsM P w z.2 z.1.marks
theorem EntsM.step {P P' : Nat → Prop} {w w' : World} {v : Value} {Z : List (Ent × Value)} (h : EntsM P w v Z) (hsz : w.heap.size ≤ w'.heap.size) (hs : ∀ k, k < w.heap.size → P k → w'.heap[k]? = w.heap[k]?) (hp : ∀ k, k < w.heap.size → P k → P' k) : EntsM P' w' v Z := by
  obtain ⟨a, cap, hv, hr, hm⟩ := h
  refine ⟨a, cap, hv, fun hl => ?_, fun z hz => (hm z hz).step hsz hs hp⟩
  obtain ⟨g, ha, hpg, hlt, hc⟩ := hr hl
  exact ⟨g, ha, hp g hlt hpg, Nat.lt_of_lt_of_le hlt hsz, fun k hk j hj => (World.cell?_of_block (w := w) (hs g hlt hpg)).trans (hc k hk j hj)⟩
theorem EntsM.at {P : Nat → Prop} {w : World} {v : Value} {Z : List (Ent × Value)} (h : EntsM P w v Z) : EntsAt w v (Z.map Prod.fst) := by
  obtain ⟨a, cap, hv, hr, hm⟩ := h
  refine ⟨a, cap, by rw [hv]; simp, fun hl => ?_⟩
  obtain ⟨g, ha, _, _, hc⟩ := hr (by simpa using hl)
  refine ⟨g, 0, ha, fun i hi => ?_⟩
  have hi' : i < Z.length := by simpa using hi
  have hc := hc i hi'
  refine ⟨Z[i].2, ?_, ?_, ?_, ?_, ?_, ?_, ?_⟩
  · have := hc 0 (by omega); simpa [ecells] using this
  · have := hc 1 (by omega); simpa [ecells] using this
  · have := hc 2 (by omega); simpa [ecells] using this
  · have := hc 3 (by omega); simpa [ecells] using this
  · have := hc 4 (by omega); simpa [ecells] using this
  · have := hc 5 (by omega); simpa [ecells] using this
  · have := (hm Z[i] (List.getElem_mem _)).ints; simpa using this
theorem entsM_own {P : Nat → Prop} {w : World} {base : Nat} {v : Value} {Z : List (Ent × Value)} (h : w.ownsRow base 57 6 v Z.length (Z.flatMap ecells)) (hP : ∀ k, v.ownBlock = some k → P k) (hm : ∀ z ∈ Z, IntsM P w z.2 z.1.marks) : EntsM P w v Z := by
  obtain ⟨h1, h2⟩ := h
  rcases h2 with ⟨rfl, h0⟩ | ⟨g, cap, cur, rfl, hg, hh, _, _, _, ht⟩
  · exact ⟨none, 0, by rw [h0], fun h => by omega, hm⟩
  · refine ⟨_, cap, rfl, fun _ => ⟨g, rfl, hP g rfl, (Array.getElem?_eq_some_iff.1 hh).1, fun k hk j hj => ?_⟩, hm⟩
    have h6 := six_get Z k j hj hk
    rw [← ht, List.getElem?_take, if_pos (by omega)] at h6
    simp only [World.cell?, hh]
    simpa using h6

def SeenEnd (b t : Nat) (w : World) (e : Ending) (w' : World) : Prop :=
  ∃ (ev rv hv : Value) (Z : List (Ent × Value)) (I : List Int) (La : Nat → Ent × Value) (hs : Nat → Int) (M : List (List Int)) (sF sT dye : Int) (most t' : Nat),
    e = .returned (.tuple #[fairV ev rv ⟨Z.map Prod.fst, M, sF, sT, dye, most⟩, hv]) ∧ EntsM (fun g => w.heap.size < g) w' ev Z ∧ RowsM (fun g => w.heap.size < g) w' rv M ∧ IntsM (fun g => w.heap.size < g) w' hv I ∧
    MInv M sF sT dye most Z I La hs ∧ FairOK ⟨Z.map Prod.fst, M, sF, sT, dye, most⟩ ∧ sT ≤ 2 ∧ Z.length ≤ 5 ∧ 1 ≤ most ∧ most ≤ 3 ∧ t' ≤ t + 200 ∧ Bag w' b t' ∧ Kept b w w'
theorem marksOK3 {l : List Int} (h : l.Pairwise (· < ·) ∧ (∀ x ∈ l, 0 ≤ x ∧ x < 3) ∧ l.length ≤ 3) : MarksOK l := by
  refine ⟨fun i hi => ?_, fun i hi => List.pairwise_iff_getElem.1 h.1 i (i + 1) (by omega) hi (by omega), by omega⟩
  have := h.2.1 _ (List.getElem_mem hi)
  omega
theorem MInv.fair {M : List (List Int)} {sF sT dye : Int} {most : Nat} {Z : List (Ent × Value)} {I : List Int} {La : Nat → Ent × Value} {hs : Nat → Int} {e0 : List Ent} {m0 : Int} (h : MInv M sF sT dye most Z I La hs) (hF : FairOK ⟨e0, M, sF, sT, dye, m0⟩) (h1 : 1 ≤ most) (h3 : most ≤ 3) (hZ : Z.length ≤ 5) : FairOK ⟨Z.map Prod.fst, M, sF, sT, dye, most⟩ := by
  refine ⟨hF.roads, hF.shoe, hF.dye, ⟨by show (1 : Int) ≤ most; omega, by show (most : Int) ≤ 6; omega⟩, by simp; omega, fun i hi => ?_⟩
  have hi' : i < Z.length := by simpa using hi
  obtain ⟨o, oh, os⟩ := h.okZ Z[i] (List.getElem_mem _)
  simp only [List.getElem_map]
  exact ⟨o.hour, ⟨o.place.1, by have := o.place.2; omega⟩, ⟨o.coat.1, by have := o.coat.2; omega⟩, marksOK3 o.marks, oh, os⟩
end Go.Proofs.YtejfelijhojndaaGreatDoor

/-
  mark, the mathematics: the true horses are one way.
-/
namespace Go.Proofs.YtejfelijhojndaaGreatDoor
open Go.RowKit Go.Proofs Go.Shelf

def subs3 : List (List Int) := [[], [0], [1], [2], [0, 1], [0, 2], [1, 2], [0, 1, 2]]
theorem sub3 {l : List Int} (h : l.Pairwise (· < ·)) (hm : ∀ x ∈ l, 0 ≤ x ∧ x < 3) : l ∈ subs3 := by
  match l, h, hm with
  | [], _, _ => simp [subs3]
  | [a], _, hm =>
    have ha := hm a (by simp)
    have : a = 0 ∨ a = 1 ∨ a = 2 := by omega
    rcases this with rfl | rfl | rfl <;> simp [subs3]
  | [a, b], h, hm =>
    have ha := hm a (by simp)
    have hb := hm b (by simp)
    have hab : a < b := by simpa using h
    have : (a = 0 ∧ b = 1) ∨ (a = 0 ∧ b = 2) ∨ (a = 1 ∧ b = 2) := by omega
    rcases this with ⟨rfl, rfl⟩ | ⟨rfl, rfl⟩ | ⟨rfl, rfl⟩ <;> simp [subs3]
  | [a, b, c], h, hm =>
    have ha := hm a (by simp)
    have hc := hm c (by simp)
    have hb := hm b (by simp)
    simp at h
    have : a = 0 ∧ b = 1 ∧ c = 2 := by omega
    obtain ⟨rfl, rfl, rfl⟩ := this
    simp [subs3]
  | a :: b :: c :: d :: t, h, hm =>
    have ha := hm a (by simp)
    have hd := hm d (by simp)
    simp at h
    omega
theorem changed_eq_all : (subs3.all fun a => subs3.all fun b => changedN (marksBits a) (marksBits b) == changed a b) = true := by kernel_rfl
theorem changed_eq {a b : List Int} (ha : a.Pairwise (· < ·)) (ha2 : ∀ x ∈ a, 0 ≤ x ∧ x < 3) (hb : b.Pairwise (· < ·)) (hb2 : ∀ x ∈ b, 0 ≤ x ∧ x < 3) : changedN (marksBits a) (marksBits b) = changed a b := by
  have := List.all_eq_true.1 (List.all_eq_true.1 changed_eq_all a (sub3 ha ha2)) b (sub3 hb hb2)
  simpa using this

/-- A list in order is left as it is. -/
theorem bubble_id {c : Nat → Nat → Int} {L : List Nat} (h : ∀ i, i + 1 < L.length → 0 ≤ c (L[i + 1]?.getD 0) (L[i]?.getD 0)) : ∀ j, j < L.length → bubble c j L = L
  | 0, _ => rfl
  | j + 1, hj => by
    unfold bubble
    rw [if_neg (by have := h j hj; omega)]
theorem sortTo_id {c : Nat → Nat → Int} {L : List Nat} (h : ∀ i, i + 1 < L.length → 0 ≤ c (L[i + 1]?.getD 0) (L[i]?.getD 0)) : ∀ k, k ≤ L.length → sortTo c k L = L
  | 0, _ => rfl
  | 1, _ => rfl
  | k + 2, hk => by
    unfold sortTo
    rw [sortTo_id h (k + 1) (by omega), bubble_id h (k + 1) (by omega)]

theorem left_mem {F : Fair} {e : Ent} {h : Int} (hs : 0 ≤ F.shoeF ∧ F.shoeF ≤ F.shoeT ∧ F.shoeT ≤ 3) (hh : HgtOK F.shoeF F.shoeT e h) : h ∈ leftL F e := by
  have key : ∀ a : Int, 0 ≤ a → a ≤ 3 → leftB F e a = true → e.height - a = h → h ∈ leftL F e := fun a h0 h3 hl he => by
    obtain ⟨n, rfl⟩ := Int.eq_ofNat_of_zero_le h0
    unfold leftL leftTo
    refine List.mem_map.2 ⟨3 - n, List.mem_filter.2 ⟨by simp; omega, ?_⟩, ?_⟩
    · have : (3 : Int) - ((3 - n : Nat) : Int) = n := by omega
      rw [this]; exact hl
    · have : (3 : Int) - ((3 - n : Nat) : Int) = n := by omega
      rw [this]; exact he
  rcases hh with ⟨h1, h2⟩ | ⟨h1, a, h2, h3, h4⟩
  · refine key 0 (by omega) (by omega) ?_ (by omega)
    simp [leftB, h1]
  · refine key a (by omega) (by omega) ?_ (by omega)
    unfold leftB
    rw [decide_eq_false (by omega), decide_eq_false (by omega)]
    simp [h1]
theorem heights_mem {F : Fair} {L : List Nat} {h : Int} (hL : L ≠ []) (hh : ∀ x ∈ L, h ∈ leftL F (F.ents[x]?.getD ⟨0, 0, 0, 0, 0, []⟩)) : noHeightB F L = false := by
  unfold noHeightB heightsL
  match L, hL with
  | x :: L, _ =>
    simp only [List.map_cons, interL]
    have : h ∈ (leftL F (F.ents[x]?.getD ⟨0, 0, 0, 0, 0, []⟩)).filter fun v => (L.map fun x => leftL F (F.ents[x]?.getD ⟨0, 0, 0, 0, 0, []⟩)).all fun m => decide (v ∈ m) := by
      refine List.mem_filter.2 ⟨hh x (by simp), List.all_eq_true.2 fun m hm => ?_⟩
      obtain ⟨y, hy, rfl⟩ := List.mem_map.1 hm
      exact decide_eq_true (hh y (by simp [hy]))
    cases he : (leftL F (F.ents[x]?.getD ⟨0, 0, 0, 0, 0, []⟩)).filter fun v => (L.map fun x => leftL F (F.ents[x]?.getD ⟨0, 0, 0, 0, 0, []⟩)).all fun m => decide (v ∈ m) with
    | nil => rw [he] at this; cases this
    | cons _ _ => rfl
end Go.Proofs.YtejfelijhojndaaGreatDoor

/-
  mark, the mathematics: the entries of one horse bar nothing.
-/
namespace Go.Proofs.YtejfelijhojndaaGreatDoor
open Go.RowKit Go.Proofs Go.Shelf

theorem filter_adj {p : Nat → Bool} {r i : Nat} (h : i + 1 < ((List.range r).filter p).length) :
    ((List.range r).filter p)[i] < ((List.range r).filter p)[i + 1] ∧ ∀ k, ((List.range r).filter p)[i] < k → k < ((List.range r).filter p)[i + 1] → p k = false := by
  have hs : ((List.range r).filter p).Pairwise (· < ·) := List.pairwise_lt_range.filter _
  have hg := List.pairwise_iff_getElem.1 hs
  refine ⟨hg i (i + 1) (by omega) h (by omega), fun k h1 h2 => ?_⟩
  cases hp : p k with
  | false => rfl
  | true =>
    have hb := List.mem_filter.1 (List.getElem_mem h)
    have hbr := List.mem_range.1 hb.1
    have hk : k ∈ (List.range r).filter p := List.mem_filter.2 ⟨List.mem_range.2 (by omega), hp⟩
    obtain ⟨m, hm, he⟩ := List.getElem_of_mem hk
    rcases Nat.lt_trichotomy m i with hl | hl | hl
    · have := hg m i hm (by omega) hl; omega
    · subst hl; omega
    · rcases Nat.lt_trichotomy m (i + 1) with hl2 | hl2 | hl2
      · omega
      · subst hl2; omega
      · have := hg (i + 1) m h hm hl2; omega

/-- The horse of an entry. -/
def hOf (I : List Int) (j : Nat) : Nat := (I[j]?.getD 0).toNat
def clsL (I : List Int) (r h : Nat) : List Nat := (List.range r).filter fun j => hOf I j == h

section
variable {M : List (List Int)} {sF sT dye : Int} {most : Nat} {Z : List (Ent × Value)} {I : List Int} {La : Nat → Ent × Value} {hs : Nat → Int}
theorem MInv.horse (h : MInv M sF sT dye most Z I La hs) {j : Nat} (hj : j < Z.length) : I[j]? = some ((hOf I j : Nat) : Int) ∧ hOf I j < most := by
  have hj2 : j < I.length := by have := h.len; omega
  have hr := h.lt _ (List.getElem_mem hj2)
  unfold Go.Proofs.YtejfelijhojndaaGreatDoor.hOf
  rw [List.getElem?_eq_getElem hj2, Option.getD_some]
  refine ⟨?_, by omega⟩
  congr 1
  omega
theorem MInv.class (h : MInv M sF sT dye most Z I La hs) (hF : FairOK ⟨Z.map Prod.fst, M, sF, sT, dye, most⟩) {r g : Nat} (hr : r ≤ Z.length) (hg : g < most) (hne : clsL I r g ≠ []) :
    coatB ⟨Z.map Prod.fst, M, sF, sT, dye, most⟩ (clsL I r g) = false ∧ noHeightB ⟨Z.map Prod.fst, M, sF, sT, dye, most⟩ (clsL I r g) = false ∧ fewB ⟨Z.map Prod.fst, M, sF, sT, dye, most⟩ (clsL I r g) = false := by
  have mem : ∀ x ∈ clsL I r g, ∃ z, Z[x]? = some z ∧ I[x]? = some (g : Int) := fun x hx => by
    obtain ⟨h1, h2⟩ := List.mem_filter.1 hx
    have hxr := List.mem_range.1 h1
    have hxz : x < Z.length := by omega
    have := (h.horse hxz).1
    have e : Go.Proofs.YtejfelijhojndaaGreatDoor.hOf I x = g := by simpa using h2
    exact ⟨Z[x], List.getElem?_eq_getElem hxz, by rw [this, e]⟩
  have coat : ∀ x ∈ clsL I r g, coatOf ⟨Z.map Prod.fst, M, sF, sT, dye, most⟩ x = (La g).1.coat := fun x hx => by
    obtain ⟨z, h1, h2⟩ := mem x hx
    have := h.coat x z g h1 h2
    simp [coatOf, h1, this]
  have ent : ∀ x z, Z[x]? = some z → entOf ⟨Z.map Prod.fst, M, sF, sT, dye, most⟩ x = z.1 := fun x z hz => by simp [entOf, hz]
  refine ⟨?_, ?_, ?_⟩
  · unfold coatB
    rw [List.any_eq_false]
    intro x hx
    have h0 : 0 < (clsL I r g).length := List.length_pos_iff.2 hne
    rw [coat x hx, List.getElem?_eq_getElem h0, Option.getD_some, coat _ (List.getElem_mem h0)]
    simp
  · refine heights_mem (h := hs g) hne fun x hx => ?_
    obtain ⟨z, h1, h2⟩ := mem x hx
    have := h.hgt x z g h1 h2
    have e : ((⟨Z.map Prod.fst, M, sF, sT, dye, most⟩ : Fair).ents[x]?.getD ⟨0, 0, 0, 0, 0, []⟩) = z.1 := by simp [h1]
    rw [e]
    exact left_mem hF.shoe this
  · have step : ∀ i, (hi : i + 1 < (clsL I r g).length) → ∃ x y, Z[(clsL I r g)[i]]? = some x ∧ Z[(clsL I r g)[i + 1]]? = some y ∧ (clsL I r g)[i] < (clsL I r g)[i + 1] ∧ x.1.hour + neededL ⟨Z.map Prod.fst, M, sF, sT, dye, most⟩ x.1 y.1 ≤ y.1.hour ∧ 0 ≤ neededL ⟨Z.map Prod.fst, M, sF, sT, dye, most⟩ x.1 y.1 := fun i hi => by
      obtain ⟨x, x1, x2⟩ := mem _ (List.getElem_mem (show i < (clsL I r g).length by omega))
      obtain ⟨y, y1, y2⟩ := mem _ (List.getElem_mem hi)
      obtain ⟨a1, a2⟩ := filter_adj (p := fun j => Go.Proofs.YtejfelijhojndaaGreatDoor.hOf I j == g) hi
      have hst := h.step _ _ x y g a1 x2 y2 (fun k k1 k2 hk => by
        have := a2 k k1 k2
        have hkz : k < Z.length := by have := h.len; have := (List.getElem?_eq_some_iff.1 hk).1; omega
        have e := (h.horse hkz).1
        rw [hk] at e
        simp at e this
        omega) x1 y1
      have ox := (h.okZ x (List.mem_of_getElem? x1)).1
      have oy := (h.okZ y (List.mem_of_getElem? y1)).1
      have hch := changed_eq ox.marks.1 ox.marks.2.1 oy.marks.1 oy.marks.2.1
      have hnd : neededL ⟨Z.map Prod.fst, M, sF, sT, dye, most⟩ x.1 y.1 = roadAt M x.1 y.1 + dye * (changed x.1.marks y.1.marks : Nat) := by unfold neededL roadAt; rw [hch]
      have hro : 0 ≤ roadAt M x.1 y.1 := by
        have p1 : x.1.place.toNat < M.length := by have := ox.place; omega
        have p2 : y.1.place.toNat < M.length := by have := oy.place; omega
        have p3 : y.1.place.toNat < M[x.1.place.toNat].length := by have := hF.roads.sq _ p1; simp only at this; omega
        unfold roadAt
        rw [List.getElem?_eq_getElem p1, Option.getD_some, List.getElem?_eq_getElem p3, Option.getD_some]
        exact (hF.roads.num _ _ p1 p3).1
      have hdy : 0 ≤ dye * ((changed x.1.marks y.1.marks : Nat) : Int) := Int.mul_nonneg (by have := hF.dye.1; simp only at this; omega) (by omega)
      refine ⟨x, y, x1, y1, a1, ?_, ?_⟩
      · rw [hnd]; omega
      · rw [hnd]; omega
    have hid : sortL (cmpHour ⟨Z.map Prod.fst, M, sF, sT, dye, most⟩) (clsL I r g) = clsL I r g := sortTo_id (fun i hi => by
      obtain ⟨x, y, x1, y1, hlt, hle, hn⟩ := step i hi
      rw [List.getElem?_eq_getElem hi, List.getElem?_eq_getElem (show i < (clsL I r g).length by omega), Option.getD_some, Option.getD_some]
      unfold cmpHour
      simp only [List.getElem?_map, x1, y1, Option.map_some, Option.getD_some]
      have c1 : 0 ≤ cmpI y.1.hour x.1.hour := by unfold cmpI; rw [if_neg (by omega)]; split <;> omega
      have c2 : 0 ≤ cmpI ((clsL I r g)[i + 1] : Nat) ((clsL I r g)[i] : Nat) := by unfold cmpI; rw [if_neg (by omega)]; split <;> omega
      unfold orL
      simp only [List.find?_cons]
      split
      · simpa using c1
      · split
        · simpa using c2
        · simp) _ (Nat.le_refl _)
    unfold fewB
    rw [hid, List.any_eq_false]
    intro i hi
    have hi2 := List.mem_range.1 hi
    obtain ⟨x, y, x1, y1, hlt, hle, hn⟩ := step i (by omega)
    unfold fewAt
    rw [List.getElem?_eq_getElem (show i + 1 < (clsL I r g).length by omega), List.getElem?_eq_getElem (show i < (clsL I r g).length by omega), Option.getD_some, Option.getD_some, ent _ x x1, ent _ y y1]
    simp
    omega
end
end Go.Proofs.YtejfelijhojndaaGreatDoor

/-
  mark, the mathematics: the true way is among the ways.
-/
namespace Go.Proofs.YtejfelijhojndaaGreatDoor
open Go.RowKit Go.Proofs Go.Shelf

def maskN (I : List Int) : Nat → Nat → Nat
  | 0, _ => 0
  | r + 1, g => if hOf I r = g then maskN I r g ||| 2 ^ r else maskN I r g
def ordL (I : List Int) : Nat → List Nat
  | 0 => []
  | r + 1 => if hOf I r ∈ ordL I r then ordL I r else ordL I r ++ [hOf I r]

theorem mask_bit (I : List Int) : ∀ r g j, (maskN I r g).testBit j = decide (j < r ∧ hOf I j = g)
  | 0, g, j => by simp [maskN]
  | r + 1, g, j => by
    have ih := mask_bit I r g j
    unfold maskN
    split
    · rename_i h
      rw [Nat.testBit_or, ih, Nat.testBit_two_pow]
      by_cases hj : r = j
      · subst hj; simp [h]
      · rw [decide_eq_false hj, Bool.or_false]
        congr 1
        apply propext
        constructor <;> rintro ⟨h1, h2⟩ <;> exact ⟨by omega, h2⟩
    · rename_i h
      rw [ih]
      congr 1
      apply propext
      constructor
      · rintro ⟨h1, h2⟩; exact ⟨by omega, h2⟩
      · rintro ⟨h1, h2⟩
        refine ⟨?_, h2⟩
        by_cases e : j = r
        · subst e; exact absurd h2 h
        · omega
theorem filter_cut (p : Nat → Bool) (r : Nat) : ∀ d, (List.range (r + d)).filter (fun j => decide (j < r) && p j) = (List.range r).filter p
  | 0 => List.filter_congr fun x hx => by
    have := List.mem_range.1 hx
    rw [decide_eq_true (show x < r by omega), Bool.true_and]
  | d + 1 => by
    rw [show r + (d + 1) = (r + d) + 1 by omega, List.range_succ, List.filter_append, filter_cut p r d]
    simp
    intro h; omega
theorem mask_which (I : List Int) {r g : Nat} (hr : r ≤ 6) : whichL (maskN I r g).testBit 6 = clsL I r g := by
  unfold whichL clsL
  have := filter_cut (fun j => hOf I j == g) r (6 - r)
  rw [show r + (6 - r) = 6 by omega] at this
  rw [← this]
  refine List.filter_congr fun x _ => ?_
  rw [mask_bit]
  by_cases h1 : x < r <;> by_cases h2 : hOf I x = g <;> simp [h1, h2]
theorem mask_lt (I : List Int) {r g n : Nat} (hr : r ≤ n) : maskN I r g < 2 ^ n := by
  apply Nat.lt_pow_two_of_testBit
  intro i hi
  rw [mask_bit, decide_eq_false (by omega)]
theorem mask_none {I : List Int} {r g : Nat} (h : ∀ j, j < r → hOf I j ≠ g) : maskN I r g = 0 := by
  apply Nat.eq_of_testBit_eq
  intro i
  rw [mask_bit, Nat.zero_testBit, decide_eq_false (fun hc => h i hc.1 hc.2)]

theorem ord_mem (I : List Int) : ∀ r g, g ∈ ordL I r ↔ ∃ j, j < r ∧ hOf I j = g
  | 0, g => by simp [ordL]
  | r + 1, g => by
    have ih := ord_mem I r
    have key : (∃ j, j < r + 1 ∧ hOf I j = g) ↔ (∃ j, j < r ∧ hOf I j = g) ∨ hOf I r = g := by
      constructor
      · rintro ⟨j, h1, h2⟩
        by_cases e : j = r
        · subst e; exact .inr h2
        · exact .inl ⟨j, by omega, h2⟩
      · rintro (⟨j, h1, h2⟩ | h)
        · exact ⟨j, by omega, h2⟩
        · exact ⟨r, by omega, h⟩
    rw [key, ← ih g, show ordL I (r + 1) = if hOf I r ∈ ordL I r then ordL I r else ordL I r ++ [hOf I r] from rfl]
    split
    · rename_i h
      constructor
      · exact .inl
      · rintro (h1 | h1)
        · exact h1
        · rw [← h1]; exact h
    · rw [List.mem_append, List.mem_singleton]
      constructor
      · rintro (h1 | h1)
        · exact .inl h1
        · exact .inr h1.symm
      · rintro (h1 | h1)
        · exact .inl h1
        · exact .inr h1.symm
theorem ord_nodup (I : List Int) : ∀ r, (ordL I r).Nodup
  | 0 => List.nodup_nil
  | r + 1 => by
    unfold ordL
    split
    · exact ord_nodup I r
    · rename_i h
      rw [List.nodup_append]
      refine ⟨ord_nodup I r, by simp, fun a ha b hb => ?_⟩
      simp at hb
      subst hb
      intro e
      subst e
      exact h ha
theorem nodup_le : ∀ (n : Nat) (l : List Nat), l.Nodup → (∀ x ∈ l, x < n) → l.length ≤ n
  | 0, l, _, hl => by
    cases l with
    | nil => simp
    | cons x l => exact absurd (hl x (by simp)) (by omega)
  | n + 1, l, hd, hl => by
    by_cases h : n ∈ l
    · have h1 := nodup_le n (l.erase n) (hd.erase n) (fun x hx => by
        have h2 := (hd.mem_erase_iff).1 hx
        have := hl x h2.2
        omega)
      rw [List.length_erase_of_mem h] at h1
      omega
    · have := nodup_le n l hd (fun x hx => by
        have := hl x hx
        by_cases e : x = n
        · subst e; exact absurd hx h
        · omega)
      omega

section
variable {M : List (List Int)} {sF sT dye : Int} {most : Nat} {Z : List (Ent × Value)} {I : List Int} {La : Nat → Ent × Value} {hs : Nat → Int}
theorem MInv.ord_le (h : MInv M sF sT dye most Z I La hs) {r : Nat} (hr : r ≤ Z.length) : (ordL I r).length ≤ most :=
  nodup_le most _ (ord_nodup I r) fun g hg => by
    obtain ⟨j, h1, rfl⟩ := (ord_mem I r g).1 hg
    exact (h.horse (by omega)).2
theorem MInv.can (h : MInv M sF sT dye most Z I La hs) (hF : FairOK ⟨Z.map Prod.fst, M, sF, sT, dye, most⟩) {r : Nat} (hr : r < Z.length) (hz : Z.length ≤ 5) :
    canN ⟨Z.map Prod.fst, M, sF, sT, dye, most⟩ Z.length (maskN I (r + 1) (hOf I r)) = true := by
  have hg := (h.horse hr).2
  have hmem : r ∈ clsL I (r + 1) (hOf I r) := List.mem_filter.2 ⟨List.mem_range.2 (by omega), by simp⟩
  have hne : clsL I (r + 1) (hOf I r) ≠ [] := fun e => by rw [e] at hmem; cases hmem
  obtain ⟨h1, h2, h3⟩ := h.class hF (r := r + 1) (by omega) hg hne
  unfold canN canF
  rw [decide_eq_true (mask_lt I (show r + 1 ≤ Z.length by omega)), mask_which I (by omega), h1, h2, h3]
  have h0 : maskN I (r + 1) (hOf I r) ≠ 0 := fun e => by
    have := mask_bit I (r + 1) (hOf I r) r
    rw [e, Nat.zero_testBit, decide_eq_true ⟨by omega, rfl⟩] at this
    cases this
  rw [if_neg h0]
  rfl

def curL (I : List Int) (r : Nat) : List Nat := (ordL I r).map (maskN I r)
theorem MInv.fill (h : MInv M sF sT dye most Z I La hs) (hF : FairOK ⟨Z.map Prod.fst, M, sF, sT, dye, most⟩) (hz : Z.length ≤ 5) :
    ∀ d r, r + d = Z.length → curL I Z.length ∈ fillL (canN ⟨Z.map Prod.fst, M, sF, sT, dye, most⟩ Z.length) most ((List.range Z.length).drop r) (curL I r)
  | 0, r, hr => by
    have : r = Z.length := by omega
    subst this
    rw [List.drop_eq_nil_of_le (by simp)]
    simp [fillL]
  | d + 1, r, hr => by
    have hrz : r < Z.length := by omega
    have ih := MInv.fill h hF hz d (r + 1) (by omega)
    have hdr : (List.range Z.length).drop r = r :: (List.range Z.length).drop (r + 1) := by
      rw [List.drop_eq_getElem_cons (by simpa using hrz)]; simp
    have hcan := h.can hF hrz hz
    rw [hdr]
    unfold fillL
    rw [List.mem_flatMap]
    by_cases hm : hOf I r ∈ ordL I r
    · obtain ⟨i, hi, hie⟩ := List.getElem_of_mem hm
      have hil : i < (curL I r).length := by simpa [curL] using hi
      have hget : (curL I r).getD i 0 = maskN I r (hOf I r) := by
        rw [List.getD_eq_getElem?_getD, List.getElem?_eq_getElem hil, Option.getD_some]
        simp [curL, hie]
      have hnew : maskN I r (hOf I r) ||| 2 ^ r = maskN I (r + 1) (hOf I r) := by simp [maskN]
      refine ⟨i, List.mem_range.2 ?_, ?_⟩
      · have := h.ord_le (r := r) (by omega)
        simp only [curL, List.length_map]
        omega
      · rw [hget, hnew, if_pos hcan, if_pos hil]
        have e : (curL I r).set i (maskN I (r + 1) (hOf I r)) = curL I (r + 1) := by
          have ho : ordL I (r + 1) = ordL I r := by rw [ordL, if_pos hm]
          apply List.ext_getElem?
          intro j
          unfold curL
          rw [ho, List.getElem?_set]
          by_cases hj : i = j
          · subst hj
            simp [hi, hie]
          · rw [if_neg hj]
            by_cases hjl : j < (ordL I r).length
            · simp only [List.getElem?_map, List.getElem?_eq_getElem hjl, Option.map_some, Option.some.injEq]
              have hne : hOf I r ≠ (ordL I r)[j] := fun e => hj ((List.getElem_inj (ord_nodup I r)).1 (hie.trans e))
              rw [maskN, if_neg hne]
            · simp [List.getElem?_eq_none (show (ordL I r).length ≤ j by omega)]
        rw [e]
        exact ih
    · have hil : ¬ (curL I r).length < (curL I r).length := by omega
      have hget : (curL I r).getD (curL I r).length 0 = 0 := by simp [List.getD_eq_getElem?_getD]
      have h0 : maskN I r (hOf I r) = 0 := mask_none fun j hj e => hm ((ord_mem I r _).2 ⟨j, hj, e⟩)
      have hnew : 0 ||| 2 ^ r = maskN I (r + 1) (hOf I r) := by simp [maskN, h0]
      have ho : ordL I (r + 1) = ordL I r ++ [hOf I r] := by rw [ordL, if_neg hm]
      refine ⟨(curL I r).length, List.mem_range.2 ?_, ?_⟩
      · have := h.ord_le (r := r + 1) (by omega)
        rw [ho] at this
        simp at this
        simp only [curL, List.length_map]
        omega
      · rw [hget, hnew, if_pos hcan, if_neg hil]
        have e : curL I r ++ [maskN I (r + 1) (hOf I r)] = curL I (r + 1) := by
          unfold curL
          rw [ho, List.map_append]
          congr 1
          refine List.map_congr_left fun g hg => ?_
          have hne : hOf I r ≠ g := fun e => hm (e ▸ hg)
          rw [maskN, if_neg hne]
        rw [e]
        exact ih

theorem MInv.true_way (h : MInv M sF sT dye most Z I La hs) (hF : FairOK ⟨Z.map Prod.fst, M, sF, sT, dye, most⟩) (hz : Z.length ≤ 5) :
    curL I Z.length ∈ fillL (canN ⟨Z.map Prod.fst, M, sF, sT, dye, most⟩ Z.length) most (List.range Z.length) [] := by
  have := h.fill hF hz Z.length 0 (by omega)
  simpa [curL, ordL] using this
theorem MInv.ofTrue (h : MInv M sF sT dye most Z I La hs) {x : Nat} (hx : x < Z.length) : ofL (curL I Z.length) x = maskN I Z.length (hOf I x) := by
  have hm : hOf I x ∈ ordL I Z.length := (ord_mem I _ _).2 ⟨x, hx, rfl⟩
  obtain ⟨i, hi, hie⟩ := List.getElem_of_mem hm
  have hil : i < (curL I Z.length).length := by simpa [curL] using hi
  have hb : ∀ j, (hj : j < (ordL I Z.length).length) → (maskN I Z.length (ordL I Z.length)[j]).testBit x = decide ((ordL I Z.length)[j] = hOf I x) := fun j hj => by
    rw [mask_bit]
    congr 1
    apply propext
    exact ⟨fun h => h.2.symm, fun h => ⟨hx, h.symm⟩⟩
  have e := ofL_hit (P := curL I Z.length) (n := x) hil (fun j hj => by
    have hjl : j < (ordL I Z.length).length := by omega
    have : (curL I Z.length)[j]?.getD 0 = maskN I Z.length (ordL I Z.length)[j] := by simp [curL, hjl]
    rw [this, hb j hjl, decide_eq_false]
    intro e
    have := (List.getElem_inj (ord_nodup I Z.length)).1 (e.trans hie.symm)
    omega) (by
    have : (curL I Z.length)[i] = maskN I Z.length (ordL I Z.length)[i] := by simp [curL]
    rw [this, hb i hi, decide_eq_true hie])
  rw [e]
  simp [curL, hie]
/-- What surely is one horse is one. -/
theorem MInv.surely (h : MInv M sF sT dye most Z I La hs) (hF : FairOK ⟨Z.map Prod.fst, M, sF, sT, dye, most⟩) (hz : Z.length ≤ 5) {x y : Nat} (hx : x < Z.length) (hy : y < Z.length) (hv : sameV ⟨Z.map Prod.fst, M, sF, sT, dye, most⟩ x y = 1) : hOf I x = hOf I y := by
  by_cases e : hOf I x = hOf I y
  · exact e
  · exfalso
    have hw := h.true_way hF hz
    have hne : (!(Go.Proofs.YtejfelijhojndaaGreatDoor.ofL (curL I Z.length) x == Go.Proofs.YtejfelijhojndaaGreatDoor.ofL (curL I Z.length) y)) = true := by
      rw [h.ofTrue hx, h.ofTrue hy]
      simp
      intro hc
      have h1 := mask_bit I Z.length (hOf I y) y
      rw [← hc, mask_bit, decide_eq_true (show y < Z.length ∧ hOf I y = hOf I y from ⟨hy, rfl⟩)] at h1
      have := of_decide_eq_true h1
      exact e this.2.symm
    unfold sameV at hv
    simp only [List.length_map, Int.toNat_natCast] at hv
    have hpos : 0 < yesL (fun P => !(Go.Proofs.YtejfelijhojndaaGreatDoor.ofL P x == Go.Proofs.YtejfelijhojndaaGreatDoor.ofL P y)) (fillL (canN ⟨Z.map Prod.fst, M, sF, sT, dye, most⟩ Z.length) most (List.range Z.length) []) := by
      unfold yesL
      exact List.length_pos_of_mem (List.mem_filter.2 ⟨hw, hne⟩)
    unfold verdictL at hv
    split at hv
    · omega
    · rename_i hc
      split at hv
      · exact hc ⟨by assumption, hpos⟩
      · omega
end
end Go.Proofs.YtejfelijhojndaaGreatDoor
