/-
  debt: the sets of pairs, as an iterator.
-/
import Derived.Test.YtemoepcfmpapoaaGreatDoorMRPair
import Derived.Test.YtemoepcfmpapoaaGreatDoorMRGen2
namespace Go.Proofs.YtemoepcfmpapoaaGreatDoor
open Go.RowKit Go.Proofs Go.Shelf
attribute [local go_sem] Oper.semAt_some

set_option maxRecDepth 100000
def SetE (s : Nat) (_ : World) (vs : Array Value) : Prop := vs = #[.int .u64 s]
def setsAt (M m : Nat) : List Nat := (List.range M).filter fun s => popc s == m
def setsTo (M m s : Nat) : List Nat := (List.range m).flatMap (setsAt M) ++ (List.range s).filter fun s => popc s == m
theorem range_pre {m n : Nat} (h : m ≤ n) : List.range m <+: List.range n := by
  obtain ⟨k, rfl⟩ := Nat.le.dest h
  rw [List.range_add]
  exact List.prefix_append _ _
theorem flat_pre {α β : Type} (f : α → List β) {l k : List α} (h : l <+: k) : l.flatMap f <+: k.flatMap f := by
  obtain ⟨t, rfl⟩ := h
  rw [List.flatMap_append]
  exact List.prefix_append _ _
theorem setsTo_next (M m : Nat) : setsTo M m M = setsTo M (m + 1) 0 := by
  simp [setsTo, setsAt, List.range_succ]
theorem setsTo_succ (M m s : Nat) : setsTo M m (s + 1) = setsTo M m s ++ (if popc s == m then [s] else []) := by
  unfold setsTo
  rw [List.range_succ, List.filter_append, List.append_assoc]
  congr 1
  congr 1
  by_cases h : popc s = m <;> simp [h]
theorem setsTo_all {n M : Nat} (hM : M = 2 ^ (n * (n - 1) / 2)) : setsTo M n 0 = pairSets n := by
  unfold setsTo pairSets setsAt
  simp [hM]
theorem setsTo_pre {n M m s : Nat} (hM : M = 2 ^ (n * (n - 1) / 2)) (hm : m < n) (hs : s ≤ M) : setsTo M m s <+: pairSets n := by
  rw [← setsTo_all hM]
  have h1 : setsTo M m s <+: setsTo M m M := by
    unfold setsTo
    rw [List.prefix_append_right_inj]
    exact (range_pre hs).filter _
  rw [setsTo_next] at h1
  refine h1.trans ?_
  unfold setsTo
  simp only [List.range_zero, List.filter_nil, List.append_nil]
  exact flat_pre _ (range_pre hm)

set_option maxHeartbeats 6400000 in
theorem pairsOf1_gen (Pb n M : Nat) (w : World) (S : Nat → Prop) (hnM : (n = 2 ∧ M = 2) ∨ (n = 3 ∧ M = 8) ∨ (n = 4 ∧ M = 64) ∨ (n = 5 ∧ M = 1024)) (hp : w.heap[Pb]? = some (.cells #[.int .i64 n] 3 (0, 0))) (hS : ¬ S Pb) :
    GenOK 86 #[.pointer (some ⟨Pb, 0, none⟩)] SetE (pairSets n) S w := by
  intro l K W J Jx hK hKb hbl hJ hJx hY hj
  have hM : M = 2 ^ (n * (n - 1) / 2) := by rcases hnM with ⟨rfl, rfl⟩ | ⟨rfl, rfl⟩ | ⟨rfl, rfl⟩ | ⟨rfl, rfl⟩ <;> rfl
  have HPRE := Lib.hid (fun m s (h1 : m < n) (h2 : s ≤ M) => setsTo_pre hM h1 h2)
  have HALL := Lib.hid (setsTo_all hM)
  have hpW := below_heap hbl hp
  have hkp : K W.heap.size Pb := hK _ _ (Nat.le_refl _) (Array.getElem?_eq_some_iff.1 hp).1 hS
  have HJ := Lib.hid (hj W.heap.size (Nat.le_refl _))
  have HKP := Lib.hid hkp
  have HPW := Lib.hid hpW
  have HCO := Lib.hid (fun s w (h : s < 1024) => count_any s w h)
  clear hK hKb hbl hj hkp hS hp hM
  have cp := cell_of_one hpW
  clear hpW
  rcases hnM with ⟨rfl, rfl⟩ | ⟨rfl, rfl⟩ | ⟨rfl, rfl⟩ | ⟨rfl, rfl⟩
  · refine (callsIn_wide (n := 5)).1 ?_
    refine callsIn_of_wp Tryz.func86 rfl trivial ?_ rfl
    simp only [Tryz.ntmps86, List.size_toArray, List.length_cons, List.length_nil, Nat.reduceAdd, Nat.reduceSub, Array.replicate_succ, Array.replicate_zero, List.push_toArray, List.append_toArray, List.nil_append, List.cons_append]
    gi_wp2_with fail
    gi_loopw [6] (fun i wr => ∃ m : Nat, m ≤ 2 ∧ i = .int .i64 m ∧ J W.heap.size (setsTo 2 m 0) wr ∧ W.heap.size ≤ wr.heap.size ∧ RKeep (K W.heap.size) W wr) (fun i _ => 2 - (intOf i).toNat)
    case atStart => exact ⟨0, Nat.zero_le _, rfl, HJ.out, Nat.le_refl _, RKeep.refl _ _⟩
    case round =>
      obtain ⟨m, hm, rfl, hJr, hhr, hkr⟩ := hrel
      have HJR := Lib.hid hJr
      have HHR := Lib.hid hhr
      have HKR := Lib.hid hkr
      have cp2 := cell_of_one (hkr.heap HKP.out HPW.out)
      clear hJr hhr hkr
      by_cases hlt : m < 2
      · have hml : (m : Int) < 2 := by omega
        gi_wp2_with fail
        gi_loopw [15] (fun i wr => ∃ s : Nat, s ≤ 2 ∧ i = .int .u64 s ∧ J W.heap.size (setsTo 2 m s) wr ∧ W.heap.size ≤ wr.heap.size ∧ RKeep (K W.heap.size) W wr) (fun i _ => 2 - (intOf i).toNat)
        case atStart => exact ⟨0, Nat.zero_le _, rfl, HJR.out, HHR.out, HKR.out⟩
        case round =>
          obtain ⟨s, hs, rfl, hJ2, hh2, hk2⟩ := hrel
          have HJ2 := Lib.hid hJ2
          have HH2 := Lib.hid hh2
          have HK2 := Lib.hid hk2
          clear hJ2 hh2 hk2
          by_cases hst : s < 2
          · have hsl : (s : Int) < 2 := by omega
            have HNX := Lib.hid (setsTo_succ 2 m s)
            have HPX := Lib.hid (HPRE.out m (s + 1) hlt hst)
            by_cases hpc : popc s = m
            · have hd : (((popc s : Nat) : Int) == (m : Int)) = true := by simp [hpc]
              simp only [hpc, beq_self_eq_true, if_true] at HNX
              rw [HNX.out] at HPX
              gi_wp2_with (first
                | (refine ⟨trivial, ?_⟩; gi_at_call 87; refine (callsIn_wide.2 (HCO.out s _ (by omega))).mono ?_; rintro q w4 ⟨rfl, hb4⟩; obtain ⟨fn, tmps, assign, body, hy, hR⟩ := hY W.heap.size 4 _ s #[.int .u64 s] _ (hJ _ _ _ _ HJ2.out (RKeep.of_below hb4)) rfl HPX.out (Nat.le_refl _) (Nat.le_trans HH2.out hb4.size); have HBX := Lib.hid hb4; have HRR := Lib.hid hR; clear hb4 hR)
                | ((try refine ⟨(fun _ h => (by cases h)), ?_⟩); refine HRR.out.mono ?_; rintro q w5 ⟨bv, rfl, hk5, ht5, hf5⟩; have HK5 := Lib.hid hk5; have HT5 := Lib.hid ht5; have HF5 := Lib.hid hf5; clear hk5 ht5 hf5))
              · rename_i hbv
                have hbt : bv = false := by cases bv <;> simp_all
                refine bodyPost_ret (results_none rfl _ _ _) rfl ?_
                exact ⟨⟨_, rfl⟩, W.heap.size, .inr ⟨_, HPX.out, HF5.out hbt⟩⟩
              · rename_i hbv
                have hbt : bv = true := by cases bv <;> simp_all
                refine ⟨⟨s + 1, by omega, by simp, by rw [HNX.out]; exact HT5.out hbt, Nat.le_trans HH2.out (Nat.le_trans HBX.out.size HK5.out.size), HK2.out.trans ((RKeep.of_below HBX.out).trans HK5.out)⟩, by simp [intOf]; omega⟩
            · have hd : (((popc s : Nat) : Int) == (m : Int)) = false := by simp; omega
              have hpb : (popc s == m) = false := by simpa using hpc
              simp only [hpb, Bool.false_eq_true, if_false, List.append_nil] at HNX
              gi_wp2_with (refine ⟨trivial, ?_⟩; gi_at_call 87; refine (callsIn_wide.2 (HCO.out s _ (by omega))).mono ?_; rintro q w4 ⟨rfl, hb4⟩)
              refine ⟨(fun _ h => by cases h), ?_⟩
              gi_wp2_with fail
              exact ⟨⟨s + 1, by omega, by simp, by rw [HNX.out]; exact hJ _ _ _ _ HJ2.out (RKeep.of_below hb4), Nat.le_trans HH2.out hb4.size, HK2.out.trans (RKeep.of_below hb4)⟩, by simp [intOf]; omega⟩
          · have hsl : ¬ ((s : Int) < 2) := by omega
            obtain rfl : s = 2 := by omega
            gi_wp2_with fail
            exact ⟨⟨m + 1, by omega, by simp, by rw [← setsTo_next]; exact HJ2.out, HH2.out, HK2.out⟩, by simp [intOf]; omega⟩
      · have hml : ¬ ((m : Int) < 2) := by omega
        obtain rfl : m = 2 := by omega
        gi_wp2_with fail
        refine bodyPost_end (results_none rfl _ _ _) rfl ?_
        exact ⟨⟨_, rfl⟩, W.heap.size, .inl (by rw [← HALL.out]; exact HJR.out)⟩
  · refine (callsIn_wide (n := 5)).1 ?_
    refine callsIn_of_wp Tryz.func86 rfl trivial ?_ rfl
    simp only [Tryz.ntmps86, List.size_toArray, List.length_cons, List.length_nil, Nat.reduceAdd, Nat.reduceSub, Array.replicate_succ, Array.replicate_zero, List.push_toArray, List.append_toArray, List.nil_append, List.cons_append]
    gi_wp2_with fail
    gi_loopw [6] (fun i wr => ∃ m : Nat, m ≤ 3 ∧ i = .int .i64 m ∧ J W.heap.size (setsTo 8 m 0) wr ∧ W.heap.size ≤ wr.heap.size ∧ RKeep (K W.heap.size) W wr) (fun i _ => 3 - (intOf i).toNat)
    case atStart => exact ⟨0, Nat.zero_le _, rfl, HJ.out, Nat.le_refl _, RKeep.refl _ _⟩
    case round =>
      obtain ⟨m, hm, rfl, hJr, hhr, hkr⟩ := hrel
      have HJR := Lib.hid hJr
      have HHR := Lib.hid hhr
      have HKR := Lib.hid hkr
      have cp2 := cell_of_one (hkr.heap HKP.out HPW.out)
      clear hJr hhr hkr
      by_cases hlt : m < 3
      · have hml : (m : Int) < 3 := by omega
        gi_wp2_with fail
        gi_loopw [15] (fun i wr => ∃ s : Nat, s ≤ 8 ∧ i = .int .u64 s ∧ J W.heap.size (setsTo 8 m s) wr ∧ W.heap.size ≤ wr.heap.size ∧ RKeep (K W.heap.size) W wr) (fun i _ => 8 - (intOf i).toNat)
        case atStart => exact ⟨0, Nat.zero_le _, rfl, HJR.out, HHR.out, HKR.out⟩
        case round =>
          obtain ⟨s, hs, rfl, hJ2, hh2, hk2⟩ := hrel
          have HJ2 := Lib.hid hJ2
          have HH2 := Lib.hid hh2
          have HK2 := Lib.hid hk2
          clear hJ2 hh2 hk2
          by_cases hst : s < 8
          · have hsl : (s : Int) < 8 := by omega
            have HNX := Lib.hid (setsTo_succ 8 m s)
            have HPX := Lib.hid (HPRE.out m (s + 1) hlt hst)
            by_cases hpc : popc s = m
            · have hd : (((popc s : Nat) : Int) == (m : Int)) = true := by simp [hpc]
              simp only [hpc, beq_self_eq_true, if_true] at HNX
              rw [HNX.out] at HPX
              gi_wp2_with (first
                | (refine ⟨trivial, ?_⟩; gi_at_call 87; refine (callsIn_wide.2 (HCO.out s _ (by omega))).mono ?_; rintro q w4 ⟨rfl, hb4⟩; obtain ⟨fn, tmps, assign, body, hy, hR⟩ := hY W.heap.size 4 _ s #[.int .u64 s] _ (hJ _ _ _ _ HJ2.out (RKeep.of_below hb4)) rfl HPX.out (Nat.le_refl _) (Nat.le_trans HH2.out hb4.size); have HBX := Lib.hid hb4; have HRR := Lib.hid hR; clear hb4 hR)
                | ((try refine ⟨(fun _ h => (by cases h)), ?_⟩); refine HRR.out.mono ?_; rintro q w5 ⟨bv, rfl, hk5, ht5, hf5⟩; have HK5 := Lib.hid hk5; have HT5 := Lib.hid ht5; have HF5 := Lib.hid hf5; clear hk5 ht5 hf5))
              · rename_i hbv
                have hbt : bv = false := by cases bv <;> simp_all
                refine bodyPost_ret (results_none rfl _ _ _) rfl ?_
                exact ⟨⟨_, rfl⟩, W.heap.size, .inr ⟨_, HPX.out, HF5.out hbt⟩⟩
              · rename_i hbv
                have hbt : bv = true := by cases bv <;> simp_all
                refine ⟨⟨s + 1, by omega, by simp, by rw [HNX.out]; exact HT5.out hbt, Nat.le_trans HH2.out (Nat.le_trans HBX.out.size HK5.out.size), HK2.out.trans ((RKeep.of_below HBX.out).trans HK5.out)⟩, by simp [intOf]; omega⟩
            · have hd : (((popc s : Nat) : Int) == (m : Int)) = false := by simp; omega
              have hpb : (popc s == m) = false := by simpa using hpc
              simp only [hpb, Bool.false_eq_true, if_false, List.append_nil] at HNX
              gi_wp2_with (refine ⟨trivial, ?_⟩; gi_at_call 87; refine (callsIn_wide.2 (HCO.out s _ (by omega))).mono ?_; rintro q w4 ⟨rfl, hb4⟩)
              refine ⟨(fun _ h => by cases h), ?_⟩
              gi_wp2_with fail
              exact ⟨⟨s + 1, by omega, by simp, by rw [HNX.out]; exact hJ _ _ _ _ HJ2.out (RKeep.of_below hb4), Nat.le_trans HH2.out hb4.size, HK2.out.trans (RKeep.of_below hb4)⟩, by simp [intOf]; omega⟩
          · have hsl : ¬ ((s : Int) < 8) := by omega
            obtain rfl : s = 8 := by omega
            gi_wp2_with fail
            exact ⟨⟨m + 1, by omega, by simp, by rw [← setsTo_next]; exact HJ2.out, HH2.out, HK2.out⟩, by simp [intOf]; omega⟩
      · have hml : ¬ ((m : Int) < 3) := by omega
        obtain rfl : m = 3 := by omega
        gi_wp2_with fail
        refine bodyPost_end (results_none rfl _ _ _) rfl ?_
        exact ⟨⟨_, rfl⟩, W.heap.size, .inl (by rw [← HALL.out]; exact HJR.out)⟩
  · refine (callsIn_wide (n := 5)).1 ?_
    refine callsIn_of_wp Tryz.func86 rfl trivial ?_ rfl
    simp only [Tryz.ntmps86, List.size_toArray, List.length_cons, List.length_nil, Nat.reduceAdd, Nat.reduceSub, Array.replicate_succ, Array.replicate_zero, List.push_toArray, List.append_toArray, List.nil_append, List.cons_append]
    gi_wp2_with fail
    gi_loopw [6] (fun i wr => ∃ m : Nat, m ≤ 4 ∧ i = .int .i64 m ∧ J W.heap.size (setsTo 64 m 0) wr ∧ W.heap.size ≤ wr.heap.size ∧ RKeep (K W.heap.size) W wr) (fun i _ => 4 - (intOf i).toNat)
    case atStart => exact ⟨0, Nat.zero_le _, rfl, HJ.out, Nat.le_refl _, RKeep.refl _ _⟩
    case round =>
      obtain ⟨m, hm, rfl, hJr, hhr, hkr⟩ := hrel
      have HJR := Lib.hid hJr
      have HHR := Lib.hid hhr
      have HKR := Lib.hid hkr
      have cp2 := cell_of_one (hkr.heap HKP.out HPW.out)
      clear hJr hhr hkr
      by_cases hlt : m < 4
      · have hml : (m : Int) < 4 := by omega
        gi_wp2_with fail
        gi_loopw [15] (fun i wr => ∃ s : Nat, s ≤ 64 ∧ i = .int .u64 s ∧ J W.heap.size (setsTo 64 m s) wr ∧ W.heap.size ≤ wr.heap.size ∧ RKeep (K W.heap.size) W wr) (fun i _ => 64 - (intOf i).toNat)
        case atStart => exact ⟨0, Nat.zero_le _, rfl, HJR.out, HHR.out, HKR.out⟩
        case round =>
          obtain ⟨s, hs, rfl, hJ2, hh2, hk2⟩ := hrel
          have HJ2 := Lib.hid hJ2
          have HH2 := Lib.hid hh2
          have HK2 := Lib.hid hk2
          clear hJ2 hh2 hk2
          by_cases hst : s < 64
          · have hsl : (s : Int) < 64 := by omega
            have HNX := Lib.hid (setsTo_succ 64 m s)
            have HPX := Lib.hid (HPRE.out m (s + 1) hlt hst)
            by_cases hpc : popc s = m
            · have hd : (((popc s : Nat) : Int) == (m : Int)) = true := by simp [hpc]
              simp only [hpc, beq_self_eq_true, if_true] at HNX
              rw [HNX.out] at HPX
              gi_wp2_with (first
                | (refine ⟨trivial, ?_⟩; gi_at_call 87; refine (callsIn_wide.2 (HCO.out s _ (by omega))).mono ?_; rintro q w4 ⟨rfl, hb4⟩; obtain ⟨fn, tmps, assign, body, hy, hR⟩ := hY W.heap.size 4 _ s #[.int .u64 s] _ (hJ _ _ _ _ HJ2.out (RKeep.of_below hb4)) rfl HPX.out (Nat.le_refl _) (Nat.le_trans HH2.out hb4.size); have HBX := Lib.hid hb4; have HRR := Lib.hid hR; clear hb4 hR)
                | ((try refine ⟨(fun _ h => (by cases h)), ?_⟩); refine HRR.out.mono ?_; rintro q w5 ⟨bv, rfl, hk5, ht5, hf5⟩; have HK5 := Lib.hid hk5; have HT5 := Lib.hid ht5; have HF5 := Lib.hid hf5; clear hk5 ht5 hf5))
              · rename_i hbv
                have hbt : bv = false := by cases bv <;> simp_all
                refine bodyPost_ret (results_none rfl _ _ _) rfl ?_
                exact ⟨⟨_, rfl⟩, W.heap.size, .inr ⟨_, HPX.out, HF5.out hbt⟩⟩
              · rename_i hbv
                have hbt : bv = true := by cases bv <;> simp_all
                refine ⟨⟨s + 1, by omega, by simp, by rw [HNX.out]; exact HT5.out hbt, Nat.le_trans HH2.out (Nat.le_trans HBX.out.size HK5.out.size), HK2.out.trans ((RKeep.of_below HBX.out).trans HK5.out)⟩, by simp [intOf]; omega⟩
            · have hd : (((popc s : Nat) : Int) == (m : Int)) = false := by simp; omega
              have hpb : (popc s == m) = false := by simpa using hpc
              simp only [hpb, Bool.false_eq_true, if_false, List.append_nil] at HNX
              gi_wp2_with (refine ⟨trivial, ?_⟩; gi_at_call 87; refine (callsIn_wide.2 (HCO.out s _ (by omega))).mono ?_; rintro q w4 ⟨rfl, hb4⟩)
              refine ⟨(fun _ h => by cases h), ?_⟩
              gi_wp2_with fail
              exact ⟨⟨s + 1, by omega, by simp, by rw [HNX.out]; exact hJ _ _ _ _ HJ2.out (RKeep.of_below hb4), Nat.le_trans HH2.out hb4.size, HK2.out.trans (RKeep.of_below hb4)⟩, by simp [intOf]; omega⟩
          · have hsl : ¬ ((s : Int) < 64) := by omega
            obtain rfl : s = 64 := by omega
            gi_wp2_with fail
            exact ⟨⟨m + 1, by omega, by simp, by rw [← setsTo_next]; exact HJ2.out, HH2.out, HK2.out⟩, by simp [intOf]; omega⟩
      · have hml : ¬ ((m : Int) < 4) := by omega
        obtain rfl : m = 4 := by omega
        gi_wp2_with fail
        refine bodyPost_end (results_none rfl _ _ _) rfl ?_
        exact ⟨⟨_, rfl⟩, W.heap.size, .inl (by rw [← HALL.out]; exact HJR.out)⟩
  · refine (callsIn_wide (n := 5)).1 ?_
    refine callsIn_of_wp Tryz.func86 rfl trivial ?_ rfl
    simp only [Tryz.ntmps86, List.size_toArray, List.length_cons, List.length_nil, Nat.reduceAdd, Nat.reduceSub, Array.replicate_succ, Array.replicate_zero, List.push_toArray, List.append_toArray, List.nil_append, List.cons_append]
    gi_wp2_with fail
    gi_loopw [6] (fun i wr => ∃ m : Nat, m ≤ 5 ∧ i = .int .i64 m ∧ J W.heap.size (setsTo 1024 m 0) wr ∧ W.heap.size ≤ wr.heap.size ∧ RKeep (K W.heap.size) W wr) (fun i _ => 5 - (intOf i).toNat)
    case atStart => exact ⟨0, Nat.zero_le _, rfl, HJ.out, Nat.le_refl _, RKeep.refl _ _⟩
    case round =>
      obtain ⟨m, hm, rfl, hJr, hhr, hkr⟩ := hrel
      have HJR := Lib.hid hJr
      have HHR := Lib.hid hhr
      have HKR := Lib.hid hkr
      have cp2 := cell_of_one (hkr.heap HKP.out HPW.out)
      clear hJr hhr hkr
      by_cases hlt : m < 5
      · have hml : (m : Int) < 5 := by omega
        gi_wp2_with fail
        gi_loopw [15] (fun i wr => ∃ s : Nat, s ≤ 1024 ∧ i = .int .u64 s ∧ J W.heap.size (setsTo 1024 m s) wr ∧ W.heap.size ≤ wr.heap.size ∧ RKeep (K W.heap.size) W wr) (fun i _ => 1024 - (intOf i).toNat)
        case atStart => exact ⟨0, Nat.zero_le _, rfl, HJR.out, HHR.out, HKR.out⟩
        case round =>
          obtain ⟨s, hs, rfl, hJ2, hh2, hk2⟩ := hrel
          have HJ2 := Lib.hid hJ2
          have HH2 := Lib.hid hh2
          have HK2 := Lib.hid hk2
          clear hJ2 hh2 hk2
          by_cases hst : s < 1024
          · have hsl : (s : Int) < 1024 := by omega
            have HNX := Lib.hid (setsTo_succ 1024 m s)
            have HPX := Lib.hid (HPRE.out m (s + 1) hlt hst)
            by_cases hpc : popc s = m
            · have hd : (((popc s : Nat) : Int) == (m : Int)) = true := by simp [hpc]
              simp only [hpc, beq_self_eq_true, if_true] at HNX
              rw [HNX.out] at HPX
              gi_wp2_with (first
                | (refine ⟨trivial, ?_⟩; gi_at_call 87; refine (callsIn_wide.2 (HCO.out s _ (by omega))).mono ?_; rintro q w4 ⟨rfl, hb4⟩; obtain ⟨fn, tmps, assign, body, hy, hR⟩ := hY W.heap.size 4 _ s #[.int .u64 s] _ (hJ _ _ _ _ HJ2.out (RKeep.of_below hb4)) rfl HPX.out (Nat.le_refl _) (Nat.le_trans HH2.out hb4.size); have HBX := Lib.hid hb4; have HRR := Lib.hid hR; clear hb4 hR)
                | ((try refine ⟨(fun _ h => (by cases h)), ?_⟩); refine HRR.out.mono ?_; rintro q w5 ⟨bv, rfl, hk5, ht5, hf5⟩; have HK5 := Lib.hid hk5; have HT5 := Lib.hid ht5; have HF5 := Lib.hid hf5; clear hk5 ht5 hf5))
              · rename_i hbv
                have hbt : bv = false := by cases bv <;> simp_all
                refine bodyPost_ret (results_none rfl _ _ _) rfl ?_
                exact ⟨⟨_, rfl⟩, W.heap.size, .inr ⟨_, HPX.out, HF5.out hbt⟩⟩
              · rename_i hbv
                have hbt : bv = true := by cases bv <;> simp_all
                refine ⟨⟨s + 1, by omega, by simp, by rw [HNX.out]; exact HT5.out hbt, Nat.le_trans HH2.out (Nat.le_trans HBX.out.size HK5.out.size), HK2.out.trans ((RKeep.of_below HBX.out).trans HK5.out)⟩, by simp [intOf]; omega⟩
            · have hd : (((popc s : Nat) : Int) == (m : Int)) = false := by simp; omega
              have hpb : (popc s == m) = false := by simpa using hpc
              simp only [hpb, Bool.false_eq_true, if_false, List.append_nil] at HNX
              gi_wp2_with (refine ⟨trivial, ?_⟩; gi_at_call 87; refine (callsIn_wide.2 (HCO.out s _ (by omega))).mono ?_; rintro q w4 ⟨rfl, hb4⟩)
              refine ⟨(fun _ h => by cases h), ?_⟩
              gi_wp2_with fail
              exact ⟨⟨s + 1, by omega, by simp, by rw [HNX.out]; exact hJ _ _ _ _ HJ2.out (RKeep.of_below hb4), Nat.le_trans HH2.out hb4.size, HK2.out.trans (RKeep.of_below hb4)⟩, by simp [intOf]; omega⟩
          · have hsl : ¬ ((s : Int) < 1024) := by omega
            obtain rfl : s = 1024 := by omega
            gi_wp2_with fail
            exact ⟨⟨m + 1, by omega, by simp, by rw [← setsTo_next]; exact HJ2.out, HH2.out, HK2.out⟩, by simp [intOf]; omega⟩
      · have hml : ¬ ((m : Int) < 5) := by omega
        obtain rfl : m = 5 := by omega
        gi_wp2_with fail
        refine bodyPost_end (results_none rfl _ _ _) rfl ?_
        exact ⟨⟨_, rfl⟩, W.heap.size, .inl (by rw [← HALL.out]; exact HJR.out)⟩
end Go.Proofs.YtemoepcfmpapoaaGreatDoor
