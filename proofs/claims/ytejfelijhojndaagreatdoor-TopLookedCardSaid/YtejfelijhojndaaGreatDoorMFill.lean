/-
  'fill' inside 'ways', by contract.
-/
import Derived.Test.YtejfelijhojndaaGreatDoorMClone
import Derived.Stop.RegionWithIn
namespace Go.Proofs.YtejfelijhojndaaGreatDoor
open Go.RowKit Go.Proofs Go.Shelf
attribute [local go_sem] Oper.semAt_some

/-- What a round keeps. -/
structure RoundK (c : WC) (W W' : World) : Prop where
  size : W.heap.size ≤ W'.heap.size
  same : ∀ k, k < W.heap.size → c.K k → W'.heap[k]? = W.heap[k]?

/-- What a round comes to. -/
def RPost (c : WC) (J Jx : List (List Nat) → World → Prop) (pre : List (List Nat)) (P : List Nat) (W : World) (e : Ending) (W' : World) : Prop :=
  ∃ bv, e = .returned (.bool bv) ∧ RoundK c W W' ∧ (bv = true → J (pre ++ [P]) W') ∧ (bv = false → Jx (pre ++ [P]) W')

def YieldOK (c : WC) (J Jx : List (List Nat) → World → Prop) : Prop :=
  ∀ (m : Nat) (pre : List (List Nat)) (P : List Nat) (v : Value) (W : World), J pre W → PL W v P → (∀ x ∈ P, x < 256) → P.length ≤ 8 → (∀ g, v.ownBlock = some g → c.Bn ≤ g) → c.Bn ≤ W.heap.size → YieldAt Fence.wide m Tryz.prog c.l #[v] W (RPost c J Jx pre P W)

set_option maxRecDepth 100000 in
set_option maxHeartbeats 1600000 in
theorem fill_nil (c : WC) (ok : c.Ok) (J Jx : List (List Nat) → World → Prop) (hJ : ∀ s A B, J s A → Below c.Bn A B → J s B) (hY : YieldOK c J Jx) : FillOK c J Jx [] := by
  intro W pre L used v hI hH hsz hL h256 hu hz hv hj
  obtain ⟨av, capv, rfl, _, _⟩ := hv
  have n8 := ok.n8
  simp only [List.length_nil, Nat.add_zero] at hu
  have cBh : W.cell? ⟨c.Bh, 0, none⟩ = some (.slice (some ⟨c.H, 0, none⟩) c.n c.n) := cell_of_one hI.bh
  have cBy : W.cell? ⟨c.By, 0, none⟩ = some (.func (.yield c.l) #[] #[]) := cell_of_one hI.by'
  have HHS := Lib.hid hH
  have HI := Lib.hid hI
  have HJ := Lib.hid hj
  have HL := Lib.hid hL
  have H256 := Lib.hid (show (∀ x ∈ L.take used, x < 256) ∧ (L.take used).length ≤ 8 from ⟨fun x hx => h256 x (List.mem_of_mem_take hx), by simp; omega⟩)
  clear hH hI hz h256 hj hL
  refine (callsIn_wide (n := 3)).1 ?_
  refine callsIn_of_wp Tryz.func78 rfl trivial ?_ rfl
  simp only [Tryz.ntmps78, List.size_toArray, List.length_cons, List.length_nil, Nat.reduceAdd, Nat.reduceSub, Array.replicate_succ, Array.replicate_zero, List.push_toArray, List.append_toArray, List.nil_append, List.cons_append]
  gi_wp2
  have hu1 : (0 : Int) ≤ (used : Int) := by omega
  have hu2 : (used : Int) ≤ (c.n : Int) := by omega
  have CL := Lib.hid (clone_any c.H c.n used L W.drew HHS.out HL.out hu (by omega))
  have HBn := ok.bn
  have HP := Lib.hid (hJ _ _ _ HJ.out ((Below.refl c.Bn W).drew))
  gi_region_with (first
    | (refine ⟨trivial, ?_⟩; gi_at_call 79; refine (callsIn_wide.2 CL.out).mono ?_; rintro e w1 ⟨v, rfl, hp1, hb1, hbl1⟩; have cBy1 := (hbl1.cell (p := ⟨c.By, 0, none⟩) (World.block_lt_of_cell? _ _ cBy)).trans cBy; obtain ⟨fn, tmps, assign, body, hy, hR⟩ := hY 2 pre (L.take used) v w1 (hJ _ _ _ HP.out (hbl1.mono (by show c.Bn ≤ W.heap.size; omega))) hp1 H256.out.1 H256.out.2 (fun g hg => Nat.le_trans (by show c.Bn ≤ W.heap.size; omega) (hb1 g hg)) (Nat.le_trans (by show c.Bn ≤ W.heap.size; omega) hbl1.size); have HBL := Lib.hid hbl1; have HRR := Lib.hid hR; clear hbl1 hp1 hb1 hR)
    | ((try refine ⟨fun h => (by cases h), ?_⟩); refine HRR.out.mono ?_; rintro e w2 ⟨bv, rfl, hk2, ht2, hf2⟩; have HK2 := Lib.hid hk2; have HT2 := Lib.hid ht2; have HF2 := Lib.hid hf2; clear hk2 ht2 hf2))
  all_goals
    gi_wp2
    go_ret
    have hbl := HBL.out
    have hk2 := HK2.out
    have hs1 : W.heap.size ≤ w1.heap.size := hbl.size
    refine ⟨bv, rfl, ⟨Nat.le_trans hs1 hk2.size, fun k hk hK hH => (hk2.same k (by omega) hK).trans (hbl.block k hk)⟩, ((hk2.same c.H (by omega) ok.h).trans (hbl.block c.H hsz)).trans HHS.out, HT2.out, fun h => ⟨[L.take used], ?_, HF2.out h⟩⟩
    simp [fillL]

/-- What putting r to horse i comes to. -/
def putOuts (c : WC) (r : Nat) (rs L : List Nat) (used i : Nat) : List (List Nat) :=
  if c.can (L[i]?.getD 0 ||| 2 ^ r) then fillL c.can c.most rs ((L.set i (L[i]?.getD 0 ||| 2 ^ r)).take (max used (i + 1))) else []

theorem take_set_put {L : List Nat} {used i h : Nat} (hu : used < L.length) (hi : i ≤ used) :
    (L.set i h).take (max used (i + 1)) = if i < (L.take used).length then (L.take used).set i h else L.take used ++ [h] := by
  have hl : (L.take used).length = used := by simp; omega
  rw [hl]
  by_cases h1 : i < used
  · rw [if_pos h1, show max used (i + 1) = used by omega, List.take_set]
  · obtain rfl : i = used := by omega
    rw [if_neg h1, show max i (i + 1) = i + 1 by omega, List.take_succ_eq_append_getElem (by simpa using hu)]
    rw [List.take_set_of_le (Nat.le_refl _)]
    simp

theorem fillL_cons (c : WC) (r : Nat) (rs L : List Nat) (used : Nat) (hu : used < L.length) (hz : L[used]?.getD 0 = 0) :
    fillL c.can c.most (r :: rs) (L.take used) = (List.range (min (used + 1) c.most)).flatMap (putOuts c r rs L used) := by
  have hl : (L.take used).length = used := by simp; omega
  simp only [fillL, hl]
  rw [List.flatMap_def, List.flatMap_def]
  congr 1
  apply List.map_congr_left
  intro i hi
  have hi' : i ≤ used := by have := List.mem_range.1 hi; omega
  have hg : (L.take used).getD i 0 = L[i]?.getD 0 := by
    rw [List.getD_eq_getElem?_getD, List.getElem?_take]
    split
    · rfl
    · obtain rfl : i = used := by omega
      rw [hz]; rfl
  unfold putOuts
  rw [hg, take_set_put hu hi', hl]

theorem range_flat (n : Nat) (f : Nat → List (List Nat)) : (List.range (n + 1)).flatMap f = (List.range n).flatMap f ++ f n := by
  rw [List.range_succ, List.flatMap_append]; simp
theorem range_flat_prefix {n m : Nat} (h : n ≤ m) (f : Nat → List (List Nat)) : (List.range n).flatMap f <+: (List.range m).flatMap f := by
  induction m with
  | zero =>
    obtain rfl : n = 0 := Nat.le_zero.1 h
    exact List.prefix_refl _
  | succ m ih =>
    by_cases h1 : n ≤ m
    · rw [range_flat]; exact (ih h1).trans (List.prefix_append _ _)
    · obtain rfl : n = m + 1 := by omega
      exact List.prefix_refl _

set_option maxRecDepth 100000 in
set_option maxHeartbeats 1600000 in
theorem fill_cons (c : WC) (ok : c.Ok) (J Jx : List (List Nat) → World → Prop) (hJ : ∀ s A B, J s A → Below c.Bn A B → J s B) (hJx : ∀ s A B, Jx s A → Below c.Bn A B → Jx s B)
    (r : Nat) (rs : List Nat) (hr : r < 8) (hfill : FillOK c J Jx rs) : FillOK c J Jx (r :: rs) := by
  intro W pre L used v hI hH hsz hL h256 hu hz hv hj
  have hput := put_any c ok J Jx hJ hJx r rs hfill
  simp only [List.length_cons] at hu
  have n8 := ok.n8
  have cMost := hI.most
  have cBw : W.cell? ⟨c.Bw, 0, none⟩ = some (.pointer (some ⟨c.Wk, 0, none⟩)) := cell_of_one hI.bw
  have HV := Lib.hid hv
  obtain ⟨av, capv, hvv, _, _⟩ := hv
  have HVV := Lib.hid hvv
  have hspec := Lib.hid (fillL_cons c r rs L used (by omega) (hz used (Nat.le_refl _) (by omega)))
  have HHS := Lib.hid hH
  have HI := Lib.hid hI
  have HZ := Lib.hid hz
  have H256 := Lib.hid h256
  have HJ := Lib.hid hj
  have HL := Lib.hid hL
  have HP := Lib.hid hput
  subst hvv
  clear hH hI hz h256 hj hL hput
  have hwr : IntKind.i64.wrap ((used : Int) + 1) = (used : Int) + 1 := IntWalk.i64_in _ (by omega)
  go_enter Tryz.func78, Tryz.ntmps78
  go_wp2_with fail
  all_goals
    obtain ⟨lim, hlim⟩ : ∃ lim : Nat, min (used + 1) c.most = lim := ⟨_, rfl⟩
    first
      | (rw [show ((c.most : Nat) : Int) = (lim : Int) by omega])
      | (rw [show ((used : Nat) : Int) + 1 = (lim : Int) by omega])
    have hll : lim ≤ used + 1 := by omega
    have HLIM := Lib.hid hlim
    clear hlim
    go_loopw [27] (fun i wr => ∃ k : Nat, k ≤ lim ∧ i = .int .i64 k ∧ KeptK c W wr ∧ HS c.H wr L ∧ J (pre ++ (List.range k).flatMap (putOuts c r rs L used)) wr) (fun i _ => lim - (intOf i).toNat)
    case atStart => exact ⟨0, Nat.zero_le _, rfl, KeptK.refl _ _, HHS.out, by simpa using HJ.out⟩
    case round =>
      obtain ⟨k, hk, rfl, hkw, hHr, hJr⟩ := hrel
      have HKW := Lib.hid hkw
      have HHR := Lib.hid hHr
      have HJR := Lib.hid hJr
      by_cases hlt : k < lim
      · have hklt : (k : Int) < (lim : Int) := by omega
        have cBp : wr.cell? ⟨c.Bp, 0, none⟩ = some (.func (.func 76) #[] #[.pointer (some ⟨c.Bh, 0, none⟩), .pointer (some ⟨c.Bw, 0, none⟩), .pointer (some ⟨c.Bf, 0, none⟩)]) := cell_of_one (HI.out.kept ok hkw).bp
        have CP := Lib.hid (HP.out wr (pre ++ (List.range k).flatMap (putOuts c r rs L used)) L k used _ (HI.out.kept ok hkw) hHr (Nat.lt_of_lt_of_le hsz hkw.size) HL.out H256.out (by simpa using hu) (by omega) HZ.out hr (HV.out.kept ok hkw) hJr (putOuts c r rs L used k) rfl)
        clear hkw hHr hJr
        go_wp2_with fail
        refine CP.out.mono ?_
        rintro e w2 ⟨bv, rfl, hk2, hH2, ht2, hf2⟩
        have HK2 := Lib.hid hk2
        have HH2 := Lib.hid hH2
        have HT2 := Lib.hid ht2
        have HF2 := Lib.hid hf2
        clear hk2 hH2 ht2 hf2 cBp
        cases bv with
        | false =>
          go_wp2_with fail
          go_ret
          obtain ⟨q, hq, hx⟩ := HF2.out (by trivial)
          refine ⟨false, rfl, HKW.out.trans HK2.out, HH2.out, (fun h => by cases h), fun _ => ⟨(List.range k).flatMap (putOuts c r rs L used) ++ q, ?_, by rw [← List.append_assoc]; exact hx⟩⟩
          rw [hspec.out, HLIM.out]
          refine List.IsPrefix.trans ?_ (range_flat_prefix (n := k + 1) (by omega) _)
          rw [range_flat]
          exact (List.prefix_append_right_inj _).2 hq
        | true =>
          go_wp2_with fail
          go_roundw
          case rel => exact ⟨k + 1, by omega, by go_num, HKW.out.trans HK2.out, HH2.out, by rw [range_flat, ← List.append_assoc]; exact HT2.out (by trivial)⟩
          case measure => simp [intOf]; omega
      · have hklt : ¬ (k : Int) < (lim : Int) := by omega
        have HKL := Lib.hid (show k = lim by omega)
        clear hkw hHr hJr
        go_wp2_with fail
        go_ret
        refine ⟨true, rfl, HKW.out, HHR.out, fun _ => ?_, (fun h => by cases h)⟩
        rw [hspec.out, HLIM.out, ← HKL.out]
        exact HJR.out

theorem fill_all (c : WC) (ok : c.Ok) (J Jx : List (List Nat) → World → Prop) (hJ : ∀ s A B, J s A → Below c.Bn A B → J s B) (hJx : ∀ s A B, Jx s A → Below c.Bn A B → Jx s B) (hY : YieldOK c J Jx) :
    ∀ rs : List Nat, (∀ r ∈ rs, r < 8) → FillOK c J Jx rs
  | [], _ => fill_nil c ok J Jx hJ hY
  | r :: rs, h => fill_cons c ok J Jx hJ hJx r rs (h r (by simp)) (fill_all c ok J Jx hJ hJx hY rs fun x hx => h x (by simp [hx]))
end Go.Proofs.YtejfelijhojndaaGreatDoor
