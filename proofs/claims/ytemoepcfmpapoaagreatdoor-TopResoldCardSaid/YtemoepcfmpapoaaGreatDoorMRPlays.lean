/-
  bargain: the iterator over what may be said, by contract.
-/
import Derived.Test.YtemoepcfmpapoaaGreatDoorMRNow
import Derived.Test.YtemoepcfmpapoaaGreatDoorMRGen2
namespace Go.Proofs.YtemoepcfmpapoaaGreatDoor
open Go.RowKit Go.Proofs Go.Shelf
attribute [local go_sem] Oper.semAt_some

/-- What is yielded: the number, and the place behind it. -/
def PlayE (x : Int × Pl) (_ : World) (vs : Array Value) : Prop := vs = #[.int .i64 x.1, x.2.v]
def plC (p : Pl) : Array Value := #[.int .i64 p.a, .int .i64 p.b, .int .i64 p.t, .int .i64 p.s, .int .i64 p.c, .int .i64 p.d, .int .i64 p.e, .int .i64 p.f]
def PlB (B : Nat) (p : Pl) (w : World) : Prop := w.heap[B]? = some (.cells (plC p) 90 (0, 0))

theorem PlB.cell {B : Nat} {p : Pl} {w : World} (h : PlB B p w) : w.cell? ⟨B, 0, none⟩ = some (.int .i64 p.a) ∧ w.cell? ⟨B, 1, none⟩ = some (.int .i64 p.b) ∧ w.cell? ⟨B, 2, none⟩ = some (.int .i64 p.t) ∧ w.cell? ⟨B, 3, none⟩ = some (.int .i64 p.s) ∧
    w.cell? ⟨B, 4, none⟩ = some (.int .i64 p.c) ∧ w.cell? ⟨B, 5, none⟩ = some (.int .i64 p.d) ∧ w.cell? ⟨B, 6, none⟩ = some (.int .i64 p.e) ∧ w.cell? ⟨B, 7, none⟩ = some (.int .i64 p.f) := by
  simp only [PlB] at h
  refine ⟨?_, ?_, ?_, ?_, ?_, ?_, ?_, ?_⟩ <;> simp [World.cell?, h, plC]

/-- An iterator whose game is over panics with the price. -/
theorem plays1_over (Bp Bw l : Nat) (p : Pl) (w : World) (hp : PlB Bp p w) (ho : p.over = true) :
    Calls Tryz.prog 127 #[.func (.yield l) #[] #[], .pointer (some ⟨Bp, 0, none⟩), .pointer (some ⟨Bw, 0, none⟩)] w
      fun e w' => e = .panicked [{ v := .iface 194 (.agg #[.int .i64 p.price]), recovered := false }] ∧ Below w.heap.size w w' := by
  obtain ⟨c0, c1, c2, c3, c4, c5, c6, c7⟩ := hp.cell
  obtain ⟨a, b, t, s, c, d, e, f⟩ := p
  have HO := Lib.hid (fun w => over_any a b t s c d e f w)
  have HP := Lib.hid (fun w => price_any a b t s c d e f w)
  have ho' : (a == b || s == 2) = true := ho
  rw [ho'] at HO
  have hpr : (if a = b then a else -1) = (Pl.mk a b t s c d e f).price := rfl
  rw [hpr] at HP
  obtain ⟨r, hr⟩ : ∃ r, (Pl.mk a b t s c d e f).price = r := ⟨_, rfl⟩
  rw [hr] at HP ⊢
  clear hpr hr
  simp only at c0 c1 c2 c3 c4 c5 c6 c7
  unfold plV at HO HP
  go_enter Tryz.func127, Tryz.ntmps127
  go_wp2_with (first
    | (go_at_call 105; refine (HO.out _).mono ?_; rintro q w1 ⟨rfl, hb1⟩; have d0 := below_cell hb1 c0; have d1 := below_cell hb1 c1; have d2 := below_cell hb1 c2; have d3 := below_cell hb1 c3; have d4 := below_cell hb1 c4; have d5 := below_cell hb1 c5; have d6 := below_cell hb1 c6; have d7 := below_cell hb1 c7; clear c0 c1 c2 c3 c4 c5 c6 c7)
    | (go_at_call 128; refine (HP.out _).mono ?_; rintro q w2 ⟨rfl, hb2⟩))
  go_wp2
  exact ⟨rfl, rfl, hb1.trans (hb2.mono hb1.size)⟩

theorem plays_split {lo : Int} {k : Nat} {p : Pl} (j : Nat) (hj : j < (p.names lo k ++ [-1]).length) :
    ((p.names lo k ++ [-1]).take (j + 1)).filterMap (fun n => p.say n (p.names lo k)) = ((p.names lo k ++ [-1]).take j).filterMap (fun n => p.say n (p.names lo k)) ++ (p.say (p.names lo k ++ [-1])[j] (p.names lo k)).toList := by
  rw [List.take_succ_eq_append_getElem hj, List.filterMap_append]
  congr 1
theorem plays_prefix {lo : Int} {k : Nat} {p : Pl} (j : Nat) : ((p.names lo k ++ [-1]).take j).filterMap (fun n => p.say n (p.names lo k)) <+: p.plays lo k := by
  unfold Pl.plays
  exact (List.take_prefix j _).filterMap _

set_option maxRecDepth 100000 in
set_option maxHeartbeats 3200000 in
theorem plays1_gen (Bp Bw Wk : Nat) (lo hi : Int) (p : Pl) (w : World) (S : Nat → Prop) (hpb : PlB Bp p w) (hwb : w.heap[Bw]? = some (.cells #[.pointer (some ⟨Wk, 0, none⟩)] 86 (0, 0))) (hW : WkB Wk lo hi w)
    (h1 : 1 ≤ lo) (h2 : lo ≤ hi) (h3 : hi ≤ 3) (hp : PV p) (ho : p.over = false) (hS : ¬ S Bp ∧ ¬ S Bw ∧ ¬ S Wk) :
    GenOK 127 #[.pointer (some ⟨Bp, 0, none⟩), .pointer (some ⟨Bw, 0, none⟩)] PlayE (p.plays lo (hi - lo + 1).toNat) S w := by
  intro l K W J Jx hK hKb hbl hJ hJx hY hj
  obtain ⟨k, hk⟩ : ∃ k, (hi - lo + 1).toNat = k := ⟨_, rfl⟩
  have kp : ∀ H, W.heap.size ≤ H → K H Bp := fun H hH => hK H _ hH (Array.getElem?_eq_some_iff.1 hpb).1 hS.1
  have kw : ∀ H, W.heap.size ≤ H → K H Bw := fun H hH => hK H _ hH (Array.getElem?_eq_some_iff.1 hwb).1 hS.2.1
  have kk : ∀ H, W.heap.size ≤ H → K H Wk := fun H hH => hK H _ hH (World.block_lt_of_cell? w _ hW.lo) hS.2.2
  have hpW : PlB Bp p W := below_heap hbl hpb
  have hwW := below_heap hbl hwb
  have hWW : WkB Wk lo hi W := hW.below hbl
  have HSAY := Lib.hid (fun n w' (h : WkB Wk lo hi w') (hn : n ∈ p.names lo k ∨ n = -1) => say_any Wk lo hi p n w' h h1 h2 h3 hp ho (by rw [hk]; exact hn))
  rw [hk] at HSAY hY ⊢
  have hlen := names_le lo p k
  have hb0 := hp.b0
  have hba := hp.ba
  have ha12 := hp.a12
  have HNM := Lib.hid (fun w' (h : WkB Wk lo hi w') => names_any Wk lo hi p w' h h1 h2 h3 (by omega) (by omega))
  rw [hk] at HNM
  obtain ⟨i0, hi0, hz0, hz1, hz2⟩ := info_parts Tryz.infoInt
  have hk3 : k ≤ 3 := by omega
  obtain ⟨c0, c1, c2, c3, c4, c5, c6, c7⟩ := hpW.cell
  have cw := cell_of_one hwW
  have HPB := Lib.hid hpW
  have HWB := Lib.hid hwW
  have HWK := Lib.hid hWW
  have HJ := Lib.hid hj
  have HK0 := Lib.hid (And.intro kp (And.intro kw kk))
  have HKB := Lib.hid hKb
  have HOV := Lib.hid (fun w => over_any p.a p.b p.t p.s p.c p.d p.e p.f w)
  have ho' : (p.a == p.b || p.s == 2) = false := ho
  rw [ho'] at HOV
  have hpv : Hid (p.v = .agg (plC p)) := rfl
  clear hpb hwb hW hbl hK hKb hpW hwW hWW hj kp kw kk hk ho ho' h1 h2 h3 hp hb0 hba ha12 hS
  unfold plV at HOV
  refine (callsIn_wide (n := 5)).1 ?_
  refine callsIn_of_wp Tryz.func127 rfl trivial ?_ rfl
  simp only [Tryz.ntmps127, List.size_toArray, List.length_cons, List.length_nil, Nat.reduceAdd, Nat.reduceSub, Array.replicate_succ, Array.replicate_zero, List.push_toArray, List.append_toArray, List.nil_append, List.cons_append]
  gi_wp2_with (first
    | (refine ⟨trivial, ?_⟩; gi_at_call 105; refine (callsIn_wide.2 (HOV.out _)).mono ?_; rintro q w1 ⟨rfl, hb1⟩; have d0 := below_cell hb1 c0; have d1 := below_cell hb1 c1; have d2 := below_cell hb1 c2; have d3 := below_cell hb1 c3; have d4 := below_cell hb1 c4; have d5 := below_cell hb1 c5; have d6 := below_cell hb1 c6; have d7 := below_cell hb1 c7; have dw := below_cell hb1 cw; have HB1 := Lib.hid hb1; clear hb1 c0 c1 c2 c3 c4 c5 c6 c7 cw)
    | (refine ⟨trivial, ?_⟩; gi_at_call 106; refine (callsIn_wide.2 (HNM.out _ (HWK.out.below HB1.out))).mono ?_; rintro q w2 ⟨nv, rfl, hown, hb2⟩; obtain ⟨na, nc, rfl, _⟩ := slice_of_owns hown; have HOWN := Lib.hid (owns_mono hown HB1.out.size); have HB2 := Lib.hid (below_trans HB1.out hb2); clear hown hb2)
    | (gi_at_builtin; refine wpListIn_append_own _ rfl _ _ 22 rfl W.heap.size 3 i0 (.int .i64 0) 1 8 Tryz.underlying22 hi0 hz0 hz1 hz2 rfl (by decide) _ _ _ rfl (HOWN.out.alloc _) ⟨w2.heap.size, 0, none⟩ 1 1 [.int .i64 (-1)] rfl rfl (cell_one_new _ _ _) (fun z hz => by simp at hz; subst hz; rfl) (by unfold maxLen; omega) (by omega) (by have := HB2.out.size; simp; omega) ?_; intro v' w3 hown' hgrow _; have HB3 := Lib.hid ((HB2.out.alloc HB2.out.size _).grown hgrow (by have := HB2.out.size; simp; omega) (fun j hj => (HOWN.out.lt j hj).1)); obtain ⟨g, cg, rfl⟩ := owns_succ hown'; have HO3 := Lib.hid hown'; clear hown' hgrow))
  obtain ⟨L, hL⟩ : ∃ L, p.names lo k ++ [-1] = L := ⟨_, rfl⟩
  have hLl : L.length = (p.names lo k).length + 1 := by rw [← hL]; simp
  have HL := Lib.hid hL
  have hin := ints_of_owns (T := 3) (l := L) (by have := HO3.out; rw [hLl, ← hL]; simpa using this)
  obtain ⟨_, _, hv, hcc⟩ := hin
  obtain ⟨gb, go, hga, hgc⟩ := hcc (by omega)
  rw [hga] at hv
  simp only [Value.slice.injEq, Option.some.injEq, Addr.mk.injEq, and_true] at hv
  obtain ⟨⟨rfl, rfl⟩, hv2, rfl⟩ := hv
  obtain ⟨H, hH⟩ : ∃ H, w3.heap.size = H := ⟨_, rfl⟩
  have hWH : W.heap.size ≤ H := by rw [← hH]; exact HB3.out.size
  have HH := Lib.hid hWH
  have hH3 : H ≤ w3.heap.size := by rw [hH]; exact Nat.le_refl _
  have HH3 := Lib.hid hH3
  have hKg : K H g := HKB.out H g (HO3.out.lt g rfl).1 (by rw [← hH]; exact (HO3.out.lt g rfl).2)
  have HK := Lib.hid (And.intro (HK0.out.1 H hWH) (And.intro (HK0.out.2.1 H hWH) (HK0.out.2.2 H hWH)))
  clear hH hWH hH3
  obtain ⟨Li, hLi⟩ : ∃ n, (p.names lo k).length + 1 = n := ⟨_, rfl⟩
  have hLi2 : (((p.names lo k).length : Int) + 1) = (Li : Int) := by omega
  rw [hLi] at hLl HO3 ⊢
  rw [hLi2]
  have HGC := Lib.hid hgc
  have HLL := Lib.hid hLl
  have HKG := Lib.hid hKg
  clear hKg
  have hLi4 : Li ≤ 4 := by omega
  clear hgc hcc hga hv2 hLi2 d0 d1 d2 d3 d4 d5 d6 d7 dw
  gi_loopw [20] (fun i wr => ∃ j : Nat, j ≤ Li ∧ i = .int .i64 j ∧ J H ((L.take j).filterMap fun n => p.say n (p.names lo k)) wr ∧ H ≤ wr.heap.size ∧ RKeep (K H) W wr ∧ (∀ j, j < L.length → wr.cell? ⟨g, 0 + j, none⟩ = some (.int .i64 (L[j]?.getD 0)))) (fun i _ => Li - (intOf i).toNat)
  case atStart => exact ⟨0, Nat.zero_le _, rfl, hJ _ _ _ _ (HJ.out H HH.out) (RKeep.of_below HB3.out), HH3.out, RKeep.of_below HB3.out, HGC.out⟩
  case round =>
    obtain ⟨j, hj, rfl, hJr, hhr, hkr, hgr⟩ := hrel
    have HHR := Lib.hid hhr
    have HGR := Lib.hid hgr
    have HKR := Lib.hid hkr
    by_cases hlt : j < Li
    · have hjl : (j : Int) < (Li : Int) := by omega
      have hj0 : (0 : Int) ≤ (j : Int) := by omega
      have hjL : j < L.length := by rw [HLL.out]; exact hlt
      obtain ⟨n, hn⟩ : ∃ n, L[j]?.getD 0 = n := ⟨_, rfl⟩
      have hnL : L[j] = n := by simpa [hjL] using hn
      have hce := hgr j hjL
      rw [hn, Nat.zero_add] at hce
      have hnm : n ∈ p.names lo k ∨ n = -1 := by
        have h9 : n ∈ L := by rw [← hnL]; exact List.getElem_mem hjL
        rw [← HL.out, List.mem_append] at h9
        exact h9.imp id (by simp)
      have hpr : PlB Bp p wr := hkr.heap HK.out.1 HPB.out
      obtain ⟨c0, c1, c2, c3, c4, c5, c6, c7⟩ := hpr.cell
      have cw := cell_of_one (hkr.heap HK.out.2.1 HWB.out)
      have hwr : WkB Wk lo hi wr := ⟨hkr.cell HK.out.2.2 HWK.out.lo, hkr.cell HK.out.2.2 HWK.out.hi⟩
      have HSY := Lib.hid (HSAY.out n wr hwr hnm)
      obtain ⟨q, hq⟩ : ∃ q, p.after n (p.names lo k) = q := ⟨_, rfl⟩
      obtain ⟨fi, hfi⟩ : ∃ fi, p.fits q = fi := ⟨_, rfl⟩
      rw [hq] at HSY
      unfold SayEnd at HSY
      rw [hfi] at HSY
      have HSP := Lib.hid (plays_split (lo := lo) (k := k) (p := p) j (by rw [HL.out]; exact hjL))
      have hsay : p.say n (p.names lo k) = if fi then some (n, q) else none := by simp only [Pl.say, hq, hfi]
      simp only [HL.out, hnL, hsay] at HSP
      clear hsay
      have HJR := Lib.hid hJr
      have HPX := Lib.hid (plays_prefix (lo := lo) (k := k) (p := p) (j + 1))
      rw [HL.out, HSP.out] at HPX
      obtain ⟨a', b', t', s', c', d', e', f'⟩ := q
      clear hJr hhr hkr hgr hn hnL hnm hpr hwr hq hfi hjL
      cases fi with
      | false =>
        simp only [Bool.false_eq_true, if_false] at HSY HSP
        unfold errV plV at HSY
        gi_wp2_with (first
          | (refine ⟨trivial, ?_⟩; gi_at_call 73; refine (callsIn_wide.2 HSY.out).mono ?_; rintro q w4 ⟨rfl, hb4⟩))
        refine ⟨(fun _ h => by cases h), ?_⟩
        gi_wp2_with fail
        have hbx := below_trans hb4 (below_alloc w4 (.cells #[.int .i64 0, .int .i64 0, .int .i64 0, .int .i64 0, .int .i64 0, .int .i64 0, .int .i64 0, .int .i64 0] 90))
        have hk5 := HKR.out.trans (RKeep.of_below (K := K H) hbx)
        refine ⟨⟨j + 1, by omega, by simp, ?_, Nat.le_trans HHR.out hbx.size, hk5, fun i hi => (below_cell hbx (HGR.out i hi))⟩, by simp [intOf]; omega⟩
        rw [HSP.out]
        simp only [Option.toList_none, List.append_nil]
        exact hJ _ _ _ _ HJR.out (RKeep.of_below hbx)
      | true =>
        simp only [if_true] at HSY HSP HPX
        unfold Pl.v plV at HSY
        gi_wp2_with (first
          | (refine ⟨trivial, ?_⟩; gi_at_call 73; refine (callsIn_wide.2 HSY.out).mono ?_; rintro q w4 ⟨rfl, hb4⟩; have hbx := below_trans hb4 (below_alloc w4 (.cells #[.int .i64 a', .int .i64 b', .int .i64 t', .int .i64 s', .int .i64 c', .int .i64 d', .int .i64 e', .int .i64 f'] 90)); obtain ⟨fn, tmps, assign, body, hy, hR⟩ := hY H 4 _ (n, ⟨a', b', t', s', c', d', e', f'⟩) #[.int .i64 n, .agg #[.int .i64 a', .int .i64 b', .int .i64 t', .int .i64 s', .int .i64 c', .int .i64 d', .int .i64 e', .int .i64 f']] _ (hJ _ _ _ _ HJR.out (RKeep.of_below hbx)) rfl HPX.out HH.out (Nat.le_trans HHR.out hbx.size); have HBX := Lib.hid hbx; have HRR := Lib.hid hR; clear hb4 hbx hR)
          | ((try refine ⟨(fun _ h => (by cases h)), ?_⟩); refine HRR.out.mono ?_; rintro q w5 ⟨bv, rfl, hk5, ht5, hf5⟩; have HK5 := Lib.hid hk5; have HT5 := Lib.hid ht5; have HF5 := Lib.hid hf5; clear hk5 ht5 hf5))
        · rename_i hbv
          have hbt : bv = false := by cases bv <;> simp_all
          refine bodyPost_ret (results_none rfl _ _ _) rfl ?_
          refine ⟨⟨_, rfl⟩, H, .inr ⟨_, ?_, HF5.out hbt⟩⟩
          have h1 := plays_prefix (lo := lo) (k := k) (p := p) (j + 1)
          rw [HL.out, HSP.out] at h1
          exact h1
        · rename_i hbv
          have hbt : bv = true := by cases bv <;> simp_all
          have hk5 := HKR.out.trans ((RKeep.of_below (K := K H) HBX.out).trans HK5.out)
          have hk6 := (RKeep.of_below (K := fun b => K H b) HBX.out).trans HK5.out
          refine ⟨⟨j + 1, by omega, by simp, ?_, Nat.le_trans HHR.out (Nat.le_trans HBX.out.size HK5.out.size), hk5, fun i hi => hk6.cell HKG.out (HGR.out i hi)⟩, by simp [intOf]; omega⟩
          rw [HSP.out]
          exact HT5.out hbt
    · have hjl : ¬ ((j : Int) < (Li : Int)) := by omega
      obtain rfl : j = Li := by omega
      gi_wp2_with fail
      refine bodyPost_end (results_none rfl _ _ _) rfl ?_
      refine ⟨⟨_, rfl⟩, H, .inl ?_⟩
      have h1 : L.take j = L := List.take_of_length_le (by rw [HLL.out]; exact Nat.le_refl _)
      have h2 := hJr
      rw [h1, ← HL.out] at h2
      simp only [HL.out] at h2
      unfold Pl.plays
      rw [HL.out]
      exact h2
end Go.Proofs.YtemoepcfmpapoaaGreatDoor
