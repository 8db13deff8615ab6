/-
  debt: the settlement of a set of pairs, by contract.
-/
import Derived.Test.YtemoepcfmpapoaaGreatDoorMRSet0
import Derived.Laws.EntriesVeiled
namespace Go.Proofs.YtemoepcfmpapoaaGreatDoor
open Go.RowKit Go.Proofs Go.Shelf
attribute [local go_sem] Oper.semAt_some

set_option maxRecDepth 100000
theorem setTo_none {n : Nat} {N : List Int} {s : Nat} {st : DS} {k : Nat} (h : setTo n N s k st = none) : ∀ m, k ≤ m → setTo n N s m st = none
  | 0, hm => by
    obtain rfl : k = 0 := by omega
    exact h
  | m + 1, hm => by
    rcases Nat.lt_or_ge m k with h1 | h1
    · obtain rfl : k = m + 1 := by omega
      exact h
    · unfold setTo
      rw [setTo_none h m h1]
      rfl
theorem setTo_skip {n : Nat} {N : List Int} {s k : Nat} {st0 st : DS} (h : setTo n N s k st0 = some st) (hs : st.seen[k]?.getD false = true) : setTo n N s (k + 1) st0 = some st := by
  unfold setTo
  rw [h, Option.bind_some, if_pos hs]
theorem setTo_go {n : Nat} {N : List Int} {s k : Nat} {st0 st st' : DS} (h : setTo n N s k st0 = some st) (hs : st.seen[k]?.getD false = false) (hr : dueF n N s 6 k k st = some (0, st')) : setTo n N s (k + 1) st0 = some st' := by
  unfold setTo
  rw [h, Option.bind_some, if_neg (by simp [hs]), hr, Option.bind_some, if_pos rfl]
theorem setTo_stop {n : Nat} {N : List Int} {s k : Nat} {st0 st : DS} (h : setTo n N s k st0 = some st) (hs : st.seen[k]?.getD false = false) (hr : dueF n N s 6 k k st = none ∨ ∃ y st', dueF n N s 6 k k st = some (y, st') ∧ y ≠ 0) : setTo n N s (k + 1) st0 = none := by
  unfold setTo
  rw [h, Option.bind_some, if_neg (by simp [hs])]
  rcases hr with hr | ⟨y, st', hr, hy⟩
  · rw [hr]; rfl
  · rw [hr, Option.bind_some, if_neg hy]

def SettledEnd (r : Option DS) (w : World) (e : Ending) (w' : World) : Prop :=
  Below w.heap.size w w' ∧ match r with
  | none => e = .returned (.tuple #[.slice none 0 0, .bool false])
  | some st => ∃ v, e = .returned (.tuple #[v, .bool true]) ∧ w'.ownsRow w.heap.size 78 3 v st.pays.length (flatP (sortL cmpP st.pays)) ∧ st.pays.length ≤ 5
def st00 : DS := ⟨List.replicate 5 false, []⟩
theorem below_of_rkeep {d : DP} {w x y : World} (hb : Below w.heap.size w x) (hk : RKeep d.K x y) (h : ∀ k, k < w.heap.size → d.K k) : Below w.heap.size w y :=
  ⟨hk.env.os.trans hb.os, hk.env.tape.trans hb.tape, hk.env.output.trans hb.output, Nat.le_trans hb.size hk.size, fun i hi => (hk.same i (Nat.lt_of_lt_of_le hi hb.size) (h i hi)).trans (hb.block i hi)⟩

set_option maxHeartbeats 6400000 in
theorem settled_any (Dw n s : Nat) (N : List Int) (w : World) (hW : WkD Dw n N w) (hn : 2 ≤ n ∧ n ≤ 5) (hs : s < 1024) (hN : ∀ x ∈ N, -100 ≤ x ∧ x ≤ 100) :
    Calls Tryz.prog 63 #[.pointer (some ⟨Dw, 0, none⟩), .int .u64 s] w (SettledEnd (setTo n N s n st00) w) := by
  have hmf : ∀ (fn : Fn) (first cap : Array Value) (w : World), (Instr.makeFunc fn first cap).run Tryz.prog w = .ok (.func fn first cap) w := fun _ _ _ _ => rfl
  obtain ⟨hap, hdb, hst, hob, hbw⟩ := set_made w Dw n s N hW hn hs hN
  obtain ⟨d, hd⟩ : ∃ d, setD w Dw n s N = d := ⟨_, rfl⟩
  obtain ⟨W0, hW0⟩ : ∃ W0, setW w Dw s = W0 := ⟨_, rfl⟩
  have hdn : d.n = n := by rw [← hd]; rfl
  have hds : d.s = s := by rw [← hd]; rfl
  have hdN : d.N = N := by rw [← hd]; rfl
  have hKw : ∀ k, k < w.heap.size → d.K k := fun k hk => by rw [← hd]; simp only [DP.K, setD]; omega
  have hKo : d.K (w.heap.size + 1 + 1 + 1) := by rw [← hd]; simp only [DP.K, setD]; omega
  rw [hd] at hap hdb hst
  rw [hW0] at hdb hst hob hbw
  simp only [setW, setD, DP.caps] at hW0
  have hG : ∀ W, DueB d W → W.cell? ⟨w.heap.size, 0, none⟩ = some (.pointer (some ⟨Dw, 0, none⟩)) ∧ W.cell? ⟨w.heap.size + 1 + 1 + 1 + 1 + 1, 0, none⟩ = some (.func (.func 89) #[] #[.pointer (some ⟨w.heap.size + 1 + 1 + 1 + 1, 0, none⟩), .pointer (some ⟨w.heap.size, 0, none⟩), .pointer (some ⟨w.heap.size + 1, 0, none⟩), .pointer (some ⟨w.heap.size + 1 + 1 + 1 + 1 + 1, 0, none⟩), .pointer (some ⟨w.heap.size + 1 + 1, 0, none⟩)]) := fun W h => by
    rw [← hd] at h
    exact ⟨h.wk, h.du⟩
  have hS : ∀ W st, DSt d st W → (∀ k, k < 5 → W.cell? ⟨w.heap.size + 1 + 1 + 1 + 1, k, none⟩ = some (.bool (st.seen[k]?.getD false))) ∧ ∃ v, W.heap[w.heap.size + 1 + 1]? = some (.cells #[v] 69 (0, 0)) ∧ W.ownsRow (w.heap.size + 1 + 1 + 1 + 1 + 1 + 1) 78 3 v st.pays.length (flatP st.pays) := fun W st h => by
    rw [← hd] at h
    exact ⟨fun k hk => h.cell hk, h.pays⟩
  have hP : ∀ W, PayCell d W → ∃ v, W.heap[w.heap.size + 1 + 1]? = some (.cells #[v] 69 (0, 0)) := fun W h => by
    rw [← hd] at h
    exact h
  have hI : ∀ k st W, k < n → DueB d W → DSt d st W → Calls Tryz.prog 89 #[.int .i64 k, .int .i64 k, .pointer (some ⟨w.heap.size + 1 + 1 + 1 + 1, 0, none⟩), .pointer (some ⟨w.heap.size, 0, none⟩), .pointer (some ⟨w.heap.size + 1, 0, none⟩), .pointer (some ⟨w.heap.size + 1 + 1 + 1 + 1 + 1, 0, none⟩), .pointer (some ⟨w.heap.size + 1 + 1, 0, none⟩)] W (DueEnd d (dueF n N s 6 k k st) W) := fun k st W hk h1 h2 => by
    have := due_all d hap 6 k k st W (by omega) (by omega) h1 h2 (by omega) (Nat.le_refl _)
    rw [hdn, hds, hdN] at this
    rw [← hd] at this ⊢
    exact this
  have HG := Lib.hid hG
  have HS := Lib.hid hS
  have HP := Lib.hid hP
  have HI := Lib.hid hI
  have HAP := Lib.hid hap
  have HDB := Lib.hid hdb
  have HST := Lib.hid hst
  have HOB := Lib.hid hob
  have HBW := Lib.hid hbw
  have HKW := Lib.hid hKw
  have HKO := Lib.hid hKo
  have b1 := (hG W0 hdb).1
  obtain ⟨pa, pc, hpu⟩ := hdb.pu
  have hdDw : d.Dw = Dw := by rw [← hd]; rfl
  rw [hdDw, hdn] at hpu
  have HNY := Lib.hid (fun w => need_yes w)
  have HNN := Lib.hid (fun w => need_no w)
  obtain ⟨res, hres⟩ : ∃ res, setTo n N s n st00 = res := ⟨_, rfl⟩
  rw [hres]
  have HRES := Lib.hid hres
  have HCAT : Hid (∀ (W : World) (v : Value) (tm : Array Value), RKeep d.K W0 W → W.heap[w.heap.size + 1 + 1]? = some (.cells #[v] 69 (0, 0)) → res = none → tm[4]? = some (.pointer (some ⟨w.heap.size + 1 + 1, 0, none⟩)) → tm[5]? = some (.pointer (some ⟨w.heap.size + 1 + 1 + 1, 0, none⟩)) →
      Leaves Tryz.prog Tryz.f63 tm (SettledEnd res w) [{ target := .fn (.func 88) #[.pointer (some ⟨w.heap.size + 1 + 1, 0, none⟩), .pointer (some ⟨w.heap.size + 1 + 1 + 1, 0, none⟩)], args := #[] }] (.panicking unsV) W) := fun W v tm hk hv hr ht4 ht5 => by
    have ho := hk.heap hKo hob
    refine leaves_cons (f := 88) (args := #[.pointer (some ⟨w.heap.size + 1 + 1, 0, none⟩), .pointer (some ⟨w.heap.size + 1 + 1 + 1, 0, none⟩)]) (by simp) (by simp [invoke, go_sem]) ?_
    refine (dcatch_uns (w.heap.size + 1 + 1) (w.heap.size + 1 + 1 + 1) v (.bool false) [] W hv ho (by omega)).mono ?_
    rintro e u' w' ⟨rfl, rfl, h1, h2, h3⟩
    have hb9 : Below w.heap.size w w' := by
      have h8 := below_of_rkeep hbw hk hKw
      exact ⟨h3.env.os.trans h8.os, h3.env.tape.trans h8.tape, h3.env.output.trans h8.output, Nat.le_trans h8.size h3.size, fun i hi => (h3.same i (Nat.lt_of_lt_of_le hi h8.size) (by omega)).trans (h8.block i hi)⟩
    refine ⟨.tuple #[.slice none 0 0, .bool false], ?_, ?_⟩
    · simp [results, Tryz.results63, go_sem, ht4, ht5, h1, h2]
    · rw [hr]
      exact ⟨hb9, rfl⟩
  clear hG hS hI hP hap hdb hst hob hbw hKw hKo hd hdn hds hdN hdDw hres hN hW
  go_enter_defers Tryz.func63, Tryz.ntmps63
  go_upto_region 5 with fail
  clear hW0
  go_wp2_with fail
  go_loopw [17] (fun i wr => ∃ (k : Nat) (st : DS), k ≤ n ∧ i = .int .i64 k ∧ setTo n N s k st00 = some st ∧ DSt d st wr ∧ RKeep d.K W0 wr) (fun i _ => n - (intOf i).toNat)
  case atStart => exact ⟨0, st00, Nat.zero_le _, rfl, rfl, HST.out, RKeep.refl _ _⟩
  case round =>
    obtain ⟨k, st, hk, rfl, hset, hst, hkp⟩ := hrel
    have HSE := Lib.hid hset
    have HS1 := Lib.hid hst
    have HK1 := Lib.hid hkp
    have HD1 := Lib.hid (HDB.out.keep HAP.out hkp)
    clear hset hst hkp
    by_cases hkn : k < n
    · have hkl : (k : Int) < (n : Int) := by omega
      have hk0 : (0 : Int) ≤ (k : Int) := by omega
      have hk5 : (k : Int) < 5 := by omega
      have c1 := (HS.out wr st HS1.out).1 k (by omega)
      cases hse : st.seen[k]?.getD false with
      | true =>
        rw [hse] at c1
        have HNX := Lib.hid (setTo_skip HSE.out hse)
        clear hse
        go_wp2_with (go_at_call 90; refine (HNY.out _).mono ?_; rintro e w3 ⟨rfl, hb3⟩)
        go_roundw
        case rel => exact ⟨k + 1, st, by omega, by go_num, HNX.out, HS1.out.below hb3, HK1.out.trans (RKeep.of_below hb3)⟩
        case measure => simp only [intOf]; omega
      | false =>
        rw [hse] at c1
        have c2 := (HG.out wr HD1.out).2
        have HIK := Lib.hid (HI.out k st wr hkn HD1.out HS1.out)
        cases hrk : dueF n N s 6 k k st with
        | none =>
          rw [hrk] at HIK
          have HRN := Lib.hid (HRES.out.symm.trans (setTo_none (setTo_stop HSE.out hse (.inl hrk)) n (by omega)))
          clear hse hrk
          go_wp2_with (go_at_call 89; refine HIK.out.mono ?_; rintro e w4 ⟨rfl, hk4, hc4⟩)
          obtain ⟨v, hv⟩ := HP.out _ hc4
          exact HCAT.out _ v _ (HK1.out.trans hk4) hv HRN.out rfl rfl
        | some r =>
          obtain ⟨y, st'⟩ := r
          rw [hrk] at HIK
          by_cases hy : y = 0
          · subst hy
            have HNX := Lib.hid (setTo_go HSE.out hse hrk)
            clear hse hrk
            go_wp2_with (first
              | (go_at_call 89; refine HIK.out.mono ?_; rintro e w4 ⟨rfl, hs4, hk4⟩; have HS4 := Lib.hid hs4; have HK4 := Lib.hid (HK1.out.trans hk4); clear hs4 hk4)
              | (go_at_call 90; refine (HNY.out _).mono ?_; rintro e w5 ⟨rfl, hb5⟩))
            go_roundw
            case rel => exact ⟨k + 1, st', by omega, by go_num, HNX.out, HS4.out.below hb5, HK4.out.trans (RKeep.of_below hb5)⟩
            case measure => simp only [intOf]; omega
          · have HRN := Lib.hid (HRES.out.symm.trans (setTo_none (setTo_stop HSE.out hse (.inr ⟨y, st', hrk, hy⟩)) n (by omega)))
            have hyb : (y == 0) = false := by simpa using hy
            clear hse hrk hy
            go_wp2_with (first
              | (go_at_call 89; refine HIK.out.mono ?_; rintro e w4 ⟨rfl, hs4, hk4⟩; have HS4 := Lib.hid hs4; have HK4 := Lib.hid (HK1.out.trans hk4); clear hs4 hk4)
              | (go_at_call 90; refine (HNN.out _).mono ?_; rintro e w5 ⟨rfl, hb5⟩))
            obtain ⟨v, hv⟩ := HP.out _ (HS4.out.below hb5).cellp
            exact HCAT.out _ v _ (HK4.out.trans (RKeep.of_below hb5)) hv HRN.out rfl rfl
    · have hkl : ¬ ((k : Int) < (n : Int)) := by omega
      obtain rfl : k = n := by omega
      have HRS := Lib.hid (HRES.out.symm.trans HSE.out)
      obtain ⟨v, hv, ho⟩ := (HS.out wr st HS1.out).2
      obtain ⟨va, vm, vc, rfl⟩ := owns_any ho
      have c4 := cell_of_one hv
      have HSRT := Lib.hid (sortRow_any _ (.slice va vm vc) st.pays wr (by have := HS1.out.few; have := HS1.out.five; have := cnt_le (l := st.seen); omega) ho)
      have HHV := Lib.hid hv
      have c5 := cell_of_one (HK1.out.heap HKO.out HOB.out)
      clear hv ho
      go_upto_region 11 with (go_at_call 93; refine HSRT.out.mono ?_; rintro e w4 ⟨rfl, ho4, hk4⟩; have HO4 := Lib.hid ho4; have HK4 := Lib.hid hk4; clear ho4 hk4 c4 c5)
      try simp only [Act.put]
      have hv4 : w4.heap[w.heap.size + 1 + 1]? = some (.cells #[.slice va vm vc] 69 (0, 0)) := HK4.out.heap (by omega) HHV.out
      have ho4 : w4.heap[w.heap.size + 1 + 1 + 1]? = some (.cells #[.bool false] 4 (0, 0)) := HK4.out.heap (by omega) (HK1.out.heap HKO.out HOB.out)
      have c4 := cell_of_one hv4
      have c5 := cell_of_one ho4
      have f4 : w4.frozen? ⟨w.heap.size + 1 + 1, 0, none⟩ = false := by simp [World.frozen?, hv4]
      have f5 : w4.frozen? ⟨w.heap.size + 1 + 1 + 1, 0, none⟩ = false := by simp [World.frozen?, ho4]
      have hk0 : RKeep (fun k => k < w.heap.size) W0 w4 := (HK1.out.mono fun k _ hk => HKW.out k hk).trans (HK4.out.mono fun k _ hk => by omega)
      clear hv4 ho4
      go_wp2_with fail
      have q5 : ((w4.setCell ⟨w.heap.size + 1 + 1, 0, none⟩ (.slice va vm vc)).setCell ⟨w.heap.size + 1 + 1 + 1, 0, none⟩ (.bool true)).cell? ⟨w.heap.size + 1 + 1 + 1, 0, none⟩ = some (.bool true) :=
        World.cell?_setCell_same (w := w4.setCell ⟨w.heap.size + 1 + 1, 0, none⟩ (.slice va vm vc)) ⟨w.heap.size + 1 + 1 + 1, 0, none⟩ _ (u := .bool false) (by rw [World.cell?_setCell_other _ _ _ _ (fun e => by simp at e)]; exact c5)
      have q4 : ((w4.setCell ⟨w.heap.size + 1 + 1, 0, none⟩ (.slice va vm vc)).setCell ⟨w.heap.size + 1 + 1 + 1, 0, none⟩ (.bool true)).cell? ⟨w.heap.size + 1 + 1, 0, none⟩ = some (.slice va vm vc) := by
        rw [World.cell?_setCell_other _ _ _ _ (fun e => by simp at e)]
        exact World.cell?_setCell_same _ _ _ c4
      have ho9 : ((w4.setCell ⟨w.heap.size + 1 + 1, 0, none⟩ (.slice va vm vc)).setCell ⟨w.heap.size + 1 + 1 + 1, 0, none⟩ (.bool true)).ownsRow w.heap.size 78 3 (.slice va vm vc) st.pays.length (flatP (sortL cmpP st.pays)) :=
        owns_mono (owns_of_heap HO4.out fun j hj _ => (Below.heap_setCell _ _ _ _ (by show j ≠ w.heap.size + 1 + 1 + 1; omega)).trans (Below.heap_setCell _ _ _ _ (by show j ≠ w.heap.size + 1 + 1; omega))) (by omega)
      have hk9 : RKeep (fun k => k < w.heap.size) W0 ((w4.setCell ⟨w.heap.size + 1 + 1, 0, none⟩ (.slice va vm vc)).setCell ⟨w.heap.size + 1 + 1 + 1, 0, none⟩ (.bool true)) :=
        (hk0.trans (RKeep.setCell _ 0 (by omega) _)).trans (RKeep.setCell _ 0 (by omega) _)
      have hb9 : Below w.heap.size w ((w4.setCell ⟨w.heap.size + 1 + 1, 0, none⟩ (.slice va vm vc)).setCell ⟨w.heap.size + 1 + 1 + 1, 0, none⟩ (.bool true)) :=
        ⟨hk9.env.os.trans HBW.out.os, hk9.env.tape.trans HBW.out.tape, hk9.env.output.trans HBW.out.output, Nat.le_trans HBW.out.size hk9.size, fun i hi => (hk9.same i (Nat.lt_of_lt_of_le hi HBW.out.size) hi).trans (HBW.out.block i hi)⟩
      generalize (w4.setCell _ _).setCell _ _ = w9 at *
      refine leaves_cons (f := 88) (args := #[.pointer (some ⟨w.heap.size + 1 + 1, 0, none⟩), .pointer (some ⟨w.heap.size + 1 + 1 + 1, 0, none⟩)]) (by simp) (by simp [invoke, go_sem]) ?_
      refine (dcatch_idle _ _ w9).mono ?_
      rintro e u' w' ⟨rfl, rfl, hb⟩
      have q4' := below_cell hb q4
      have q5' := below_cell hb q5
      refine ⟨.tuple #[.slice va vm vc, .bool true], ?_, ?_⟩
      · simp [results, Tryz.results63, go_sem, q4', q5']
      · rw [HRS.out]
        exact ⟨below_trans hb9 hb, .slice va vm vc, rfl, owns_below ho9 hb, by have := HS1.out.few; have := HS1.out.five; have := cnt_le (l := st.seen); omega⟩
end Go.Proofs.YtemoepcfmpapoaaGreatDoor
