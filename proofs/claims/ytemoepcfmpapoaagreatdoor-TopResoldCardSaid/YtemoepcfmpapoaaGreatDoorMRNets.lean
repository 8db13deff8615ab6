/-
  debt: the settlements, as an iterator.
-/
import Derived.Test.YtemoepcfmpapoaaGreatDoorMRSets
import Derived.Test.YtemoepcfmpapoaaGreatDoorMRSet
import Derived.Test.YtemoepcfmpapoaaGreatDoorMRGen2
namespace Go.Proofs.YtemoepcfmpapoaaGreatDoor
open Go.RowKit Go.Proofs Go.Shelf
attribute [local go_sem] Oper.semAt_some

set_option maxRecDepth 100000
theorem comeF_app (n : Nat) (N : List Int) : ∀ (a b : List Nat), comeF n N (a ++ b) = comeF n N a ++ comeF n N b
  | [], b => rfl
  | s :: r, b => by
    simp only [List.cons_append, comeF]
    split
    · exact comeF_app n N r b
    · rw [comeF_app n N r b]; rfl
theorem comeF_pre {n : Nat} {N : List Int} {a b : List Nat} (h : a <+: b) : comeF n N a <+: comeF n N b := by
  obtain ⟨t, rfl⟩ := h
  rw [comeF_app]
  exact List.prefix_append _ _
theorem comeF_none {n : Nat} {N : List Int} {s : Nat} (h : setTo n N s n st00 = none) : comeF n N [s] = [] := by
  have : settledF n N s = none := by unfold settledF; rw [show setTo n N s n ⟨List.replicate 5 false, []⟩ = none from h]; rfl
  simp [comeF, this]
theorem comeF_some {n : Nat} {N : List Int} {s : Nat} {st : DS} (h : setTo n N s n st00 = some st) : comeF n N [s] = [sortL cmpP st.pays] := by
  have : settledF n N s = some (sortL cmpP st.pays) := by unfold settledF; rw [show setTo n N s n ⟨List.replicate 5 false, []⟩ = some st from h]; rfl
  simp [comeF, this]

def PairsEnd (n : Nat) (w : World) (e : Ending) (w' : World) : Prop :=
  ∃ Pb, e = .returned (.func (.func 86) #[] #[.pointer (some ⟨Pb, 0, none⟩)]) ∧ w'.heap[Pb]? = some (.cells #[.int .i64 n] 3 (0, 0)) ∧ w.heap.size ≤ Pb ∧ Below w.heap.size w w'
theorem pairsOf_any (n : Nat) (w : World) : Calls Tryz.prog 62 #[.int .i64 n] w (PairsEnd n w) := by
  have hmf := Tryz.func86
  go_enter Tryz.func62, Tryz.ntmps62
  go_wp2
  go_ret
  exact ⟨w.heap.size, rfl, heap_new w _, Nat.le_refl _, below_alloc w _⟩

/-- A settlement, as the iterator hands it out. -/
def PaysE (H : Nat) (l : List Pay) (W : World) (vs : Array Value) : Prop := ∃ a c, vs = #[.slice a l.length c] ∧ W.ownsRow H 78 3 (.slice a l.length c) l.length (flatP l) ∧ l.length ≤ 5

theorem setsM {n : Nat} (hn : 2 ≤ n ∧ n ≤ 5) : ∃ M, (n = 2 ∧ M = 2) ∨ (n = 3 ∧ M = 8) ∨ (n = 4 ∧ M = 64) ∨ (n = 5 ∧ M = 1024) := by
  rcases (by omega : n = 2 ∨ n = 3 ∨ n = 4 ∨ n = 5) with h | h | h | h
  · exact ⟨2, .inl ⟨h, rfl⟩⟩
  · exact ⟨8, .inr (.inl ⟨h, rfl⟩)⟩
  · exact ⟨64, .inr (.inr (.inl ⟨h, rfl⟩))⟩
  · exact ⟨1024, .inr (.inr (.inr ⟨h, rfl⟩))⟩
theorem sets_small {n s : Nat} (hn : n ≤ 5) (h : s ∈ pairSets n) : s < 1024 := by
  unfold pairSets at h
  obtain ⟨m, _, h⟩ := List.mem_flatMap.1 h
  have h1 := List.mem_range.1 (List.mem_filter.1 h).1
  have h2 : (2 : Nat) ^ (n * (n - 1) / 2) ≤ 2 ^ 10 := Nat.pow_le_pow_right (by omega) (by
    rcases (by omega : n = 0 ∨ n = 1 ∨ n = 2 ∨ n = 3 ∨ n = 4 ∨ n = 5) with rfl | rfl | rfl | rfl | rfl | rfl <;> decide)
  omega

theorem owns_len {w : World} {base n size : Nat} {e : TypeId} {v : Value} {xs : List Value} (h : w.ownsRow base e size v n xs) : ∃ a cap, v = .slice a n cap := by
  obtain ⟨_, h2⟩ := h
  rcases h2 with ⟨rfl, rfl⟩ | ⟨g, cap, cur, hv, _⟩
  · exact ⟨_, _, rfl⟩
  · exact ⟨_, _, hv⟩
def setT (l Wb B2 Dw n Pb : Nat) (pa : Option Addr) (pc s : Nat) : Array Value :=
  #[.func (.yield l) #[] #[], .pointer (some ⟨Wb, 0, none⟩), .pointer (some ⟨B2, 0, none⟩), .int .u64 s, undef, undef, .pointer (some ⟨Dw, 0, none⟩), .pointer (some ⟨Dw, 0, none⟩), .pointer (some ⟨Dw, 0, none⟩), .pointer (some ⟨Dw, 0, none⟩), .slice pa n pc, .int .i64 n,
    .func (.func 86) #[] #[.pointer (some ⟨Pb, 0, none⟩)], .int .u64 s, undef, undef, undef, undef, undef, undef, undef, undef, undef, undef, undef, undef, undef]
set_option maxHeartbeats 6400000 in
theorem settlements1_gen (Wb Dw n : Nat) (N : List Int) (w : World) (S : Nat → Prop) (hwb : w.heap[Wb]? = some (.cells #[.pointer (some ⟨Dw, 0, none⟩)] 58 (0, 0))) (hW : WkD Dw n N w) (hn : 2 ≤ n ∧ n ≤ 5)
    (hN : ∀ x ∈ N, -100 ≤ x ∧ x ≤ 100) (hS : ¬ S Wb ∧ ¬ S Dw) :
    GenOK2 61 #[.pointer (some ⟨Wb, 0, none⟩)] PaysE (comeF n N (pairSets n)) S w := by
  intro l K W J Jx hK hKb hbl hJ hJx hY hj
  obtain ⟨pa, pc, hpu⟩ := hW.pu
  have hDw : Dw < w.heap.size := World.block_lt_of_cell? w _ hpu
  have hWb : Wb < w.heap.size := (Array.getElem?_eq_some_iff.1 hwb).1
  have hsw := hbl.size
  have c1 := fun o => below_cell (below_trans hbl (below_alloc W o)) (cell_of_one hwb)
  have c2 := fun o => below_cell (below_trans hbl (below_alloc W o)) hpu
  have HPA := Lib.hid (fun w => pairsOf_any n w)
  have HWB := Lib.hid hwb
  have HW := Lib.hid hW
  have HN := Lib.hid hN
  have HS := Lib.hid hS
  have HK := Lib.hid hK
  have HKB := Lib.hid hKb
  have HBL := Lib.hid hbl
  have HJ := Lib.hid hJ
  have HJX := Lib.hid hJx
  have HY := Lib.hid hY
  have HJ0 := Lib.hid hj
  have HWK := Lib.hid (fun w' (h : WkD Dw n N w') s (hs : s < 1024) => settled_any Dw n s N w' h hn hs hN)
  clear hwb hW hN hS hK hKb hbl hJ hJx hY hj hpu
  refine (callsIn_wide (n := 6)).1 ?_
  refine callsIn_of_wp_marks Tryz.func61 rfl trivial ?_ rfl
  simp only [Tryz.ntmps61, List.size_toArray, List.length_cons, List.length_nil, Nat.reduceAdd, Nat.reduceSub, Array.replicate_succ, Array.replicate_zero, List.push_toArray, List.append_toArray, List.nil_append, List.cons_append]
  gi_wp2_with (refine ⟨trivial, ?_⟩; gi_at_call 62; refine (callsIn_wide.2 (HPA.out _)).mono ?_; rintro q w2 ⟨Pb, rfl, hpb, hlp, hb2⟩; have HB2 := Lib.hid (below_trans (below_alloc W _) hb2); have hy2 := below_heap hb2 (heap_new W _); have HPB := Lib.hid hpb; clear hpb hb2)
  have hsz : W.heap.size + 1 ≤ Pb := by simpa using hlp
  clear hlp c1 c2
  have hs2 := HB2.out.size
  have hPb : Pb < w2.heap.size := (Array.getElem?_eq_some_iff.1 HPB.out).1
  have hY2 : W.heap.size < w2.heap.size := (Array.getElem?_eq_some_iff.1 hy2).1
  have HY2 := Lib.hid hy2
  have HLT := Lib.hid (And.intro hDw (And.intro hWb (And.intro hsw (And.intro hsz (And.intro hs2 (And.intro hPb hY2))))))
  obtain ⟨M, hM⟩ := setsM hn
  have hseq := (pairsOf1_gen Pb n M w2 (fun k => k < W.heap.size ∧ (w.heap.size ≤ k ∨ S k)) hM HPB.out (by omega)).two
  clear hy2 hsz hs2 hPb hY2 hDw hWb hsw hM
  refine wp_range_gen2 (gf := 86) (lb := #[.pointer (some ⟨Pb, 0, none⟩)]) rfl (fun args w => by simp [go_sem]) (E := fun _ => SetE) (outs := pairSets n) (S := fun k => k < W.heap.size ∧ (w.heap.size ≤ k ∨ S k))
    (fun k hk => by have := HLT.out; omega) hseq (fun _ _ _ _ _ _ h _ => h) (fun _ _ _ _ h => by rw [show _ = _ from h]; rfl)
    (fun H pre A => J H (comeF n N pre) A ∧ RKeep (fun k => k < w2.heap.size ∧ ¬ (k < W.heap.size ∧ (w.heap.size ≤ k ∨ S k))) w2 A) (fun H c pre A => c = .ret ∧ Jx H (comeF n N pre) A) ?hI ?hIx ?h0
    (fun s _ a₁ _ => a₁ = { tmps := setT l Wb W.heap.size Dw n Pb pa pc s, defers := [] }) ?hAx ?hassign ?hbody ?hdone ?hstop
  case hI =>
    rintro H pre A B hH ⟨h1, h2⟩ hAB
    have hL := HLT.out
    refine ⟨HJ.out H _ A B h1 (hAB.mono fun k _ hk => ?_), h2.trans (hAB.mono fun k _ hk => ?_)⟩
    · rcases hk with h | h <;> omega
    · omega
  case hIx =>
    rintro H c pre A B hH ⟨h1, h2⟩ hAB
    have hL := HLT.out
    refine ⟨h1, HJX.out H _ A B h2 (hAB.mono fun k _ hk => ?_)⟩
    rcases hk with h | h <;> omega
  case h0 =>
    intro H hH
    have hL := HLT.out
    exact ⟨HJ.out H _ W w2 (HJ0.out H (by omega)) (RKeep.of_below HB2.out), RKeep.refl _ _⟩
  case hAx => exact fun _ _ _ _ _ _ h _ => h
  case hassign =>
    intro H l' m pre x vs A KK hH hHA hpx hI hE hK'
    obtain rfl : vs = _ := hE
    gi_wp2_with fail
    exact hK' _ _ (Below.refl _ A) rfl rfl
  case hbody =>
    rintro H l' m pre s vs a₁ A hH hHA hpx ⟨h1, h2⟩ hE rfl
    have hL := HLT.out
    have hs10 := sets_small hn.2 (hpx.subset (List.mem_append_right pre (List.mem_singleton.2 rfl)))
    have hkp : ∀ k, k < w.heap.size → ¬ S k → k < w2.heap.size ∧ ¬ (k < W.heap.size ∧ (w.heap.size ≤ k ∨ S k)) := fun k hk hs => ⟨by omega, by rintro ⟨_, h | h⟩; omega; exact hs h⟩
    have hkw : RKeep (fun k => k < w.heap.size ∧ ¬ S k) w A := (RKeep.of_below (below_trans HBL.out HB2.out)).trans (h2.mono fun k _ hk => hkp k hk.1 hk.2)
    have cw := cell_of_one (hkw.heap ⟨hL.2.1, HS.out.1⟩ HWB.out)
    have hWA : WkD Dw n N A := by
      obtain ⟨qa, qc, hq⟩ := HW.out.pu
      exact ⟨⟨qa, qc, hkw.cell ⟨hL.1, HS.out.2⟩ hq⟩, fun i hi => hkw.cell ⟨hL.1, HS.out.2⟩ (HW.out.nt i hi)⟩
    have cy : A.heap[W.heap.size]? = some (.cells #[.func (.yield l) #[] #[]] 133 (0, 0)) := h2.heap ⟨by omega, by omega⟩ HY2.out
    have HCY := Lib.hid cy
    have HST := Lib.hid (HWK.out A hWA s hs10)
    have HJA := Lib.hid h1
    have HKA := Lib.hid h2
    have HPX := Lib.hid (comeF_pre (n := n) (N := N) hpx)
    have HHH := Lib.hid (And.intro hH hHA)
    clear h1 h2 hE hpx hL hkp hkw hWA cy hH hHA
    unfold setT
    cases hr : setTo n N s n st00 with
    | none =>
      rw [hr] at HST
      have HNX := Lib.hid (show comeF n N (pre ++ [s]) = comeF n N pre by rw [comeF_app, comeF_none hr, List.append_nil])
      clear hr
      gi_wp2_with (refine ⟨trivial, fun h => (by cases h), ?_⟩; refine (CallsIn.inRound l' (callsIn_wide.2 HST.out)).mono ?_; rintro q w4 ⟨hb4, rfl⟩)
      all_goals refine ⟨(fun _ h => by cases h), ?_⟩
      all_goals gi_wp2_with fail
      all_goals
        have hL := HLT.out
        refine ⟨RKeep.of_below hb4, ?_, HKA.out.trans (RKeep.of_below hb4)⟩
        rw [HNX.out]
        exact HJ.out H _ A w4 HJA.out (RKeep.of_below hb4)
    | some st =>
      rw [hr] at HST
      have HNX := Lib.hid (show comeF n N (pre ++ [s]) = comeF n N pre ++ [sortL cmpP st.pays] by rw [comeF_app, comeF_some hr])
      rw [HNX.out] at HPX
      clear hr
      gi_wp2_with (first
        | (refine ⟨trivial, fun h => (by cases h), ?_⟩; refine (CallsIn.inRound l' (callsIn_wide.2 HST.out)).mono ?_; rintro q w4 ⟨hb4, v, rfl, hov, hl5⟩; obtain ⟨va, vc, rfl⟩ := owns_len hov; have cy4 := cell_of_one (below_heap hb4 HCY.out); obtain ⟨fn, tmps, assign, body, hy, hR⟩ := HY.out H (m - 1) (comeF n N pre) (sortL cmpP st.pays) #[.slice va st.pays.length vc] w4 (HJ.out H _ A w4 HJA.out (RKeep.of_below hb4)) ⟨va, vc, (by rw [sortL_length]), (by rw [sortL_length]; exact owns_mono hov HHH.out.2), (by rw [sortL_length]; exact hl5)⟩ HPX.out (by have := HHH.out; have := HLT.out; omega) (Nat.le_trans HHH.out.2 hb4.size); have HB4 := Lib.hid hb4; have HRR := Lib.hid hR; clear hov hb4 hR)
        | (refine ⟨(fun h => (by cases h)), ?_⟩; refine (show RoundIn (Fence.wide.inRound l') (m - 1) Tryz.prog l fn tmps assign body w4 _ from HRR.out).mono ?_; rintro q w5 ⟨bv, rfl, hk5, ht5, hf5⟩; have HK5 := Lib.hid hk5; have HT5 := Lib.hid ht5; have HF5 := Lib.hid hf5; clear hk5 ht5 hf5))
      all_goals
        have hL := HLT.out
        have hHH := HHH.out
        have hkk : RKeep (fun k => ¬ (k < W.heap.size ∧ (w.heap.size ≤ k ∨ S k)) ∧ k < H) A w5 := (RKeep.of_below HB4.out).trans (HK5.out.mono fun k _ hk => by
          by_cases h1 : k < W.heap.size
          · have h2 : k < w.heap.size := by
              rcases Nat.lt_or_ge k w.heap.size with h | h
              · exact h
              · exact absurd ⟨h1, .inl h⟩ hk.1
            exact HK.out H k (by omega) h2 (fun hs => hk.1 ⟨h1, .inr hs⟩)
          · exact HKB.out H k (by omega) hk.2)
      · rename_i hbv
        have hbt : bv = false := by cases bv <;> simp_all
        exact ⟨hkk, rfl, by rw [HNX.out]; exact HF5.out hbt⟩
      · rename_i hbv
        have hbt : bv = true := by cases bv <;> simp_all
        exact ⟨hkk, by rw [HNX.out]; exact HT5.out hbt, HKA.out.trans (hkk.mono fun k _ hk => ⟨hk.2, by omega⟩)⟩
  case hdone =>
    intro H D A hH hD ⟨h1, h2⟩ hK
    have hL := HLT.out
    refine ⟨by simp, .inl ⟨_, _, rfl, run_takeDeferred hK, ?_⟩⟩
    refine ⟨.tuple #[], results_none rfl _ _ _, ⟨_, rfl⟩, H, .inl (HJ.out H _ A _ h1 ⟨by simp [World.putObj], fun k _ hk => World.putObj_heap_other ?_, Env.put _ _ _⟩)⟩
    rcases hk with h | h <;> omega
  case hstop =>
    rintro H D c pre A hH hD hpx ⟨rfl, h1⟩ hK
    gi_wp2_with fail
    have hL := HLT.out
    refine ⟨by simp, .inl ⟨_, _, rfl, run_takeDeferred hK, ?_⟩⟩
    refine ⟨.tuple #[], results_none rfl _ _ _, ⟨_, rfl⟩, H, .inr ⟨_, comeF_pre hpx, HJX.out H _ A _ h1 ⟨by simp [World.putObj], fun k _ hk => World.putObj_heap_other ?_, Env.put _ _ _⟩⟩⟩
    rcases hk with h | h <;> omega
end Go.Proofs.YtemoepcfmpapoaaGreatDoor

/-
  debt: the settlements with the fewest payments, by contract, where there is just one.
-/
namespace Go.Proofs.YtemoepcfmpapoaaGreatDoor
open Go.RowKit Go.Proofs Go.Shelf
attribute [local go_sem] Oper.semAt_some

set_option maxRecDepth 100000
def SetlEnd (Dw : Nat) (w : World) (e : Ending) (w' : World) : Prop :=
  ∃ Wb, e = .returned (.func (.func 61) #[] #[.pointer (some ⟨Wb, 0, none⟩)]) ∧ w'.heap[Wb]? = some (.cells #[.pointer (some ⟨Dw, 0, none⟩)] 58 (0, 0)) ∧ w.heap.size ≤ Wb ∧ Below w.heap.size w w'
theorem settlements_any (Dw : Nat) (w : World) : Calls Tryz.prog 41 #[.pointer (some ⟨Dw, 0, none⟩)] w (SetlEnd Dw w) := by
  have hmf := Tryz.func61
  go_enter Tryz.func41, Tryz.ntmps41
  go_wp2
  go_ret
  exact ⟨w.heap.size, rfl, heap_new w _, Nat.le_refl _, below_alloc w _⟩

/-- The list of settlements so far. -/
def CL (Lb H : Nat) (q : List (List Pay)) (A : World) : Prop :=
  ∃ (v : Value) (vs : List Value), A.heap[Lb]? = some (.cells #[v] 70 (0, 0)) ∧ A.ownsRow H 69 1 v q.length vs ∧
    ∀ (i : Nat) (x : List Pay), q[i]? = some x → ∃ (a : Option Addr) (c : Nat), vs[i]? = some (Value.slice a x.length c) ∧ A.ownsRow H 78 3 (Value.slice a x.length c) x.length (flatP x) ∧ x.length ≤ 5
theorem CL.keep {Lb H : Nat} {q : List (List Pay)} {A B : World} (h : CL Lb H q A) (hk : RKeep (fun j => j = Lb ∨ H ≤ j) A B) : CL Lb H q B := by
  obtain ⟨v, vs, h1, h2, h4⟩ := h
  refine ⟨v, vs, hk.heap (.inl rfl) h1, owns_of_heap h2 fun k hk1 hk2 => hk.same k hk2 (.inr hk1), fun i x hx => ?_⟩
  obtain ⟨a, c, h5, h6, h7⟩ := h4 i x hx
  exact ⟨a, c, h5, owns_of_heap h6 fun k hk1 hk2 => hk.same k hk2 (.inr hk1), h7⟩
theorem CL.push {Lb H : Nat} {q : List (List Pay)} {x : List Pay} {A B C : World} {v v' : Value} {vs : List Value} {a : Option Addr} {c : Nat} (hL : Lb < H) (h1 : A.heap[Lb]? = some (.cells #[v] 70 (0, 0))) (h2 : A.ownsRow H 69 1 v q.length vs)
    (h4 : ∀ (i : Nat) (x : List Pay), q[i]? = some x → ∃ (a : Option Addr) (c : Nat), vs[i]? = some (Value.slice a x.length c) ∧ A.ownsRow H 78 3 (Value.slice a x.length c) x.length (flatP x) ∧ x.length ≤ 5)
    (hx : A.ownsRow H 78 3 (Value.slice a x.length c) x.length (flatP x)) (hx5 : x.length ≤ 5) (hAB : Below A.heap.size A B) (hg : B.grownBy C v.ownBlock) (ho : C.ownsRow H 69 1 v' (q.length + 1) (vs ++ [Value.slice a x.length c])) :
    CL Lb H (q ++ [x]) (C.setCell ⟨Lb, 0, none⟩ v') ∧ RKeep (fun j => j ≠ Lb ∧ j < H) A (C.setCell ⟨Lb, 0, none⟩ v') := by
  have hob : ∀ g, v.ownBlock = some g → H ≤ g := fun g hg => (h2.lt g hg).1
  have hlen : vs.length = q.length := by have := h2.1; omega
  -- the rows of payments lie in cells of payments, the list's row in cells of slices: the list's growth leaves them
  have hrow : ∀ (y : List Pay) (b : Option Addr) (d : Nat), A.ownsRow H 78 3 (Value.slice b y.length d) y.length (flatP y) → C.ownsRow H 78 3 (Value.slice b y.length d) y.length (flatP y) := fun y b d hy => by
    have hyB := owns_below hy hAB
    have h2B := owns_below h2 hAB
    refine hyB.kept hg ?_
    rcases hyB.2 with ⟨e, _⟩ | ⟨g, cap, cur, e, _, hg1, _⟩
    · rw [e]; exact .inl rfl
    · rw [e]
      refine .inr fun e2 => ?_
      rcases h2B.2 with ⟨e3, _⟩ | ⟨g', cap', cur', e3, _, hg2, _⟩
      · rw [e3] at e2; cases e2
      · rw [e3] at e2
        simp only [Value.ownBlock, Option.some.injEq] at e2
        subst e2
        rw [hg1] at hg2
        simp at hg2
  have hLA : Lb < A.heap.size := (Array.getElem?_eq_some_iff.1 h1).1
  have hCL : C.heap[Lb]? = some (.cells #[v] 70 (0, 0)) := (hg.block Lb (Nat.lt_of_lt_of_le hLA hAB.size) (fun e => by have := hob Lb e.symm; omega)).trans (below_heap hAB h1)
  refine ⟨⟨v', vs ++ [Value.slice a x.length c], ?_, ?_, ?_⟩, ?_⟩
  · have := heap_setCell_cells (i := 0) hCL v'
    simpa using this
  · rw [List.length_append]
    exact owns_of_heap ho fun k hk _ => Below.heap_setCell _ _ _ _ (by show k ≠ Lb; omega)
  · intro i y hy
    rcases Nat.lt_or_ge i q.length with hi | hi
    · rw [List.getElem?_append_left hi] at hy
      obtain ⟨b, d, h5, h6, h7⟩ := h4 i y hy
      refine ⟨b, d, by rw [List.getElem?_append_left (by omega)]; exact h5, owns_of_heap (hrow y b d h6) fun k hk _ => Below.heap_setCell _ _ _ _ (by show k ≠ Lb; omega), h7⟩
    · rw [List.getElem?_append_right hi] at hy
      have hi0 : i - q.length = 0 := by
        rcases Nat.eq_zero_or_pos (i - q.length) with h | h
        · exact h
        · rw [List.getElem?_eq_none (by simp; omega)] at hy; cases hy
      rw [hi0] at hy
      simp only [List.getElem?_cons_zero, Option.some.injEq] at hy
      subst hy
      refine ⟨a, c, ?_, owns_of_heap (hrow x a c hx) fun k hk _ => Below.heap_setCell _ _ _ _ (by show k ≠ Lb; omega), hx5⟩
      rw [List.getElem?_append_right (by omega), hlen, hi0]
      rfl
  · refine ⟨by simpa using Nat.le_trans hAB.size hg.size, fun k hk hK => ?_, ⟨hg.os.trans hAB.os, hg.tape.trans hAB.tape, hg.output.trans hAB.output⟩⟩
    exact (Below.heap_setCell _ _ _ _ (by exact hK.1)).trans ((hg.block k (Nat.lt_of_lt_of_le hk hAB.size) (fun e => by have := hob k e.symm; omega)).trans (hAB.block k hk))

theorem few_go {acc : List (List Pay)} {l : List Pay} {r : List (List Pay)} (h : ¬ (0 < acc.length ∧ (acc[0]?.getD []).length < l.length)) : fewTo acc (l :: r) = fewTo (acc ++ [l]) r := by
  conv => lhs; unfold fewTo
  rw [if_neg h]
theorem few_stop {acc : List (List Pay)} {l : List Pay} {r : List (List Pay)} (h : 0 < acc.length ∧ (acc[0]?.getD []).length < l.length) : fewTo acc (l :: r) = acc := by
  conv => lhs; unfold fewTo
  rw [if_pos h]

def FewEnd (l : List Pay) (w : World) (e : Ending) (w' : World) : Prop :=
  ∃ g c a c', e = .returned (.slice (some ⟨g, 0, none⟩) 1 c) ∧ w'.cell? ⟨g, 0, none⟩ = some (.slice a l.length c') ∧ w'.ownsRow 0 78 3 (.slice a l.length c') l.length (flatP l) ∧ l.length ≤ 5 ∧ Below w.heap.size w w'

def fewT (Dw Lb Wb : Nat) (a : Option Addr) (n c : Nat) : Array Value :=
  #[.pointer (some ⟨Dw, 0, none⟩), undef, .slice none 0 0, .pointer (some ⟨Lb, 0, none⟩), .slice a n c, .pointer (some ⟨Dw, 0, none⟩), .func (.func 61) #[] #[.pointer (some ⟨Wb, 0, none⟩)], .slice a n c, undef, undef, undef, undef, undef, undef, undef, undef, undef, undef, undef, undef, undef, undef, undef, undef, undef, undef, undef]
theorem Tryz.infoSl : (Tryz.prog.info? 69).map (fun i => (i.zero, i.size, i.bytes)) = some (some (.slice none 0 0), 1, 24) := by kernel_rfl
set_option maxHeartbeats 6400000 in
theorem fewest_any (Dw n : Nat) (N : List Int) (l : List Pay) (w : World) (hW : WkD Dw n N w) (hn : 2 ≤ n ∧ n ≤ 5) (hN : ∀ x ∈ N, -100 ≤ x ∧ x ≤ 100) (hf : fewTo [] (comeF n N (pairSets n)) = [l]) (hlen : (comeF n N (pairSets n)).length ≤ 100000) :
    Calls Tryz.prog 23 #[.pointer (some ⟨Dw, 0, none⟩)] w (FewEnd l w) := by
  have HST := Lib.hid (fun w => settlements_any Dw w)
  have HSR := Lib.hid (fun a k cap w (hk : k ≤ 1) c => sortL_one a k cap w hk c)
  have HW := Lib.hid hW
  have HN := Lib.hid hN
  have HF := Lib.hid hf
  have HLN := Lib.hid hlen
  clear hW hN hf hlen
  refine (callsIn_wide (n := 6)).1 ?_
  refine callsIn_of_wp_marks Tryz.func23 rfl trivial ?_ rfl
  simp only [Tryz.ntmps23, List.size_toArray, List.length_cons, List.length_nil, Nat.reduceAdd, Nat.reduceSub, Array.replicate_succ, Array.replicate_zero, List.push_toArray, List.append_toArray, List.nil_append, List.cons_append]
  gi_wp2_with (refine ⟨trivial, ?_⟩; gi_at_call 41; refine (callsIn_wide.2 (HST.out _)).mono ?_; rintro q w1 ⟨Wb, rfl, hwb, hlw, hb1⟩; have HL1 := Lib.hid (below_heap hb1 (heap_new w _)); have HB1 := Lib.hid (below_trans (below_alloc w _) hb1); have HWB := Lib.hid hwb; clear hb1 hwb)
  have hsz : w.heap.size + 1 ≤ Wb := by simpa using hlw
  clear hlw
  have hs1 := HB1.out.size
  have hWb : Wb < w1.heap.size := (Array.getElem?_eq_some_iff.1 HWB.out).1
  have hL1 : w.heap.size < w1.heap.size := (Array.getElem?_eq_some_iff.1 HL1.out).1
  obtain ⟨pa, pc, hpu⟩ := HW.out.pu
  have hDw : Dw < w.heap.size := World.block_lt_of_cell? w _ hpu
  have hseq := settlements1_gen Wb Dw n N w1 (fun j => j = w.heap.size) HWB.out (HW.out.below HB1.out) hn HN.out ⟨by omega, by omega⟩
  have HLT := Lib.hid (And.intro hsz (And.intro hs1 (And.intro hWb (And.intro hL1 hDw))))
  obtain ⟨i0, hi0, hz0, hz1, hz2⟩ := info_parts Tryz.infoSl
  clear hsz hs1 hWb hL1 hpu hDw
  obtain ⟨outs, houts⟩ : ∃ outs, comeF n N (pairSets n) = outs := ⟨_, rfl⟩
  rw [houts] at hseq HF HLN
  clear houts
  refine wp_range_gen2 (gf := 61) (lb := #[.pointer (some ⟨Wb, 0, none⟩)]) rfl (fun args w => by simp [go_sem]) (E := PaysE) (outs := outs) (S := fun j => j = w.heap.size)
    (fun k hk => by have := HLT.out; omega) hseq ?hE (fun _ _ _ _ h => by obtain ⟨a, c, rfl, _⟩ := h; rfl)
    (fun H pre A => CL w.heap.size H pre A ∧ RKeep (fun k => k < w1.heap.size ∧ k ≠ w.heap.size) w1 A ∧ ∀ rest, fewTo [] (pre ++ rest) = fewTo pre rest) (fun H c pre A => c = .exit 0 ∧ ∃ q, CL w.heap.size H q A ∧ RKeep (fun k => k < w1.heap.size ∧ k ≠ w.heap.size) w1 A ∧ ∀ rest, fewTo [] (pre ++ rest) = q) ?hI ?hIx ?h0
    (fun x vs a₁ _ => ∃ a c, vs = #[.slice a x.length c] ∧ a₁ = { tmps := fewT Dw w.heap.size Wb a x.length c, defers := [] }) ?hAx ?hassign ?hbody ?hdone ?hstop
  case hE =>
    rintro H x A vs lb o ⟨a, c, rfl, h1, h2⟩ ⟨r, hr⟩
    refine ⟨a, c, rfl, ?_, h2⟩
    refine ⟨h1.1, ?_⟩
    rcases h1.2 with h | ⟨g, cap, cur, h3, h4, h5, h6⟩
    · exact .inl h
    · exact .inr ⟨g, cap, cur, h3, h4, (World.putObj_heap_other (fun e => by subst e; rw [hr] at h5; cases h5)).trans h5, h6⟩
  case hI =>
    rintro H pre A B hH ⟨h1, h2, h3⟩ hAB
    have hL := HLT.out
    exact ⟨h1.keep (hAB.mono fun k _ hk => by omega), h2.trans (hAB.mono fun k _ hk => by omega), h3⟩
  case hIx =>
    rintro H c pre A B hH ⟨h1, q, h2, h3, h4⟩ hAB
    have hL := HLT.out
    exact ⟨h1, q, h2.keep (hAB.mono fun k _ hk => by omega), h3.trans (hAB.mono fun k _ hk => by omega), h4⟩
  case h0 =>
    intro H hH
    exact ⟨⟨.slice none 0 0, [], HL1.out, ⟨rfl, .inl ⟨rfl, rfl⟩⟩, fun i x hx => by simp at hx⟩, RKeep.refl _ _, fun rest => rfl⟩
  case hAx => exact fun _ _ _ _ _ _ h _ => h
  case hassign =>
    intro H l' m pre x vs A KK hH hHA hpx hI hE hK'
    obtain ⟨a, c, rfl, h1, h2⟩ := hE
    have H1 := Lib.hid h1
    clear h1
    gi_wp2_with fail
    exact hK' _ _ (Below.refl _ A) ⟨a, c, rfl, H1.out, h2⟩ ⟨a, c, rfl, rfl⟩
  case hbody =>
    rintro H l' m pre x vs a₁ A hH hHA hpx ⟨h1, h2, h3⟩ hE ⟨a, c, rfl, rfl⟩
    obtain ⟨a', c', hvs, hxo, hx5⟩ := hE
    simp only [Array.mk.injEq, List.cons.injEq, Value.slice.injEq, and_true, true_and] at hvs
    obtain ⟨rfl, rfl⟩ := hvs
    obtain ⟨v, vs, hv, hvo, hex⟩ := h1
    obtain ⟨va, vc, rfl⟩ := owns_len hvo
    have hpl : pre.length + 1 ≤ 100000 := by
      have h9 := hpx.length_le
      have h8 := HLN.out
      rw [List.length_append, List.length_singleton] at h9
      omega
    have cv := cell_of_one hv
    have fv : A.frozen? ⟨w.heap.size, 0, none⟩ = false := by simp [World.frozen?, hv]
    have HV := Lib.hid hv
    have HVO := Lib.hid hvo
    have HEX := Lib.hid hex
    have HXO := Lib.hid hxo
    have HK2 := Lib.hid h2
    have HH := Lib.hid (And.intro hH hHA)
    have H3 := Lib.hid h3
    clear hv hvo hex hxo h2 h3 hH hHA hpx
    unfold fewT
    have HAPP : Hid (∀ (B C : World) (v' : Value), Below A.heap.size A B → B.grownBy C (Value.slice va pre.length vc).ownBlock → C.ownsRow H 69 1 v' (pre.length + 1) (vs ++ [Value.slice a x.length c]) → ¬ (0 < pre.length ∧ (pre[0]?.getD []).length < x.length) →
        gPost (fun j => j = w.heap.size) H (fun pre A => CL w.heap.size H pre A ∧ RKeep (fun k => k < w1.heap.size ∧ k ≠ w.heap.size) w1 A ∧ ∀ rest, fewTo [] (pre ++ rest) = fewTo pre rest) (fun c pre A => c = .exit 0 ∧ ∃ q, CL w.heap.size H q A ∧ RKeep (fun k => k < w1.heap.size ∧ k ≠ w.heap.size) w1 A ∧ ∀ rest, fewTo [] (pre ++ rest) = q) (pre ++ [x]) A .normal { tmps := #[], defers := [] } (C.setCell ⟨w.heap.size, 0, none⟩ v')) := fun B C v' hb hg ho hc => by
      have hL := HLT.out
      have hHH := HH.out
      obtain ⟨r1, r2⟩ := CL.push (by omega) HV.out HVO.out HEX.out HXO.out hx5 hb hg ho
      refine ⟨r2.mono fun k _ hk => ⟨hk.1, hk.2⟩, r1, HK2.out.trans (r2.mono fun k _ hk => ⟨hk.2, by omega⟩), fun rest => ?_⟩
      rw [List.append_assoc, H3.out]
      exact few_go hc
    have hlt63 : pre.length < 1000000 := by omega
    by_cases hp0 : pre.length = 0
    · have hn0 : decide ((pre.length : Int) > 0) = false := by simp [hp0]
      have HP0 := Lib.hid hp0
      clear hp0
      gi_wp2_with (gi_at_builtin; refine wpListIn_append_own _ rfl _ _ 70 rfl H 69 i0 (.slice none 0 0) 1 24 Tryz.underlying70 hi0 hz0 hz1 hz2 rfl (by decide) _ _ _ rfl (HVO.out.alloc _) ⟨A.heap.size, 0, none⟩ 1 1 [.slice a x.length c] rfl rfl (cell_one_new _ _ _) (fun z hz => by simp at hz; subst hz; rfl) (by unfold maxLen; omega) (by omega) (by have := HH.out; simp; omega) ?_; intro v' w3 hown' hgrow _; obtain ⟨g, cg, rfl⟩ := owns_succ hown'; have hc3 : w3.heap[w.heap.size]? = some (.cells #[.slice va pre.length vc] 70 (0, 0)) := (hgrow.block _ (by have := (Array.getElem?_eq_some_iff.1 HV.out).1; simp; omega) (fun e => by have h9 := (HVO.out.lt _ e.symm).1; have := HH.out; have := HLT.out; omega)).trans (below_heap (below_alloc A _) HV.out); have c3 := cell_of_one hc3; have f3 : w3.frozen? ⟨w.heap.size, 0, none⟩ = false := (by simp [World.frozen?, hc3]); have HO3 := Lib.hid hown'; have HG3 := Lib.hid hgrow; clear hown' hgrow hc3)
      all_goals first | exact HAPP.out _ _ _ (below_alloc A _) HG3.out HO3.out (by have := HP0.out; omega) | (exfalso; have := HP0.out; omega)
    · have hn0 : decide ((pre.length : Int) > 0) = true := by simp; omega
      have hp1 : (0 : Int) < (pre.length : Int) := by omega
      obtain ⟨x0, hx0⟩ : ∃ x0, pre[0]? = some x0 := ⟨pre[0], by simp⟩
      obtain ⟨a0, c0, hvs0, _⟩ := HEX.out 0 x0 hx0
      obtain ⟨va', vc', he, _, hcc⟩ := slice_of_owns HVO.out
      simp only [Value.slice.injEq, true_and] at he
      obtain ⟨rfl, rfl⟩ := he
      obtain ⟨g0, rfl, _, _, hc0⟩ := hcc (by omega)
      have hg0 := hc0 0 (by omega)
      rw [hvs0] at hg0
      have HX0 := Lib.hid hx0
      have HP0 := Lib.hid hp0
      clear hcc hc0 hvs0 hx0 hp0
      by_cases hgt : x0.length < x.length
      · have hd : decide ((x.length : Int) > (x0.length : Int)) = true := by simp; omega
        gi_wp2_with fail
        all_goals first
          | exact ⟨RKeep.refl _ A, rfl, pre, ⟨_, vs, HV.out, HVO.out, HEX.out⟩, HK2.out, fun rest => by rw [List.append_assoc, H3.out]; exact few_stop ⟨by omega, by rw [HX0.out]; exact hgt⟩⟩
          | (exfalso; omega)
      · have hd : decide ((x.length : Int) > (x0.length : Int)) = false := by simp; omega
        gi_wp2_with (gi_at_builtin; refine wpListIn_append_own _ rfl _ _ 70 rfl H 69 i0 (.slice none 0 0) 1 24 Tryz.underlying70 hi0 hz0 hz1 hz2 rfl (by decide) _ _ _ rfl (HVO.out.alloc _) ⟨A.heap.size, 0, none⟩ 1 1 [.slice a x.length c] rfl rfl (cell_one_new _ _ _) (fun z hz => by simp at hz; subst hz; rfl) (by unfold maxLen; omega) (by omega) (by have := HH.out; simp; omega) ?_; intro v' w3 hown' hgrow _; obtain ⟨g, cg, rfl⟩ := owns_succ hown'; have hc3 : w3.heap[w.heap.size]? = some (.cells #[.slice (some ⟨g0, 0, none⟩) pre.length vc] 70 (0, 0)) := (hgrow.block _ (by have := (Array.getElem?_eq_some_iff.1 HV.out).1; simp; omega) (fun e => by have h9 := (HVO.out.lt _ e.symm).1; have := HH.out; have := HLT.out; omega)).trans (below_heap (below_alloc A _) HV.out); have c3 := cell_of_one hc3; have f3 : w3.frozen? ⟨w.heap.size, 0, none⟩ = false := (by simp [World.frozen?, hc3]); have HO3 := Lib.hid hown'; have HG3 := Lib.hid hgrow; clear hown' hgrow hc3)
        all_goals first | exact HAPP.out _ _ _ (below_alloc A _) HG3.out HO3.out (by rw [HX0.out]; simp only [Option.getD_some]; omega) | (exfalso; omega)
  case hdone =>
    intro H D A hH hD ⟨h1, h2, h3⟩ hK
    obtain rfl : outs = [l] := by
      have h9 := h3 []
      rw [List.append_nil, HF.out] at h9
      rw [h9]
      simp [fewTo]
    clear h3
    subst hD
    obtain ⟨v, vs, hv, ho, hex⟩ := h1
    obtain ⟨a, c, hvs0, hro, h5⟩ := hex 0 l rfl
    obtain ⟨va, vc, rfl, _, hcc⟩ := slice_of_owns ho
    obtain ⟨g0, rfl, hg0, hg1, hc0⟩ := hcc (by simp)
    have hg := hc0 0 (by simp)
    rw [hvs0] at hg
    have cv := cell_of_one hv
    have HHV := Lib.hid hv
    have HG := Lib.hid hg
    have HRO := Lib.hid hro
    have H2 := Lib.hid h2
    have HKD := Lib.hid hK
    have HHH := Lib.hid hH
    have e1 : ([l] : List (List Pay)).length = 1 := rfl
    rw [e1] at cv
    clear hv ho hex hvs0 hro hcc hc0 hg h2 hK hH e1
    gi_wp2_with (refine ⟨trivial, ?_⟩; gi_at_call 42; refine (callsIn_wide.2 (HSR.out _ 1 _ _ (Nat.le_refl _) _)).mono ?_; rintro q w4 ⟨rfl, hb4⟩; have HB4 := Lib.hid hb4; have cv4 := below_cell hb4 cv; clear hb4)
    have hL := HLT.out
    have hb9 : Below w.heap.size w A := ⟨H2.out.env.os.trans HB1.out.os, H2.out.env.tape.trans HB1.out.tape, H2.out.env.output.trans HB1.out.output, Nat.le_trans HB1.out.size H2.out.size, fun i hi => (H2.out.same i (by omega) ⟨by omega, by omega⟩).trans (HB1.out.block i hi)⟩
    have hk4 := below_heap HB4.out HKD.out
    refine ⟨by simp, .inl ⟨_, _, rfl, run_takeDeferred hk4, ?_⟩⟩
    refine ⟨.slice (some ⟨g0, 0, none⟩) 1 vc, by simp [results, Tryz.results23, go_sem], g0, vc, a, c, rfl, ?_, ?_, h5, ?_⟩
    · have hgD : g0 ≠ w1.heap.size := fun e => by
        subst e
        have := HG.out
        simp [World.cell?, HKD.out] at this
      exact (World.cell?_of_block (w := w4) (World.putObj_heap_other hgD)).trans (below_cell HB4.out HG.out)
    · have ho4 := owns_below HRO.out HB4.out
      refine owns_mono ⟨ho4.1, ?_⟩ (Nat.zero_le H)
      rcases ho4.2 with h | ⟨g, cap, cur, h3, h4, h6, h7⟩
      · exact .inl h
      · exact .inr ⟨g, cap, cur, h3, h4, (World.putObj_heap_other (fun e => by subst e; rw [hk4] at h6; cases h6)).trans h6, h7⟩
    · have hb5 := below_trans hb9 HB4.out
      have := hL.2.1
      exact ⟨hb5.os, hb5.tape, hb5.output, by simpa [World.putObj] using hb5.size, fun i hi => (World.putObj_heap_other (by omega)).trans (hb5.block i hi)⟩
  case hstop =>
    rintro H D c pre A hH hD hpx ⟨rfl, q, h1, h2, h3⟩ hK
    obtain rfl : q = [l] := by
      obtain ⟨t, ht⟩ := hpx
      rw [← h3 t, ht]
      exact HF.out
    clear h3 hpx
    subst hD
    obtain ⟨v, vs, hv, ho, hex⟩ := h1
    obtain ⟨a, c, hvs0, hro, h5⟩ := hex 0 l rfl
    obtain ⟨va, vc, rfl, _, hcc⟩ := slice_of_owns ho
    obtain ⟨g0, rfl, hg0, hg1, hc0⟩ := hcc (by simp)
    have hg := hc0 0 (by simp)
    rw [hvs0] at hg
    have cv := cell_of_one hv
    have HHV := Lib.hid hv
    have HG := Lib.hid hg
    have HRO := Lib.hid hro
    have H2 := Lib.hid h2
    have HKD := Lib.hid hK
    have HHH := Lib.hid hH
    have e1 : ([l] : List (List Pay)).length = 1 := rfl
    rw [e1] at cv
    clear hv ho hex hvs0 hro hcc hc0 hg h2 hK hH e1
    gi_wp2_with (refine ⟨trivial, ?_⟩; gi_at_call 42; refine (callsIn_wide.2 (HSR.out _ 1 _ _ (Nat.le_refl _) _)).mono ?_; rintro q w4 ⟨rfl, hb4⟩; have HB4 := Lib.hid hb4; have cv4 := below_cell hb4 cv; clear hb4)
    have hL := HLT.out
    have hb9 : Below w.heap.size w A := ⟨H2.out.env.os.trans HB1.out.os, H2.out.env.tape.trans HB1.out.tape, H2.out.env.output.trans HB1.out.output, Nat.le_trans HB1.out.size H2.out.size, fun i hi => (H2.out.same i (by omega) ⟨by omega, by omega⟩).trans (HB1.out.block i hi)⟩
    have hk4 := below_heap HB4.out HKD.out
    refine ⟨by simp, .inl ⟨_, _, rfl, run_takeDeferred hk4, ?_⟩⟩
    refine ⟨.slice (some ⟨g0, 0, none⟩) 1 vc, by simp [results, Tryz.results23, go_sem], g0, vc, a, c, rfl, ?_, ?_, h5, ?_⟩
    · have hgD : g0 ≠ w1.heap.size := fun e => by
        subst e
        have := HG.out
        simp [World.cell?, HKD.out] at this
      exact (World.cell?_of_block (w := w4) (World.putObj_heap_other hgD)).trans (below_cell HB4.out HG.out)
    · have ho4 := owns_below HRO.out HB4.out
      refine owns_mono ⟨ho4.1, ?_⟩ (Nat.zero_le H)
      rcases ho4.2 with h | ⟨g, cap, cur, h3, h4, h6, h7⟩
      · exact .inl h
      · exact .inr ⟨g, cap, cur, h3, h4, (World.putObj_heap_other (fun e => by subst e; rw [hk4] at h6; cases h6)).trans h6, h7⟩
    · have hb5 := below_trans hb9 HB4.out
      have := hL.2.1
      exact ⟨hb5.os, hb5.tape, hb5.output, by simpa [World.putObj] using hb5.size, fun i hi => (World.putObj_heap_other (by omega)).trans (hb5.block i hi)⟩
end Go.Proofs.YtemoepcfmpapoaaGreatDoor

/-
  debt: an owing of a horse that was sold on and on: its checks, by contract.
-/
namespace Go.Proofs.YtemoepcfmpapoaaGreatDoor
open Go.RowKit Go.Proofs Go.Shelf
attribute [local go_sem] Oper.semAt_some

set_option maxRecDepth 100000
theorem checkCoins_nil (w : World) : Calls Tryz.prog 57 #[.slice none 0 0] w (ValEnd .nilIface w) := by
  go_enter Tryz.func57, Tryz.ntmps57
  go_wp2
  go_loopw [12] (fun i wr => i = .int .i64 0 ∧ wr = w) (fun _ _ => 0)
  case atStart => exact ⟨rfl, rfl⟩
  case round =>
    obtain ⟨rfl, rfl⟩ := hrel
    go_wp2
    go_ret
    exact ⟨rfl, Below.refl _ _⟩
theorem checkDebt_any (x y n : Nat) (p : Int) (w : World) (hx : x < n) (hy : y < n) (hn : n ≤ 100) (hxy : x ≠ y) (h1 : 1 ≤ p) (h9 : p ≤ 9) :
    Calls Tryz.prog 58 #[.agg #[.int .i64 x, .int .i64 y, .int .i64 p], .int .i64 n, .int .i64 9] w (ValEnd .nilIface w) := by
  have HT := Lib.hid (fun w => dcheckTwo_any x y n w hx hy hn hxy)
  have HO : Hid (∀ w, Calls Tryz.prog 68 #[.int .i64 p, .int .i64 1, .int .i64 9] w (BoolEnd false w)) := fun w => by
    have := doutside_any p 1 9 w
    rwa [decide_eq_false (by omega), decide_eq_false (by omega)] at this
  clear hx hy hn hxy h1 h9
  go_enter Tryz.func58, Tryz.ntmps58
  go_wp2_with (first
    | (go_at_call 46; refine (HT.out _).mono ?_; rintro q w2 ⟨rfl, hb2⟩; obtain ⟨k0, k1, k2⟩ := cells3 (below_heap hb2 (heap_new w _)); have HB2 := Lib.hid hb2; clear hb2)
    | (go_at_call 68; refine (HO.out _).mono ?_; rintro q w3 ⟨rfl, hb3⟩; have HB3 := Lib.hid hb3; clear hb3))
  go_ret
  exact ⟨rfl, below_trans (below_trans (below_alloc w _) HB2.out) HB3.out⟩

/-- An owing: n persons without purses; person i + 1 owes person i what is the number i of Ps. -/
structure OwB (n : Nat) (Ps : List Int) (pg pc dg dc : Nat) (w : World) : Prop where
  len : Ps.length + 1 = n
  n5 : 2 ≤ n ∧ n ≤ 5
  val : ∀ x ∈ Ps, 1 ≤ x ∧ x ≤ 9
  pu : ∀ i, i < n → w.cell? ⟨pg, i, none⟩ = some (.slice none 0 0)
  de : ∀ i, i < Ps.length → w.cell? ⟨dg, i * 3, none⟩ = some (.int .i64 ((i : Int) + 1)) ∧ w.cell? ⟨dg, i * 3 + 1, none⟩ = some (.int .i64 i) ∧ w.cell? ⟨dg, i * 3 + 2, none⟩ = some (.int .i64 (Ps[i]?.getD 0))
theorem OwB.below {n : Nat} {Ps : List Int} {pg pc dg dc : Nat} {w w' : World} (h : OwB n Ps pg pc dg dc w) (hb : Below w.heap.size w w') : OwB n Ps pg pc dg dc w' :=
  ⟨h.len, h.n5, h.val, fun i hi => below_cell hb (h.pu i hi), fun i hi => ⟨below_cell hb (h.de i hi).1, below_cell hb (h.de i hi).2.1, below_cell hb (h.de i hi).2.2⟩⟩
def owV (n : Nat) (Ps : List Int) (pg pc dg dc : Nat) : Value := .agg #[.slice (some ⟨pg, 0, none⟩) n pc, .slice (some ⟨dg, 0, none⟩) Ps.length dc]
theorem OwB.val1 {n : Nat} {Ps : List Int} {pg pc dg dc : Nat} {w : World} (h : OwB n Ps pg pc dg dc w) {i : Nat} (hi : i < Ps.length) : 1 ≤ Ps[i]?.getD 0 ∧ Ps[i]?.getD 0 ≤ 9 := by
  rw [List.getElem?_eq_getElem hi]
  exact h.val _ (List.getElem_mem hi)
theorem ow_cells {w : World} {N : Nat} {a b : Value} {T : TypeId} (h : w.heap[N]? = some (.cells #[a, b] T (0, 0))) : w.cell? ⟨N, 0, none⟩ = some a ∧ w.cell? ⟨N, 1, none⟩ = some b := by
  simp [World.cell?, h]

set_option maxHeartbeats 3200000 in
theorem checkOwing_any (n : Nat) (Ps : List Int) (pg pc dg dc : Nat) (w : World) (h : OwB n Ps pg pc dg dc w) :
    Calls Tryz.prog 38 #[owV n Ps pg pc dg dc] w (ValEnd .nilIface w) := by
  obtain ⟨L, hL⟩ : ∃ L, Ps.length = L := ⟨_, rfl⟩
  have hlen := h.len
  have hn5 := h.n5
  unfold owV
  rw [hL] at hlen ⊢
  have H := Lib.hid h
  have HL := Lib.hid hL
  have HCC := Lib.hid (fun w => checkCoins_nil w)
  have HCD := Lib.hid (fun i p w (hi : i < L) h1 h9 => checkDebt_any (i + 1) i n p w (by omega) (by omega) (by omega) (by omega) h1 h9)
  obtain ⟨W0, hW0⟩ : ∃ W0, w.alloc (.cells #[.slice (some ⟨pg, 0, none⟩) n pc, .slice (some ⟨dg, 0, none⟩) L dc] 35) = W0 := ⟨_, rfl⟩
  have HB0 := Lib.hid (show Below w.heap.size w W0 by rw [← hW0]; exact below_alloc _ _)
  have hh0 : W0.heap[w.heap.size]? = some (.cells #[.slice (some ⟨pg, 0, none⟩) n pc, .slice (some ⟨dg, 0, none⟩) L dc] 35 (0, 0)) := by rw [← hW0]; exact heap_new w _
  have HH0 := Lib.hid hh0
  obtain ⟨c0, c1⟩ := ow_cells hh0
  clear h hL hh0
  have h1 : decide ((n : Int) < 2) = false := by simp; omega
  have h2 : decide ((n : Int) > 5) = false := by simp; omega
  have h3 : decide ((L : Int) > 8) = false := by simp; omega
  go_enter Tryz.func38, Tryz.ntmps38
  go_upto_region 5 with fail
  clear hW0
  go_wp2_with fail
  go_loopw [24] (fun i wr => ∃ k : Nat, k ≤ n ∧ i = .int .i64 k ∧ Below W0.heap.size W0 wr) (fun i _ => n - (intOf i).toNat)
  case atStart => exact ⟨0, Nat.zero_le _, rfl, Below.refl _ _⟩
  case round =>
    obtain ⟨k, hk, rfl, hbr⟩ := hrel
    have HBR := Lib.hid hbr
    by_cases hkn : k < n
    · have hkl : (k : Int) < (n : Int) := by omega
      have hk0 : (0 : Int) ≤ (k : Int) := by omega
      have cp := (H.out.below (below_trans HB0.out hbr)).pu k hkn
      clear hbr
      go_wp2_with (go_at_call 57; refine (HCC.out _).mono ?_; rintro q w2 ⟨rfl, hb2⟩)
      go_roundw
      case rel => exact ⟨k + 1, by omega, by go_num, below_trans HBR.out hb2⟩
      case measure => simp only [intOf]; omega
    · have hkl : ¬ ((k : Int) < (n : Int)) := by omega
      obtain ⟨d0, d1⟩ := ow_cells (below_heap hbr HH0.out)
      clear hbr
      go_wp2_with fail
      go_loopw [43] (fun i wr => ∃ k : Nat, k ≤ L ∧ i = .int .i64 k ∧ Below W0.heap.size W0 wr) (fun i _ => L - (intOf i).toNat)
      case atStart => exact ⟨0, Nat.zero_le _, rfl, HBR.out⟩
      case round =>
        obtain ⟨j, hj, rfl, hbj⟩ := hrel
        have HBJ := Lib.hid hbj
        by_cases hjn : j < L
        · have hjl : (j : Int) < (L : Int) := by omega
          have hj0 : (0 : Int) ≤ (j : Int) := by omega
          have hO := H.out.below (below_trans HB0.out hbj)
          obtain ⟨e0, e1, e2⟩ := hO.de j (by have := HL.out; omega)
          have hv := hO.val1 (i := j) (by have := HL.out; omega)
          obtain ⟨p, hp⟩ : ∃ p, Ps[j]?.getD 0 = p := ⟨_, rfl⟩
          rw [hp] at e2 hv
          have HCJ := Lib.hid (fun w => HCD.out j p w hjn hv.1 hv.2)
          have hcast : (((j + 1 : Nat)) : Int) = (j : Int) + 1 := by omega
          rw [hcast] at HCJ
          have g0 := fun o => below_heap (below_trans hbj (below_alloc _ o)) HH0.out
          have g1 := fun o => (ow_cells (g0 o)).1
          clear hbj hO hv hp hcast g0
          go_wp2_with (go_at_call 58; refine (HCJ.out _).mono ?_; rintro q w2 ⟨rfl, hb2⟩)
          go_roundw
          case rel => exact ⟨j + 1, by omega, by go_num, below_trans HBJ.out (below_trans (below_alloc _ _) hb2)⟩
          case measure => simp only [intOf]; omega
        · have hjl : ¬ ((j : Int) < (L : Int)) := by omega
          clear hbj
          go_wp2_with fail
          go_ret
          exact ⟨rfl, below_trans HB0.out HBJ.out⟩
end Go.Proofs.YtemoepcfmpapoaaGreatDoor

/-
  debt: the nets of an owing of a horse that was sold on and on; the owing at work; by contract.
-/
namespace Go.Proofs.YtemoepcfmpapoaaGreatDoor
open Go.RowKit Go.Proofs Go.Shelf
attribute [local go_sem] Oper.semAt_some

set_option maxRecDepth 100000
/-- The net of person i behind the first j debts. -/
def netAt (Ps : List Int) (j i : Nat) : Int := (if i < j then Ps[i]?.getD 0 else 0) - (if 0 < i ∧ i ≤ j then Ps[i - 1]?.getD 0 else 0)
def netL (Ps : List Int) : List Int := (List.range 5).map (netAt Ps Ps.length)
theorem netAt_zero (Ps : List Int) (i : Nat) : netAt Ps 0 i = 0 := by
  unfold netAt
  rw [if_neg (by omega), if_neg (by omega)]
  rfl
theorem netAt_from (Ps : List Int) (j : Nat) : netAt Ps (j + 1) (j + 1) = netAt Ps j (j + 1) - Ps[j]?.getD 0 := by
  unfold netAt
  rw [if_neg (by omega), if_pos (by omega), if_neg (by omega), if_neg (by omega)]
  simp
theorem netAt_to (Ps : List Int) (j : Nat) : netAt Ps (j + 1) j = netAt Ps j j + Ps[j]?.getD 0 := by
  unfold netAt
  rw [if_pos (show j < j + 1 by omega), if_neg (show ¬ j < j by omega)]
  by_cases h : 0 < j
  · rw [if_pos (show 0 < j ∧ j ≤ j + 1 by omega), if_pos (show 0 < j ∧ j ≤ j by omega)]; omega
  · rw [if_neg (show ¬ (0 < j ∧ j ≤ j + 1) by omega), if_neg (show ¬ (0 < j ∧ j ≤ j) by omega)]; omega
theorem netAt_other (Ps : List Int) {i j : Nat} (h1 : i ≠ j) (h2 : i ≠ j + 1) : netAt Ps (j + 1) i = netAt Ps j i := by
  unfold netAt
  by_cases h : i < j
  · rw [if_pos (by omega), if_pos h]
    by_cases h3 : 0 < i
    · rw [if_pos (by omega), if_pos (by omega)]
    · rw [if_neg (by omega), if_neg (by omega)]
  · rw [if_neg (by omega), if_neg h, if_neg (by omega), if_neg (by omega)]
theorem netAt_bound {Ps : List Int} (hv : ∀ x ∈ Ps, 1 ≤ x ∧ x ≤ 9) (j i : Nat) : -9 ≤ netAt Ps j i ∧ netAt Ps j i ≤ 9 := by
  have h0 : ∀ k : Nat, 0 ≤ Ps[k]?.getD 0 ∧ Ps[k]?.getD 0 ≤ 9 := fun k => by
    by_cases hk : k < Ps.length
    · rw [List.getElem?_eq_getElem hk]
      have := hv _ (List.getElem_mem hk)
      simp only [Option.getD_some]
      omega
    · rw [List.getElem?_eq_none (by omega)]; simp
  unfold netAt
  have h1 := h0 i
  have h2 := h0 (i - 1)
  split <;> split <;> omega

/-- The nets so far, in the block N. -/
def NetB (Ps : List Int) (j N : Nat) (w : World) : Prop := ∃ cur, w.heap[N]? = some (.cells cur 63 (0, 0)) ∧ cur.size = 5 ∧ ∀ i, i < 5 → cur[i]? = some (.int .i64 (netAt Ps j i))
theorem NetB.cell {Ps : List Int} {j N : Nat} {w : World} (h : NetB Ps j N w) {i : Nat} (hi : i < 5) : w.cell? ⟨N, i, none⟩ = some (.int .i64 (netAt Ps j i)) := by
  obtain ⟨cur, hh, hs, hc⟩ := h
  simp [World.cell?, hh, hc i hi]
theorem NetB.free {Ps : List Int} {j N : Nat} {w : World} (h : NetB Ps j N w) (i : Nat) : w.frozen? ⟨N, i, none⟩ = false := by
  obtain ⟨cur, hh, hs, hc⟩ := h
  simp [World.frozen?, hh]
theorem NetB.heap {Ps : List Int} {j N : Nat} {w w' : World} (h : NetB Ps j N w) (hs : w'.heap[N]? = w.heap[N]?) : NetB Ps j N w' := by
  obtain ⟨cur, hh, r⟩ := h
  exact ⟨cur, hs.trans hh, r⟩
theorem NetB.step {Ps : List Int} {j N : Nat} {w : World} (h : NetB Ps j N w) (hj : j + 1 < 5) :
    NetB Ps (j + 1) N ((w.setCell ⟨N, j + 1, none⟩ (.int .i64 (netAt Ps j (j + 1) - Ps[j]?.getD 0))).setCell ⟨N, j, none⟩ (.int .i64 (netAt Ps j j + Ps[j]?.getD 0))) := by
  obtain ⟨cur, hh, hs, hc⟩ := h
  refine ⟨_, heap_setCell_cells (i := j) (heap_setCell_cells (i := j + 1) hh _) _, by simpa using hs, fun i hi => ?_⟩
  by_cases h1 : i = j
  · subst h1
    rw [Array.getElem?_setIfInBounds_self_of_lt (by simp; omega), netAt_to]
  · rw [Array.getElem?_setIfInBounds_ne (by omega)]
    by_cases h2 : i = j + 1
    · subst h2
      rw [Array.getElem?_setIfInBounds_self_of_lt (by omega), netAt_from]
    · rw [Array.getElem?_setIfInBounds_ne (by omega), hc i hi, netAt_other Ps h1 h2]

def nets5 (Ps : List Int) (j : Nat) : Value := .agg #[.int .i64 (netAt Ps j 0), .int .i64 (netAt Ps j 1), .int .i64 (netAt Ps j 2), .int .i64 (netAt Ps j 3), .int .i64 (netAt Ps j 4)]
theorem Tryz.infoNets : (Tryz.prog.info? 63).map (·.size) = some 5 := by kernel_rfl
set_option maxHeartbeats 3200000 in
theorem netsOf_any (n : Nat) (Ps : List Int) (pg pc dg dc : Nat) (w : World) (h : OwB n Ps pg pc dg dc w) :
    Calls Tryz.prog 60 #[.slice (some ⟨dg, 0, none⟩) Ps.length dc] w (ValEnd (nets5 Ps Ps.length) w) := by
  obtain ⟨L, hL⟩ : ∃ L, Ps.length = L := ⟨_, rfl⟩
  have hlen := h.len
  have hn5 := h.n5
  rw [hL] at hlen ⊢
  have H := Lib.hid h
  have HL := Lib.hid hL
  have hz : w.heap.size = w.heap.size := rfl
  obtain ⟨W0, hW0⟩ : ∃ W0, (w.alloc (.cells #[.int .i64 0, .int .i64 0, .int .i64 0, .int .i64 0, .int .i64 0] 63)).alloc (.cells #[.int .i64 0, .int .i64 0, .int .i64 0, .int .i64 0, .int .i64 0] 63) = W0 := ⟨_, rfl⟩
  have HB0 := Lib.hid (show Below w.heap.size w W0 by rw [← hW0]; exact below_trans (below_alloc w _) (below_alloc _ _))
  have HR0 := Lib.hid (show W0.heap[w.heap.size]? = some (.cells #[.int .i64 0, .int .i64 0, .int .i64 0, .int .i64 0, .int .i64 0] 63 (0, 0)) by rw [← hW0]; exact heap2_0 w _ _)
  have hn0 : NetB Ps 0 (w.heap.size + 1) W0 := ⟨_, by rw [← hW0]; exact heap2_1 w _ _, rfl, fun i hi => by
    rw [netAt_zero]
    rcases (by omega : i = 0 ∨ i = 1 ∨ i = 2 ∨ i = 3 ∨ i = 4) with rfl | rfl | rfl | rfl | rfl <;> rfl⟩
  have HN0 := Lib.hid hn0
  have hs0 : W0.heap.size = w.heap.size + 1 + 1 := by rw [← hW0]; simp
  have HS0 := Lib.hid hs0
  clear h hL hn0 hz hs0
  go_enter Tryz.func60, Tryz.ntmps60
  go_wp2_with fail
  go_loopw [8] (fun i wr => ∃ k : Nat, k ≤ L ∧ i = .int .i64 k ∧ NetB Ps k (w.heap.size + 1) wr ∧ RKeep (fun j => j ≠ w.heap.size + 1) W0 wr) (fun i _ => L - (intOf i).toNat)
  case atStart => exact ⟨0, Nat.zero_le _, rfl, HN0.out, RKeep.refl _ _⟩
  case round =>
    obtain ⟨j, hj, rfl, hnb, hkr⟩ := hrel
    have HNB := Lib.hid hnb
    have HKR := Lib.hid hkr
    by_cases hjn : j < L
    · have hjl : (j : Int) < (L : Int) := by omega
      have hj0 : (0 : Int) ≤ (j : Int) := by omega
      have hkw : RKeep (fun _ => True) w wr := ⟨Nat.le_trans HB0.out.size hkr.size, fun i hi _ => (hkr.same i (Nat.lt_of_lt_of_le hi HB0.out.size) (by omega)).trans (HB0.out.block i hi), (Env.below HB0.out).trans hkr.env⟩
      obtain ⟨e0, e1, e2⟩ := H.out.de j (by have := HL.out; omega)
      have e0' := hkw.cell trivial e0
      have e1' := hkw.cell trivial e1
      have e2' := hkw.cell trivial e2
      have hv := H.out.val1 (i := j) (by have := HL.out; omega)
      obtain ⟨p, hp⟩ : ∃ p, Ps[j]?.getD 0 = p := ⟨_, rfl⟩
      rw [hp] at e2' hv
      have n1 := hnb.cell (i := j + 1) (by omega)
      have n2 := hnb.cell (i := j) (by omega)
      have b1 := netAt_bound H.out.val j (j + 1)
      have b2 := netAt_bound H.out.val j j
      obtain ⟨x1, hx1⟩ : ∃ x1, netAt Ps j (j + 1) = x1 := ⟨_, rfl⟩
      obtain ⟨x2, hx2⟩ : ∃ x2, netAt Ps j j = x2 := ⟨_, rfl⟩
      rw [hx1] at n1 b1
      rw [hx2] at n2 b2
      have hw1 : IntKind.i64.wrap (x1 - p) = x1 - p := IntWalk.i64_in _ (by omega)
      have hw2 : IntKind.i64.wrap (x2 + p) = x2 + p := IntWalk.i64_in _ (by omega)
      have f1 := hnb.free (j + 1)
      have f2 := hnb.free j
      obtain ⟨W1, hW1⟩ : ∃ W1, wr.alloc (.cells #[.int .i64 ((j : Int) + 1), .int .i64 j, .int .i64 p] 43) = W1 := ⟨_, rfl⟩
      have hb1 : Below wr.heap.size wr W1 := by rw [← hW1]; exact below_alloc _ _
      have hlr : w.heap.size + 1 < wr.heap.size := World.block_lt_of_cell? _ _ n1
      obtain ⟨d0, d1, d2⟩ := cells3 (show W1.heap[wr.heap.size]? = some (.cells #[.int .i64 ((j : Int) + 1), .int .i64 j, .int .i64 p] 43 (0, 0)) by rw [← hW1]; exact heap_new wr _)
      have hnb1 := hnb.heap (hb1.block _ hlr)
      have hst := NetB.step hnb1 (by omega)
      rw [hp, hx1, hx2] at hst
      have HSTP := Lib.hid hst
      have HB1 := Lib.hid hb1
      obtain ⟨Nb, hNb⟩ : ∃ Nb, w.heap.size + 1 = Nb := ⟨_, rfl⟩
      replace n1 := below_cell hb1 n1
      replace n2 := below_cell hb1 n2
      replace f1 := hnb1.free (j + 1)
      replace f2 := hnb1.free j
      have hj1 : (0 : Int) ≤ (j : Int) + 1 := by omega
      have hj15 : (j : Int) + 1 < 5 := by omega
      have hj5 : (j : Int) < 5 := by omega
      have htn : ((j : Int) + 1).toNat = j + 1 := by omega
      have hLR := Lib.hid hlr
      have hne : j + 1 ≠ j := by omega
      have hne' : j ≠ j + 1 := by omega
      have hdb : wr.heap.size ≠ Nb := by omega
      clear e0 e1 e2 hst hkw hv hp hx1 hx2 hnb hkr b1 b2 hnb1 hb1 hlr
      go_upto_region 5 with fail
      clear hW1
      rw [hNb] at n1 n2 f1 f2 HSTP ⊢
      have HNB' := Lib.hid hNb
      clear hNb
      have y1 : (W1.setCell ⟨Nb, j + 1, none⟩ (.int .i64 (x1 - p))).cell? ⟨wr.heap.size, 1, none⟩ = some (.int .i64 j) := (World.cell?_setCell_other _ _ _ _ (fun e => hdb (by cases e; rfl))).trans d1
      have y2 : (W1.setCell ⟨Nb, j + 1, none⟩ (.int .i64 (x1 - p))).cell? ⟨wr.heap.size, 2, none⟩ = some (.int .i64 p) := (World.cell?_setCell_other _ _ _ _ (fun e => hdb (by cases e; rfl))).trans d2
      have y3 : (W1.setCell ⟨Nb, j + 1, none⟩ (.int .i64 (x1 - p))).cell? ⟨Nb, j, none⟩ = some (.int .i64 x2) := (World.cell?_setCell_other _ _ _ _ (fun e => by cases e)).trans n2
      have y4 : (W1.setCell ⟨Nb, j + 1, none⟩ (.int .i64 (x1 - p))).frozen? ⟨Nb, j, none⟩ = false := (World.frozen?_setCell _ _ _ _).trans f2
      have HY := Lib.hid (And.intro y1 (And.intro y2 (And.intro y3 y4)))
      clear y1 y2 y3 y4
      go_region
      all_goals go_wp2_with fail
      obtain ⟨y1, y2, y3, y4⟩ := HY.out
      have hsX : (W1.setCell ⟨Nb, j + 1, none⟩ (.int .i64 (x1 - p))).heap.size = W1.heap.size := by simp
      obtain ⟨X, hX⟩ : ∃ X, W1.setCell ⟨Nb, j + 1, none⟩ (.int .i64 (x1 - p)) = X := ⟨_, rfl⟩
      rw [hX] at y1 y2 y3 y4 ⊢
      have HX := Lib.hid hX
      clear hX hsX d0 d1 d2 n1 n2 f1 f2 HY
      go_region
      all_goals go_wp2_with fail
      obtain rfl := HNB'.out
      obtain rfl := HX.out
      go_roundw
      case rel =>
        refine ⟨j + 1, by omega, by go_num, ?_, ?_⟩
        · exact HSTP.out.heap rfl
        · have h9 := (HKR.out.trans (RKeep.of_below (K := fun i => i ≠ w.heap.size + 1) HB1.out)).trans ((RKeep.setCell (K := fun i => i ≠ w.heap.size + 1) (X := W1) (w.heap.size + 1) (j + 1) (fun h => h rfl) (.int .i64 (x1 - p))).trans (RKeep.setCell (K := fun i => i ≠ w.heap.size + 1) (X := W1.setCell ⟨w.heap.size + 1, j + 1, none⟩ (.int .i64 (x1 - p))) (w.heap.size + 1) j (fun h => h rfl) (.int .i64 (x2 + p))))
          exact ⟨h9.size, h9.same, ⟨h9.env.os, h9.env.tape, h9.env.output⟩⟩
      case measure => simp only [intOf]; omega
    · have hjl : ¬ ((j : Int) < (L : Int)) := by omega
      obtain rfl : j = L := by omega
      have hrr := hkr.heap (k := w.heap.size) (by omega) HR0.out
      have HRR := Lib.hid hrr
      have HT := Lib.hid (known_there (o := 0) (n := 5) hrr (by simp))
      have HIN := Lib.hid Tryz.infoNets
      have q0 := hnb.cell (i := 0) (by omega)
      have q1 := hnb.cell (i := 1) (by omega)
      have q2 := hnb.cell (i := 2) (by omega)
      have q3 := hnb.cell (i := 3) (by omega)
      have q4 := hnb.cell (i := 4) (by omega)
      clear hrr hnb hkr
      go_wp2_with (refine wpList_store_mid rfl 63 (.tmp 2) (.tmp 29) rfl w.heap.size 0 #[.int .i64 (netAt Ps j 0), .int .i64 (netAt Ps j 1), .int .i64 (netAt Ps j 2), .int .i64 (netAt Ps j 3), .int .i64 (netAt Ps j 4)] rfl rfl HT.out HIN.out (by simp [Value.oneCell']) ?_)
      refine bodyPost_ret (v := nets5 Ps j) (by simp [results, Tryz.results60, go_sem, nets5, World.cell?, heap_setCells _ _ HRR.out, putAll]) rfl ⟨rfl, ?_⟩
      have hk9 : RKeep (fun k => k < w.heap.size) W0 wr := HKR.out.mono fun k _ hk => by omega
      exact below_setCells (Nat.le_refl _) _ _ ⟨hk9.env.os.trans HB0.out.os, hk9.env.tape.trans HB0.out.tape, hk9.env.output.trans HB0.out.output, Nat.le_trans HB0.out.size hk9.size, fun i hi => (hk9.same i (Nat.lt_of_lt_of_le hi HB0.out.size) hi).trans (HB0.out.block i hi)⟩
end Go.Proofs.YtemoepcfmpapoaaGreatDoor
