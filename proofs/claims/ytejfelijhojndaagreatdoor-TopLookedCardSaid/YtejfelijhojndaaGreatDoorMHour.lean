/-
  'of', 'joins' and the question of Same, by contracts.
-/
import Derived.Test.YtejfelijhojndaaGreatDoorMSets
import Derived.Laws.StructEq
namespace Go.Proofs.YtejfelijhojndaaGreatDoor
open Go.RowKit Go.Proofs

/-- The horse of entry n in a parting. -/
def ofL (P : List Nat) (n : Nat) : Nat := (P.find? fun h => h.testBit n).getD 0
theorem ofL_hit {P : List Nat} {n k : Nat} (hk : k < P.length) (hno : ∀ j, j < k → (P[j]?.getD 0).testBit n = false) (h : P[k].testBit n = true) : ofL P n = P[k] := by
  have : P.find? (fun h => h.testBit n) = some P[k] := by
    rw [List.find?_eq_some_iff_getElem]
    exact ⟨h, k, hk, rfl, fun j hj => by have := hno j hj; simp [show j < P.length by omega] at this; simp [this]⟩
  rw [ofL, this]; rfl
theorem ofL_none {P : List Nat} {n : Nat} (hno : ∀ j, j < P.length → (P[j]?.getD 0).testBit n = false) : ofL P n = 0 := by
  have : P.find? (fun h => h.testBit n) = none := by
    rw [List.find?_eq_none]
    intro x hx
    obtain ⟨j, hj, rfl⟩ := List.getElem_of_mem hx
    have := hno j hj
    simpa [hj] using this
  rw [ofL, this]; rfl

def OneHorse (h : Nat) (w : World) (e : Ending) (w' : World) : Prop := e = .returned (.agg #[.int .u8 (h : Nat)]) ∧ Below w.heap.size w w'

set_option maxRecDepth 100000 in
set_option maxHeartbeats 800000 in
theorem of_any (v : Value) (P : List Nat) (n : Nat) (w : World) (hv : PL w v P) (hP : ∀ x ∈ P, x < 256) (hn : n < 8) (hlen : P.length ≤ 100) :
    Calls Tryz.prog 35 #[v, .int .i64 n] w (OneHorse (ofL P n) w) := by
  obtain ⟨g, cap, rfl, hc⟩ := hv
  have HC := Lib.hid hc
  have HPP := Lib.hid hP
  clear hc hP
  go_enter Tryz.func35, Tryz.ntmps35
  go_wp2_with fail
  go_loopw [9] (fun i wr => ∃ k : Nat, k ≤ P.length ∧ i = .int .i64 k ∧ (∀ j, j < k → (P[j]?.getD 0).testBit n = false) ∧ Below w.heap.size w wr ∧ wr.heap[w.heap.size]? = some (.cells #[.int .u8 0] 95 (0, 0)))
    (fun i _ => P.length - (intOf i).toNat)
  case atStart => exact ⟨0, Nat.zero_le _, rfl, fun j hj => absurd hj (Nat.not_lt_zero j), (Below.refl _ w).alloc (Nat.le_refl _) _, heap_new w _⟩
  case round =>
    obtain ⟨k, hk, rfl, hno, hbl, hres⟩ := hrel
    have hlr : w.heap.size < wr.heap.size := (Array.getElem?_eq_some_iff.1 hres).1
    by_cases hlt : k < P.length
    · obtain ⟨x, hx⟩ : ∃ x, P[k] = x := ⟨_, rfl⟩
      have hx256 : x < 256 := by rw [← hx]; exact HPP.out _ (List.getElem_mem hlt)
      have hck : wr.cell? ⟨g, k, none⟩ = some (.int .u8 (x : Nat)) := by
        have h := HC.out k hlt
        have hgd : P[k]?.getD 0 = x := by simp [hlt, hx]
        rw [hgd] at h
        exact (hbl.cell (p := ⟨g, k, none⟩) (World.block_lt_of_cell? w _ h)).trans h
      have HX := Lib.hid hx
      have HNO := Lib.hid hno
      have HBL := Lib.hid hbl
      have HRES := Lib.hid hres
      clear hx hno hbl hres
      go_wp2_with fail
      refine (has_any x n _ hx256 hn).mono ?_
      rintro e w2 ⟨rfl, hb2⟩
      have hcx : w2.cell? ⟨wr.heap.size, 0, none⟩ = some (.int .u8 (x : Nat)) := by
        refine (hb2.cell (p := ⟨wr.heap.size, 0, none⟩) (by simp)).trans ?_
        simp
      have hcr : w2.cell? ⟨w.heap.size, 0, none⟩ = some (.int .u8 0) := by
        refine (hb2.cell (p := ⟨w.heap.size, 0, none⟩) (by simp; omega)).trans ?_
        rw [World.cell?_alloc_lt _ _ _ hlr]; exact cell_of_one HRES.out
      have hfr : w2.frozen? ⟨w.heap.size, 0, none⟩ = false := by
        refine (hb2.frozen (p := ⟨w.heap.size, 0, none⟩) (by simp; omega)).trans ?_
        rw [World.frozen?_alloc_old _ _ _ (Nat.ne_of_lt hlr)]; exact free_of_one HRES.out
      have HB2 := Lib.hid (show Below w.heap.size w w2 from (HBL.out.alloc (by omega) _).trans (hb2.mono (by simp; omega)))
      have HR2 := Lib.hid (show w2.heap[w.heap.size]? = some (.cells #[.int .u8 0] 95 (0, 0)) from (hb2.block _ (by simp; omega)).trans ((Below.heap_alloc _ _ _ hlr).trans HRES.out))
      clear hb2
      cases hbit : x.testBit n with
      | true =>
        go_wp2_with fail
        refine bodyPost_ret (v := .agg #[.int .u8 (x : Nat)]) ?_ rfl ?_
        · simp [results, Tryz.results35, go_sem, hcr]
        · refine ⟨?_, HB2.out.setCell (by exact Nat.le_refl _) _⟩
          rw [ofL_hit hlt HNO.out (by rw [HX.out]; exact hbit), HX.out]
      | false =>
        have HBIT := Lib.hid hbit
        clear hbit
        go_wp2_with fail
        go_roundw
        case rel =>
          refine ⟨k + 1, by omega, by go_num, fun j hj => ?_, HB2.out, HR2.out⟩
          rcases Nat.lt_succ_iff_lt_or_eq.1 hj with h | rfl
          · exact HNO.out j h
          · have := HX.out
            simp only [hlt, getElem?_pos, Option.getD_some]
            rw [this]; exact HBIT.out
        case measure => simp [intOf]; omega
    · have HKL := Lib.hid (show k = P.length by omega)
      have HNO := Lib.hid hno
      have HBL := Lib.hid hbl
      have hcr := cell_of_one hres
      have hfr := free_of_one hres
      clear hno hbl hres
      go_wp2_with fail
      refine bodyPost_ret (v := .agg #[.int .u8 0]) ?_ rfl ?_
      · simp [results, Tryz.results35, go_sem, hcr]
      · refine ⟨?_, HBL.out.setCell (by exact Nat.le_refl _) _⟩
        rw [ofL_none (fun j hj => HNO.out j (by have := HKL.out; omega))]
        rfl

theorem ofL_lt {P : List Nat} (hP : ∀ x ∈ P, x < 256) (n : Nat) : ofL P n < 256 := by
  unfold ofL
  cases h : P.find? (fun h => h.testBit n) with
  | none => simp
  | some x => exact hP x (List.mem_of_find?_eq_some h)

set_option maxRecDepth 100000 in
set_option maxHeartbeats 800000 in
theorem joins_any (v : Value) (P : List Nat) (x y : Nat) (w : World) (hv : PL w v P) (hP : ∀ x ∈ P, x < 256) (hx : x < 8) (hy : y < 8) (hlen : P.length ≤ 100) :
    Calls Tryz.prog 25 #[v, .int .i64 x, .int .i64 y] w fun e w' => e = .returned (.bool (ofL P x == ofL P y)) ∧ Below w.heap.size w w' := by
  have O1 := Lib.hid (of_any v P x w hv hP hx hlen)
  have O2 := Lib.hid (fun (w2 : World) (h : Below w.heap.size w w2) => of_any v P y w2 (by
    obtain ⟨g, cap, rfl, hc⟩ := hv
    exact ⟨g, cap, rfl, fun j hj => (h.cell (p := ⟨g, j, none⟩) (World.block_lt_of_cell? w _ (hc j hj))).trans (hc j hj)⟩) hP hy hlen)
  clear hv
  go_enter Tryz.func25, Tryz.ntmps25
  go_wp2_with fail
  refine O1.out.mono ?_
  rintro e w2 ⟨rfl, hb⟩
  have HB := Lib.hid hb
  have O3 := Lib.hid (O2.out w2 hb)
  clear hb
  go_wp2_with fail
  refine O3.out.mono ?_
  rintro e w3 ⟨rfl, hb⟩
  have HB3 := Lib.hid hb
  clear hb
  go_wp2_with fail
  all_goals
    go_ret
    refine ⟨?_, HB.out.trans (HB3.out.mono HB.out.size)⟩
    first
      | (have h : ((ofL P x : Nat) : Int) = (ofL P y : Nat) := by assumption
         have h2 : (ofL P x == ofL P y) = true := by simp; omega
         rw [h2]; rfl)
      | (have h : ¬ ((ofL P x : Nat) : Int) = (ofL P y : Nat) := by assumption
         have h2 : (ofL P x == ofL P y) = false := by simp; omega
         rw [h2]; rfl)

set_option maxRecDepth 100000 in
theorem same1_any (v : Value) (P : List Nat) (x y b1 b2 : Nat) (w : World) (hv : PL w v P) (hP : ∀ x ∈ P, x < 256) (hx : x < 8) (hy : y < 8) (hlen : P.length ≤ 100)
    (h1 : w.cell? ⟨b1, 0, none⟩ = some (.int .i64 x)) (h2 : w.cell? ⟨b2, 0, none⟩ = some (.int .i64 y)) :
    Calls Tryz.prog 24 #[v, .pointer (some ⟨b1, 0, none⟩), .pointer (some ⟨b2, 0, none⟩)] w fun e w' => e = .returned (.bool (ofL P x == ofL P y)) ∧ Below w.heap.size w w' := by
  have HJ := joins_any v P x y w hv hP hx hy hlen
  generalize (ofL P x == ofL P y) = bb at HJ ⊢
  have HJJ := Lib.hid HJ
  clear HJ
  clear hv
  go_enter Tryz.func24, Tryz.ntmps24
  go_wp2_with fail
  refine HJJ.out.mono ?_
  rintro e w2 ⟨rfl, hb⟩
  have HB := Lib.hid hb
  clear hb
  go_wp2_with fail
  go_ret
  exact ⟨rfl, HB.out⟩
end Go.Proofs.YtejfelijhojndaaGreatDoor

/-
  'ways' and 'all': the iterator over all ways of a fair at work, by contract.
-/
namespace Go.Proofs.YtejfelijhojndaaGreatDoor
open Go.RowKit Go.Proofs Go.Shelf

/-- A fair at work, as far as the ways look into it. -/
structure WorkAt (Wk M n most : Nat) (mo : Obj) (w : World) : Prop where
  ents : ∃ ae cape, w.cell? ⟨Wk, 0, none⟩ = some (.slice ae n cape)
  most : w.cell? ⟨Wk, 5, none⟩ = some (.int .i64 most)
  canp : w.cell? ⟨Wk, 6, none⟩ = some (.map (some M))
  map : w.heap[M]? = some mo

theorem below_cell {w w' : World} (h : Below w.heap.size w w') {a : Addr} {v : Value} (hc : w.cell? a = some v) : w'.cell? a = some v := (h.cell (World.block_lt_of_cell? w _ hc)).trans hc
theorem below_heap {w w' : World} (h : Below w.heap.size w w') {k : Nat} {o : Obj} (hc : w.heap[k]? = some o) : w'.heap[k]? = some o := (h.block k (Array.getElem?_eq_some_iff.1 hc).1).trans hc
theorem WorkAt.below {Wk M n most : Nat} {mo : Obj} {w w' : World} (h : WorkAt Wk M n most mo w) (hb : Below w.heap.size w w') : WorkAt Wk M n most mo w' := by
  obtain ⟨ae, cape, he⟩ := h.ents
  exact ⟨⟨ae, cape, below_cell hb he⟩, below_cell hb h.most, below_cell hb h.canp, below_heap hb h.map⟩
theorem Ahead.below {Bs Br Bw Wk M Rb n most : Nat} {mo : Obj} {v : Value} {rs : List Nat} {w w' : World} (h : Ahead Bs Br Bw Wk M Rb n most mo v rs w) (hb : Below w.heap.size w w') : Ahead Bs Br Bw Wk M Rb n most mo v rs w' := by
  refine ⟨below_heap hb h.bs, below_heap hb h.br, below_heap hb h.bw, below_cell hb h.most, below_cell hb h.canp, below_heap hb h.map, ?_, h.len⟩
  obtain ⟨a, cap, hv, hcap, hc⟩ := h.rl
  refine ⟨a, cap, hv, hcap, fun hl => ?_⟩
  obtain ⟨ro, ha, hd⟩ := hc hl
  exact ⟨ro, ha, fun j hj => below_cell hb (hd j hj)⟩

def AllEnd (Wk M n most : Nat) (mo : Obj) (w : World) (e : Ending) (w' : World) : Prop :=
  ∃ (b Rb : Nat) (v : Value), e = .returned (.func (.func 75) #[] #[.pointer (some ⟨b + 1, 0, none⟩), .pointer (some ⟨b + 1 + 1, 0, none⟩), .pointer (some ⟨b, 0, none⟩)]) ∧
    Ahead (b + 1) (b + 1 + 1) b Wk M Rb n most mo v (List.range n) w' ∧ Below w.heap.size w w' ∧ w.heap.size ≤ b ∧ b + 1 + 1 < w'.heap.size ∧ w.heap.size ≤ Rb ∧ Rb < w'.heap.size

theorem three_heap (W : World) (o0 o1 o2 : Obj) :
    (∀ k, k < W.heap.size → (((W.alloc o0).alloc o1).alloc o2).heap[k]? = W.heap[k]?) ∧ (((W.alloc o0).alloc o1).alloc o2).heap[W.heap.size]? = some o0 ∧
    (((W.alloc o0).alloc o1).alloc o2).heap[W.heap.size + 1]? = some o1 ∧ (((W.alloc o0).alloc o1).alloc o2).heap[W.heap.size + 1 + 1]? = some o2 := by
  show (∀ k, k < W.heap.size → (((W.heap.push o0).push o1).push o2)[k]? = W.heap[k]?) ∧ (((W.heap.push o0).push o1).push o2)[W.heap.size]? = some o0 ∧
    (((W.heap.push o0).push o1).push o2)[W.heap.size + 1]? = some o1 ∧ (((W.heap.push o0).push o1).push o2)[W.heap.size + 1 + 1]? = some o2
  simp only [Array.getElem?_push, Array.size_push]
  refine ⟨fun k hk => ?_, ?_, ?_, ?_⟩
  · rw [if_neg (by omega), if_neg (by omega), if_neg (by omega)]
  · rw [if_neg (by omega), if_neg (by omega), if_pos trivial]
  · rw [if_neg (by omega), if_pos trivial]
  · rw [if_pos trivial]

/-- 'ways': the parameters are boxed, the iterator captures the boxes. -/
theorem ways_any (Wk : Nat) (v2 : Value) (h2 : ∃ a n c, v2 = .slice a n c) (w : World) :
    Calls Tryz.prog 61 #[.pointer (some ⟨Wk, 0, none⟩), .slice none 0 0, v2] w fun e w' =>
      e = .returned (.func (.func 75) #[] #[.pointer (some ⟨w.heap.size + 1, 0, none⟩), .pointer (some ⟨w.heap.size + 1 + 1, 0, none⟩), .pointer (some ⟨w.heap.size, 0, none⟩)]) ∧
      w' = ((w.alloc (.cells #[.pointer (some ⟨Wk, 0, none⟩)] 65)).alloc (.cells #[.slice none 0 0] 70)).alloc (.cells #[v2] 22) := by
  have hmf : ∀ (fn : Fn) (first cap : Array Value) (w : World), (Instr.makeFunc fn first cap).run Tryz.prog w = .ok (.func fn first cap) w := fun _ _ _ _ => rfl
  obtain ⟨a, n, c, rfl⟩ := h2
  go_enter Tryz.func61, Tryz.ntmps61
  go_wp2_with fail
  go_ret
  exact ⟨rfl, rfl⟩

theorem slice_of_owns {w : World} {base n : Nat} {e : TypeId} {v : Value} {xs : List Value} (h : w.ownsRow base e 1 v n xs) : ∃ a cap, v = .slice a n cap ∧ n ≤ cap ∧ (0 < n → ∃ g, a = some ⟨g, 0, none⟩ ∧ base ≤ g ∧ g < w.heap.size ∧ ∀ j, j < n → w.cell? ⟨g, j, none⟩ = xs[j]?) := by
  obtain ⟨h1, h2⟩ := h
  rcases h2 with ⟨rfl, rfl⟩ | ⟨g, cap, cur, rfl, hg, hh, hn, hm, hs, ht⟩
  · exact ⟨none, 0, rfl, Nat.le_refl _, fun h => absurd h (Nat.lt_irrefl 0)⟩
  · refine ⟨_, cap, rfl, hn, fun _ => ⟨g, rfl, hg, (Array.getElem?_eq_some_iff.1 hh).1, fun j hj => ?_⟩⟩
    rw [← ht, List.getElem?_take, if_pos (by omega)]
    simp [World.cell?, hh]

set_option maxRecDepth 100000 in
set_option maxHeartbeats 800000 in
theorem all_any (Wk M n most : Nat) (mo : Obj) (w : World) (hW : WorkAt Wk M n most mo w) (hn : n ≤ 100) :
    Calls Tryz.prog 45 #[.pointer (some ⟨Wk, 0, none⟩)] w (AllEnd Wk M n most mo w) := by
  obtain ⟨ae, cape, he⟩ := hW.ents
  have HE := Lib.hid (entries_any Wk n ae cape w hn he)
  have HW := Lib.hid hW
  clear hW he
  go_enter Tryz.func45, Tryz.ntmps45
  go_wp2_with fail
  refine HE.out.mono ?_
  rintro e w1 ⟨v, rfl, ho, hb⟩
  obtain ⟨a, cap, hv, hcap, hc⟩ := slice_of_owns ho
  have WA := Lib.hid (ways_any Wk v ⟨_, _, _, hv⟩ w1)
  have HB := Lib.hid hb
  have HC := Lib.hid hc
  have HV := Lib.hid hv
  clear ho hb hc hv
  go_wp2_with fail
  refine WA.out.mono ?_
  rintro e w2 ⟨rfl, hw2⟩
  have HW2 := Lib.hid hw2
  clear hw2
  go_wp2_with fail
  go_ret
  obtain ⟨g0, g1, g2, g3⟩ := three_heap w1 (.cells #[.pointer (some ⟨Wk, 0, none⟩)] 65) (.cells #[.slice none 0 0] 70) (.cells #[v] 22)
  rw [← HW2.out] at g0 g1 g2 g3
  have hs2 : w2.heap.size = w1.heap.size + 1 + 1 + 1 := by rw [HW2.out]; simp
  have hb1 : Below w1.heap.size w1 w2 := by
    rw [HW2.out]; exact (((Below.refl _ w1).alloc (Nat.le_refl _) _).alloc (by simp) _).alloc (by simp; omega) _
  have hbw : Below w.heap.size w w2 := HB.out.trans (hb1.mono HB.out.size)
  have W2 := HW.out.below hbw
  have hs1 := HB.out.size
  rcases Nat.eq_zero_or_pos (List.range n).length with h0 | h0
  · refine ⟨w1.heap.size, w1.heap.size, v, rfl, ⟨g2, g3, g1, W2.most, W2.canp, W2.map, ⟨a, cap, HV.out, hcap, fun h => by omega⟩, by simp⟩, hbw, hs1, by omega, hs1, by omega⟩
  · obtain ⟨g, ha, hbg, hg, hcell⟩ := HC.out h0
    refine ⟨w1.heap.size, g, v, rfl, ⟨g2, g3, g1, W2.most, W2.canp, W2.map, ⟨a, cap, HV.out, hcap, fun _ => ⟨0, ha, fun j hj => ?_⟩⟩, by simp⟩, hbw, hs1, by omega, hbg, by omega⟩
    rw [Nat.zero_add]
    refine (hb1.cell (p := ⟨g, j, none⟩) hg).trans ((hcell j hj).trans ?_)
    have hj' : j < n := by simpa using hj
    simp [nvals, hj']

/-- The iterator that 'all' hands back keeps the word that loops over ways ask of it. -/
theorem seqOK_of_ahead (Wk M n most b Rb : Nat) (mo : Obj) (can : Nat → Bool) (v : Value) (w0 w : World) (S : Nat → Prop) (hA : Ahead (b + 1) (b + 1 + 1) b Wk M Rb n most mo v (List.range n) w) (hn : n ≤ 8)
    (hS : ∀ k, S k → k < w0.heap.size) (hWk : ¬ S Wk) (hM : ¬ S M) (hb : w0.heap.size ≤ b) (hRb : w0.heap.size ≤ Rb) (hRb2 : Rb < w.heap.size)
    (hlook : ∀ (W : World) (h : Nat), W.heap[M]? = some mo → h < 256 → (Instr.lookup 118 (.map (some M)) (.agg #[.int .u8 h]) false).run Tryz.prog W = .ok (.bool (can h)) W) :
    SeqOK 75 #[.pointer (some ⟨b + 1, 0, none⟩), .pointer (some ⟨b + 1 + 1, 0, none⟩), .pointer (some ⟨b, 0, none⟩)] (fillL can most (List.range n) []) S w := by
  intro l K W J Jx hK hKb hbl hJ hJx hY hj
  have hlt : ∀ {k o}, w.heap[k]? = some o → k < w.heap.size := fun h => (Array.getElem?_eq_some_iff.1 h).1
  refine seq_any (b + 1) (b + 1 + 1) b Wk M Rb n most l mo K can v (List.range n) W (hA.below hbl) hn (fun r hr => by have := List.mem_range.1 hr; omega)
    ⟨hK _ (hlt hA.bw) (fun h => by have := hS _ h; omega), hK _ (World.block_lt_of_cell? w _ hA.most) hWk, hK _ (hlt hA.map) hM, hK _ hRb2 (fun h => by have := hS _ h; omega)⟩
    hKb (by have := hbl.size; omega) hlook J Jx hJ hJx (hY _ rfl rfl rfl) hj
end Go.Proofs.YtejfelijhojndaaGreatDoor

/-
  'parted' and 'tally': loops over all ways, by contracts.
-/
namespace Go.Proofs.YtejfelijhojndaaGreatDoor
open Go.RowKit Go.Proofs Go.Shelf
attribute [local go_sem] Oper.semAt_some

def LookOK (M : Nat) (mo : Obj) (can : Nat → Bool) : Prop := ∀ (W : World) (h : Nat), W.heap[M]? = some mo → h < 256 → (Instr.lookup 118 (.map (some M)) (.agg #[.int .u8 h]) false).run Tryz.prog W = .ok (.bool (can h)) W

set_option maxRecDepth 100000 in
set_option maxHeartbeats 1600000 in
theorem parted_any (Wk M n most : Nat) (mo : Obj) (can : Nat → Bool) (w : World) (hW : WorkAt Wk M n most mo w) (hn : n ≤ 8) (hlook : LookOK M mo can) :
    Calls Tryz.prog 33 #[.pointer (some ⟨Wk, 0, none⟩)] w fun e w' => e = .returned (.bool (!(fillL can most (List.range n) []).isEmpty)) ∧ Below w.heap.size w w' := by
  obtain ⟨W1, hW1⟩ : ∃ W1, w.alloc (.cells #[.bool false] 4) = W1 := ⟨_, rfl⟩
  have hs1 : W1.heap.size = w.heap.size + 1 := by rw [← hW1]; simp
  have hb1 : Below w.heap.size w W1 := by rw [← hW1]; exact (Below.refl _ w).alloc (Nat.le_refl _) _
  have hr1 : W1.heap[w.heap.size]? = some (.cells #[.bool false] 4 (0, 0)) := by rw [← hW1]; exact heap_new w _
  have HAll := Lib.hid (all_any Wk M n most mo W1 (hW.below hb1) (by omega))
  have lWk := World.block_lt_of_cell? w _ hW.most
  have lM := (Array.getElem?_eq_some_iff.1 hW.map).1
  refine (callsIn_wide (n := 5)).1 ?_
  refine callsIn_of_wp_marks Tryz.func33 rfl trivial ?_ rfl
  simp only [Tryz.ntmps33, List.size_toArray, List.length_cons, List.length_nil, Nat.reduceAdd, Nat.reduceSub, Array.replicate_succ, Array.replicate_zero, List.push_toArray, List.append_toArray, List.nil_append, List.cons_append]
  gi_wp2
  have HW1 := Lib.hid hW1
  have HR1 := Lib.hid hr1
  have HB1 := Lib.hid hb1
  clear hW1 hr1 hb1 hW
  refine ⟨trivial, ?_⟩
  refine (callsIn_wide.2 HAll.out).mono ?_
  rintro e w2 ⟨b, Rb, v, rfl, hA, hb2, hb, hbs, hRb, hRb2⟩
  have hr2 := below_heap hb2 HR1.out
  have hbw2 : Below w.heap.size w w2 := HB1.out.trans (hb2.mono (by omega))
  have hsz2 : w.heap.size < w2.heap.size := by have := hb2.size; omega
  have hseq := seqOK_of_ahead Wk M n most b Rb mo can v W1 w2 (fun k => k = w.heap.size) hA hn (fun k hk => by omega) (by omega) (by omega) hb hRb hRb2 hlook
  have HS := Lib.hid hseq
  have HR2 := Lib.hid hr2
  have HB2 := Lib.hid hbw2
  clear hseq hr2 hbw2 hA hb2
  gi_wp2
  refine wp_range_ways (gf := 75) rfl (fun args w => by simp [go_sem]) (S := fun k => k = w.heap.size) (fun k hk => by omega) HS.out rfl
    (fun pre W => pre = [] ∧ W.heap[w.heap.size]? = some (.cells #[.bool false] 4 (0, 0)) ∧ Below w.heap.size w W)
    (fun c pre W => c = .ret ∧ pre ≠ [] ∧ W.heap[w.heap.size]? = some (.cells #[.bool true] 4 (0, 0)) ∧ Below w.heap.size w W)
    ?_ ?_ ⟨rfl, HR2.out, HB2.out⟩ (fun v => { tmps := #[.pointer (some ⟨Wk, 0, none⟩), undef, .pointer (some ⟨w.heap.size, 0, none⟩), .pointer (some ⟨Wk, 0, none⟩), .func (.func 75) #[] #[.pointer (some ⟨b + 1, 0, none⟩), .pointer (some ⟨b + 1 + 1, 0, none⟩), .pointer (some ⟨b, 0, none⟩)], v], defers := [] }) ?assign ?body ?done ?stop
  · rintro s A B ⟨h1, h2, h3⟩ hbl
    exact ⟨h1, (hbl.block _ hsz2).trans h2, h3.trans (hbl.mono (by omega))⟩
  · rintro c s A B ⟨h0, h1, h2, h3⟩ hbl
    exact ⟨h0, h1, (hbl.block _ hsz2).trans h2, h3.trans (hbl.mono (by omega))⟩
  case assign =>
    intro l m v W K hK
    gi_wp2
    first | exact hK | simpa using hK
  case body =>
    rintro l m pre x v W ⟨h1, h2, h3⟩ hpl _ _ hsz
    have hc := cell_of_one h2
    have hf := free_of_one h2
    have H2 := Lib.hid h2
    have H3 := Lib.hid h3
    clear h2 h3 hpl h1
    gi_wp2
    exact ⟨RoundS.setCell (S := fun k => k = w.heap.size) _ _ rfl _, rfl, by simp, one_setCell H2.out, H3.out.setCell (by exact Nat.le_refl _) _⟩
  case done =>
    rintro D W hD ⟨h1, h2, h3⟩ hK
    have hc := cell_of_one h2
    have hf := free_of_one h2
    have H1 := Lib.hid h1
    have H3 := Lib.hid h3
    have HK := Lib.hid hK
    clear h1 h2 h3 hK
    gi_wp2
    have hK2 : (W.setCell ⟨w.heap.size, 0, none⟩ (.bool false)).heap[D]? = some (.deferred (some [])) := (Below.heap_setCell _ _ _ _ (by show D ≠ w.heap.size; omega)).trans HK.out
    refine ⟨by simp, .inl ⟨_, _, rfl, run_takeDeferred hK2, ?_⟩⟩
    have hc4 : ((W.setCell ⟨w.heap.size, 0, none⟩ (.bool false)).putObj D (.deferred none)).cell? ⟨w.heap.size, 0, none⟩ = some (.bool false) :=
      (World.cell?_of_block (w := W.setCell ⟨w.heap.size, 0, none⟩ (.bool false)) (World.putObj_heap_other (by show w.heap.size ≠ D; omega))).trans (World.cell?_setCell_same _ _ _ hc)
    refine ⟨.bool false, by simp [results, Tryz.results33, go_sem, hc4], by rw [H1.out]; rfl, ?_⟩
    exact (H3.out.setCell (by exact Nat.le_refl _) _).grown (grownBy_putObj' _ D _) (by have := H3.out.size; simpa using this) (fun k e => by cases e; omega)
  case stop =>
    rintro D c pre W hD hpre ⟨rfl, h1, h2, h3⟩ hK
    have hc := cell_of_one h2
    have H1 := Lib.hid h1
    have H3 := Lib.hid h3
    have HK := Lib.hid hK
    clear h1 h2 h3 hK
    gi_wp2
    refine ⟨by simp, .inl ⟨_, _, rfl, run_takeDeferred HK.out, ?_⟩⟩
    have hc4 : (W.putObj D (.deferred none)).cell? ⟨w.heap.size, 0, none⟩ = some (.bool true) :=
      (World.cell?_of_block (w := W) (World.putObj_heap_other (by show w.heap.size ≠ D; omega))).trans hc
    refine ⟨.bool true, by simp [results, Tryz.results33, go_sem, hc4], ?_, ?_⟩
    · have hne : fillL can most (List.range n) [] ≠ [] := fun h => H1.out (List.prefix_nil.1 (h ▸ hpre))
      cases hf : fillL can most (List.range n) [] with
      | nil => exact absurd hf hne
      | cons x xs => rfl
    · exact H3.out.grown (grownBy_putObj' _ D _) H3.out.size (fun k e => by cases e; omega)

/-- How many ways q takes, and how many not. -/
def yesL (q : List Nat → Bool) (l : List (List Nat)) : Nat := (l.filter q).length
theorem yesL_snoc (q : List Nat → Bool) (l : List (List Nat)) (x : List Nat) : yesL q (l ++ [x]) = yesL q l + if q x then 1 else 0 := by
  simp only [yesL, List.filter_append, List.length_append, List.filter_cons, List.filter_nil]
  split <;> simp
theorem yesL_le (q : List Nat → Bool) (l : List (List Nat)) : yesL q l ≤ l.length := List.length_filter_le _ _

theorem wrap_zero : wrap64 ((0 : Nat) : Int) = 0 := by unfold wrap64; omega
theorem wrap_succ (a : Int) : wrap64 (wrap64 a + 1) = wrap64 (a + 1) := by unfold wrap64; omega

def TallyEnd (q : List Nat → Bool) (outs : List (List Nat)) (w : World) (e : Ending) (w' : World) : Prop :=
  e = .returned (.tuple #[.int .i64 (yesL q outs : Nat), .int .i64 (yesL (fun x => !q x) outs : Nat)]) ∧ Below w.heap.size w w'

set_option maxRecDepth 100000 in
set_option maxHeartbeats 1600000 in
theorem tally_any (Wk M n most kf : Nat) (first cap : Array Value) (mo : Obj) (can : Nat → Bool) (q : List Nat → Bool) (w : World) (hW : WorkAt Wk M n most mo w) (hn : n ≤ 8) (hlook : LookOK M mo can) (ek : ∀ args w, (callFunc kf args).run Tryz.prog w = .ok (.enter kf args) w)
    (hcall : ∀ (x : List Nat) (v : Value) (W' : World), PL W' v x → (∀ h ∈ x, h < 256) → x.length ≤ 8 → Below w.heap.size w W' → Calls Tryz.prog kf (first.push v ++ cap) W' fun e w'' => e = .returned (.bool (q x)) ∧ Below W'.heap.size W' w'')
    (hbig : (fillL can most (List.range n) []).length ≤ 1000000) :
    Calls Tryz.prog 34 #[.pointer (some ⟨Wk, 0, none⟩), .func (.func kf) first cap] w (TallyEnd q (fillL can most (List.range n) []) w) := by
  obtain ⟨W1, hW1⟩ : ∃ W1, ((w.alloc (.cells #[.func (.func kf) first cap] 72)).alloc (.cells #[.int .i64 0] 3)).alloc (.cells #[.int .i64 0] 3) = W1 := ⟨_, rfl⟩
  have hs1 : W1.heap.size = w.heap.size + 1 + 1 + 1 := by rw [← hW1]; simp
  obtain ⟨g0, g1, g2, g3⟩ := three_heap w (.cells #[.func (.func kf) first cap] 72) (.cells #[.int .i64 0] 3) (.cells #[.int .i64 0] 3)
  rw [hW1] at g0 g1 g2 g3
  have hb1 : Below w.heap.size w W1 := by
    rw [← hW1]; exact (((Below.refl _ w).alloc (Nat.le_refl _) _).alloc (by simp) _).alloc (by simp; omega) _
  have HAll := Lib.hid (all_any Wk M n most mo W1 (hW.below hb1) (by omega))
  have lWk := World.block_lt_of_cell? w _ hW.most
  have lM := (Array.getElem?_eq_some_iff.1 hW.map).1
  refine (callsIn_wide (n := 5)).1 ?_
  refine callsIn_of_wp_marks Tryz.func34 rfl trivial ?_ rfl
  simp only [Tryz.ntmps34, List.size_toArray, List.length_cons, List.length_nil, Nat.reduceAdd, Nat.reduceSub, Array.replicate_succ, Array.replicate_zero, List.push_toArray, List.append_toArray, List.nil_append, List.cons_append]
  gi_wp2
  have HW1 := Lib.hid hW1
  have HG := Lib.hid (And.intro g1 (And.intro g2 g3))
  have HB1 := Lib.hid hb1
  have HCALL := Lib.hid hcall
  have HBIG := Lib.hid hbig
  clear hW1 g0 g1 g2 g3 hb1 hW hcall hbig
  refine ⟨trivial, ?_⟩
  refine (callsIn_wide.2 HAll.out).mono ?_
  rintro e w2 ⟨b, Rb, v, rfl, hA, hb2, hb, hbs, hRb, hRb2⟩
  have hr1 := below_heap hb2 HG.out.1
  have hr2 := below_heap hb2 HG.out.2.1
  have hr3 := below_heap hb2 HG.out.2.2
  have hbw2 : Below w.heap.size w w2 := HB1.out.trans (hb2.mono (by omega))
  have hsz2 : w.heap.size + 1 + 1 < w2.heap.size := by have := hb2.size; omega
  have hseq := seqOK_of_ahead Wk M n most b Rb mo can v W1 w2 (fun k => k = w.heap.size + 1 ∨ k = w.heap.size + 1 + 1) hA hn (fun k hk => by omega) (by omega) (by omega) hb hRb hRb2 hlook
  have HS := Lib.hid hseq
  have HR := Lib.hid (And.intro hr1 (And.intro hr2 hr3))
  have HB2 := Lib.hid hbw2
  clear hseq hr1 hr2 hr3 hbw2 hA hb2
  gi_wp2
  refine wp_range_ways (gf := 75) rfl (fun args w => by simp [go_sem]) (S := fun k => k = w.heap.size + 1 ∨ k = w.heap.size + 1 + 1) (fun k hk => by omega) HS.out rfl
    (fun pre W => W.heap[w.heap.size]? = some (.cells #[.func (.func kf) first cap] 72 (0, 0)) ∧ W.heap[w.heap.size + 1]? = some (.cells #[.int .i64 (wrap64 (yesL q pre : Nat))] 3 (0, 0)) ∧ W.heap[w.heap.size + 1 + 1]? = some (.cells #[.int .i64 (wrap64 (yesL (fun x => !q x) pre : Nat))] 3 (0, 0)) ∧ Below w.heap.size w W)
    (fun _ _ _ => False)
    ?_ ?_ ⟨HR.out.1, by rw [show yesL q [] = 0 from rfl, wrap_zero]; exact HR.out.2.1, by rw [show yesL (fun x => !q x) [] = 0 from rfl, wrap_zero]; exact HR.out.2.2, HB2.out⟩ (fun v => { tmps := #[.pointer (some ⟨Wk, 0, none⟩), .func (.func kf) first cap, undef, .pointer (some ⟨w.heap.size, 0, none⟩), .pointer (some ⟨w.heap.size + 1, 0, none⟩), .pointer (some ⟨w.heap.size + 1 + 1, 0, none⟩), v, .pointer (some ⟨Wk, 0, none⟩), .func (.func 75) #[] #[.pointer (some ⟨b + 1, 0, none⟩), .pointer (some ⟨b + 1 + 1, 0, none⟩), .pointer (some ⟨b, 0, none⟩)], v, undef, undef, undef, undef, undef, undef, undef, undef, undef], defers := [] }) ?assign ?body ?done ?stop
  · rintro s A B ⟨h1, h2, h3, h4⟩ hbl
    exact ⟨(hbl.block _ (by omega)).trans h1, (hbl.block _ (by omega)).trans h2, (hbl.block _ hsz2).trans h3, h4.trans (hbl.mono (by omega))⟩
  · rintro c s A B h hbl
    exact h
  case assign =>
    intro l m v W K hK
    gi_wp2
    first | exact hK | simpa using hK
  case body =>
    rintro l m pre x v W ⟨h1, h2, h3, h4⟩ hpl hp256 hp8 hsz
    have hc1 := cell_of_one h1
    have HC := Lib.hid (HCALL.out x v W hpl hp256 hp8 h4)
    have HH1 := Lib.hid h1
    have H2 := Lib.hid h2
    have H3 := Lib.hid h3
    have H4 := Lib.hid h4
    clear h1 h2 h3 h4 hpl
    gi_wp2
    refine ⟨trivial, fun h => (by cases h), ?_⟩
    refine (CallsIn.inRound l (callsIn_wide.2 HC.out)).mono ?_
    rintro e w3 ⟨rfl, hb3⟩
    have h2 := below_heap hb3 H2.out
    have h3 := below_heap hb3 H3.out
    have h4 := H4.out.trans (hb3.mono (by omega))
    have hc2 := cell_of_one h2
    have hf2 := free_of_one h2
    have hc3 := cell_of_one h3
    have hf3 := free_of_one h3
    have HB3 := Lib.hid hb3
    have G1 := Lib.hid (below_heap hb3 (show W.heap[w.heap.size]? = some (.cells #[.func (.func kf) first cap] 72 (0, 0)) from HH1.out))
    have G2 := Lib.hid h2
    have G3 := Lib.hid h3
    have G4 := Lib.hid h4
    clear h2 h3 h4 hb3
    cases hq : q x with
    | true =>
      have HQ := Lib.hid hq
      clear hq
      gi_wp2
      have e1 : wrap64 (wrap64 (yesL q pre : Nat) + 1) = wrap64 (yesL q (pre ++ [x]) : Nat) := by rw [yesL_snoc, HQ.out, if_pos rfl, wrap_succ]; rfl
      have e2 : yesL (fun x => !q x) (pre ++ [x]) = yesL (fun x => !q x) pre := by rw [yesL_snoc, HQ.out]; rfl
      rw [e1]
      refine ⟨(RoundS.of_below HB3.out).trans (RoundS.setCell (S := fun k => k = w.heap.size + 1 ∨ k = w.heap.size + 1 + 1) _ _ (.inl rfl) _), (Below.heap_setCell _ _ _ _ (by show w.heap.size ≠ w.heap.size + 1; omega)).trans G1.out, one_setCell G2.out, ?_, G4.out.setCell (by show _ ≤ w.heap.size + 1; omega) _⟩
      rw [e2]
      exact (Below.heap_setCell _ _ _ _ (by show w.heap.size + 1 + 1 ≠ w.heap.size + 1; omega)).trans G3.out
    | false =>
      have HQ := Lib.hid hq
      clear hq
      gi_wp2
      have e1 : wrap64 (wrap64 (yesL (fun x => !q x) pre : Nat) + 1) = wrap64 (yesL (fun x => !q x) (pre ++ [x]) : Nat) := by
        rw [yesL_snoc, HQ.out]
        simp only [Bool.not_false, if_true]
        rw [wrap_succ]; rfl
      have e2 : yesL q (pre ++ [x]) = yesL q pre := by rw [yesL_snoc, HQ.out]; rfl
      rw [e1]
      refine ⟨(RoundS.of_below HB3.out).trans (RoundS.setCell (S := fun k => k = w.heap.size + 1 ∨ k = w.heap.size + 1 + 1) _ _ (.inr rfl) _), (Below.heap_setCell _ _ _ _ (by show w.heap.size ≠ w.heap.size + 1 + 1; omega)).trans G1.out, ?_, one_setCell G3.out, G4.out.setCell (by show _ ≤ w.heap.size + 1 + 1; omega) _⟩
      rw [e2]
      exact (Below.heap_setCell _ _ _ _ (by show w.heap.size + 1 ≠ w.heap.size + 1 + 1; omega)).trans G2.out
  case done =>
    rintro D W hD ⟨_, h2, h3, h4⟩ hK
    have hy1 := yesL_le q (fillL can most (List.range n) [])
    have hy2 := yesL_le (fun x => !q x) (fillL can most (List.range n) [])
    have hbg := HBIG.out
    rw [show wrap64 (yesL q (fillL can most (List.range n) []) : Nat) = (yesL q (fillL can most (List.range n) []) : Nat) from IntWalk.wrap64_in _ (by omega)] at h2
    rw [show wrap64 (yesL (fun x => !q x) (fillL can most (List.range n) []) : Nat) = (yesL (fun x => !q x) (fillL can most (List.range n) []) : Nat) from IntWalk.wrap64_in _ (by omega)] at h3
    have hc2 := cell_of_one h2
    have hf2 := free_of_one h2
    have hc3 := cell_of_one h3
    have hf3 := free_of_one h3
    have G2 := Lib.hid h2
    have G3 := Lib.hid h3
    have G4 := Lib.hid h4
    have HK := Lib.hid hK
    clear h2 h3 h4 hK hy1 hy2 hbg
    gi_wp2
    gi_region
    all_goals gi_wp2
    generalize hW5 : World.drew _ = W5
    have hs5 : W5.heap.size = W.heap.size := by rw [← hW5]; simp
    have hK5 : W5.heap[D]? = some (.deferred (some [])) := by
      rw [← hW5]
      exact (Below.heap_setCell _ _ _ _ (by show D ≠ w.heap.size + 1 + 1; omega)).trans ((Below.heap_setCell _ _ _ _ (by show D ≠ w.heap.size + 1; omega)).trans HK.out)
    have h25 : W5.heap[w.heap.size + 1]? = some (.cells #[.int .i64 (yesL q (fillL can most (List.range n) []) : Nat)] 3 (0, 0)) := by
      rw [← hW5]
      exact (Below.heap_setCell _ _ _ _ (by show w.heap.size + 1 ≠ w.heap.size + 1 + 1; omega)).trans (one_setCell G2.out)
    have h35 : W5.heap[w.heap.size + 1 + 1]? = some (.cells #[.int .i64 (yesL (fun x => !q x) (fillL can most (List.range n) []) : Nat)] 3 (0, 0)) := by
      rw [← hW5]
      exact one_setCell (v := .int .i64 (yesL (fun x => !q x) (fillL can most (List.range n) []) : Nat)) ((Below.heap_setCell _ _ _ _ (by show w.heap.size + 1 + 1 ≠ w.heap.size + 1; omega)).trans G3.out)
    have hb5 : Below w.heap.size w W5 := by
      rw [← hW5]
      exact ((G4.out.setCell (by show _ ≤ w.heap.size + 1; omega) _).setCell (by show _ ≤ w.heap.size + 1 + 1; omega) _).drew
    refine ⟨by simp, .inl ⟨_, _, rfl, run_takeDeferred hK5, ?_⟩⟩
    have hc4 : (W5.putObj D (.deferred none)).cell? ⟨w.heap.size + 1, 0, none⟩ = some (.int .i64 (yesL q (fillL can most (List.range n) []) : Nat)) :=
      (World.cell?_of_block (w := W5) (World.putObj_heap_other (by show w.heap.size + 1 ≠ D; omega))).trans (cell_of_one h25)
    have hc5 : (W5.putObj D (.deferred none)).cell? ⟨w.heap.size + 1 + 1, 0, none⟩ = some (.int .i64 (yesL (fun x => !q x) (fillL can most (List.range n) []) : Nat)) :=
      (World.cell?_of_block (w := W5) (World.putObj_heap_other (by show w.heap.size + 1 + 1 ≠ D; omega))).trans (cell_of_one h35)
    refine ⟨.tuple #[.int .i64 (yesL q (fillL can most (List.range n) []) : Nat), .int .i64 (yesL (fun x => !q x) (fillL can most (List.range n) []) : Nat)], ?_, rfl, ?_⟩
    · simp [results, Tryz.results34, go_sem, hc4, hc5]
    · exact hb5.grown (grownBy_putObj' _ D _) hb5.size (fun k e => by cases e; omega)
  case stop =>
    rintro D c pre W _ _ h _
    exact h.elim
end Go.Proofs.YtejfelijhojndaaGreatDoor

/-
  'verdict', by contract.
-/
namespace Go.Proofs.YtejfelijhojndaaGreatDoor
open Go.RowKit Go.Proofs Go.Shelf

def verdictL (yes no : Nat) : Int := if 0 < yes ∧ 0 < no then 3 else if 0 < yes then 1 else 2

set_option maxRecDepth 100000 in
set_option maxHeartbeats 800000 in
theorem verdict_any (Wk M n most kf : Nat) (first cap : Array Value) (mo : Obj) (can : Nat → Bool) (q : List Nat → Bool) (w : World) (hW : WorkAt Wk M n most mo w) (hn : n ≤ 8) (hlook : LookOK M mo can) (ek : ∀ args w, (callFunc kf args).run Tryz.prog w = .ok (.enter kf args) w)
    (hcall : ∀ (x : List Nat) (v : Value) (W' : World), PL W' v x → (∀ h ∈ x, h < 256) → x.length ≤ 8 → Below w.heap.size w W' → Calls Tryz.prog kf (first.push v ++ cap) W' fun e w'' => e = .returned (.bool (q x)) ∧ Below W'.heap.size W' w'')
    (hbig : (fillL can most (List.range n) []).length ≤ 1000000) :
    Calls Tryz.prog 23 #[.pointer (some ⟨Wk, 0, none⟩), .func (.func kf) first cap] w fun e w' =>
      e = .returned (.int .i64 (verdictL (yesL q (fillL can most (List.range n) [])) (yesL (fun x => !q x) (fillL can most (List.range n) [])))) ∧ Below w.heap.size w w' := by
  have HT := tally_any Wk M n most kf first cap mo can q w hW hn hlook ek hcall hbig
  unfold TallyEnd at HT
  generalize yesL q (fillL can most (List.range n) []) = y at HT ⊢
  generalize yesL (fun x => !q x) (fillL can most (List.range n) []) = z at HT ⊢
  have HTT := Lib.hid HT
  clear HT hcall hW hlook hbig
  by_cases hy : 0 < y
  · by_cases hz : 0 < z
    · have h1 : (0 : Int) < (y : Int) := by omega
      have h2 : (0 : Int) < (z : Int) := by omega
      have HV := Lib.hid (show verdictL y z = 3 by simp [verdictL, hy, hz])
      clear hy hz
      go_enter Tryz.func23, Tryz.ntmps23
      go_wp2_with fail
      refine HTT.out.mono ?_
      rintro e w2 ⟨rfl, hb⟩
      have HB := Lib.hid hb
      clear hb
      go_wp2_with fail
      go_ret
      rw [HV.out]
      exact ⟨rfl, HB.out⟩
    · have h1 : (0 : Int) < (y : Int) := by omega
      have h2 : ¬ (0 : Int) < (z : Int) := by omega
      have HV := Lib.hid (show verdictL y z = 1 by simp [verdictL, hy, hz])
      clear hy hz
      go_enter Tryz.func23, Tryz.ntmps23
      go_wp2_with fail
      refine HTT.out.mono ?_
      rintro e w2 ⟨rfl, hb⟩
      have HB := Lib.hid hb
      clear hb
      go_wp2_with fail
      go_ret
      rw [HV.out]
      exact ⟨rfl, HB.out⟩
  · have h1 : ¬ (0 : Int) < (y : Int) := by omega
    have HV := Lib.hid (show verdictL y z = 2 by simp [verdictL, hy])
    clear hy
    go_enter Tryz.func23, Tryz.ntmps23
    go_wp2_with fail
    refine HTT.out.mono ?_
    rintro e w2 ⟨rfl, hb⟩
    have HB := Lib.hid hb
    clear hb
    go_wp2_with fail
    go_ret
    rw [HV.out]
    exact ⟨rfl, HB.out⟩
end Go.Proofs.YtejfelijhojndaaGreatDoor

/-
  'Check' of a valid fair: no error. By contract, function by function.
-/
namespace Go.Proofs.YtejfelijhojndaaGreatDoor
open Go.RowKit Go.Proofs Go.Shelf

theorem outside_no (n a b : Int) (w : World) (h1 : a ≤ n) (h2 : n ≤ b) : Calls Tryz.prog 43 #[.int .i64 n, .int .i64 a, .int .i64 b] w fun e w' => e = .returned (.bool false) ∧ w = w' := by
  go_enter Tryz.func43, Tryz.ntmps43
  go_wp2_with fail
  go_ret
  refine ⟨?_, rfl⟩
  show Ending.returned (.bool (decide (n < a) || decide (b < n))) = _
  rw [decide_eq_false (by omega), decide_eq_false (by omega)]
  rfl

/-- The slice v reads as the rows M, each of them a slice of integers. -/
def RowsAt (w : World) (v : Value) (M : List (List Int)) : Prop :=
  ∃ b off cap, v = .slice (some ⟨b, off, none⟩) M.length cap ∧ ∀ i, i < M.length → ∃ u, w.cell? ⟨b, off + i, none⟩ = some u ∧ Ints w u (M[i]?.getD [])

theorem Ints.below {w w' : World} {v : Value} {l : List Int} (h : Ints w v l) (hb : Below w.heap.size w w') : Ints w' v l := h.same fun _ _ hc => below_cell hb hc
theorem RowsAt.below {w w' : World} {v : Value} {M : List (List Int)} (h : RowsAt w v M) (hb : Below w.heap.size w w') : RowsAt w' v M := by
  obtain ⟨b, off, cap, hv, hr⟩ := h
  exact ⟨b, off, cap, hv, fun i hi => by
    obtain ⟨u, hu, hi⟩ := hr i hi
    exact ⟨u, below_cell hb hu, hi.below hb⟩⟩

/-- Valid roads. -/
structure RoadsOK (M : List (List Int)) : Prop where
  pos : 0 < M.length
  le : M.length ≤ 3
  sq : ∀ i (h : i < M.length), M[i].length = M.length
  num : ∀ i j (h : i < M.length) (h2 : j < M[i].length), 0 ≤ M[i][j] ∧ M[i][j] ≤ 9
  diag : ∀ i (h : i < M.length) (h2 : i < M[i].length), M[i][i] = 0
  sym : ∀ i j (h : i < M.length) (hj : j < M.length) (h2 : j < M[i].length) (h3 : i < M[j].length), M[i][j] = M[j][i]
  tri : ∀ i j k (h : i < M.length) (hk : k < M.length) (h2 : j < M[i].length) (h3 : k < M[i].length) (h4 : j < M[k].length), M[i][j] ≤ M[i][k] + M[k][j]

set_option maxRecDepth 100000 in
set_option maxHeartbeats 1600000 in
theorem agree_ok (v : Value) (M : List (List Int)) (w : World) (hv : RowsAt w v M) (hM : RoadsOK M) :
    Calls Tryz.prog 71 #[v] w fun e w' => e = .returned (.bool true) ∧ Below w.heap.size w w' := by
  obtain ⟨b, off, cap, rfl, hr⟩ := hv
  have HV := Lib.hid hr
  have HM := Lib.hid hM
  have hl3 := hM.le
  clear hr hM
  have hrow : Hid (∀ i, (hi : i < M.length) → ∃ b2 off2 cap2, w.cell? ⟨b, off + i, none⟩ = some (.slice (some ⟨b2, off2, none⟩) M.length cap2) ∧ ∀ j, (hj : j < M.length) → w.cell? ⟨b2, off2 + j, none⟩ = some (.int .i64 ((M[i]?.getD [])[j]?.getD 0))) := by
    intro i hi
    obtain ⟨u, hu, hI⟩ := HV.out i hi
    have hsq := HM.out.sq i hi
    rw [show M[i]?.getD [] = M[i] by simp [hi]] at hI
    obtain ⟨a, c2, rfl, hc⟩ := hI
    obtain ⟨b2, off2, rfl, hd⟩ := hc (by have := HM.out.pos; omega)
    refine ⟨b2, off2, c2, by rw [hu, hsq], fun j hj => ?_⟩
    rw [hd j (by omega), show M[i]?.getD [] = M[i] by simp [hi]]
  clear HV
  go_enter Tryz.func71, Tryz.ntmps71
  go_wp2_with fail
  go_loopw [10] (fun i wr => ∃ k : Nat, k ≤ M.length ∧ i = .int .i64 k ∧ ∃ n, wr = w.drewN n) (fun i _ => M.length - (intOf i).toNat)
  case atStart => exact ⟨0, Nat.zero_le _, rfl, 0, rfl⟩
  case round =>
    obtain ⟨k, hk, rfl, n, rfl⟩ := hrel
    by_cases hlt : k < M.length
    · have hklt : (k : Int) < (M.length : Int) := by omega
      obtain ⟨b2, off2, cap2, hck, hrk⟩ := hrow.out k hlt
      have h0 := hrk k hlt
      have hdiag : (M[k]?.getD [])[k]?.getD 0 = 0 := by
        have := HM.out.diag k hlt (by rw [HM.out.sq k hlt]; exact hlt)
        simp [hlt, HM.out.sq k hlt, this]
      rw [hdiag] at h0
      have HRK := Lib.hid hrk
      clear hrk hdiag
      go_wp2_with fail
      go_loopw [22] (fun i wr => ∃ j : Nat, j ≤ M.length ∧ i = .int .i64 j ∧ ∃ n, wr = w.drewN n) (fun i _ => M.length - (intOf i).toNat)
      case atStart => exact ⟨0, Nat.zero_le _, rfl, n, rfl⟩
      case round =>
        obtain ⟨j, hj, rfl, n2, rfl⟩ := hrel
        by_cases hjt : j < M.length
        · have hjlt : (j : Int) < (M.length : Int) := by omega
          have e1 := HRK.out j hjt
          obtain ⟨b3, off3, cap3, hcj, hrj⟩ := hrow.out j hjt
          have e2 := hrj k hlt
          have hsym : (M[j]?.getD [])[k]?.getD 0 = (M[k]?.getD [])[j]?.getD 0 := by
            have := HM.out.sym k j hlt hjt (by rw [HM.out.sq k hlt]; exact hjt) (by rw [HM.out.sq j hjt]; exact hlt)
            simp [hlt, hjt, HM.out.sq k hlt, HM.out.sq j hjt, this]
          rw [hsym] at e2
          obtain ⟨x, hx⟩ : ∃ x, (M[k]?.getD [])[j]?.getD 0 = x := ⟨_, rfl⟩
          rw [hx] at e1 e2
          have HX := Lib.hid hx
          clear hrj hsym hx
          go_wp2_with fail
          go_loopw [38] (fun i wr => ∃ c : Nat, c ≤ M.length ∧ i = .int .i64 c ∧ ∃ n, wr = w.drewN n) (fun i _ => M.length - (intOf i).toNat)
          case atStart => exact ⟨0, Nat.zero_le _, rfl, n2, rfl⟩
          case round =>
            obtain ⟨c, hc, rfl, n3, rfl⟩ := hrel
            by_cases hct : c < M.length
            · have hclt : (c : Int) < (M.length : Int) := by omega
              obtain ⟨b4, off4, cap4, hcc, hrc⟩ := hrow.out c hct
              have e3 := HRK.out c hct
              have e4 := hrc j hjt
              obtain ⟨y, hy⟩ : ∃ y, (M[k]?.getD [])[c]?.getD 0 = y := ⟨_, rfl⟩
              obtain ⟨z, hz⟩ : ∃ z, (M[c]?.getD [])[j]?.getD 0 = z := ⟨_, rfl⟩
              rw [hy] at e3
              rw [hz] at e4
              have hxyz : x ≤ y + z := by
                have := HM.out.tri k j c hlt hct (by rw [HM.out.sq k hlt]; exact hjt) (by rw [HM.out.sq k hlt]; exact hct) (by rw [HM.out.sq c hct]; exact hjt)
                have hx := HX.out
                simp [hlt, hct, hjt, HM.out.sq k hlt, HM.out.sq c hct] at hx hy hz
                omega
              have hy1 : 0 ≤ y ∧ y ≤ 9 := by
                have := HM.out.num k c hlt (by rw [HM.out.sq k hlt]; exact hct)
                simp [hlt, hct, HM.out.sq k hlt] at hy
                omega
              have hz1 : 0 ≤ z ∧ z ≤ 9 := by
                have := HM.out.num c j hct (by rw [HM.out.sq c hct]; exact hjt)
                simp [hct, hjt, HM.out.sq c hct] at hz
                omega
              obtain ⟨hy1, hy2⟩ := hy1
              obtain ⟨hz1, hz2⟩ := hz1
              have hc0 : (0 : Int) ≤ (c : Int) := by omega
              have hj0 : (0 : Int) ≤ (j : Int) := by omega
              have hwr : IntKind.i64.wrap (y + z) = y + z := IntWalk.i64_in _ (by omega)
              have hdec : decide (y + z < x) = false := by simp; omega
              clear hy hz hrc
              go_wp2_with fail
              go_quiet (fail)
              go_wp2_with fail
              go_roundw
              case rel => exact ⟨c + 1, by omega, by go_num, _, rfl⟩
              case measure => simp [intOf]; omega
            · have hclt : ¬ (c : Int) < (M.length : Int) := by omega
              go_wp2_with fail
              go_roundw
              case rel => exact ⟨j + 1, by omega, by go_num, _, rfl⟩
              case measure => simp [intOf]; omega
        · have hjlt : ¬ (j : Int) < (M.length : Int) := by omega
          go_wp2_with fail
          go_roundw
          case rel => exact ⟨k + 1, by omega, by go_num, _, rfl⟩
          case measure => simp [intOf]; omega
    · have hklt : ¬ (k : Int) < (M.length : Int) := by omega
      go_wp2_with fail
      go_ret
      exact ⟨rfl, ⟨rfl, rfl, rfl, Nat.le_refl _, fun _ _ => rfl⟩⟩

set_option maxRecDepth 100000 in
set_option maxHeartbeats 1600000 in
theorem checkRoads_ok (v : Value) (M : List (List Int)) (w : World) (hv : RowsAt w v M) (hM : RoadsOK M) :
    Calls Tryz.prog 55 #[v] w fun e w' => e = .returned (.int .i64 0) ∧ Below w.heap.size w w' := by
  have AG := Lib.hid (agree_ok v M w hv hM)
  obtain ⟨b, off, cap, rfl, hr⟩ := hv
  have HV := Lib.hid hr
  have HM := Lib.hid hM
  have hl3 := hM.le
  have hl0 := hM.pos
  clear hr hM
  have OUT := fun (n : Int) (h1 : 0 ≤ n) (h2 : n ≤ 9) => outside_no n 0 9 w h1 h2
  have hz1 : ((M.length : Int) == 0) = false := beq_eq_false_iff_ne.2 (by omega)
  have hz2 : ¬ (3 : Int) < (M.length : Int) := by omega
  go_enter Tryz.func55, Tryz.ntmps55
  go_wp2_with fail
  go_loopw [15] (fun i wr => ∃ k : Nat, k ≤ M.length ∧ i = .int .i64 k ∧ w = wr) (fun i _ => M.length - (intOf i).toNat)
  case atStart => exact ⟨0, Nat.zero_le _, rfl, rfl⟩
  case round =>
    obtain ⟨k, hk, rfl, rfl⟩ := hrel
    by_cases hlt : k < M.length
    · have hklt : (k : Int) < (M.length : Int) := by omega
      obtain ⟨u, hu, hI⟩ := HV.out k hlt
      have hsq := HM.out.sq k hlt
      have hnum := HM.out.num k
      rw [show M[k]?.getD [] = M[k] by simp [hlt]] at hI
      obtain ⟨a, c2, rfl, hc⟩ := hI
      rw [hsq] at hu hc
      have HC := Lib.hid hc
      have HN := Lib.hid hnum
      have HSQ := Lib.hid hsq
      clear hc hnum hsq
      have hneq : ((M.length : Int) != (M.length : Int)) = false := by simp
      go_wp2_with fail
      go_loopw [26] (fun i wr => ∃ j : Nat, j ≤ M.length ∧ i = .int .i64 j ∧ w = wr) (fun i _ => M.length - (intOf i).toNat)
      case atStart => exact ⟨0, Nat.zero_le _, rfl, rfl⟩
      case round =>
        obtain ⟨j, hj, rfl, rfl⟩ := hrel
        by_cases hjt : j < M.length
        · have hjlt : (j : Int) < (M.length : Int) := by omega
          obtain ⟨b2, off2, rfl, hd⟩ := HC.out (by omega)
          obtain ⟨x, hx⟩ : ∃ x, M[k][j]?.getD 0 = x := ⟨_, rfl⟩
          have hcj := hd j hjt
          rw [hx] at hcj
          have hx9 : 0 ≤ x ∧ x ≤ 9 := by
            have := HN.out j hlt (by rw [HSQ.out]; exact hjt)
            simp [HSQ.out, hjt] at hx
            omega
          obtain ⟨hx1, hx2⟩ := hx9
          clear hd hx
          go_wp2_with (go_at_call 43; refine (OUT _ hx1 hx2).mono ?_; rintro e w' ⟨rfl, rfl⟩)
          go_roundw
          case rel => exact ⟨j + 1, by omega, by go_num, (by trivial)⟩
          case measure => simp [intOf]; omega
        · have hjlt : ¬ (j : Int) < (M.length : Int) := by omega
          go_wp2_with fail
          go_roundw
          case rel => exact ⟨k + 1, by omega, by go_num, (by trivial)⟩
          case measure => simp [intOf]; omega
    · have hklt : ¬ (k : Int) < (M.length : Int) := by omega
      go_wp2_with fail
      refine AG.out.mono ?_
      rintro e w2 ⟨rfl, hb⟩
      have HB := Lib.hid hb
      clear hb
      go_wp2_with fail
      go_ret
      exact ⟨rfl, HB.out⟩

/-- Valid marks: ascending, from 0 to 4. -/
structure MarksOK (l : List Int) : Prop where
  num : ∀ i (h : i < l.length), 0 ≤ l[i] ∧ l[i] ≤ 4
  asc : ∀ i (h : i + 1 < l.length), l[i] < l[i + 1]
  le : l.length ≤ 5

set_option maxRecDepth 100000 in
set_option maxHeartbeats 800000 in
theorem checkMarks_ok (v : Value) (l : List Int) (w : World) (hv : Ints w v l) (hM : MarksOK l) :
    Calls Tryz.prog 86 #[v] w fun e w' => e = .returned (.int .i64 0) ∧ w = w' := by
  obtain ⟨a, cap, rfl, hc⟩ := hv
  have HC := Lib.hid hc
  have HM := Lib.hid hM
  have hle := hM.le
  clear hc hM
  have OUT := fun (n : Int) (h1 : 0 ≤ n) (h2 : n ≤ 4) => outside_no n 0 4 w h1 h2
  go_enter Tryz.func86, Tryz.ntmps86
  go_wp2_with fail
  go_loopw [7] (fun i wr => ∃ k : Nat, k ≤ l.length ∧ i = .int .i64 k ∧ w = wr) (fun i _ => l.length - (intOf i).toNat)
  case atStart => exact ⟨0, Nat.zero_le _, rfl, rfl⟩
  case round =>
    obtain ⟨k, hk, rfl, rfl⟩ := hrel
    by_cases hlt : k < l.length
    · have hklt : (k : Int) < (l.length : Int) := by omega
      obtain ⟨b, off, rfl, hd⟩ := HC.out (by omega)
      obtain ⟨x, hx⟩ : ∃ x, l[k]?.getD 0 = x := ⟨_, rfl⟩
      have hck := hd k hlt
      rw [hx] at hck
      have hx1 : 0 ≤ x := by have := HM.out.num k hlt; simp [hlt] at hx; omega
      have hx2 : x ≤ 4 := by have := HM.out.num k hlt; simp [hlt] at hx; omega
      rcases Nat.eq_zero_or_pos k with h0 | h0
      · subst h0
        simp only [Nat.add_zero] at hck
        clear hd hx
        go_wp2_with (go_at_call 43; refine (OUT _ hx1 hx2).mono ?_; rintro e w' ⟨rfl, rfl⟩)
        go_roundw
        case rel => exact ⟨1, by omega, by go_num, (by trivial)⟩
        case measure => simp [intOf]; omega
      · obtain ⟨m, rfl⟩ : ∃ m, k = m + 1 := ⟨k - 1, by omega⟩
        have hcm := hd m (by omega)
        obtain ⟨y, hy⟩ : ∃ y, l[m]?.getD 0 = y := ⟨_, rfl⟩
        rw [hy] at hcm
        have hxy : y < x := by
          have := HM.out.asc m hlt
          simp [hlt] at hx
          simp [show m < l.length by omega] at hy
          omega
        have hk0 : (0 : Int) < ((m + 1 : Nat) : Int) := by omega
        clear hd hx hy
        go_wp2_with (go_at_call 43; refine (OUT _ hx1 hx2).mono ?_; rintro e w' ⟨rfl, rfl⟩)
        go_roundw
        case rel => exact ⟨m + 1 + 1, by omega, by go_num, (by trivial)⟩
        case measure => simp [intOf]; omega
    · have hklt : ¬ (k : Int) < (l.length : Int) := by omega
      go_wp2_with fail
      go_ret
      exact ⟨rfl, rfl⟩
end Go.Proofs.YtejfelijhojndaaGreatDoor

/-
  'Check' of a valid fair, second part: entries, numbers, the whole.
-/
namespace Go.Proofs.YtejfelijhojndaaGreatDoor
open Go.RowKit Go.Proofs Go.Shelf

/-- An entry, and a fair, as data. -/
structure Ent where
  (hour place coat height shod : Int)
  marks : List Int

structure EntOK (e : Ent) (places : Int) : Prop where
  hour : 0 ≤ e.hour ∧ e.hour ≤ 72
  place : 0 ≤ e.place ∧ e.place ≤ places - 1
  coat : 0 ≤ e.coat ∧ e.coat ≤ 5
  marks : MarksOK e.marks
  height : 0 ≤ e.height ∧ e.height ≤ 30
  shod : 0 ≤ e.shod ∧ e.shod ≤ 2

set_option maxRecDepth 100000 in
set_option maxHeartbeats 1600000 in
theorem checkEntry_ok (e : Ent) (mv : Value) (places : Int) (w : World) (hv : Ints w mv e.marks) (hE : EntOK e places) (hp : 0 ≤ places ∧ places ≤ 100) :
    Calls Tryz.prog 72 #[.agg #[.int .i64 e.hour, .int .i64 e.place, .int .i64 e.coat, mv, .int .i64 e.height, .int .i64 e.shod], .int .i64 places] w fun ev w' => ev = .returned (.int .i64 0) ∧ Below w.heap.size w w' := by
  obtain ⟨hour, place, coat, height, shod, marks⟩ := e
  obtain ⟨⟨a1, a2⟩, ⟨b1, b2⟩, ⟨c1, c2⟩, hM, ⟨d1, d2⟩, ⟨e1, e2⟩⟩ := hE
  simp only at *
  obtain ⟨p1, p2⟩ := hp
  obtain ⟨W1, hW1⟩ : ∃ W1, w.alloc (.cells #[.int .i64 hour, .int .i64 place, .int .i64 coat, mv, .int .i64 height, .int .i64 shod] 57) = W1 := ⟨_, rfl⟩
  have hb1 : Below w.heap.size w W1 := by rw [← hW1]; exact (Below.refl _ w).alloc (Nat.le_refl _) _
  have hblk : W1.heap[w.heap.size]? = some (.cells #[.int .i64 hour, .int .i64 place, .int .i64 coat, mv, .int .i64 height, .int .i64 shod] 57 (0, 0)) := by rw [← hW1]; exact heap_new w _
  obtain ⟨z0, z1, z2, z3, z4, z5⟩ := six_cells hblk
  have MK := Lib.hid (checkMarks_ok mv marks W1 (hv.below hb1) hM)
  obtain ⟨am, cm, rfl, _⟩ := hv
  have HB := Lib.hid hb1
  have hwr : IntKind.i64.wrap (places - 1) = places - 1 := IntWalk.i64_in _ (by omega)
  clear hb1 hblk
  go_enter Tryz.func72, Tryz.ntmps72
  go_wp2_with (first
    | (go_at_call 43; refine (outside_no _ _ _ _ (by omega) (by omega)).mono ?_; rintro e w' ⟨rfl, rfl⟩)
    | (go_at_call 86; refine MK.out.mono ?_; rintro e w' ⟨rfl, rfl⟩))
  go_ret
  exact ⟨rfl, HB.out⟩

structure Fair where
  ents : List Ent
  roads : List (List Int)
  (shoeF shoeT dye most : Int)

/-- The slice v reads as the entries es: six cells each. -/
def EntsAt (w : World) (v : Value) (es : List Ent) : Prop :=
  ∃ a cap, v = .slice a es.length cap ∧ (0 < es.length → ∃ b off, a = some ⟨b, off, none⟩ ∧ ∀ i (h : i < es.length), ∃ mv, w.cell? ⟨b, off + i * 6, none⟩ = some (.int .i64 es[i].hour) ∧ w.cell? ⟨b, off + i * 6 + 1, none⟩ = some (.int .i64 es[i].place) ∧
    w.cell? ⟨b, off + i * 6 + 2, none⟩ = some (.int .i64 es[i].coat) ∧ w.cell? ⟨b, off + i * 6 + 3, none⟩ = some mv ∧ w.cell? ⟨b, off + i * 6 + 4, none⟩ = some (.int .i64 es[i].height) ∧ w.cell? ⟨b, off + i * 6 + 5, none⟩ = some (.int .i64 es[i].shod) ∧ Ints w mv es[i].marks)
theorem EntsAt.below {w w' : World} {v : Value} {es : List Ent} (h : EntsAt w v es) (hb : Below w.heap.size w w') : EntsAt w' v es := by
  obtain ⟨a, cap, hv, hr⟩ := h
  refine ⟨a, cap, hv, fun hl => ?_⟩
  obtain ⟨b, off, ha, hd⟩ := hr hl
  refine ⟨b, off, ha, fun i hi => ?_⟩
  obtain ⟨mv, h0, h1, h2, h3, h4, h5, h6⟩ := hd i hi
  exact ⟨mv, below_cell hb h0, below_cell hb h1, below_cell hb h2, below_cell hb h3, below_cell hb h4, below_cell hb h5, h6.below hb⟩

structure FairOK (F : Fair) : Prop where
  roads : RoadsOK F.roads
  shoe : 0 ≤ F.shoeF ∧ F.shoeF ≤ F.shoeT ∧ F.shoeT ≤ 3
  dye : 1 ≤ F.dye ∧ F.dye ≤ 6
  most : 1 ≤ F.most ∧ F.most ≤ 6
  many : F.ents.length ≤ 6
  ents : ∀ i (h : i < F.ents.length), EntOK F.ents[i] F.roads.length

/-- A fair as a value. -/
def fairV (ev rv : Value) (F : Fair) : Value := .agg #[ev, rv, .int .i64 F.shoeF, .int .i64 F.shoeT, .int .i64 F.dye, .int .i64 F.most]

set_option maxRecDepth 100000 in
set_option maxHeartbeats 800000 in
theorem checkNumbers_ok (ev rv : Value) (F : Fair) (w : World) (hF : FairOK F) (he : ∃ a n c, ev = .slice a n c) (hr : ∃ a n c, rv = .slice a n c) :
    Calls Tryz.prog 56 #[fairV ev rv F] w fun e w' => e = .returned (.int .i64 0) ∧ Below w.heap.size w w' := by
  obtain ⟨ents, roads, sf, st, dye, most⟩ := F
  obtain ⟨_, ⟨s1, s2, s3⟩, ⟨d1, d2⟩, ⟨m1, m2⟩, _, _⟩ := hF
  obtain ⟨ea, en, ec, rfl⟩ := he
  obtain ⟨ra, rn, rc, rfl⟩ := hr
  unfold fairV
  simp only at *
  go_enter Tryz.func56, Tryz.ntmps56
  go_wp2_with (first
    | (go_at_call 43; refine (outside_no _ _ _ _ (by omega) (by omega)).mono ?_; rintro e w' ⟨rfl, rfl⟩))
  go_ret
  exact ⟨rfl, (Below.refl _ w).alloc (Nat.le_refl _) _⟩

set_option maxRecDepth 100000 in
set_option maxHeartbeats 1600000 in
theorem checkEntries_ok (ev rv : Value) (F : Fair) (w : World) (hF : FairOK F) (he : EntsAt w ev F.ents) (hr : ∃ a c, rv = .slice a F.roads.length c) :
    Calls Tryz.prog 57 #[fairV ev rv F] w fun e w' => e = .returned (.int .i64 0) ∧ Below w.heap.size w w' := by
  obtain ⟨ea, ec, rfl, hd⟩ := he
  obtain ⟨ra, rc, rfl⟩ := hr
  unfold fairV
  have HF := Lib.hid hF
  have HD := Lib.hid hd
  have hm := hF.many
  have hr3 := hF.roads.le
  have hr1 := hF.roads.pos
  clear hF hd
  obtain ⟨W1, hW1⟩ : ∃ W1, w.alloc (.cells #[.slice ea F.ents.length ec, .slice ra F.roads.length rc, .int .i64 F.shoeF, .int .i64 F.shoeT, .int .i64 F.dye, .int .i64 F.most] 30) = W1 := ⟨_, rfl⟩
  have hb1 : Below w.heap.size w W1 := by rw [← hW1]; exact (Below.refl _ w).alloc (Nat.le_refl _) _
  have hblk : W1.heap[w.heap.size]? = some (.cells #[.slice ea F.ents.length ec, .slice ra F.roads.length rc, .int .i64 F.shoeF, .int .i64 F.shoeT, .int .i64 F.dye, .int .i64 F.most] 30 (0, 0)) := by rw [← hW1]; exact heap_new w _
  obtain ⟨z0, z1, z2, z3, z4, z5⟩ := six_cells hblk
  have HB1 := Lib.hid hb1
  have HBLK := Lib.hid hblk
  clear hb1 hblk
  have hz2 : ¬ (6 : Int) < (F.ents.length : Int) := by omega
  go_enter Tryz.func57, Tryz.ntmps57
  go_wp2_with fail
  go_loopw [13] (fun i wr => ∃ k : Nat, k ≤ F.ents.length ∧ i = .int .i64 k ∧ Below W1.heap.size W1 wr) (fun i _ => F.ents.length - (intOf i).toNat)
  case atStart => exact ⟨0, Nat.zero_le _, rfl, Below.refl _ _⟩
  case round =>
    obtain ⟨k, hk, rfl, hbr⟩ := hrel
    have HBR := Lib.hid hbr
    by_cases hlt : k < F.ents.length
    · have hklt : (k : Int) < (F.ents.length : Int) := by omega
      have hk0 : (0 : Int) ≤ (k : Int) := by omega
      obtain ⟨b, off, rfl, hdd⟩ := HD.out (by omega)
      obtain ⟨mv, h0, h1, h2, h3, h4, h5, h6⟩ := hdd k hlt
      have hbw : Below w.heap.size w wr := HB1.out.trans (hbr.mono HB1.out.size)
      replace h0 := below_cell hbw h0
      replace h1 := below_cell hbw h1
      replace h2 := below_cell hbw h2
      replace h3 := below_cell hbw h3
      replace h4 := below_cell hbw h4
      replace h5 := below_cell hbw h5
      have H6 := Lib.hid (h6.below hbw)
      obtain ⟨am, cm, rfl, _⟩ := h6
      have y1 := below_cell hbr z1
      have hE := HF.out.ents k hlt
      obtain ⟨W2, hW2⟩ : ∃ W2, wr.alloc (.cells #[.int .i64 F.ents[k].hour, .int .i64 F.ents[k].place, .int .i64 F.ents[k].coat, .slice am F.ents[k].marks.length cm, .int .i64 F.ents[k].height, .int .i64 F.ents[k].shod] 57) = W2 := ⟨_, rfl⟩
      have hb2 : Below wr.heap.size wr W2 := by rw [← hW2]; exact (Below.refl _ wr).alloc (Nat.le_refl _) _
      have y2 := below_cell hb2 y1
      have hblk2 : W2.heap[wr.heap.size]? = some (.cells #[.int .i64 F.ents[k].hour, .int .i64 F.ents[k].place, .int .i64 F.ents[k].coat, .slice am F.ents[k].marks.length cm, .int .i64 F.ents[k].height, .int .i64 F.ents[k].shod] 57 (0, 0)) := by rw [← hW2]; exact heap_new wr _
      obtain ⟨q0, q1, q2, q3, q4, q5⟩ := six_cells hblk2
      have CE := Lib.hid (checkEntry_ok F.ents[k] _ F.roads.length W2 (H6.out.below hb2) hE (by omega))
      have HB2 := Lib.hid hb2
      clear hdd hbr hbw hE hb2 hblk2 y1
      go_wp2_with fail
      refine CE.out.mono ?_
      rintro e w3 ⟨rfl, hb3⟩
      have HB3 := Lib.hid hb3
      clear hb3
      go_wp2_with fail
      go_roundw
      case rel => exact ⟨k + 1, by omega, by go_num, HBR.out.trans ((HB2.out.trans (HB3.out.mono HB2.out.size)).mono HBR.out.size)⟩
      case measure => simp [intOf]; omega
    · have hklt : ¬ (k : Int) < (F.ents.length : Int) := by omega
      clear hbr
      go_wp2_with fail
      go_ret
      exact ⟨rfl, HB1.out.trans (HBR.out.mono HB1.out.size)⟩

set_option maxRecDepth 100000 in
set_option maxHeartbeats 1600000 in
theorem check_ok (ev rv : Value) (F : Fair) (w : World) (hF : FairOK F) (he : EntsAt w ev F.ents) (hr : RowsAt w rv F.roads) :
    Calls Tryz.prog 42 #[fairV ev rv F] w fun e w' => e = .returned (.int .i64 0) ∧ Below w.heap.size w w' := by
  obtain ⟨W1, hW1⟩ : ∃ W1, w.alloc (.cells #[ev, rv, .int .i64 F.shoeF, .int .i64 F.shoeT, .int .i64 F.dye, .int .i64 F.most] 30) = W1 := ⟨_, rfl⟩
  have hb1 : Below w.heap.size w W1 := by rw [← hW1]; exact (Below.refl _ w).alloc (Nat.le_refl _) _
  have hblk : W1.heap[w.heap.size]? = some (.cells #[ev, rv, .int .i64 F.shoeF, .int .i64 F.shoeT, .int .i64 F.dye, .int .i64 F.most] 30 (0, 0)) := by rw [← hW1]; exact heap_new w _
  have hC : ∀ W, Below w.heap.size w W → EntsAt W ev F.ents ∧ RowsAt W rv F.roads := fun W hb => ⟨he.below hb, hr.below hb⟩
  have hea : ∃ a n c, ev = .slice a n c := by obtain ⟨a, c, h, _⟩ := he; exact ⟨_, _, _, h⟩
  have hra : ∃ a c, rv = .slice a F.roads.length c := by obtain ⟨b, o, c, h, _⟩ := hr; exact ⟨_, _, h⟩
  have HC := Lib.hid hC
  have HEA := Lib.hid hea
  have HRA := Lib.hid hra
  clear hC he hr
  obtain ⟨z0, z1, z2, z3, z4, z5⟩ := six_cells hblk
  have R1 := Lib.hid (checkRoads_ok rv F.roads W1 (HC.out W1 hb1).2 hF.roads)
  have HB1 := Lib.hid hb1
  have HF := Lib.hid hF
  obtain ⟨ea, en, ec, rfl⟩ := hea
  obtain ⟨ra, rc, rfl⟩ := hra
  clear hb1 hblk hF
  unfold fairV
  go_enter Tryz.func42, Tryz.ntmps42
  go_wp2_with fail
  refine R1.out.mono ?_
  rintro e w2 ⟨rfl, hb2⟩
  replace z0 := below_cell hb2 z0
  replace z1 := below_cell hb2 z1
  replace z2 := below_cell hb2 z2
  replace z3 := below_cell hb2 z3
  replace z4 := below_cell hb2 z4
  replace z5 := below_cell hb2 z5
  have HB2 := Lib.hid (HB1.out.trans (hb2.mono HB1.out.size))
  have R2 := Lib.hid (checkNumbers_ok _ _ F w2 HF.out HEA.out ⟨_, _, _, rfl⟩ : Calls _ _ #[fairV (.slice ea en ec) (.slice ra F.roads.length rc) F] _ _)
  unfold fairV at R2
  clear hb2
  go_wp2_with fail
  refine R2.out.mono ?_
  rintro e w3 ⟨rfl, hb3⟩
  replace z0 := below_cell hb3 z0
  replace z1 := below_cell hb3 z1
  replace z2 := below_cell hb3 z2
  replace z3 := below_cell hb3 z3
  replace z4 := below_cell hb3 z4
  replace z5 := below_cell hb3 z5
  have HB3 := Lib.hid (HB2.out.trans (hb3.mono HB2.out.size))
  have R3 := Lib.hid (checkEntries_ok _ _ F w3 HF.out (HC.out w3 HB3.out).1 ⟨_, _, rfl⟩ : Calls _ _ #[fairV (.slice ea en ec) (.slice ra F.roads.length rc) F] _ _)
  unfold fairV at R3
  clear hb3
  go_wp2_with fail
  refine R3.out.mono ?_
  rintro e w4 ⟨rfl, hb4⟩
  have HB4 := Lib.hid (HB3.out.trans (hb4.mono HB3.out.size))
  clear hb4
  go_wp2_with fail
  go_ret
  exact ⟨rfl, HB4.out⟩
end Go.Proofs.YtejfelijhojndaaGreatDoor

/-
  Comparisons, hours and what is needed between two entries, by contracts.
-/
namespace Go.Proofs.YtejfelijhojndaaGreatDoor
open Go.RowKit Go.Proofs Go.Shelf

def cmpI (x y : Int) : Int := if x < y then -1 else if y < x then 1 else 0

theorem isNaN_any (x : Int) (w : World) : Calls Tryz.prog 131 #[.int .i64 x] w fun e w' => e = .returned (.bool false) ∧ w = w' := by
  go_enter Tryz.func131, Tryz.ntmps131
  go_wp2_with fail
  go_ret
  exact ⟨by simp, rfl⟩

set_option maxRecDepth 100000 in
theorem compare_any (x y : Int) (w : World) : Calls Tryz.prog 126 #[.int .i64 x, .int .i64 y] w fun e w' => e = .returned (.int .i64 (cmpI x y)) ∧ w = w' := by
  rcases Int.lt_trichotomy x y with h | h | h
  · have HV := Lib.hid (show cmpI x y = -1 by simp [cmpI, h])
    go_enter Tryz.func126, Tryz.ntmps126
    go_wp2_with (go_at_call 131; refine (isNaN_any _ _).mono ?_; rintro e w' ⟨rfl, rfl⟩)
    go_ret
    rw [HV.out]
    exact ⟨rfl, rfl⟩
  · have HV := Lib.hid (show cmpI x y = 0 by simp [cmpI, h])
    have h1 : ¬ x < y := by omega
    have h2 : ¬ y < x := by omega
    clear h
    go_enter Tryz.func126, Tryz.ntmps126
    go_wp2_with (go_at_call 131; refine (isNaN_any _ _).mono ?_; rintro e w' ⟨rfl, rfl⟩)
    go_ret
    rw [HV.out]
    exact ⟨rfl, rfl⟩
  · have HV := Lib.hid (show cmpI x y = 1 by simp [cmpI, h]; omega)
    have h1 : ¬ x < y := by omega
    go_enter Tryz.func126, Tryz.ntmps126
    go_wp2_with (go_at_call 131; refine (isNaN_any _ _).mono ?_; rintro e w' ⟨rfl, rfl⟩)
    go_ret
    rw [HV.out]
    exact ⟨rfl, rfl⟩

def orL (l : List Int) : Int := (l.find? fun x => x != 0).getD 0
theorem orL_hit {l : List Int} {k : Nat} (hk : k < l.length) (hno : ∀ j, j < k → l[j]?.getD 0 = 0) (h : l[k] ≠ 0) : orL l = l[k] := by
  have : l.find? (fun x => x != 0) = some l[k] := by
    rw [List.find?_eq_some_iff_getElem]
    exact ⟨by simpa using h, k, hk, rfl, fun j hj => by have := hno j hj; simp [show j < l.length by omega] at this; simp [this]⟩
  rw [orL, this]; rfl
theorem orL_none {l : List Int} (hno : ∀ j, j < l.length → l[j]?.getD 0 = 0) : orL l = 0 := by
  have : l.find? (fun x => x != 0) = none := by
    rw [List.find?_eq_none]
    intro x hx
    obtain ⟨j, hj, rfl⟩ := List.getElem_of_mem hx
    have := hno j hj
    simpa [hj] using this
  rw [orL, this]; rfl

set_option maxRecDepth 100000 in
theorem or_any (v : Value) (l : List Int) (w : World) (hv : Ints w v l) (hl : l.length ≤ 100) :
    Calls Tryz.prog 125 #[v] w fun e w' => e = .returned (.int .i64 (orL l)) ∧ w = w' := by
  obtain ⟨a, cap, rfl, hc⟩ := hv
  have HC := Lib.hid hc
  clear hc
  go_enter Tryz.func125, Tryz.ntmps125
  go_wp2_with fail
  go_loopw [8] (fun i wr => ∃ k : Nat, k ≤ l.length ∧ i = .int .i64 k ∧ (∀ j, j < k → l[j]?.getD 0 = 0) ∧ w = wr) (fun i _ => l.length - (intOf i).toNat)
  case atStart => exact ⟨0, Nat.zero_le _, rfl, fun j hj => absurd hj (Nat.not_lt_zero j), rfl⟩
  case round =>
    obtain ⟨k, hk, rfl, hno, rfl⟩ := hrel
    have HNO := Lib.hid hno
    clear hno
    by_cases hlt : k < l.length
    · have hklt : (k : Int) < (l.length : Int) := by omega
      obtain ⟨b, off, rfl, hd⟩ := HC.out (by omega)
      have hck := hd k hlt
      obtain ⟨x, hx⟩ : ∃ x, l[k]?.getD 0 = x := ⟨_, rfl⟩
      rw [hx] at hck
      have HX := Lib.hid hx
      clear hd hx
      by_cases h0 : x = 0
      · subst h0
        go_wp2_with fail
        go_roundw
        case rel => exact ⟨k + 1, by omega, by go_num, fun j hj => by rcases Nat.lt_succ_iff_lt_or_eq.1 hj with h | rfl; exact HNO.out j h; exact HX.out, (by trivial)⟩
        case measure => simp [intOf]; omega
      · have hb : (x != 0) = true := by simpa using h0
        have H0 := Lib.hid h0
        clear h0
        go_wp2_with fail
        go_ret
        have hxk : l[k] = x := by have := HX.out; simpa [hlt] using this
        exact ⟨ret_i64 (by rw [orL_hit hlt HNO.out (by rw [hxk]; exact H0.out), hxk]), rfl⟩
    · have hklt : ¬ (k : Int) < (l.length : Int) := by omega
      have HKL := Lib.hid (show k = l.length by omega)
      go_wp2_with fail
      go_ret
      exact ⟨ret_i64 (by rw [orL_none (fun j hj => HNO.out j (by have := HKL.out; omega))]), rfl⟩

/-- A fair at work, as it reads. -/
structure WorkF (Wk : Nat) (F : Fair) (w : World) : Prop where
  ents : ∃ ev, w.cell? ⟨Wk, 0, none⟩ = some ev ∧ EntsAt w ev F.ents
  roads : ∃ rv, w.cell? ⟨Wk, 1, none⟩ = some rv ∧ RowsAt w rv F.roads
  shoeF : w.cell? ⟨Wk, 2, none⟩ = some (.int .i64 F.shoeF)
  shoeT : w.cell? ⟨Wk, 3, none⟩ = some (.int .i64 F.shoeT)
  dye : w.cell? ⟨Wk, 4, none⟩ = some (.int .i64 F.dye)
  most : w.cell? ⟨Wk, 5, none⟩ = some (.int .i64 F.most)
theorem WorkF.below {Wk : Nat} {F : Fair} {w w' : World} (h : WorkF Wk F w) (hb : Below w.heap.size w w') : WorkF Wk F w' := by
  obtain ⟨ev, e1, e2⟩ := h.ents
  obtain ⟨rv, r1, r2⟩ := h.roads
  exact ⟨⟨ev, below_cell hb e1, e2.below hb⟩, ⟨rv, below_cell hb r1, r2.below hb⟩, below_cell hb h.shoeF, below_cell hb h.shoeT, below_cell hb h.dye, below_cell hb h.most⟩

/-- What reading one entry wants. -/
theorem WorkF.entry {Wk : Nat} {F : Fair} {w : World} (h : WorkF Wk F w) {x : Nat} (hx : x < F.ents.length) :
    ∃ b off cap mv, w.cell? ⟨Wk, 0, none⟩ = some (.slice (some ⟨b, off, none⟩) F.ents.length cap) ∧ w.cell? ⟨b, off + x * 6, none⟩ = some (.int .i64 F.ents[x].hour) ∧ w.cell? ⟨b, off + x * 6 + 1, none⟩ = some (.int .i64 F.ents[x].place) ∧
    w.cell? ⟨b, off + x * 6 + 2, none⟩ = some (.int .i64 F.ents[x].coat) ∧ w.cell? ⟨b, off + x * 6 + 3, none⟩ = some mv ∧ w.cell? ⟨b, off + x * 6 + 4, none⟩ = some (.int .i64 F.ents[x].height) ∧ w.cell? ⟨b, off + x * 6 + 5, none⟩ = some (.int .i64 F.ents[x].shod) ∧ Ints w mv F.ents[x].marks := by
  obtain ⟨ev, e1, a, cap, rfl, hd⟩ := h.ents
  obtain ⟨b, off, rfl, hc⟩ := hd (by omega)
  obtain ⟨mv, h0⟩ := hc x hx
  exact ⟨b, off, cap, mv, e1, h0⟩

set_option maxRecDepth 100000 in
set_option maxHeartbeats 800000 in
theorem hours_any (Wk x y : Nat) (F : Fair) (w : World) (hW : WorkF Wk F w) (hx : x < F.ents.length) (hy : y < F.ents.length) (hok : ∀ i (h : i < F.ents.length), 0 ≤ F.ents[i].hour ∧ F.ents[i].hour ≤ 72) :
    Calls Tryz.prog 122 #[.pointer (some ⟨Wk, 0, none⟩), .int .i64 x, .int .i64 y] w fun e w' => e = .returned (.int .i64 (F.ents[y].hour - F.ents[x].hour)) ∧ Below w.heap.size w w' := by
  obtain ⟨b, off, cap, mv, h0, h1, _⟩ := hW.entry hx
  obtain ⟨b', off', cap', mv', h0', h1', _⟩ := hW.entry hy
  rw [h0] at h0'
  obtain ⟨⟨rfl, rfl⟩, rfl⟩ : (b = b' ∧ off = off') ∧ cap = cap' := by simpa using h0'
  obtain ⟨hx', ex⟩ : ∃ z, F.ents[x].hour = z := ⟨_, rfl⟩
  obtain ⟨hy', ey⟩ : ∃ z, F.ents[y].hour = z := ⟨_, rfl⟩
  have b1 := hok x hx
  have b2 := hok y hy
  rw [ex] at h1 b1 ⊢
  rw [ey] at h1' b2 ⊢
  obtain ⟨b11, b12⟩ := b1
  obtain ⟨b21, b22⟩ := b2
  have hx0 : (0 : Int) ≤ (x : Int) := by omega
  have hy0 : (0 : Int) ≤ (y : Int) := by omega
  have hxl : (x : Int) < (F.ents.length : Int) := by omega
  have hyl : (y : Int) < (F.ents.length : Int) := by omega
  have hwr : IntKind.i64.wrap (hy' - hx') = hy' - hx' := IntWalk.i64_in _ (by omega)
  clear h0' hW hok ex ey
  go_enter Tryz.func122, Tryz.ntmps122
  go_wp2_with fail
  go_quiet (fail)
  go_wp2_with fail
  go_ret
  exact ⟨rfl, ⟨rfl, rfl, rfl, Nat.le_refl _, fun _ _ => rfl⟩⟩
end Go.Proofs.YtejfelijhojndaaGreatDoor

/-
  Marks as bits, and what is needed between two entries, by contracts.
-/
namespace Go.Proofs.YtejfelijhojndaaGreatDoor
open Go.RowKit Go.Proofs Go.Shelf

def marksBits (l : List Int) : Nat := l.foldl (fun m x => m ||| 2 ^ x.toNat) 0
theorem foldl_or_lt (l : List Int) (hl : ∀ x ∈ l, 0 ≤ x ∧ x < 8) : ∀ m, m < 256 → l.foldl (fun m x => m ||| 2 ^ x.toNat) m < 256 := by
  induction l with
  | nil => intro m hm; exact hm
  | cons x l ih =>
    intro m hm
    have := hl x (by simp)
    exact ih (fun y hy => hl y (by simp [hy])) _ (or_lt hm (by omega))
theorem marksBits_lt {l : List Int} (hl : ∀ x ∈ l, 0 ≤ x ∧ x < 8) : marksBits l < 256 := foldl_or_lt l hl 0 (by omega)
theorem marksBits_succ {l : List Int} {k : Nat} (hk : k < l.length) : marksBits (l.take (k + 1)) = marksBits (l.take k) ||| 2 ^ (l[k]).toNat := by
  unfold marksBits; rw [List.take_succ_eq_append_getElem hk, List.foldl_append]; rfl

set_option maxRecDepth 100000 in
set_option maxHeartbeats 800000 in
theorem marksOf_any (v : Value) (l : List Int) (w : World) (hv : Ints w v l) (hl : ∀ x ∈ l, 0 ≤ x ∧ x < 8) (hlen : l.length ≤ 100) :
    Calls Tryz.prog 129 #[v] w fun e w' => e = .returned (.int .u8 (marksBits l : Nat)) ∧ w = w' := by
  obtain ⟨a, cap, rfl, hc⟩ := hv
  have HC := Lib.hid hc
  have HL := Lib.hid hl
  clear hc hl
  go_enter Tryz.func129, Tryz.ntmps129
  go_wp2_with fail
  go_loopw [3, 8] (fun m i wr => ∃ k : Nat, k ≤ l.length ∧ i = .int .i64 k ∧ m = .int .u8 (marksBits (l.take k) : Nat) ∧ w = wr) (fun _ i _ => l.length - (intOf i).toNat)
  case atStart => exact ⟨0, Nat.zero_le _, rfl, rfl, rfl⟩
  case round =>
    obtain ⟨k, hk, rfl, rfl, rfl⟩ := hrel
    by_cases hlt : k < l.length
    · have hklt : (k : Int) < (l.length : Int) := by omega
      obtain ⟨b, off, rfl, hd⟩ := HC.out (by omega)
      have hck := hd k hlt
      have hx8 := HL.out l[k] (List.getElem_mem hlt)
      obtain ⟨x, hx⟩ : ∃ x : Nat, l[k] = (x : Int) := ⟨l[k].toNat, by omega⟩
      rw [show l[k]?.getD 0 = (x : Int) by simp [hlt, hx]] at hck
      have hx8' : x < 8 := by omega
      have hm256 : marksBits (l.take k) < 256 := marksBits_lt fun y hy => HL.out y (List.mem_of_mem_take hy)
      have HS := Lib.hid (marksBits_succ hlt)
      have HX := Lib.hid hx
      have HO := Lib.hid (or_bit (marksBits (l.take k)) x hm256 hx8')
      clear hd hx hx8 hm256
      go_wp2_with fail
      go_roundw
      case rel => exact ⟨k + 1, by omega, by go_num, by rw [HS.out, HX.out, Int.toNat_natCast]; exact congrArg _ HO.out, (by trivial)⟩
      case measure => simp [intOf]; omega
    · have hklt : ¬ (k : Int) < (l.length : Int) := by omega
      have HKL := Lib.hid (show l.take k = l from List.take_of_length_le (by omega))
      go_wp2_with fail
      go_ret
      rw [HKL.out]
      exact ⟨rfl, rfl⟩

set_option maxRecDepth 100000 in
theorem mhas_any (h r : Nat) (w : World) (hh : h < 256) (hr : r < 8) :
    Calls Tryz.prog 134 #[.int .u8 h, .int .i64 r] w fun e w' => e = .returned (.bool (h.testBit r)) ∧ Below w.heap.size w w' := by
  have HB := Lib.hid (bit_eq h r hh)
  go_enter Tryz.func134, Tryz.ntmps134
  go_wp2_with fail
  go_ret
  rw [← HB.out]
  exact ⟨rfl, Below.refl _ w⟩

/-- How many marks are changed. -/
def changedN (a b : Nat) : Nat := (whichL (a ^^^ b).testBit 5).length

set_option maxRecDepth 100000 in
theorem mchanged_any (a b : Nat) (w : World) (ha : a < 256) (hb : b < 256) :
    Calls Tryz.prog 130 #[.int .u8 a, .int .u8 b] w fun e w' => e = .returned (.int .i64 (changedN a b : Nat)) ∧ Below w.heap.size w w' := by
  have hmf : ∀ (fn : Fn) (first cap : Array Value) (w : World), (Instr.makeFunc fn first cap).run Tryz.prog w = .ok (.func fn first cap) w := fun _ _ _ _ => rfl
  have hx : a ^^^ b < 256 := Nat.xor_lt_two_pow (n := 8) ha hb
  have HW := Lib.hid (which_any 134 5 #[.int .u8 (a ^^^ b : Nat)] #[] (a ^^^ b).testBit w (by omega) (fun args w => by simp [go_sem])
    (fun i hi W' _ => mhas_any (a ^^^ b) i W' hx (by omega)))
  have hxor := u8_xor_nat a b ha hb
  go_enter Tryz.func130, Tryz.ntmps130
  go_wp2_with fail
  refine HW.out.mono ?_
  rintro e w2 ⟨v, rfl, ho, hbl⟩
  obtain ⟨a', cap', rfl, _⟩ := slice_of_owns ho
  have HB := Lib.hid hbl
  clear ho hbl
  go_wp2_with fail
  go_ret
  exact ⟨rfl, HB.out⟩

/-- Hours that are needed between two entries. -/
def neededL (F : Fair) (x y : Ent) : Int := ((F.roads[x.place.toNat]?.getD [])[y.place.toNat]?.getD 0) + F.dye * (changedN (marksBits x.marks) (marksBits y.marks) : Nat)

theorem marksOK_8 {l : List Int} (h : MarksOK l) : ∀ x ∈ l, 0 ≤ x ∧ x < 8 := by
  intro x hx
  obtain ⟨j, hj, rfl⟩ := List.getElem_of_mem hx
  have := h.num j hj
  omega
theorem changedN_le (a b : Nat) : changedN a b ≤ 5 := whichL_le _ _

theorem WorkF.road {Wk : Nat} {F : Fair} {w : World} (h : WorkF Wk F w) (hM : RoadsOK F.roads) {i j : Nat} (hi : i < F.roads.length) (hj : j < F.roads.length) :
    ∃ b off cap b2 off2 cap2, w.cell? ⟨Wk, 1, none⟩ = some (.slice (some ⟨b, off, none⟩) F.roads.length cap) ∧ w.cell? ⟨b, off + i, none⟩ = some (.slice (some ⟨b2, off2, none⟩) F.roads.length cap2) ∧ w.cell? ⟨b2, off2 + j, none⟩ = some (.int .i64 ((F.roads[i]?.getD [])[j]?.getD 0)) := by
  obtain ⟨rv, r1, b, off, cap, rfl, hr⟩ := h.roads
  obtain ⟨u, hu, hI⟩ := hr i hi
  have hsq := hM.sq i hi
  rw [show F.roads[i]?.getD [] = F.roads[i] by simp [hi]] at hI ⊢
  obtain ⟨a, c2, rfl, hc⟩ := hI
  obtain ⟨b2, off2, rfl, hd⟩ := hc (by omega)
  exact ⟨b, off, cap, b2, off2, c2, r1, by rw [hu, hsq], hd j (by omega)⟩

theorem need_val (d dye : Int) (n : Nat) (hd : 0 ≤ d ∧ d ≤ 9) (hdy : 1 ≤ dye ∧ dye ≤ 6) (hn : n ≤ 5) : IntKind.i64.wrap (d + IntKind.i64.wrap (dye * (n : Int))) = d + dye * (n : Int) := by
  have h1 : 0 ≤ dye * (n : Int) := Int.mul_nonneg (by omega) (by omega)
  have h2 : dye * (n : Int) ≤ 6 * 5 := Int.mul_le_mul hdy.2 (by omega) (by omega) (by omega)
  rw [IntWalk.i64_in (dye * (n : Int)) (by omega), IntWalk.i64_in _ (by omega)]

set_option maxRecDepth 100000 in
set_option maxHeartbeats 1600000 in
theorem needed_any (Wk x y : Nat) (F : Fair) (w : World) (hW : WorkF Wk F w) (hF : FairOK F) (hx : x < F.ents.length) (hy : y < F.ents.length) :
    Calls Tryz.prog 123 #[.pointer (some ⟨Wk, 0, none⟩), .int .i64 x, .int .i64 y] w fun e w' => e = .returned (.int .i64 (neededL F F.ents[x] F.ents[y])) ∧ Below w.heap.size w w' := by
  obtain ⟨b, off, cap, mv, h0, x0, x1, x2, x3, x4, x5, xm⟩ := hW.entry hx
  obtain ⟨b', off', cap', mv', h0', y0, y1, y2, y3, y4, y5, ym⟩ := hW.entry hy
  rw [h0] at h0'
  obtain ⟨⟨rfl, rfl⟩, rfl⟩ : (b = b' ∧ off = off') ∧ cap = cap' := by simpa using h0'
  clear h0'
  have EX := hF.ents x hx
  have EY := hF.ents y hy
  have hM := hF.roads
  obtain ⟨px, hpx⟩ : ∃ p : Nat, F.ents[x].place = (p : Int) := ⟨F.ents[x].place.toNat, by have := EX.place; omega⟩
  obtain ⟨py, hpy⟩ : ∃ p : Nat, F.ents[y].place = (p : Int) := ⟨F.ents[y].place.toNat, by have := EY.place; omega⟩
  have hpxl : px < F.roads.length := by have := EX.place; omega
  have hpyl : py < F.roads.length := by have := EY.place; omega
  obtain ⟨rb, roff, rcap, rb2, roff2, rcap2, r1, r2, r3⟩ := hW.road hM hpxl hpyl
  have hdye := hW.dye
  have HN := Lib.hid (show neededL F F.ents[x] F.ents[y] = ((F.roads[px]?.getD [])[py]?.getD 0) + F.dye * (changedN (marksBits F.ents[x].marks) (marksBits F.ents[y].marks) : Nat) by simp [neededL, hpx, hpy])
  obtain ⟨d, hd⟩ : ∃ d, (F.roads[px]?.getD [])[py]?.getD 0 = d := ⟨_, rfl⟩
  have hd9 : 0 ≤ d ∧ d ≤ 9 := by
    have := hM.num px py hpxl (by rw [hM.sq px hpxl]; exact hpyl)
    simp [hpxl, hpyl, hM.sq px hpxl] at hd
    omega
  rw [hd] at r3 HN
  rw [hpx] at x1
  rw [hpy] at y1
  obtain ⟨dye, hdy⟩ : ∃ d, F.dye = d := ⟨_, rfl⟩
  have hdy6 := hF.dye
  rw [hdy] at hdye HN hdy6
  have M1 := Lib.hid (fun w' (h : Below w.heap.size w w') => marksOf_any mv F.ents[x].marks w' (xm.below h) (marksOK_8 EX.marks) (by have := EX.marks.le; omega))
  have M2 := Lib.hid (fun w' (h : Below w.heap.size w w') => marksOf_any mv' F.ents[y].marks w' (ym.below h) (marksOK_8 EY.marks) (by have := EY.marks.le; omega))
  have hq1 : marksBits F.ents[x].marks < 256 := marksBits_lt (marksOK_8 EX.marks)
  have hq2 : marksBits F.ents[y].marks < 256 := marksBits_lt (marksOK_8 EY.marks)
  have hch := changedN_le (marksBits F.ents[x].marks) (marksBits F.ents[y].marks)
  obtain ⟨ma, na, ca, rfl⟩ : ∃ a n c, mv = .slice a n c := by obtain ⟨a, c, h, _⟩ := xm; exact ⟨_, _, _, h⟩
  obtain ⟨mb, nb, cb, rfl⟩ : ∃ a n c, mv' = .slice a n c := by obtain ⟨a, c, h, _⟩ := ym; exact ⟨_, _, _, h⟩
  have hx0 : (0 : Int) ≤ (x : Int) := by omega
  have hy0 : (0 : Int) ≤ (y : Int) := by omega
  have hxl : (x : Int) < (F.ents.length : Int) := by omega
  have hyl : (y : Int) < (F.ents.length : Int) := by omega
  clear hd hW hF EX EY hM xm ym hpx hpy hdy
  go_enter Tryz.func123, Tryz.ntmps123
  go_wp2_with fail
  have lW := World.block_lt_of_cell? w _ h0
  have lb := World.block_lt_of_cell? w _ x0
  go_region_held3 (fun w' => w'.cell? ⟨Wk, 0, none⟩ = some (.slice (some ⟨b, off, none⟩) F.ents.length cap) ∧
      w'.cell? ⟨b, off + x * 6, none⟩ = some (.int .i64 F.ents[x].hour) ∧ w'.cell? ⟨b, off + x * 6 + 1, none⟩ = some (.int .i64 px) ∧ w'.cell? ⟨b, off + x * 6 + 2, none⟩ = some (.int .i64 F.ents[x].coat) ∧ w'.cell? ⟨b, off + x * 6 + 3, none⟩ = some (.slice ma na ca) ∧ w'.cell? ⟨b, off + x * 6 + 4, none⟩ = some (.int .i64 F.ents[x].height) ∧ w'.cell? ⟨b, off + x * 6 + 5, none⟩ = some (.int .i64 F.ents[x].shod) ∧
      w'.cell? ⟨b, off + y * 6, none⟩ = some (.int .i64 F.ents[y].hour) ∧ w'.cell? ⟨b, off + y * 6 + 1, none⟩ = some (.int .i64 py) ∧ w'.cell? ⟨b, off + y * 6 + 2, none⟩ = some (.int .i64 F.ents[y].coat) ∧ w'.cell? ⟨b, off + y * 6 + 3, none⟩ = some (.slice mb nb cb) ∧ w'.cell? ⟨b, off + y * 6 + 4, none⟩ = some (.int .i64 F.ents[y].height) ∧ w'.cell? ⟨b, off + y * 6 + 5, none⟩ = some (.int .i64 F.ents[y].shod))
    (go_keep) (first | fail)
  · go_wp2_with fail
    generalize hW2 : World.drew _ = W2
    have k1 : Below w.heap.size w W2 := by
      rw [← hW2]; exact (((Below.refl _ w).alloc (Nat.le_refl _) _).alloc (by simp) _).drew
    have k2 : W2.cell? ⟨w.heap.size, 1, none⟩ = some (.int .i64 px) := by
      rw [← hW2]
      show ((w.alloc _).alloc _).cell? _ = _
      rw [World.cell?_alloc_lt _ _ _ (by simp)]
      exact World.cell?_alloc_new w _ _ _
    have k3 : W2.cell? ⟨w.heap.size, 3, none⟩ = some (.slice ma na ca) := by
      rw [← hW2]
      show ((w.alloc _).alloc _).cell? _ = _
      rw [World.cell?_alloc_lt _ _ _ (by simp)]
      exact World.cell?_alloc_new w _ _ _
    have k4 : W2.cell? ⟨w.heap.size + 1, 1, none⟩ = some (.int .i64 py) := by
      rw [← hW2]
      show ((w.alloc _).alloc _).cell? _ = _
      rw [World.cell?_alloc_at _ _ _ _ (by simp)]
      rfl
    have k5 : W2.cell? ⟨w.heap.size + 1, 3, none⟩ = some (.slice mb nb cb) := by
      rw [← hW2]
      show ((w.alloc _).alloc _).cell? _ = _
      rw [World.cell?_alloc_at _ _ _ _ (by simp)]
      rfl
    have k6 := below_cell k1 r1
    have k7 := below_cell k1 r2
    have k8 := below_cell k1 r3
    have k9 := below_cell k1 hdye
    have N1 := Lib.hid (M1.out W2.drew k1.drew)
    have N2 := Lib.hid (M2.out W2.drew k1.drew)
    have N3 := Lib.hid (mchanged_any _ _ W2.drew hq1 hq2)
    have HS8 : Hid (∀ w', Below W2.drew.heap.size W2.drew w' → w'.cell? ⟨w.heap.size, 1, none⟩ = some (.int .i64 px) ∧ w'.cell? ⟨w.heap.size, 3, none⟩ = some (.slice ma na ca) ∧ w'.cell? ⟨w.heap.size + 1, 1, none⟩ = some (.int .i64 py) ∧ w'.cell? ⟨w.heap.size + 1, 3, none⟩ = some (.slice mb nb cb) ∧
        w'.cell? ⟨Wk, 1, none⟩ = some (.slice (some ⟨rb, roff, none⟩) F.roads.length rcap) ∧ w'.cell? ⟨rb, roff + px, none⟩ = some (.slice (some ⟨rb2, roff2, none⟩) F.roads.length rcap2) ∧ w'.cell? ⟨rb2, roff2 + py, none⟩ = some (.int .i64 d) ∧ w'.cell? ⟨Wk, 4, none⟩ = some (.int .i64 dye)) :=
      fun w' h => ⟨below_cell (w := W2.drew) h k2, below_cell (w := W2.drew) h k3, below_cell (w := W2.drew) h k4, below_cell (w := W2.drew) h k5, below_cell (w := W2.drew) h k6, below_cell (w := W2.drew) h k7, below_cell (w := W2.drew) h k8, below_cell (w := W2.drew) h k9⟩
    have hpx0 : (0 : Int) ≤ (px : Int) := by omega
    have hpy0 : (0 : Int) ≤ (py : Int) := by omega
    have hpx1 : (px : Int) < (F.roads.length : Int) := by omega
    have hpy1 : (py : Int) < (F.roads.length : Int) := by omega
    have K1 := Lib.hid k1
    clear hW2 k1 h0 x0 x1 x2 x3 x4 x5 y0 y1 y2 y3 y4 y5 r1 r2 r3 hdye
    go_region_held3 (fun w' => w'.cell? ⟨w.heap.size, 1, none⟩ = some (.int .i64 px) ∧ w'.cell? ⟨w.heap.size, 3, none⟩ = some (.slice ma na ca) ∧ w'.cell? ⟨w.heap.size + 1, 1, none⟩ = some (.int .i64 py) ∧ w'.cell? ⟨w.heap.size + 1, 3, none⟩ = some (.slice mb nb cb) ∧
        w'.cell? ⟨Wk, 1, none⟩ = some (.slice (some ⟨rb, roff, none⟩) F.roads.length rcap) ∧ w'.cell? ⟨rb, roff + px, none⟩ = some (.slice (some ⟨rb2, roff2, none⟩) F.roads.length rcap2) ∧ w'.cell? ⟨rb2, roff2 + py, none⟩ = some (.int .i64 d) ∧ w'.cell? ⟨Wk, 4, none⟩ = some (.int .i64 dye))
      (first | go_keep | exact HS8.out _ hb3)
      (first
        | (go_at_call 129; ((with_reducible refine N1.out.mono ?_); rintro e w' ⟨rfl, rfl⟩))
        | (go_at_call 129; ((with_reducible refine N2.out.mono ?_); rintro e w' ⟨rfl, rfl⟩))
        | (go_at_call 130; ((with_reducible refine N3.out.mono ?_); rintro e w3 ⟨rfl, hb3⟩)))
    go_wp2_with fail
    go_ret
    refine ⟨ret_i64 ?_, K1.out.trans ((show Below W2.heap.size W2 w3 from ⟨hb3.os, hb3.tape, hb3.output, hb3.size, hb3.block⟩).mono K1.out.size)⟩
    rw [HN.out]
    exact need_val _ _ _ hd9 hdy6 hch
  · go_wp2_with fail
    generalize hW2 : World.drew _ = W2
    have k1 : Below w.heap.size w W2 := by
      rw [← hW2]; exact (((Below.refl _ w).alloc (Nat.le_refl _) _).alloc (by simp) _).drew
    have k2 : W2.cell? ⟨w.heap.size + 1, 1, none⟩ = some (.int .i64 px) := by
      rw [← hW2]
      show ((w.alloc _).alloc _).cell? _ = _
      rw [World.cell?_alloc_at _ _ _ _ (by simp)]
      rfl
    have k3 : W2.cell? ⟨w.heap.size + 1, 3, none⟩ = some (.slice ma na ca) := by
      rw [← hW2]
      show ((w.alloc _).alloc _).cell? _ = _
      rw [World.cell?_alloc_at _ _ _ _ (by simp)]
      rfl
    have k4 : W2.cell? ⟨w.heap.size, 1, none⟩ = some (.int .i64 py) := by
      rw [← hW2]
      show ((w.alloc _).alloc _).cell? _ = _
      rw [World.cell?_alloc_lt _ _ _ (by simp)]
      exact World.cell?_alloc_new w _ _ _
    have k5 : W2.cell? ⟨w.heap.size, 3, none⟩ = some (.slice mb nb cb) := by
      rw [← hW2]
      show ((w.alloc _).alloc _).cell? _ = _
      rw [World.cell?_alloc_lt _ _ _ (by simp)]
      exact World.cell?_alloc_new w _ _ _
    have k6 := below_cell k1 r1
    have k7 := below_cell k1 r2
    have k8 := below_cell k1 r3
    have k9 := below_cell k1 hdye
    have N1 := Lib.hid (M1.out W2.drew k1.drew)
    have N2 := Lib.hid (M2.out W2.drew k1.drew)
    have N3 := Lib.hid (mchanged_any _ _ W2.drew hq1 hq2)
    have HS8 : Hid (∀ w', Below W2.drew.heap.size W2.drew w' → w'.cell? ⟨w.heap.size + 1, 1, none⟩ = some (.int .i64 px) ∧ w'.cell? ⟨w.heap.size + 1, 3, none⟩ = some (.slice ma na ca) ∧ w'.cell? ⟨w.heap.size, 1, none⟩ = some (.int .i64 py) ∧ w'.cell? ⟨w.heap.size, 3, none⟩ = some (.slice mb nb cb) ∧
        w'.cell? ⟨Wk, 1, none⟩ = some (.slice (some ⟨rb, roff, none⟩) F.roads.length rcap) ∧ w'.cell? ⟨rb, roff + px, none⟩ = some (.slice (some ⟨rb2, roff2, none⟩) F.roads.length rcap2) ∧ w'.cell? ⟨rb2, roff2 + py, none⟩ = some (.int .i64 d) ∧ w'.cell? ⟨Wk, 4, none⟩ = some (.int .i64 dye)) :=
      fun w' h => ⟨below_cell (w := W2.drew) h k2, below_cell (w := W2.drew) h k3, below_cell (w := W2.drew) h k4, below_cell (w := W2.drew) h k5, below_cell (w := W2.drew) h k6, below_cell (w := W2.drew) h k7, below_cell (w := W2.drew) h k8, below_cell (w := W2.drew) h k9⟩
    have hpx0 : (0 : Int) ≤ (px : Int) := by omega
    have hpy0 : (0 : Int) ≤ (py : Int) := by omega
    have hpx1 : (px : Int) < (F.roads.length : Int) := by omega
    have hpy1 : (py : Int) < (F.roads.length : Int) := by omega
    have K1 := Lib.hid k1
    clear hW2 k1 h0 x0 x1 x2 x3 x4 x5 y0 y1 y2 y3 y4 y5 r1 r2 r3 hdye
    go_region_held3 (fun w' => w'.cell? ⟨w.heap.size + 1, 1, none⟩ = some (.int .i64 px) ∧ w'.cell? ⟨w.heap.size + 1, 3, none⟩ = some (.slice ma na ca) ∧ w'.cell? ⟨w.heap.size, 1, none⟩ = some (.int .i64 py) ∧ w'.cell? ⟨w.heap.size, 3, none⟩ = some (.slice mb nb cb) ∧
        w'.cell? ⟨Wk, 1, none⟩ = some (.slice (some ⟨rb, roff, none⟩) F.roads.length rcap) ∧ w'.cell? ⟨rb, roff + px, none⟩ = some (.slice (some ⟨rb2, roff2, none⟩) F.roads.length rcap2) ∧ w'.cell? ⟨rb2, roff2 + py, none⟩ = some (.int .i64 d) ∧ w'.cell? ⟨Wk, 4, none⟩ = some (.int .i64 dye))
      (first | go_keep | exact HS8.out _ hb3)
      (first
        | (go_at_call 129; ((with_reducible refine N1.out.mono ?_); rintro e w' ⟨rfl, rfl⟩))
        | (go_at_call 129; ((with_reducible refine N2.out.mono ?_); rintro e w' ⟨rfl, rfl⟩))
        | (go_at_call 130; ((with_reducible refine N3.out.mono ?_); rintro e w3 ⟨rfl, hb3⟩)))
    go_wp2_with fail
    go_ret
    refine ⟨ret_i64 ?_, K1.out.trans ((show Below W2.heap.size W2 w3 from ⟨hb3.os, hb3.tape, hb3.output, hb3.size, hb3.block⟩).mono K1.out.size)⟩
    rw [HN.out]
    exact need_val _ _ _ hd9 hdy6 hch
end Go.Proofs.YtejfelijhojndaaGreatDoor

/-
  The order by hours, by contract.
-/
namespace Go.Proofs.YtejfelijhojndaaGreatDoor
open Go.RowKit Go.Proofs Go.Shelf

def cmpHour (F : Fair) (x y : Nat) : Int := orL [cmpI ((F.ents[x]?.map Ent.hour).getD 0) ((F.ents[y]?.map Ent.hour).getD 0), cmpI x y]

set_option maxRecDepth 100000 in
set_option maxHeartbeats 1600000 in
theorem byHour1_any (bw Wk x y : Nat) (F : Fair) (w : World) (hbw : w.cell? ⟨bw, 0, none⟩ = some (.pointer (some ⟨Wk, 0, none⟩))) (hW : WorkF Wk F w) (hx : x < F.ents.length) (hy : y < F.ents.length) :
    Calls Tryz.prog 124 #[.int .i64 x, .int .i64 y, .pointer (some ⟨bw, 0, none⟩)] w fun e w' => e = .returned (.int .i64 (cmpHour F x y)) ∧ Below w.heap.size w w' := by
  obtain ⟨b, off, cap, mv, h0, x0, _⟩ := hW.entry hx
  obtain ⟨b', off', cap', mv', h0', y0, _⟩ := hW.entry hy
  rw [h0] at h0'
  obtain ⟨⟨rfl, rfl⟩, rfl⟩ : (b = b' ∧ off = off') ∧ cap = cap' := by simpa using h0'
  obtain ⟨c, hc⟩ : ∃ c, cmpI F.ents[x].hour F.ents[y].hour = c := ⟨_, rfl⟩
  obtain ⟨c2, hc2⟩ : ∃ c, cmpI (x : Int) (y : Int) = c := ⟨_, rfl⟩
  have HV := Lib.hid (show cmpHour F x y = orL [c, c2] by simp [cmpHour, hx, hy, hc, hc2])
  have C1 := compare_any F.ents[x].hour F.ents[y].hour w.drew
  have C2 := compare_any (x : Int) (y : Int) w.drew
  rw [hc] at C1
  rw [hc2] at C2
  have HC1 := Lib.hid C1
  have HC2 := Lib.hid C2
  have HO := Lib.hid (or_any (.slice (some ⟨w.heap.size, 0, none⟩) 2 2) [c, c2] (w.alloc (.cells #[.int .i64 c, .int .i64 c2] 3)).drew ⟨_, _, rfl, fun _ => ⟨w.heap.size, 0, rfl, fun j hj => by
    show (w.alloc _).cell? _ = _
    rw [Nat.zero_add, World.cell?_alloc_new]
    match j, hj with
    | 0, _ => rfl
    | 1, _ => rfl⟩⟩ (by simp))
  have hx0 : (0 : Int) ≤ (x : Int) := by omega
  have hy0 : (0 : Int) ≤ (y : Int) := by omega
  have hxl : (x : Int) < (F.ents.length : Int) := by omega
  have hyl : (y : Int) < (F.ents.length : Int) := by omega
  clear h0' hW hc hc2 C1 C2
  go_enter Tryz.func124, Tryz.ntmps124
  go_wp2_with fail
  go_region_held3 (fun w' => w'.cell? ⟨bw, 0, none⟩ = some (.pointer (some ⟨Wk, 0, none⟩)) ∧ w'.cell? ⟨Wk, 0, none⟩ = some (.slice (some ⟨b, off, none⟩) F.ents.length cap) ∧ w'.cell? ⟨b, off + x * 6, none⟩ = some (.int .i64 F.ents[x].hour) ∧ w'.cell? ⟨b, off + y * 6, none⟩ = some (.int .i64 F.ents[y].hour))
    (first | go_keep)
    (first
      | (go_at_call 126; ((with_reducible refine HC1.out.mono ?_); rintro e w' ⟨rfl, rfl⟩))
      | (go_at_call 126; ((with_reducible refine HC2.out.mono ?_); rintro e w' ⟨rfl, rfl⟩))
      | (go_at_call 125; ((with_reducible refine HO.out.mono ?_); rintro e w' ⟨rfl, rfl⟩)))
  go_wp2_with fail
  go_ret
  exact ⟨ret_i64 HV.out.symm, ((Below.refl _ w).alloc (Nat.le_refl _) _).drew⟩
end Go.Proofs.YtejfelijhojndaaGreatDoor
