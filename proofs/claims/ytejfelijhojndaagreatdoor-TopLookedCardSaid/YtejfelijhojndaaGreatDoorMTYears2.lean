/-
  tooth: seen: the chance of the looks of a year alone. By contract.
-/
import Derived.Test.YtejfelijhojndaaGreatDoorMTSeen
import Derived.Deep.AppendLies
namespace Go.Proofs.YtejfelijhojndaaGreatDoor
open Go.RowKit Go.Proofs Go.Shelf

def seenTo (D : List (List Int)) (L : List (Nat × Nat)) (y m k : Nat) : Ch := (L.take k).foldl (fun c l => if l.1 = y then andC c (chanceL D l m) else c) (true, 0)
def seenL (D : List (List Int)) (L : List (Nat × Nat)) (y m : Nat) : Ch := seenTo D L y m L.length
theorem seenTo_succ (D : List (List Int)) (L : List (Nat × Nat)) (y m : Nat) {k : Nat} (h : k < L.length) :
    seenTo D L y m (k + 1) = if L[k].1 = y then andC (seenTo D L y m k) (chanceL D L[k] m) else seenTo D L y m k := by
  simp only [seenTo]
  rw [List.take_succ_eq_append_getElem h, List.foldl_append]
  rfl
theorem chanceL_le (D : List (List Int)) (l : Nat × Nat) (m : Nat) : (chanceL D l m).2 ≤ 1 := by
  unfold chanceL
  split
  · simp
  · split <;> simp
theorem andC_le (a b : Ch) : (andC a b).2 ≤ a.2 + b.2 := by
  unfold andC
  split <;> simp
theorem seenTo_le (D : List (List Int)) (L : List (Nat × Nat)) (y m : Nat) : ∀ k, k ≤ L.length → (seenTo D L y m k).2 ≤ k
  | 0, _ => by simp [seenTo]
  | k + 1, h => by
    have ih := seenTo_le D L y m k (by omega)
    rw [seenTo_succ D L y m (by omega)]
    split
    · have h1 := andC_le (seenTo D L y m k) (chanceL D L[k] m)
      have h2 := chanceL_le D L[k] m
      omega
    · omega

theorem two_set {w : World} {b : Nat} {x y : Value} {T : TypeId} (h : w.heap[b]? = some (.cells #[x, y] T (0, 0))) (u v : Value) : ((w.setCell ⟨b, 0, none⟩ u).setCell ⟨b, 1, none⟩ v).heap[b]? = some (.cells #[u, v] T (0, 0)) := by
  simp [World.setCell, Array.getElem?_modify, h]

set_option maxRecDepth 100000 in
set_option maxHeartbeats 1600000 in
theorem seen_any (Wk : Nat) (nv dv lv : Value) (N D : List (List Int)) (L : List (Nat × Nat)) (w0 w : World) (hI : TIn nv dv lv N D L w0) (hW : TWork Wk nv dv lv w0 w) (hL : L.length ≤ 100) (y m : Nat) (hy : y ≤ 100) (hm : m < N.length) :
    Calls Tryz.prog 53 #[.pointer (some ⟨Wk, 0, none⟩), .int .i64 (y : Nat), .int .i64 (m : Nat)] w (ChEnd (seenL D L y m) w) := by
  have CH := Lib.hid (fun W' (hb : Below w.heap.size w W') (l : Nat × Nat) => chance_any Wk nv dv lv N D L w0 W' hI (hW.below hb) l m hm)
  have hc2 := hW.c2
  have hLk := hW.look hI.looks
  obtain ⟨b, off, cap, rfl, hr⟩ := hLk
  have HR := Lib.hid hr
  have hlW := World.block_lt_of_cell? w _ hc2
  clear hr hI hW
  obtain ⟨W1, hW1⟩ : ∃ W1, (w.alloc (.cells #[.bool false, .int .i64 0] 84)).alloc (.cells #[.bool true, .int .i64 0] 84) = W1 := ⟨_, rfl⟩
  have hb1 : Below w.heap.size w W1 := by rw [← hW1]; exact ((Below.refl _ w).alloc (Nat.le_refl _) _).alloc (by simp) _
  have hs1 : W1.heap.size = w.heap.size + 1 + 1 := by rw [← hW1]; simp
  have g0 : W1.heap[w.heap.size]? = some (.cells #[.bool false, .int .i64 0] 84 (0, 0)) := by
    rw [← hW1]; exact (Below.heap_alloc _ _ _ (by simp)).trans (heap_new w _)
  have g1 : W1.heap[w.heap.size + 1]? = some (.cells #[.bool true, .int .i64 0] 84 (0, 0)) := by
    rw [← hW1]; have := heap_new (w.alloc (.cells #[.bool false, .int .i64 0] 84)) (.cells #[.bool true, .int .i64 0] 84); rwa [World.size_alloc] at this
  have d2 := below_cell hb1 hc2
  have HB1 := Lib.hid hb1
  have HG := Lib.hid (And.intro g0 g1)
  have HS1 := Lib.hid hs1
  have HW1 := Lib.hid hW1
  have lW : Wk < w.heap.size := hlW
  clear hb1 g0 g1 hs1 hW1 hlW
  go_enter Tryz.func53, Tryz.ntmps53
  go_wp2_with fail
  go_loopw [16] (fun i wr => ∃ k : Nat, k ≤ L.length ∧ i = .int .i64 k ∧ wr.heap[w.heap.size]? = some (.cells #[.bool false, .int .i64 0] 84 (0, 0)) ∧ wr.heap[w.heap.size + 1]? = some (.cells #[.bool (seenTo D L y m k).1, .int .i64 ((seenTo D L y m k).2 : Nat)] 84 (0, 0)) ∧ Below w.heap.size w wr) (fun i _ => L.length - (intOf i).toNat)
  case atStart => rw [HW1.out]; exact ⟨0, Nat.zero_le _, rfl, HG.out.1, HG.out.2, HB1.out⟩
  case round =>
    obtain ⟨k, hk, rfl, k0, k1, hbl⟩ := hrel
    have hsz := (Array.getElem?_eq_some_iff.1 k1).1
    by_cases hlt : k < L.length
    · have hklt : (k : Int) < (L.length : Int) := by omega
      have hk0 : (0 : Int) ≤ (k : Int) := by omega
      obtain ⟨c0, c1⟩ := HR.out k hlt
      have e0 := below_cell hbl c0
      have e1 := below_cell hbl c1
      have hsl := Lib.hid (seenTo_succ D L y m hlt)
      have hle := seenTo_le D L y m k hk
      obtain ⟨l, hl⟩ : ∃ l, L[k] = l := ⟨_, rfl⟩
      have hgd : L[k]?.getD (0, 0) = l := by simp [hlt, hl]
      rw [hgd] at e0 e1
      rw [hl] at hsl
      obtain ⟨ly, ls⟩ := l
      simp only at e0 e1
      obtain ⟨c, hc⟩ : ∃ c, seenTo D L y m k = c := ⟨_, rfl⟩
      rw [hc] at hsl k1 hle
      obtain ⟨cb, cf⟩ := c
      simp only at k1 hle
      have HBL := Lib.hid hbl
      have HK0 := Lib.hid k0
      have HK1 := Lib.hid k1
      clear hl hgd hc hbl d2 c0 c1 k0 k1
      by_cases hyl : ly = y
      · subst hyl
        rw [if_pos rfl] at hsl
        have hdd : (ly == ly) = true := by simp
        go_wp2_with fail
        generalize hWr2 : wr.alloc _ = W2
        have hb2 : Below w.heap.size w W2.drew := by rw [← hWr2]; exact (HBL.out.alloc (by omega) _).drew
        have C := Lib.hid (CH.out _ hb2 (ly, ls))
        obtain ⟨cc, hcc⟩ : ∃ cc, chanceL D (ly, ls) m = cc := ⟨_, rfl⟩
        have hcl := chanceL_le D (ly, ls) m
        rw [hcc] at C hsl hcl
        have HCC := Lib.hid hcc
        have A := Lib.hid (fun W' => and_any (cb, cf) cc W' (by omega) (by omega))
        have q0 : W2.drew.cell? ⟨w.heap.size + 1, 0, none⟩ = some (.bool cb) := by
          rw [← hWr2]; show (wr.alloc _).cell? _ = _; rw [World.cell?_alloc_lt _ _ _ hsz]; exact (cell_of_two HK1.out).1
        have q1 : W2.drew.cell? ⟨w.heap.size + 1, 1, none⟩ = some (.int .i64 cf) := by
          rw [← hWr2]; show (wr.alloc _).cell? _ = _; rw [World.cell?_alloc_lt _ _ _ hsz]; exact (cell_of_two HK1.out).2.1
        have q2 : W2.drew.cell? ⟨wr.heap.size, 0, none⟩ = some (.int .i64 ly) := by
          rw [← hWr2]; show (wr.alloc _).cell? _ = _; exact World.cell?_alloc_new wr _ _ _
        have q3 : W2.drew.cell? ⟨wr.heap.size, 1, none⟩ = some (.int .i64 ls) := by
          rw [← hWr2]; show (wr.alloc _).cell? _ = _; exact World.cell?_alloc_new wr _ _ _
        have F2 := Lib.hid (show W2.drew.heap[w.heap.size + 1]? = some (.cells #[.bool cb, .int .i64 cf] 84 (0, 0)) by
          rw [← hWr2]; show (wr.alloc _).heap[_]? = _; exact (Below.heap_alloc _ _ _ hsz).trans HK1.out)
        have F3 := Lib.hid (show W2.drew.heap[w.heap.size]? = some (.cells #[.bool false, .int .i64 0] 84 (0, 0)) by
          rw [← hWr2]; show (wr.alloc _).heap[_]? = _; exact (Below.heap_alloc _ _ _ (by omega)).trans HK0.out)
        have HB2 := Lib.hid hb2
        clear hb2 hWr2 hcc hcl
        obtain ⟨ccb, ccf⟩ := cc
        unfold lookV ChEnd cV at C
        unfold ChEnd cV at A
        simp only at C A
        go_region_with (first
          | (go_at_call 70; refine (C.out).mono ?_; rintro e w3 ⟨rfl, hb3⟩; have p0 := below_cell hb3 q0; have p1 := below_cell hb3 q1)
          | (go_at_call 52; refine (A.out _).mono ?_; rintro e w4 ⟨rfl, hb4⟩; have hb5 := hb3.trans (hb4.mono hb3.size); have f0 := (cell_of_two (below_heap hb5 F2.out)).1; have f1 := (cell_of_two (below_heap hb5 F2.out)).2.1; have f2 := (cell_of_two (below_heap hb5 F2.out)).2.2 0; have f3 := (cell_of_two (below_heap hb5 F2.out)).2.2 1))
        all_goals
          have R4 := Lib.hid (two_set (below_heap hb5 F2.out) (.bool (andC (cb, cf) (ccb, ccf)).1) (.int .i64 ((andC (cb, cf) (ccb, ccf)).2 : Nat)))
          have R3 := Lib.hid (below_heap hb5 F3.out)
          have HB5 := Lib.hid (HB2.out.trans (hb5.mono HB2.out.size))
          clear hb3 hb4 hb5 p0 p1 q0 q1 q2 q3 f0 f1 f2 f3
          go_wp2_with fail
          go_roundw
          case rel =>
            refine ⟨k + 1, by omega, by go_num, ?_, ?_, ?_⟩
            · exact (Below.heap_setCell _ _ _ _ (by simp)).trans ((Below.heap_setCell _ _ _ _ (by simp)).trans R3.out)
            · rw [hsl.out]; exact R4.out
            · exact (HB5.out.setCell (by simp) _).setCell (by simp) _
          case measure => simp [intOf]; omega
      · rw [if_neg hyl] at hsl
        have hyl2 : ((ly : Int) == (y : Int)) = false := by simp; omega
        have HYL := Lib.hid hyl
        clear hyl
        go_wp2_with fail
        go_roundw
        case rel =>
          refine ⟨k + 1, by omega, by go_num, ?_, ?_, ?_⟩
          · exact (Below.heap_alloc _ _ _ (by omega)).trans HK0.out
          · rw [hsl.out]; exact (Below.heap_alloc _ _ _ hsz).trans HK1.out
          · exact HBL.out.alloc (by omega) _
        case measure => simp [intOf]; omega
    · have hklt : ¬ (k : Int) < (L.length : Int) := by omega
      obtain rfl : k = L.length := by omega
      obtain ⟨r0, r1, rf⟩ := cell_of_two k0
      obtain ⟨s0, s1, sf⟩ := cell_of_two k1
      have rf0 := rf 0
      have rf1 := rf 1
      have HB := Lib.hid hbl
      have HC := Lib.hid (show seenL D L y m = seenTo D L y m L.length from rfl)
      generalize seenTo D L y m L.length = c at s0 s1 HC
      clear rf sf hbl k0 k1 d2
      go_wp2_with fail
      refine bodyPost_ret (v := cV c) ?_ rfl ?_
      · simp [results, Tryz.results53, go_sem, cV, r0, r1]
      · refine ⟨by rw [HC.out], ?_⟩
        exact (HB.out.setCell (by simp) _).setCell (by simp) _
end Go.Proofs.YtejfelijhojndaaGreatDoor

/-
  tooth: least[int].offer, by contract.
-/
namespace Go.Proofs.YtejfelijhojndaaGreatDoor
open Go.RowKit Go.Proofs Go.Shelf

def offerL (s : List Nat × Nat) (v c : Nat) : List Nat × Nat :=
  if s.1 ≠ [] ∧ s.2 < c then s else if c < s.2 then ([v], c) else (s.1 ++ [v], c)

/-- What an offer to the least at ⟨b, o⟩ leaves as it was. -/
structure OfferK (b o base : Nat) (w w' : World) : Prop where
  os : w'.os = w.os
  tape : w'.tape = w.tape
  output : w'.output = w.output
  size : w.heap.size ≤ w'.heap.size
  block : ∀ k, k < base → k ≠ b → w'.heap[k]? = w.heap[k]?
  cells : ∀ i, i ≠ o → i ≠ o + 1 → w'.cell? ⟨b, i, none⟩ = w.cell? ⟨b, i, none⟩
  froz : ∀ i, w'.frozen? ⟨b, i, none⟩ = w.frozen? ⟨b, i, none⟩
theorem OfferK.refl (b o base : Nat) (w : World) : OfferK b o base w w := ⟨rfl, rfl, rfl, Nat.le_refl _, fun _ _ _ => rfl, fun _ _ _ => rfl, fun _ => rfl⟩
theorem OfferK.trans {b o base : Nat} {x y z : World} (h : OfferK b o base x y) (k : OfferK b o base y z) : OfferK b o base x z :=
  ⟨k.os.trans h.os, k.tape.trans h.tape, k.output.trans h.output, Nat.le_trans h.size k.size, fun i hi hb => (k.block i hi hb).trans (h.block i hi hb), fun i h1 h2 => (k.cells i h1 h2).trans (h.cells i h1 h2), fun i => (k.froz i).trans (h.froz i)⟩
theorem OfferK.alloc {b o base : Nat} {x y : World} (h : OfferK b o base x y) (hb : b < y.heap.size) (hs : base ≤ y.heap.size) (ob : Obj) : OfferK b o base x (y.alloc ob) :=
  h.trans ⟨rfl, rfl, rfl, by simp, fun k hk _ => Below.heap_alloc _ _ _ (by omega), fun i _ _ => World.cell?_alloc_lt _ _ _ hb, fun i => World.frozen?_alloc_old _ _ _ (by exact Nat.ne_of_lt hb)⟩
theorem OfferK.grown {b o base : Nat} {x y z : World} {row : Option Nat} (h : OfferK b o base x y) (hb : b < y.heap.size) (hbb : b < base) (hs : base ≤ y.heap.size) (hg : y.grownBy z row) (hr : ∀ k, row = some k → base ≤ k) : OfferK b o base x z :=
  h.trans ⟨hg.os, hg.tape, hg.output, hg.size, fun k hk _ => hg.block k (by omega) (fun e => by have := hr k e.symm; omega),
    fun i _ _ => World.cell?_of_block (w := y) (hg.block b hb (fun e => by have := hr b e.symm; omega)), fun i => World.frozen?_of_block (w := y) (hg.block b hb (fun e => by have := hr b e.symm; omega))⟩
theorem OfferK.set {b o base : Nat} {x y : World} (h : OfferK b o base x y) (i : Nat) (hi : i = o ∨ i = o + 1) (v : Value) : OfferK b o base x (y.setCell ⟨b, i, none⟩ v) :=
  h.trans ⟨rfl, rfl, rfl, by simp, fun k hk hb => Below.heap_setCell _ _ _ _ (by exact hb), fun j h1 h2 => World.cell?_setCell_other _ _ _ _ (by intro e; have := congrArg Addr.off e; simp at this; omega), fun j => by simp⟩

def OfferEnd (b o base : Nat) (s : List Nat × Nat) (w : World) (e : Ending) (w' : World) : Prop :=
  ∃ sv', e = .returned (.tuple #[]) ∧ w'.cell? ⟨b, o, none⟩ = some sv' ∧ w'.ownsRow base 3 1 sv' s.1.length (nvals s.1) ∧ w'.cell? ⟨b, o + 1, none⟩ = some (.int .i64 (s.2 : Nat)) ∧ OfferK b o base w w'

/-- The world behind the append and both stores. -/
theorem offer_end {b o base : Nat} {xs : List Nat} {c v : Nat} {w W w1 : World} {v' u0 u1 : Value} {row : Option Nat} {ob : Obj} (hb : b < base) (hK : OfferK b o base w W) (hbs : base ≤ W.heap.size) (hbW : b < W.heap.size)
    (h0 : W.cell? ⟨b, o, none⟩ = some u0) (h1 : W.cell? ⟨b, o + 1, none⟩ = some u1) (hown : w1.ownsRow base 3 1 v' (xs.length + 1) (nvals xs ++ [.int .i64 (v : Nat)])) (hg : (W.alloc ob).grownBy w1 row) (hr : ∀ k, row = some k → base ≤ k) :
    w1.cell? ⟨b, o, none⟩ = some u0 ∧ w1.cell? ⟨b, o + 1, none⟩ = some u1 ∧ (∀ i, w1.frozen? ⟨b, i, none⟩ = w.frozen? ⟨b, i, none⟩) ∧
    ∀ e, e = Ending.returned (.tuple #[]) → OfferEnd b o base (xs ++ [v], c) w e ((w1.setCell ⟨b, o, none⟩ v').setCell ⟨b, o + 1, none⟩ (.int .i64 (c : Nat))) := by
  have K1 : OfferK b o base w w1 := (hK.alloc hbW hbs ob).grown (by simp; omega) hb (by simp; omega) hg hr
  have k0 : w1.cell? ⟨b, o, none⟩ = some u0 := by
    rw [World.cell?_of_block (w := W.alloc ob) (hg.block b (by simp; omega) (fun e => by have := hr b e.symm; omega)), World.cell?_alloc_lt _ _ _ (by exact hbW)]; exact h0
  have k1 : w1.cell? ⟨b, o + 1, none⟩ = some u1 := by
    rw [World.cell?_of_block (w := W.alloc ob) (hg.block b (by simp; omega) (fun e => by have := hr b e.symm; omega)), World.cell?_alloc_lt _ _ _ (by exact hbW)]; exact h1
  refine ⟨k0, k1, K1.froz, fun e he => ⟨v', he, ?_, ?_, ?_, (K1.set o (.inl rfl) _).set (o + 1) (.inr rfl) _⟩⟩
  · rw [World.cell?_setCell_other _ _ _ _ (by simp)]; exact World.cell?_setCell_same _ _ _ k0
  · have h2 := ownsRow_setCell_below hown (a := ⟨b, o, none⟩) (by exact hb) v'
    have h3 := ownsRow_setCell_below h2 (a := ⟨b, o + 1, none⟩) (by exact hb) (.int .i64 (c : Nat))
    simpa [nvals] using h3
  · exact World.cell?_setCell_same _ _ _ (u := u1) (by rw [World.cell?_setCell_other _ _ _ _ (by simp)]; exact k1)

set_option maxRecDepth 100000 in
set_option maxHeartbeats 1600000 in
theorem offer_any (b o base : Nat) (all : List Nat) (cost v c : Nat) (sv : Value) (w : World) (h0 : w.cell? ⟨b, o, none⟩ = some sv) (hown : w.ownsRow base 3 1 sv all.length (nvals all)) (h1 : w.cell? ⟨b, o + 1, none⟩ = some (.int .i64 cost))
    (f0 : w.frozen? ⟨b, o, none⟩ = false) (f1 : w.frozen? ⟨b, o + 1, none⟩ = false) (hb : b < base) (hbase : base ≤ w.heap.size) (hlen : all.length ≤ 1000) :
    Calls Tryz.prog 54 #[.pointer (some ⟨b, o, none⟩), .int .i64 (v : Nat), .int .i64 (c : Nat)] w (OfferEnd b o base (offerL (all, cost) v c) w) := by
  obtain ⟨i0, hi, hz0, hz1, hz2⟩ := info_parts Tryz.infoInt
  have hbw : b < w.heap.size := World.block_lt_of_cell? w _ h0
  obtain ⟨sa, n, sc, rfl⟩ := owns_any hown
  have hlen2 : n = all.length := by
    obtain ⟨_, h2⟩ := hown
    rcases h2 with ⟨hv, h9⟩ | ⟨g, cap, cur, hv, _⟩
    · cases hv; exact h9.symm
    · cases hv; rfl
  subst hlen2
  by_cases hA : all ≠ [] ∧ cost < c
  · have HE := Lib.hid (show offerL (all, cost) v c = (all, cost) by simp only [offerL]; rw [if_pos hA])
    have hl : (0 : Int) < (all.length : Int) := by have := List.length_pos_iff.2 hA.1; omega
    have hd1 : decide (0 < all.length) = true := by exact decide_eq_true (List.length_pos_iff.2 hA.1)
    have hd2 : decide (cost < c) = true := by simp; exact hA.2
    have HO := Lib.hid hown
    clear hown hA
    go_enter Tryz.func54, Tryz.ntmps54
    go_wp2_with fail
    go_end0
    rw [HE.out]
    exact ⟨_, rfl, h0, HO.out, h1, OfferK.refl _ _ _ _⟩
  · by_cases hB : c < cost
    · have HE := Lib.hid (show offerL (all, cost) v c = ([] ++ [v], c) by simp only [offerL]; rw [if_neg hA, if_pos hB]; rfl)
      have hd2 : decide (cost < c) = false := by simp; omega
      have hd3 : decide (c < cost) = true := by simp; omega
      clear hown
      have HA := Lib.hid hA
      clear hA
      have hW0 : (w.setCell ⟨b, o, none⟩ (.slice none 0 0)).cell? ⟨b, o, none⟩ = some (.slice none 0 0) := World.cell?_setCell_same _ _ _ h0
      have HK0 := Lib.hid ((OfferK.refl b o base w).set o (.inl rfl) (.slice none 0 0))
      by_cases hne : 0 < all.length
      all_goals
        first
          | (have hdl : decide (0 < all.length) = true := decide_eq_true hne)
          | (have hdl : decide (0 < all.length) = false := decide_eq_false hne)
        clear hne
        go_enter Tryz.func54, Tryz.ntmps54
        go_wp2_with (at_builtin; refine wpList_append_own _ rfl _ _ 22 rfl base 3 i0 (.int .i64 0) 1 8 Tryz.underlying22 hi hz0 hz1 hz2 rfl (by decide) _ _ _ rfl (World.ownsRow_nil _ _ _ _) ⟨w.heap.size, 0, none⟩ 1 1 [.int .i64 (v : Nat)] rfl rfl ?c1 ?c2 ?c3 ?c4 ?c5 ?_)
        case c1 =>
          intro j u hj
          match j, hj with
          | 0, hj => simp at hj; subst hj; rw [addr_add, World.cell?_alloc_at _ _ _ _ (by simp)]; rfl
        case c2 => intro u hu; simp at hu; subst hu; rfl
        case c3 => unfold maxLen; omega
        case c4 => omega
        case c5 => simp; omega
        intro v' w1 hown' hgrow _
        obtain ⟨g', cap', rfl⟩ := owns_succ hown'
        have hE := offer_end (xs := []) (c := c) (v := v) hb HK0.out (by simpa using hbase) (by simpa using hbw) hW0 (by rw [World.cell?_setCell_other _ _ _ _ (by simp)]; exact h1) hown' hgrow (fun k hk => by cases hk)
        obtain ⟨k0, k1, kf, kE⟩ := hE
        have kf0 := (kf o).trans f0
        have kf1 := (kf (o + 1)).trans f1
        have HEE := Lib.hid kE
        clear hown' hgrow kE kf hW0
        go_wp2_with fail
        go_end0
        rw [HE.out]
        exact HEE.out _ rfl
    · have HE := Lib.hid (show offerL (all, cost) v c = (all ++ [v], c) by simp only [offerL]; rw [if_neg hA, if_neg hB])
      have hd3 : decide (c < cost) = false := by simp; omega
      have hd12 : (0 < all.length ∧ cost < c) ↔ False := by
        constructor
        · rintro ⟨h1, h2⟩; exact hA ⟨List.ne_nil_of_length_pos h1, h2⟩
        · exact False.elim
      have HO := Lib.hid hown
      have HA := Lib.hid hA
      clear hown hA
      by_cases hne : 0 < all.length
      · have hdl : decide (0 < all.length) = true := decide_eq_true hne
        have hd2 : decide (cost < c) = false := decide_eq_false fun h => hd12.1 ⟨hne, h⟩
        clear hd12
        go_enter Tryz.func54, Tryz.ntmps54
        go_wp2_with (at_builtin; refine wpList_append_own _ rfl _ _ 22 rfl base 3 i0 (.int .i64 0) 1 8 Tryz.underlying22 hi hz0 hz1 hz2 rfl (by decide) _ _ _ rfl (HO.out.alloc _) ⟨w.heap.size, 0, none⟩ 1 1 [.int .i64 (v : Nat)] rfl rfl ?c1 ?c2 ?c3 ?c4 ?c5 ?_)
        case c1 =>
          intro j u hj
          match j, hj with
          | 0, hj => simp at hj; subst hj; simp [Addr.add]
        case c2 => intro u hu; simp at hu; subst hu; rfl
        case c3 => unfold maxLen; omega
        case c4 => omega
        case c5 => simp; omega
        intro v' w1 hown' hgrow _
        obtain ⟨g', cap', rfl⟩ := owns_succ hown'
        have hE := offer_end (xs := all) (c := c) (v := v) hb (OfferK.refl b o base w) hbase hbw h0 h1 hown' hgrow (fun k hk => (HO.out.lt k hk).1)
        obtain ⟨k0, k1, kf, kE⟩ := hE
        have kf0 := (kf o).trans f0
        have kf1 := (kf (o + 1)).trans f1
        have HEE := Lib.hid kE
        clear hown' hgrow kE kf
        go_wp2_with fail
        go_end0
        rw [HE.out]
        exact HEE.out _ rfl
      · have hdl : decide (0 < all.length) = false := decide_eq_false hne
        clear hd12
        go_enter Tryz.func54, Tryz.ntmps54
        go_wp2_with (at_builtin; refine wpList_append_own _ rfl _ _ 22 rfl base 3 i0 (.int .i64 0) 1 8 Tryz.underlying22 hi hz0 hz1 hz2 rfl (by decide) _ _ _ rfl (HO.out.alloc _) ⟨w.heap.size, 0, none⟩ 1 1 [.int .i64 (v : Nat)] rfl rfl ?c1 ?c2 ?c3 ?c4 ?c5 ?_)
        case c1 =>
          intro j u hj
          match j, hj with
          | 0, hj => simp at hj; subst hj; simp [Addr.add]
        case c2 => intro u hu; simp at hu; subst hu; rfl
        case c3 => unfold maxLen; omega
        case c4 => omega
        case c5 => simp; omega
        intro v' w1 hown' hgrow _
        obtain ⟨g', cap', rfl⟩ := owns_succ hown'
        have hE := offer_end (xs := all) (c := c) (v := v) hb (OfferK.refl b o base w) hbase hbw h0 h1 hown' hgrow (fun k hk => (HO.out.lt k hk).1)
        obtain ⟨k0, k1, kf, kE⟩ := hE
        have kf0 := (kf o).trans f0
        have kf1 := (kf (o + 1)).trans f1
        have HEE := Lib.hid kE
        clear hown' hgrow kE kf
        go_wp2_with fail
        go_end0
        rw [HE.out]
        exact HEE.out _ rfl
end Go.Proofs.YtejfelijhojndaaGreatDoor

/-
  tooth: known.best, by contract.
-/
namespace Go.Proofs.YtejfelijhojndaaGreatDoor
open Go.RowKit Go.Proofs Go.Shelf

def kcells (K : List Ch) : List Value := K.flatMap fun c => [.bool c.1, .int .i64 (c.2 : Nat)]
def kV (K : List Ch) : Value := .agg (kcells K).toArray
def kAt (K : List Ch) (m : Nat) : Ch := K[m]?.getD (false, 0)

theorem kcells_length : ∀ K : List Ch, (kcells K).length = K.length * 2
  | [] => rfl
  | c :: K => by
    show ([_, _] ++ kcells K).length = _
    rw [List.length_append, kcells_length K, List.length_cons]; simp; omega
theorem kcells_get : ∀ (K : List Ch) (m : Nat), m < K.length → (kcells K)[m * 2]? = some (.bool (kAt K m).1) ∧ (kcells K)[m * 2 + 1]? = some (.int .i64 ((kAt K m).2 : Nat))
  | [], m, h => by simp at h
  | c :: K, 0, _ => ⟨rfl, rfl⟩
  | c :: K, m + 1, h => by
    have ih := kcells_get K m (by simpa using h)
    have e1 : (m + 1) * 2 = m * 2 + 2 := by omega
    have hk : kAt (c :: K) (m + 1) = kAt K m := by simp [kAt]
    rw [e1, hk]
    exact ih
theorem kcells_one : ∀ (K : List Ch), ∀ v ∈ kcells K, v.oneCell' = true := by
  intro K v hv
  obtain ⟨c, _, hc⟩ := List.mem_flatMap.1 hv
  simp at hc
  rcases hc with rfl | rfl <;> rfl

theorem known_cell {w : World} {b : Nat} {K : List Ch} {T : TypeId} {fr : Nat × Nat} (h : w.heap[b]? = some (.cells (kcells K).toArray T fr)) {m : Nat} (hm : m < K.length) :
    w.cell? ⟨b, m * 2, none⟩ = some (.bool (kAt K m).1) ∧ w.cell? ⟨b, m * 2 + 1, none⟩ = some (.int .i64 ((kAt K m).2 : Nat)) := by
  have := kcells_get K m hm
  simp only [World.cell?, h]
  simpa using this

def bestTo (K : List Ch) (l : List Int) (k : Nat) : List Nat × Nat :=
  (l.take k).foldl (fun s m => if (kAt K m.toNat).1 then offerL s m.toNat (kAt K m.toNat).2 else s) ([], 0)
def bestL (K : List Ch) (l : List Int) : List Nat × Nat := bestTo K l l.length
theorem bestTo_succ (K : List Ch) (l : List Int) {k : Nat} (h : k < l.length) :
    bestTo K l (k + 1) = if (kAt K l[k].toNat).1 then offerL (bestTo K l k) l[k].toNat (kAt K l[k].toNat).2 else bestTo K l k := by
  simp only [bestTo]
  rw [List.take_succ_eq_append_getElem h, List.foldl_append]
  rfl
theorem offerL_len (s : List Nat × Nat) (v c : Nat) : (offerL s v c).1.length ≤ s.1.length + 1 := by
  unfold offerL
  split
  · omega
  · split <;> simp
theorem bestTo_len (K : List Ch) (l : List Int) : ∀ k, k ≤ l.length → (bestTo K l k).1.length ≤ k
  | 0, _ => by simp [bestTo]
  | k + 1, h => by
    have ih := bestTo_len K l k (by omega)
    rw [bestTo_succ K l (by omega)]
    split
    · have := offerL_len (bestTo K l k) l[k].toNat (kAt K l[k].toNat).2
      omega
    · omega

/-- A least at ⟨b, o⟩. -/
def LeastAt (b o base : Nat) (s : List Nat × Nat) (w : World) : Prop :=
  ∃ sv, w.cell? ⟨b, o, none⟩ = some sv ∧ w.ownsRow base 3 1 sv s.1.length (nvals s.1) ∧ w.cell? ⟨b, o + 1, none⟩ = some (.int .i64 (s.2 : Nat)) ∧ w.frozen? ⟨b, o, none⟩ = false ∧ w.frozen? ⟨b, o + 1, none⟩ = false

def BestEnd (s : List Nat × Nat) (w : World) (e : Ending) (w' : World) : Prop :=
  ∃ sv, e = .returned (.agg #[sv, .int .i64 (s.2 : Nat)]) ∧ w'.ownsRow w.heap.size 3 1 sv s.1.length (nvals s.1) ∧ Below w.heap.size w w'

set_option maxRecDepth 100000 in
set_option maxHeartbeats 1600000 in
theorem best_any (K : List Ch) (v : Value) (l : List Int) (w : World) (hK : K.length = 8) (hv : Ints w v l) (hl : ∀ x ∈ l, 0 ≤ x ∧ x < 8) (hlen : l.length ≤ 100) :
    Calls Tryz.prog 69 #[kV K, v] w (BestEnd (bestL K l) w) := by
  obtain ⟨a, cap, rfl, hc⟩ := hv
  have HC := Lib.hid hc
  have HLL := Lib.hid hl
  clear hc hl
  unfold kV
  obtain ⟨W3, hW3⟩ : ∃ W3, ((w.alloc (.cells (kcells K).toArray 86)).alloc (.cells #[.slice none 0 0, .int .i64 0] 80)).alloc (.cells #[.slice none 0 0, .int .i64 0] 80) = W3 := ⟨_, rfl⟩
  obtain ⟨g0, g1, g2, g3⟩ := three_heap w (.cells (kcells K).toArray 86) (.cells #[.slice none 0 0, .int .i64 0] 80) (.cells #[.slice none 0 0, .int .i64 0] 80)
  rw [hW3] at g0 g1 g2 g3
  have hs3 : W3.heap.size = w.heap.size + 1 + 1 + 1 := by rw [← hW3]; simp
  have hb3 : Below w.heap.size w W3 := by rw [← hW3]; exact (((Below.refl _ w).alloc (Nat.le_refl _) _).alloc (by simp) _).alloc (by simp; omega) _
  have HL0 : Hid (LeastAt (w.heap.size + 1 + 1) 0 (w.heap.size + 1 + 1 + 1) ([], 0) W3) := by
    obtain ⟨p0, p1, pf⟩ := cell_of_two g3
    exact ⟨_, p0, World.ownsRow_nil _ _ _ _, p1, pf 0, pf 1⟩
  have HG := Lib.hid (And.intro g1 g2)
  have HB3 := Lib.hid hb3
  have HW3 := Lib.hid hW3
  have HS3 := Lib.hid hs3
  clear hW3 g0 g1 g2 g3 hb3 hs3
  go_enter Tryz.func69, Tryz.ntmps69
  go_wp2_with fail
  go_loopw [10] (fun i wr => ∃ k : Nat, k ≤ l.length ∧ i = .int .i64 k ∧ wr.heap[w.heap.size]? = some (.cells (kcells K).toArray 86 (0, 0)) ∧ wr.heap[w.heap.size + 1]? = some (.cells #[.slice none 0 0, .int .i64 0] 80 (0, 0)) ∧
      LeastAt (w.heap.size + 1 + 1) 0 (w.heap.size + 1 + 1 + 1) (bestTo K l k) wr ∧ w.heap.size + 1 + 1 + 1 ≤ wr.heap.size ∧ Below w.heap.size w wr) (fun i _ => l.length - (intOf i).toNat)
  case atStart => rw [HW3.out]; exact ⟨0, Nat.zero_le _, rfl, HG.out.1, HG.out.2, HL0.out, Nat.le_of_eq HS3.out.symm, HB3.out⟩
  case round =>
    obtain ⟨k, hk, rfl, k0, k1, kL, ksz, hbl⟩ := hrel
    have hble := bestTo_len K l k hk
    by_cases hlt : k < l.length
    · have hklt : (k : Int) < (l.length : Int) := by omega
      have hk0 : (0 : Int) ≤ (k : Int) := by omega
      obtain ⟨b, off, rfl, hd⟩ := HC.out (by omega)
      have c0 := below_cell hbl (hd k hlt)
      obtain ⟨x, hx⟩ : ∃ x, l[k] = x := ⟨_, rfl⟩
      have hgd : l[k]?.getD 0 = x := by simp [hlt, hx]
      rw [hgd] at c0
      have hx8 := HLL.out x (by rw [← hx]; exact List.getElem_mem hlt)
      obtain ⟨m, rfl⟩ := Int.eq_ofNat_of_zero_le hx8.1
      have hm : m < K.length := by omega
      have hm0 : (0 : Int) ≤ (m : Int) := by omega
      have hm1 : (m : Int) < 8 := by omega
      have hsl := Lib.hid (bestTo_succ K l hlt)
      rw [hx, Int.toNat_natCast] at hsl
      obtain ⟨q0, q1⟩ := known_cell k0 hm
      obtain ⟨c, hcc⟩ : ∃ c, kAt K m = c := ⟨_, rfl⟩
      rw [hcc] at q0 q1 hsl
      obtain ⟨cb, cf⟩ := c
      simp only at q0 q1 hsl
      have HK0 := Lib.hid k0
      have HK1 := Lib.hid k1
      have HKL := Lib.hid kL
      have HBL := Lib.hid hbl
      clear hd hx hgd hcc k0 k1 hx8 hbl
      cases cb with
      | false =>
        rw [if_neg (by simp)] at hsl
        clear kL
        go_wp2_with fail
        go_roundw
        case rel => exact ⟨k + 1, by omega, by go_num, HK0.out, HK1.out, by rw [hsl.out]; exact HKL.out, ksz, HBL.out⟩
        case measure => simp [intOf]; omega
      | true =>
        rw [if_pos rfl] at hsl
        obtain ⟨sv, s0, so, s1, sf0, sf1⟩ := kL
        have OF := Lib.hid (offer_any (w.heap.size + 1 + 1) 0 (w.heap.size + 1 + 1 + 1) (bestTo K l k).1 (bestTo K l k).2 m cf sv wr s0 so s1 sf0 sf1 (by omega) ksz (by omega))
        clear s0 so s1
        go_wp2_with fail
        refine OF.out.mono ?_
        rintro e w2 ⟨sv2, rfl, t0, to, t1, tk⟩
        have HT : Hid (LeastAt (w.heap.size + 1 + 1) 0 (w.heap.size + 1 + 1 + 1) (bestTo K l (k + 1)) w2) := by
          rw [hsl.out]
          exact ⟨sv2, t0, to, t1, (tk.froz 0).trans sf0, (tk.froz 1).trans sf1⟩
        have HTK := Lib.hid tk
        clear t0 to t1 tk sf0 sf1
        go_wp2_with fail
        go_roundw
        case rel => exact ⟨k + 1, by omega, by go_num, (HTK.out.block _ (by omega) (by omega)).trans HK0.out, (HTK.out.block _ (by omega) (by omega)).trans HK1.out, HT.out, Nat.le_trans ksz HTK.out.size, HBL.out.trans ⟨HTK.out.os, HTK.out.tape, HTK.out.output, HTK.out.size, fun j hj => HTK.out.block j (by omega) (by omega)⟩⟩
        case measure => simp [intOf]; omega
    · have hklt : ¬ (k : Int) < (l.length : Int) := by omega
      obtain rfl : k = l.length := by omega
      obtain ⟨r0, r1, rf⟩ := cell_of_two k1
      obtain ⟨sv, s0, so, s1, sf0, sf1⟩ := kL
      obtain ⟨sa, sn, sc, rfl⟩ := owns_any so
      have rf0 := rf 0
      have rf1 := rf 1
      have HB := Lib.hid hbl
      have HSO := Lib.hid so
      have HE := Lib.hid (show bestL K l = bestTo K l l.length from rfl)
      rw [← HE.out] at HSO s1
      clear rf hbl k0 k1 so
      go_wp2_with fail
      refine bodyPost_ret (v := .agg #[.slice sa sn sc, .int .i64 ((bestL K l).2 : Nat)]) ?_ rfl ?_
      · simp [results, Tryz.results69, go_sem, r0, r1]
      · refine ⟨_, rfl, ?_, (HB.out.setCell (by simp) _).setCell (by simp) _⟩
        have h2 := ownsRow_setCell_below (owns_base HSO.out (Nat.le_refl _)) (a := ⟨w.heap.size + 1, 0, none⟩) (by simp) (.slice sa sn sc)
        have h3 := ownsRow_setCell_below h2 (a := ⟨w.heap.size + 1, 1, none⟩) (by simp) (.int .i64 ((bestL K l).2 : Nat))
        exact owns_base h3 (by omega)
end Go.Proofs.YtejfelijhojndaaGreatDoor

/-
  tooth: before, by contract.
-/
namespace Go.Proofs.YtejfelijhojndaaGreatDoor
open Go.RowKit Go.Proofs Go.Shelf

theorem Tryz.undKnown : Tryz.prog.underlying 86 = some (.array 8 84) := by kernel_rfl
theorem Tryz.sizeKnown : (Tryz.prog.info? 86).map (·.size) = some 16 := by kernel_rfl
theorem size_known {K : List Ch} (h : K.length = 8) : (Tryz.prog.info? 86).map (·.size) = some (kcells K).length := by rw [kcells_length, h]; exact Tryz.sizeKnown
theorem size_known' {K : List Ch} (h : K.length = 8) : (Tryz.prog.info? 86).map (·.size) = some (kcells K).toArray.size := by rw [List.size_toArray]; exact size_known h

theorem known_range {w : World} {b : Nat} {K : List Ch} {T : TypeId} {fr : Nat × Nat} (h : w.heap[b]? = some (.cells (kcells K).toArray T fr)) : w.rangeAt b 0 (kcells K) := fun j v hv => by
  simp only [World.cell?, h, Nat.zero_add]
  simpa using hv
theorem known_there {w : World} {b : Nat} {C : Array Value} {T : TypeId} (h : w.heap[b]? = some (.cells C T (0, 0))) {o n : Nat} (hn : o + n ≤ C.size) : w.there b o n := fun j hj => by
  simp only [World.cell?, World.frozen?, h]
  simp
  omega

theorem kcells_set : ∀ (K : List Ch) (m : Nat) (c : Ch), m < K.length → ((kcells K).set (m * 2) (.bool c.1)).set (m * 2 + 1) (.int .i64 (c.2 : Nat)) = kcells (K.set m c)
  | [], m, c, h => by simp at h
  | d :: K, 0, c, _ => rfl
  | d :: K, m + 1, c, h => by
    have ih := kcells_set K m c (by simpa using h)
    have e1 : (m + 1) * 2 = m * 2 + 2 := by omega
    rw [e1]
    show (([_, _] ++ kcells K).set (m * 2 + 2) _).set (m * 2 + 2 + 1) _ = [_, _] ++ kcells (K.set m c)
    rw [← ih]
    rfl
theorem known_set {w : World} {b : Nat} {K : List Ch} {T : TypeId} (h : w.heap[b]? = some (.cells (kcells K).toArray T (0, 0))) (m : Nat) (c : Ch) (hm : m < K.length) :
    ((w.setCell ⟨b, m * 2, none⟩ (.bool c.1)).setCell ⟨b, m * 2 + 1, none⟩ (.int .i64 (c.2 : Nat))).heap[b]? = some (.cells (kcells (K.set m c)).toArray T (0, 0)) := by
  rw [← kcells_set K m c hm]
  simp [World.setCell, Array.getElem?_modify, h]

def befC (K : List Ch) (l : List Int) : Ch := (decide (0 < (bestL K l).1.length), (bestL K l).2)
def beforeTo (N : List (List Int)) (K : List Ch) : Nat → List Ch
  | 0 => List.replicate 8 (false, 0)
  | k + 1 => (beforeTo N K k).set k (befC K (N[k]?.getD []))
def beforeL (N : List (List Int)) (K : List Ch) : List Ch := beforeTo N K N.length
theorem beforeTo_length (N : List (List Int)) (K : List Ch) : ∀ k, (beforeTo N K k).length = 8
  | 0 => by simp [beforeTo]
  | k + 1 => by rw [beforeTo, List.length_set]; exact beforeTo_length N K k

def KnownEnd (K : List Ch) (w : World) (e : Ending) (w' : World) : Prop := e = .returned (kV K) ∧ Below w.heap.size w w'

theorem below_setCells {B : Nat} {a : World} (b : Nat) (hb : B ≤ b) : ∀ (vs : List Value) (o : Nat) (w : World), Below B a w → Below B a (w.setCells b o vs)
  | [], _, _, h => h
  | v :: r, o, w, h => by
    rw [World.setCells]
    exact below_setCells b hb r (o + 1) _ (h.setCell (by exact hb) _)

set_option maxRecDepth 100000 in
set_option maxHeartbeats 1600000 in
theorem before_any (Wk : Nat) (nv dv lv : Value) (N D : List (List Int)) (L : List (Nat × Nat)) (w0 w : World) (hI : TIn nv dv lv N D L w0) (hW : TWork Wk nv dv lv w0 w) (K : List Ch) (hK : K.length = 8) :
    Calls Tryz.prog 51 #[.pointer (some ⟨Wk, 0, none⟩), kV K] w (KnownEnd (beforeL N K) w) := by
  have hn8 := hI.jaw.le
  have hc0 := hW.c0
  have hNx := hW.rows hI.next
  obtain ⟨b, off, cap, rfl, hr⟩ := hNx
  have HR := Lib.hid hr
  have HJ := Lib.hid hI.jaw.next
  have hlW : Wk < w.heap.size := World.block_lt_of_cell? w _ hc0
  clear hr hI hW
  have hu := Lib.hid Tryz.undKnown
  have hz := Lib.hid (size_known hK)
  unfold kV
  have HB := Lib.hid (fun W' (v : Value) (l : List Int) (hv : Ints W' v l) (h8 : ∀ x ∈ l, 0 ≤ x ∧ x < 8) (h3 : l.length ≤ 3) => best_any K v l W' hK hv h8 (by omega))
  unfold kV at HB
  have hZ : (kcells (List.replicate 8 (false, 0))).toArray = (#[.bool false, .int .i64 0, .bool false, .int .i64 0, .bool false, .int .i64 0, .bool false, .int .i64 0, .bool false, .int .i64 0, .bool false, .int .i64 0, .bool false, .int .i64 0, .bool false, .int .i64 0] : Array Value) := rfl
  obtain ⟨W3, hW3⟩ : ∃ W3, ((w.alloc (.cells (kcells K).toArray 86)).alloc (.cells (#[.bool false, .int .i64 0, .bool false, .int .i64 0, .bool false, .int .i64 0, .bool false, .int .i64 0, .bool false, .int .i64 0, .bool false, .int .i64 0, .bool false, .int .i64 0, .bool false, .int .i64 0] : Array Value) 86)).alloc (.cells (#[.bool false, .int .i64 0, .bool false, .int .i64 0, .bool false, .int .i64 0, .bool false, .int .i64 0, .bool false, .int .i64 0, .bool false, .int .i64 0, .bool false, .int .i64 0, .bool false, .int .i64 0] : Array Value) 86) = W3 := ⟨_, rfl⟩
  obtain ⟨g0, g1, g2, g3⟩ := three_heap w (.cells (kcells K).toArray 86) (.cells (#[.bool false, .int .i64 0, .bool false, .int .i64 0, .bool false, .int .i64 0, .bool false, .int .i64 0, .bool false, .int .i64 0, .bool false, .int .i64 0, .bool false, .int .i64 0, .bool false, .int .i64 0] : Array Value) 86) (.cells (#[.bool false, .int .i64 0, .bool false, .int .i64 0, .bool false, .int .i64 0, .bool false, .int .i64 0, .bool false, .int .i64 0, .bool false, .int .i64 0, .bool false, .int .i64 0, .bool false, .int .i64 0] : Array Value) 86)
  rw [hW3] at g0 g1 g2 g3
  have hs3 : W3.heap.size = w.heap.size + 1 + 1 + 1 := by rw [← hW3]; simp
  have hb3 : Below w.heap.size w W3 := by rw [← hW3]; exact (((Below.refl _ w).alloc (Nat.le_refl _) _).alloc (by simp) _).alloc (by simp; omega) _
  have d0 := below_cell hb3 hc0
  rw [← hZ] at g2 g3
  have HG := Lib.hid (And.intro g1 (And.intro g2 g3))
  have HB3 := Lib.hid hb3
  have HS3 := Lib.hid hs3
  clear g0 g1 g2 g3 hb3 hs3 hZ
  go_enter Tryz.func51, Tryz.ntmps51
  go_wp2_with fail
  go_loopw [16] (fun i wr => ∃ k : Nat, k ≤ N.length ∧ i = .int .i64 k ∧ wr.heap[w.heap.size]? = some (.cells (kcells K).toArray 86 (0, 0)) ∧ wr.heap[w.heap.size + 1]? = some (.cells (kcells (List.replicate 8 (false, 0))).toArray 86 (0, 0)) ∧
      wr.heap[w.heap.size + 1 + 1]? = some (.cells (kcells (beforeTo N K k)).toArray 86 (0, 0)) ∧ Below w.heap.size w wr) (fun i _ => N.length - (intOf i).toNat)
  case atStart => exact ⟨0, Nat.zero_le _, rfl, HG.out.1, HG.out.2.1, HG.out.2.2, HB3.out⟩
  case round =>
    obtain ⟨k, hk, rfl, k0, k1, k2, hbl⟩ := hrel
    have hsz := (Array.getElem?_eq_some_iff.1 k2).1
    by_cases hlt : k < N.length
    · have hklt : (k : Int) < (N.length : Int) := by omega
      have hk0 : (0 : Int) ≤ (k : Int) := by omega
      have hk8 : (k : Int) < 8 := by omega
      obtain ⟨u, hu1, hIu⟩ := HR.out k hlt
      have c0 := below_cell hbl hu1
      obtain ⟨hmo, _⟩ := HJ.out k hlt
      obtain ⟨l, hl⟩ : ∃ l, N[k]?.getD [] = l := ⟨_, rfl⟩
      have hll : N[k] = l := by rw [← hl]; simp [hlt]
      rw [hll] at hmo
      rw [hl] at hIu
      have B1 := Lib.hid (HB.out wr u l (hIu.below hbl) (fun x hx => by
        obtain ⟨j, hj, rfl⟩ := List.getElem_of_mem hx
        have := hmo.num j hj
        omega) hmo.le)
      have hrg := Lib.hid (known_range k0)
      have HK0 := Lib.hid k0
      have HK1 := Lib.hid k1
      have HK2 := Lib.hid k2
      have HBL := Lib.hid hbl
      have hNk := Lib.hid (show beforeTo N K (k + 1) = (beforeTo N K k).set k (befC K l) by rw [beforeTo, hl])
      obtain ⟨ua, uc, rfl, _⟩ := hIu
      clear k0 k1 k2 hbl hl hll hmo hu1 d0
      go_wp2_with (first | (refine wpList_load_mid rfl 86 (.tmp 3) rfl w.heap.size 0 rfl (kcells K) _ hrg.out hu.out rfl hz.out ?_))
      refine B1.out.mono ?_
      rintro e w2 ⟨sv, rfl, so, hb2⟩
      obtain ⟨sa, sn, sc, rfl⟩ := owns_any so
      have hsn : sn = (bestL K l).1.length := by
        obtain ⟨_, h2⟩ := so
        rcases h2 with ⟨hv, h9⟩ | ⟨g, cap, cur, hv, _⟩
        · cases hv; exact h9.symm
        · cases hv; rfl
      subst hsn
      have HW2 := Lib.hid (below_heap hb2 HK2.out)
      have HW1 := Lib.hid (below_heap hb2 HK1.out)
      have HW0 := Lib.hid (below_heap hb2 HK0.out)
      have HBB := Lib.hid (HBL.out.trans (hb2.mono HBL.out.size))
      have hl8 := beforeTo_length N K k
      have hlast := known_cell HW2.out (m := k) (by omega)
      obtain ⟨e0, e1⟩ := hlast
      have ef0 : w2.frozen? ⟨w.heap.size + 1 + 1, k * 2, none⟩ = false := by simp [World.frozen?, HW2.out]
      have ef1 : w2.frozen? ⟨w.heap.size + 1 + 1, k * 2 + 1, none⟩ = false := by simp [World.frozen?, HW2.out]
      have lw2 := Nat.lt_of_lt_of_le hsz hb2.size
      clear so hb2
      generalize hcs : (bestL K l).1.length = cs
      generalize hcf : (bestL K l).2 = cf
      have HN := Lib.hid (show beforeTo N K (k + 1) = (beforeTo N K k).set k (decide (0 < cs), cf) by rw [hNk.out, befC, hcs, hcf])
      have q0 : (w2.alloc (.cells #[.slice sa cs sc, .int .i64 cf] 80)).cell? ⟨w.heap.size + 1 + 1, k * 2, none⟩ = _ := (World.cell?_alloc_lt _ _ _ lw2).trans e0
      have q1 : (w2.alloc (.cells #[.slice sa cs sc, .int .i64 cf] 80)).cell? ⟨w.heap.size + 1 + 1, k * 2 + 1, none⟩ = _ := (World.cell?_alloc_lt _ _ _ lw2).trans e1
      clear hcs hcf
      go_wp2_with fail
      go_roundw
      case rel =>
        refine ⟨k + 1, by omega, by go_num, ?_, ?_, ?_, ?_⟩
        · exact (Below.heap_alloc _ _ _ (by simp; omega)).trans ((Below.heap_setCell _ _ _ _ (by show w.heap.size ≠ w.heap.size + 1 + 1; omega)).trans ((Below.heap_setCell _ _ _ _ (by show w.heap.size ≠ w.heap.size + 1 + 1; omega)).trans HW0.out))
        · exact (Below.heap_alloc _ _ _ (by simp; omega)).trans ((Below.heap_setCell _ _ _ _ (by show w.heap.size + 1 ≠ w.heap.size + 1 + 1; omega)).trans ((Below.heap_setCell _ _ _ _ (by show w.heap.size + 1 ≠ w.heap.size + 1 + 1; omega)).trans HW1.out))
        · rw [HN.out]
          exact (Below.heap_alloc _ _ _ (by simp; omega)).trans (known_set HW2.out k (decide (0 < cs), cf) (by omega))
        · exact ((HBB.out.setCell (by show w.heap.size ≤ w.heap.size + 1 + 1; omega) _).setCell (by show w.heap.size ≤ w.heap.size + 1 + 1; omega) _).alloc (by simp; omega) _
      case measure => simp [intOf]; omega
    · have hklt : ¬ (k : Int) < (N.length : Int) := by omega
      obtain rfl : k = N.length := by omega
      have HK0 := Lib.hid k0
      have HBL := Lib.hid hbl
      have hE := Lib.hid (show beforeL N K = beforeTo N K N.length from rfl)
      have h8 := beforeTo_length N K N.length
      rw [← hE.out] at k2 h8
      have hrg := Lib.hid (known_range k2)
      have hth := Lib.hid (known_there (o := 0) (n := (kcells (beforeL N K)).toArray.size) k1 (by rw [List.size_toArray, List.size_toArray, kcells_length, kcells_length, h8]; simp))
      have hz2 := Lib.hid (size_known h8)
      have hz3 := Lib.hid (size_known' h8)
      have hone := Lib.hid (all_oneCell_toArray (kcells_one (beforeL N K)))
      have h1s := (Array.getElem?_eq_some_iff.1 k1).1
      clear k0 k1 k2 hbl d0
      go_wp2_with (first
        | (refine wpList_load_mid rfl 86 (.tmp 5) rfl (w.heap.size + 1 + 1) 0 rfl (kcells (beforeL N K)) _ hrg.out hu.out rfl hz2.out ?_)
        | (refine wpList_store_mid rfl 86 (.tmp 4) (.tmp 34) rfl (w.heap.size + 1) 0 (kcells (beforeL N K)).toArray rfl rfl hth.out hz3.out hone.out ?_))
      have hrs := World.rangeAt_setCells_same wr (w.heap.size + 1) 0 (kcells (beforeL N K)) (by have := hth.out; rwa [List.size_toArray] at this)
      have hld := run_loadVar_mid (P := Tryz.prog) _ (w.heap.size + 1) 0 86 _ _ hrs hu.out rfl hz2.out
      refine bodyPost_ret (v := .agg (kcells (beforeL N K)).toArray) ?_ rfl ?_
      · simp [results, Tryz.results51]
        exact hld
      · exact ⟨rfl, below_setCells _ (by omega) _ _ _ HBL.out⟩
end Go.Proofs.YtejfelijhojndaaGreatDoor

/-
  tooth: knowYears, by contract.
-/
namespace Go.Proofs.YtejfelijhojndaaGreatDoor
open Go.RowKit Go.Proofs Go.Shelf

/-- Of block b the cells from lo to hi alone may have turned; other blocks stay. -/
structure PartK (b lo hi : Nat) (w w' : World) : Prop where
  kept : Kept b w w'
  cells : ∀ i, (i < lo ∨ hi ≤ i) → w'.cell? ⟨b, i, none⟩ = w.cell? ⟨b, i, none⟩
  froz : ∀ i, w'.frozen? ⟨b, i, none⟩ = w.frozen? ⟨b, i, none⟩
theorem PartK.refl (b lo hi : Nat) (w : World) : PartK b lo hi w w := ⟨Kept.refl b w, fun _ _ => rfl, fun _ => rfl⟩
theorem PartK.trans {b lo hi : Nat} {x y z : World} (h : PartK b lo hi x y) (k : PartK b lo hi y z) : PartK b lo hi x z :=
  ⟨h.kept.trans k.kept, fun i hi => (k.cells i hi).trans (h.cells i hi), fun i => (k.froz i).trans (h.froz i)⟩
theorem PartK.of_below {b lo hi : Nat} {x y : World} (hb : b < x.heap.size) (h : Below x.heap.size x y) : PartK b lo hi x y :=
  ⟨(Kept.refl b x).of_below h, fun i _ => h.cell (p := ⟨b, i, none⟩) hb, fun i => h.frozen (p := ⟨b, i, none⟩) hb⟩
theorem PartK.lt {b lo hi : Nat} {x y : World} (h : PartK b lo hi x y) (hb : b < x.heap.size) : b < y.heap.size := Nat.lt_of_lt_of_le hb h.kept.size
theorem PartK.below {b lo hi : Nat} {x y z : World} (h : PartK b lo hi x y) (hb : b < x.heap.size) (k : Below y.heap.size y z) : PartK b lo hi x z := h.trans (.of_below (h.lt hb) k)
theorem PartK.drew {b lo hi : Nat} {x y : World} (h : PartK b lo hi x y) : PartK b lo hi x y.drew := ⟨h.kept.drew, h.cells, h.froz⟩
/-- A store into another block, one that is new since x. -/
theorem PartK.setNew {b lo hi : Nat} {x y : World} (h : PartK b lo hi x y) {p : Addr} (hp : x.heap.size ≤ p.block) (hne : p.block ≠ b) (v : Value) : PartK b lo hi x (y.setCell p v) :=
  ⟨h.kept.setCell (.inr hp) v, fun i hi => (World.cell?_of_block (w := y) (Below.heap_setCell _ _ _ _ (by show b ≠ p.block; omega))).trans (h.cells i hi), fun i => (World.frozen?_of_block (w := y) (Below.heap_setCell _ _ _ _ (by show b ≠ p.block; omega))).trans (h.froz i)⟩
theorem kept_setCells {b : Nat} {x : World} (c : Nat) (hc : c = b ∨ x.heap.size ≤ c) : ∀ (vs : List Value) (o : Nat) (y : World), Kept b x y → Kept b x (y.setCells c o vs)
  | [], _, _, h => h
  | v :: r, o, y, h => by
    rw [World.setCells]
    exact kept_setCells c hc r (o + 1) _ (h.setCell (by exact hc) v)
theorem heap_setCells_ne (c k : Nat) (hk : k ≠ c) : ∀ (vs : List Value) (o : Nat) (y : World), (y.setCells c o vs).heap[k]? = y.heap[k]?
  | [], _, _ => rfl
  | v :: r, o, y => by
    rw [World.setCells]
    exact (heap_setCells_ne c k hk r (o + 1) _).trans (Below.heap_setCell _ _ _ _ (by exact hk))
theorem PartK.setsNew {b lo hi : Nat} {x y : World} (h : PartK b lo hi x y) {c : Nat} (hp : x.heap.size ≤ c) (hne : c ≠ b) (vs : List Value) (o : Nat) : PartK b lo hi x (y.setCells c o vs) :=
  ⟨kept_setCells c (.inr hp) vs o y h.kept, fun i hi => (World.cell?_of_block (w := y) (heap_setCells_ne c b (by omega) vs o y)).trans (h.cells i hi), fun i => (World.frozen?_of_block (w := y) (heap_setCells_ne c b (by omega) vs o y)).trans (h.froz i)⟩
/-- A store of many cells into the part. -/
theorem PartK.setsIn {b lo hi : Nat} {x y : World} (h : PartK b lo hi x y) (vs : List Value) (o : Nat) (h1 : lo ≤ o) (h2 : o + vs.length ≤ hi) : PartK b lo hi x (y.setCells b o vs) :=
  ⟨kept_setCells b (.inl rfl) vs o y h.kept, fun i hi => (World.cell?_setCells_out b vs o y ⟨b, i, none⟩ (fun _ _ => by show i < o ∨ _ ≤ i; omega)).trans (h.cells i hi), fun i => (World.frozen?_setCells ..).trans (h.froz i)⟩
theorem PartK.there {b lo hi : Nat} {x y : World} (h : PartK b lo hi x y) {n : Nat} (ht : x.there b 0 n) (hin : ∀ i, lo ≤ i → i < hi → i < n → (y.cell? ⟨b, i, none⟩).isSome = true) : y.there b 0 n := fun j hj => by
  obtain ⟨t1, t2⟩ := ht j hj
  rw [Nat.zero_add] at t1 t2 ⊢
  refine ⟨?_, (h.froz j).trans t2⟩
  by_cases hc : j < lo ∨ hi ≤ j
  · rw [h.cells j hc]; exact t1
  · exact hin j (by omega) (by omega) hj

theorem TWork.part {Wk lo hi : Nat} {nv dv lv : Value} {w0 w w' : World} (h : TWork Wk nv dv lv w0 w) (hp : PartK Wk lo hi w w') (hlo : 3 ≤ lo) : TWork Wk nv dv lv w0 w' :=
  ⟨h.lt, fun k hk => (hp.kept.block k (Nat.lt_of_lt_of_le hk h.size) (by have := h.lt; omega)).trans (h.old k hk), Nat.le_trans h.size hp.kept.size,
    (hp.cells 0 (.inl (by omega))).trans h.c0, (hp.cells 1 (.inl (by omega))).trans h.c1, (hp.cells 2 (.inl (by omega))).trans h.c2⟩

def initTo : Nat → List Ch
  | 0 => List.replicate 8 (false, 0)
  | k + 1 => (initTo k).set k (true, 0)
theorem initTo_length : ∀ k, (initTo k).length = 8
  | 0 => by simp [initTo]
  | k + 1 => by rw [initTo, List.length_set]; exact initTo_length k
def andTo (D : List (List Int)) (L : List (Nat × Nat)) (y : Nat) (K : List Ch) : Nat → List Ch
  | 0 => K
  | m + 1 => (andTo D L y K m).set m (andC (kAt (andTo D L y K m) m) (seenL D L y m))
theorem andTo_length (D : List (List Int)) (L : List (Nat × Nat)) (y : Nat) (K : List Ch) : ∀ m, (andTo D L y K m).length = K.length
  | 0 => rfl
  | m + 1 => by rw [andTo, List.length_set]; exact andTo_length D L y K m
def yearTo (N D : List (List Int)) (L : List (Nat × Nat)) : Nat → List Ch
  | 0 => initTo N.length
  | a + 1 => andTo D L (6 - a) (beforeL N (yearTo N D L a)) N.length
theorem beforeL_length (N : List (List Int)) (K : List Ch) : (beforeL N K).length = 8 := beforeTo_length N K _
theorem yearTo_length (N D : List (List Int)) (L : List (Nat × Nat)) : ∀ a, (yearTo N D L a).length = 8
  | 0 => initTo_length _
  | a + 1 => by rw [yearTo, andTo_length]; exact beforeL_length _ _

/-- No chance of K needs more than B filings. -/
def KB (K : List Ch) (B : Nat) : Prop := ∀ m, (kAt K m).2 ≤ B
theorem KB.mono {K : List Ch} {B C : Nat} (h : KB K B) (hBC : B ≤ C) : KB K C := fun m => Nat.le_trans (h m) hBC
theorem KB.set {K : List Ch} {B : Nat} (h : KB K B) (m : Nat) (c : Ch) (hc : c.2 ≤ B) : KB (K.set m c) B := fun j => by
  unfold kAt
  rw [List.getElem?_set]
  split
  · split
    · exact hc
    · simp
  · exact h j
theorem KB.zero (B : Nat) : KB (List.replicate 8 (false, 0)) B := fun m => by
  unfold kAt
  rw [List.getElem?_replicate]
  split <;> simp
theorem KB.init (B : Nat) : ∀ k, KB (initTo k) B
  | 0 => KB.zero B
  | k + 1 => (KB.init B k).set k _ (by simp)
theorem offerL_le {s : List Nat × Nat} {v c B : Nat} (h1 : s.2 ≤ B) (h2 : c ≤ B) : (offerL s v c).2 ≤ B := by
  unfold offerL
  split
  · exact h1
  · split <;> exact h2
theorem bestTo_le {K : List Ch} {B : Nat} (h : KB K B) (l : List Int) : ∀ k, k ≤ l.length → (bestTo K l k).2 ≤ B
  | 0, _ => by simp [bestTo]
  | k + 1, hk => by
    rw [bestTo_succ K l (by omega)]
    split
    · exact offerL_le (bestTo_le h l k (by omega)) (h _)
    · exact bestTo_le h l k (by omega)
theorem KB.before {K : List Ch} {B : Nat} (h : KB K B) (N : List (List Int)) : ∀ k, KB (beforeTo N K k) B
  | 0 => KB.zero B
  | k + 1 => (KB.before h N k).set k _ (bestTo_le h _ _ (Nat.le_refl _))
theorem KB.and {K : List Ch} {B : Nat} (h : KB K B) (D : List (List Int)) (L : List (Nat × Nat)) (y : Nat) : ∀ m, KB (andTo D L y K m) (B + L.length * m)
  | 0 => by simpa [andTo] using h
  | m + 1 => by
    have ih := KB.and h D L y m
    rw [andTo]
    refine (ih.mono (by rw [Nat.mul_succ]; omega)).set m _ ?_
    have h1 := andC_le (kAt (andTo D L y K m) m) (seenL D L y m)
    have h2 := ih m
    have h3 : (seenL D L y m).2 ≤ L.length := seenTo_le D L y m L.length (Nat.le_refl _)
    rw [Nat.mul_succ]
    omega
theorem KB.year (N D : List (List Int)) (L : List (Nat × Nat)) : ∀ a, KB (yearTo N D L a) (L.length * N.length * a)
  | 0 => KB.init _ _
  | a + 1 => by
    have ih := KB.year N D L a
    rw [yearTo, Nat.mul_succ]
    exact KB.and (KB.before ih N N.length) D L (6 - a) N.length
end Go.Proofs.YtejfelijhojndaaGreatDoor

/-
  tooth: knowYears, by contract: the walk.
-/
namespace Go.Proofs.YtejfelijhojndaaGreatDoor
open Go.RowKit Go.Proofs Go.Shelf

/-- The range of year 0 holds K. -/
def YearsEnd (Wk : Nat) (K : List Ch) (w : World) (e : Ending) (w' : World) : Prop :=
  e = .returned (.tuple #[]) ∧ PartK Wk 4 116 w w' ∧ w'.there Wk 0 144 ∧ w'.rangeAt Wk 4 (kcells K)

structure YRel (Wk : Nat) (w : World) (K : List Ch) (wr : World) : Prop where
  part : PartK Wk 4 116 w wr
  there : wr.there Wk 0 144
  known : wr.heap[w.heap.size]? = some (.cells (kcells K).toArray 86 (0, 0))

theorem YRel.below {Wk : Nat} {w wr w2 : World} {K : List Ch} (h : YRel Wk w K wr) (hW : Wk < w.heap.size) (hb : Below wr.heap.size wr w2) : YRel Wk w K w2 :=
  ⟨h.part.below hW hb, fun j hj => by
    obtain ⟨t1, t2⟩ := h.there j hj
    have hl := h.part.lt hW
    exact ⟨by rw [hb.cell (p := ⟨Wk, 0 + j, none⟩) hl]; exact t1, by rw [hb.frozen (p := ⟨Wk, 0 + j, none⟩) hl]; exact t2⟩, below_heap hb h.known⟩

/-- A chance is stored into the known of the year. -/
theorem YRel.put {Wk : Nat} {w wr : World} {K : List Ch} (h : YRel Wk w K wr) (hW : Wk < w.heap.size) {m : Nat} (hm : m < K.length) (c : Ch) :
    YRel Wk w (K.set m c) ((wr.setCell ⟨w.heap.size, m * 2, none⟩ (.bool c.1)).setCell ⟨w.heap.size, m * 2 + 1, none⟩ (.int .i64 (c.2 : Nat))) :=
  ⟨(h.part.setNew (by exact Nat.le_refl _) (by show w.heap.size ≠ Wk; omega) _).setNew (by exact Nat.le_refl _) (by show w.heap.size ≠ Wk; omega) _, fun j hj => by
    obtain ⟨t1, t2⟩ := h.there j hj
    rw [World.cell?_setCell_other _ _ _ _ (by intro e; have := congrArg Addr.block e; simp at this; omega), World.cell?_setCell_other _ _ _ _ (by intro e; have := congrArg Addr.block e; simp at this; omega)]
    exact ⟨t1, by simpa using t2⟩, known_set h.known m c hm⟩

theorem kcells_set1 : ∀ (K : List Ch) (m : Nat) (b : Bool), m < K.length → (kcells K).set (m * 2) (.bool b) = kcells (K.set m (b, (kAt K m).2))
  | [], m, b, h => by simp at h
  | d :: K, 0, b, _ => rfl
  | d :: K, m + 1, b, h => by
    have ih := kcells_set1 K m b (by simpa using h)
    have e1 : (m + 1) * 2 = m * 2 + 2 := by omega
    have hk : kAt (d :: K) (m + 1) = kAt K m := by simp [kAt]
    rw [e1, hk]
    show ([_, _] ++ kcells K).set (m * 2 + 2) _ = [_, _] ++ kcells (K.set m (b, (kAt K m).2))
    rw [← ih]
    rfl
theorem YRel.put1 {Wk : Nat} {w wr : World} {K : List Ch} (h : YRel Wk w K wr) (hW : Wk < w.heap.size) {m : Nat} (hm : m < K.length) (b : Bool) :
    YRel Wk w (K.set m (b, (kAt K m).2)) (wr.setCell ⟨w.heap.size, m * 2, none⟩ (.bool b)) :=
  ⟨h.part.setNew (by exact Nat.le_refl _) (by show w.heap.size ≠ Wk; omega) _, fun j hj => by
    obtain ⟨t1, t2⟩ := h.there j hj
    rw [World.cell?_setCell_other _ _ _ _ (by intro e; have := congrArg Addr.block e; simp at this; omega)]
    exact ⟨t1, by simpa using t2⟩, by
    rw [← kcells_set1 K m b hm]
    simp [World.setCell, Array.getElem?_modify, h.known]⟩
theorem heap_setCells_all (b : Nat) : ∀ (vs pre old : List Value) (w : World) (T : TypeId) (fr : Nat × Nat), old.length = vs.length → w.heap[b]? = some (.cells (pre ++ old).toArray T fr) →
    (w.setCells b pre.length vs).heap[b]? = some (.cells (pre ++ vs).toArray T fr)
  | [], pre, old, w, T, fr, hl, h => by
    obtain rfl : old = [] := List.length_eq_zero_iff.1 (by simpa using hl)
    exact h
  | v :: r, pre, [], w, T, fr, hl, h => by simp at hl
  | v :: r, pre, u :: old, w, T, fr, hl, h => by
    rw [World.setCells]
    have h1 : (w.setCell ⟨b, pre.length, none⟩ v).heap[b]? = some (.cells ((pre ++ [v]) ++ old).toArray T fr) := by
      simp [World.setCell, Array.getElem?_modify, h]
    have := heap_setCells_all b r (pre ++ [v]) old _ T fr (by simpa using hl) h1
    simpa using this
/-- A whole known is stored into the known of the year. -/
theorem YRel.all {Wk : Nat} {w wr : World} {K K' : List Ch} (h : YRel Wk w K wr) (hW : Wk < w.heap.size) (h8 : K.length = 8) (h8' : K'.length = 8) :
    YRel Wk w K' (wr.setCells w.heap.size 0 (kcells K')) :=
  ⟨h.part.setsNew (by exact Nat.le_refl _) (by omega) _ _, fun j hj => by
    obtain ⟨t1, t2⟩ := h.there j hj
    rw [World.cell?_of_block (w := wr) (heap_setCells_ne w.heap.size Wk (by omega) _ _ _), World.frozen?_of_block (w := wr) (heap_setCells_ne w.heap.size Wk (by omega) _ _ _)]
    exact ⟨t1, t2⟩, by
    have := heap_setCells_all (w.heap.size) (kcells K') [] (kcells K) wr _ _ (by rw [kcells_length, kcells_length, h8, h8']) h.known
    simpa using this⟩
/-- The known of the year is stored into the work. -/
theorem YRel.store {Wk y : Nat} {w wr : World} {K : List Ch} (h : YRel Wk w K wr) (hW : Wk < w.heap.size) (h8 : K.length = 8) (hy : y ≤ 6) :
    YRel Wk w K (wr.setCells Wk (4 + y * 16) (kcells K)) ∧ (y = 0 → (wr.setCells Wk (4 + y * 16) (kcells K)).rangeAt Wk 4 (kcells K)) := by
  have hl : (kcells K).length = 16 := by rw [kcells_length, h8]
  refine ⟨⟨h.part.setsIn _ _ (by omega) (by omega), World.there_setCells h.there _ _ _, (heap_setCells_ne Wk w.heap.size (by omega) _ _ _).trans h.known⟩, fun h0 => ?_⟩
  subst h0
  exact World.rangeAt_setCells_same wr Wk 4 (kcells K) (fun j hj => by have := h.there (4 + j) (by omega); rw [Nat.zero_add] at this; exact this)

/-- A load of many cells in a region that only reads ahead of its tail. -/
theorem still_load_mid {P : Program} {op : Oper} {a : Act} {w : World} {K : Act → Prop} (ty : TypeId) (x : Operand) (ho : op.op = .load ty x)
    (b o : Nat) (hx : a.eval x = .pointer (some ⟨b, o, none⟩)) (cs : List Value) (d : TypeDesc) (hc : w.rangeAt b o cs)
    (hu : P.underlying ty = some d) (hd : d.isRow = true) (hi : (P.info? ty).map (·.size) = some cs.length)
    (h : K (a.put op.dst (.agg cs.toArray))) : op.still P a w K := by
  unfold Oper.still execOp
  simp only [ho, hx, Instr.loadAt, Instr.sureAddr, Sem.run_bind, Sem.run_pure, Result.andThen_ok, run_loadVar_mid w b o ty cs d hc hu hd hi]
  exact ⟨rfl, h⟩

set_option maxRecDepth 100000 in
set_option maxHeartbeats 3200000 in
theorem knowYears_any (Wk : Nat) (nv dv lv : Value) (N D : List (List Int)) (L : List (Nat × Nat)) (w0 w : World) (hI : TIn nv dv lv N D L w0) (hW : TWork Wk nv dv lv w0 w) (hL : L.length ≤ 100) (hth : w.there Wk 0 144) :
    Calls Tryz.prog 40 #[.pointer (some ⟨Wk, 0, none⟩)] w (YearsEnd Wk (yearTo N D L 7) w) := by
  have hn8 := hI.jaw.le
  have hc0 := hW.c0
  have hlW : Wk < w.heap.size := World.block_lt_of_cell? w _ hc0
  obtain ⟨b, off, cap, hnv⟩ : ∃ b off cap, nv = .slice (some ⟨b, off, none⟩) N.length cap := by obtain ⟨b, off, cap, h, _⟩ := hI.next; exact ⟨b, off, cap, h⟩
  have HBef := Lib.hid (fun W' (h : TWork Wk nv dv lv w0 W') (K : List Ch) (hK : K.length = 8) => before_any Wk nv dv lv N D L w0 W' hI h K hK)
  have HSeen := Lib.hid (fun W' (h : TWork Wk nv dv lv w0 W') (y m : Nat) (hy : y ≤ 100) (hm : m < N.length) => seen_any Wk nv dv lv N D L w0 W' hI h hL y m hy hm)
  have HWW := Lib.hid hW
  have hu := Lib.hid Tryz.undKnown
  clear hI hW
  subst hnv
  obtain ⟨W1, hW1⟩ : ∃ W1, w.alloc (.cells (#[.bool false, .int .i64 0, .bool false, .int .i64 0, .bool false, .int .i64 0, .bool false, .int .i64 0, .bool false, .int .i64 0, .bool false, .int .i64 0, .bool false, .int .i64 0, .bool false, .int .i64 0] : Array Value) 86) = W1 := ⟨_, rfl⟩
  have hb1 : Below w.heap.size w W1 := by rw [← hW1]; exact (Below.refl _ w).alloc (Nat.le_refl _) _
  have d0 := below_cell hb1 hc0
  have R1 : YRel Wk w (initTo 0) W1 := ⟨.of_below hlW hb1, by rw [← hW1]; exact World.there_alloc hth _, by rw [← hW1]; exact heap_new w _⟩
  have HR1 := Lib.hid R1
  clear R1 hb1 hth
  go_enter Tryz.func40, Tryz.ntmps40
  go_wp2_with fail
  go_loopw [14] (fun i wr => ∃ k : Nat, k ≤ N.length ∧ i = .int .i64 k ∧ YRel Wk w (initTo k) wr) (fun i _ => N.length - (intOf i).toNat)
  case atStart => exact ⟨0, Nat.zero_le _, rfl, HR1.out⟩
  case round =>
    obtain ⟨k, hk, rfl, R⟩ := hrel
    by_cases hlt : k < N.length
    · have hklt : (k : Int) < (N.length : Int) := by omega
      have hk0 : (0 : Int) ≤ (k : Int) := by omega
      have hk8 : (k : Int) < 8 := by omega
      have h8 := initTo_length k
      have q0 := (known_cell R.known (m := k) (by omega)).1
      have qf : wr.frozen? ⟨w.heap.size, k * 2, none⟩ = false := by simp [World.frozen?, R.known]
      have q1 := (known_cell R.known (m := k) (by omega)).2
      have h2 : (kAt (initTo k) k).2 = 0 := by
        have := KB.init 0 k k
        omega
      rw [h2] at q1
      have HR := Lib.hid R
      clear R h2
      go_wp2_with fail
      go_roundw
      case rel =>
        refine ⟨k + 1, by omega, by go_num, ?_⟩
        have := HR.out.put1 hlW (m := k) (by omega) true
        rw [show (kAt (initTo k) k).2 = 0 by have := KB.init 0 k k; omega] at this
        exact this
      case measure => simp [intOf]; omega
    · have hklt : ¬ (k : Int) < (N.length : Int) := by omega
      obtain rfl : k = N.length := by omega
      have HR := Lib.hid R
      clear R
      go_wp2_with fail
      go_loopw [21] (fun i wr => ∃ a : Nat, a ≤ 7 ∧ i = .int .i64 a ∧ YRel Wk w (yearTo N D L a) wr ∧ (a = 7 → wr.rangeAt Wk 4 (kcells (yearTo N D L 7)))) (fun i _ => 7 - (intOf i).toNat)
      case atStart => exact ⟨0, Nat.zero_le _, rfl, HR.out, fun h => by omega⟩
      case round =>
        obtain ⟨a, ha, rfl, R, hlast⟩ := hrel
        by_cases hat : a < 7
        · have hatl : (a : Int) < 7 := by omega
          have ha0 : (0 : Int) ≤ (a : Int) := by omega
          obtain ⟨y, hy⟩ : ∃ y, y = 6 - a := ⟨_, rfl⟩
          have hyy : (6 : Int) - (a : Int) = (y : Int) := by omega
          have HY := Lib.hid hy
          have hy6 : y ≤ 6 := by omega
          have hK8 := yearTo_length N D L a
          have hrg := Lib.hid (known_range R.known)
          have hth := Lib.hid (known_there (o := 0) (n := (kcells (beforeL N (yearTo N D L a))).toArray.size) R.known (by rw [List.size_toArray, List.size_toArray, kcells_length, kcells_length, beforeL_length, hK8]; omega))
          have hz := Lib.hid (size_known hK8)
          have hz3 := Lib.hid (size_known' (beforeL_length N (yearTo N D L a)))
          have hone := Lib.hid (all_oneCell_toArray (kcells_one (beforeL N (yearTo N D L a))))
          have hTW := HWW.out.part R.part (by omega)
          have B1 := Lib.hid (HBef.out wr hTW (yearTo N D L a) hK8)
          have c0 := hTW.c0
          have HR2 := Lib.hid R
          obtain ⟨Kb, hKb⟩ : ∃ Kb, beforeL N (yearTo N D L a) = Kb := ⟨_, rfl⟩
          have hKb8 : Kb.length = 8 := by rw [← hKb]; exact beforeL_length _ _
          have hKbB : KB Kb 10000 := by
            rw [← hKb]
            have h1 := KB.before (KB.year N D L a) N N.length
            refine h1.mono ?_
            have h2 : L.length * N.length ≤ 100 * 8 := Nat.mul_le_mul hL hn8
            have h3 : L.length * N.length * a ≤ 800 * 7 := Nat.mul_le_mul h2 (by omega)
            omega
          rw [hKb] at hth hz3 hone B1
          have HKb := Lib.hid hKb
          unfold kV KnownEnd kV at B1
          clear hy hK8 hTW R hlast hKb
          go_wp2_with (first | (refine wpList_load_mid rfl 86 (.tmp 2) rfl w.heap.size 0 rfl (kcells (yearTo N D L a)) _ hrg.out hu.out rfl hz.out ?_))
          refine B1.out.mono ?_
          rintro e w2 ⟨rfl, hb2⟩
          have R2 := HR2.out.below hlW hb2
          have hth2 := Lib.hid (known_there (o := 0) (n := (kcells Kb).toArray.size) R2.known (by rw [List.size_toArray, List.size_toArray, kcells_length, kcells_length, hKb8, yearTo_length]; omega))
          have R3 := R2.all hlW (yearTo_length _ _ _ _) hKb8
          obtain ⟨W3, hW3⟩ : ∃ W3, w2.setCells w.heap.size 0 (kcells Kb) = W3 := ⟨_, rfl⟩
          rw [hW3] at R3
          have c3 := (HWW.out.part R3.part (by omega)).c0
          have HR3 := Lib.hid R3
          clear hb2 R2 R3 c0
          go_wp2_with (first | (refine wpList_store_mid rfl 86 (.tmp 2) (.tmp 28) rfl w.heap.size 0 (kcells Kb).toArray rfl rfl hth2.out hz3.out hone.out ?_))
          go_loopw [36] (fun i wr => ∃ m : Nat, m ≤ N.length ∧ i = .int .i64 m ∧ YRel Wk w (andTo D L y Kb m) wr) (fun i _ => N.length - (intOf i).toNat)
          case atStart => exact ⟨0, Nat.zero_le _, rfl, HR3.out⟩
          case round =>
            obtain ⟨m, hm, rfl, R⟩ := hrel
            by_cases hmt : m < N.length
            · have hmtl : (m : Int) < (N.length : Int) := by omega
              have hm0 : (0 : Int) ≤ (m : Int) := by omega
              have hm8 : (m : Int) < 8 := by omega
              have hK8 : (andTo D L y Kb m).length = 8 := by rw [andTo_length]; exact hKb8
              have hnx := Lib.hid (show andTo D L y Kb (m + 1) = (andTo D L y Kb m).set m (andC (kAt (andTo D L y Kb m) m) (seenL D L y m)) from rfl)
              obtain ⟨q0, q1⟩ := known_cell R.known (m := m) (by omega)
              have hsB : (seenL D L y m).2 ≤ 1000000 := Nat.le_trans (seenTo_le D L y m L.length (Nat.le_refl _)) (by omega)
              have hcB : (kAt (andTo D L y Kb m) m).2 ≤ 1000000 := by
                have h1 := KB.and hKbB D L y m m
                have h2 : L.length * m ≤ 100 * 8 := Nat.mul_le_mul hL (by omega)
                omega
              obtain ⟨c, hc⟩ : ∃ c, kAt (andTo D L y Kb m) m = c := ⟨_, rfl⟩
              obtain ⟨s, hs⟩ : ∃ s, seenL D L y m = s := ⟨_, rfl⟩
              rw [hc] at q0 q1 hnx hcB
              have hTW := HWW.out.part R.part (by omega)
              have S1 := HSeen.out wr.drew (hTW.below ((Below.refl _ wr).drew)) y m (by omega) hmt
              rw [hs] at hnx hsB S1
              obtain ⟨cb, cf⟩ := c
              obtain ⟨sb, sf⟩ := s
              simp only at q0 q1 hcB hsB
              have A := Lib.hid (fun W' => and_any (cb, cf) (sb, sf) W' hcB hsB)
              unfold ChEnd cV at S1 A
              have HS1 := Lib.hid S1
              have RF := Lib.hid (fun W' (hb : Below wr.drew.heap.size wr.drew W') => R.below hlW ((Below.refl wr.heap.size wr).drew.trans hb))
              have e0 : wr.drew.cell? ⟨w.heap.size, m * 2, none⟩ = some (.bool cb) := q0
              have e1 : wr.drew.cell? ⟨w.heap.size, m * 2 + 1, none⟩ = some (.int .i64 (cf : Nat)) := q1
              clear hc hs hTW S1 R q0 q1
              go_wp2_with fail
              go_region_with (first
                | (go_at_call 53; refine (HS1.out).mono ?_; rintro e w3 ⟨rfl, hb3⟩; have p0 := below_cell hb3 e0; have p1 := below_cell hb3 e1)
                | (go_at_call 52; refine (A.out _).mono ?_; rintro e w4 ⟨rfl, hb4⟩; have hb5 := hb3.trans (hb4.mono hb3.size); have k0 := below_cell hb5 e0; have k1 := below_cell hb5 e1; have f0 : w4.frozen? ⟨w.heap.size, m * 2, none⟩ = false := (by simp [World.frozen?, (RF.out _ hb5).known]); have f1 : w4.frozen? ⟨w.heap.size, m * 2 + 1, none⟩ = false := (by simp [World.frozen?, (RF.out _ hb5).known])))
              all_goals
                have RP := Lib.hid ((RF.out _ hb5).put hlW (m := m) (by omega) (andC (cb, cf) (sb, sf)))
                clear hb3 hb4 hb5 p0 p1 e0 e1 k0 k1 f0 f1
                go_wp2_with fail
                go_roundw
                case rel => exact ⟨m + 1, by omega, by go_num, by rw [hnx.out]; exact RP.out⟩
                case measure => simp [intOf]; omega
            · have hmtl : ¬ (m : Int) < (N.length : Int) := by omega
              obtain rfl : m = N.length := by omega
              have hK8 : (andTo D L y Kb N.length).length = 8 := by rw [andTo_length]; exact hKb8
              have hnx := Lib.hid (show yearTo N D L (a + 1) = andTo D L y Kb N.length by rw [yearTo, HKb.out, ← HY.out])
              rw [← hnx.out] at R hK8
              have RS := Lib.hid ((R.below hlW ((Below.refl _ _).drew)).store hlW hK8 hy6)
              have hrgS := Lib.hid (known_range R.known)
              have hthS : wr.there Wk (4 + y * 16) (kcells (yearTo N D L (a + 1))).toArray.size := fun j hj => by
                have := R.there (4 + y * 16 + j) (by rw [List.size_toArray, kcells_length, hK8] at hj; omega)
                rwa [Nat.zero_add] at this
              have hzS := Lib.hid (size_known hK8)
              have hzS2 := Lib.hid (size_known' hK8)
              have honeS := Lib.hid (kcells_one (yearTo N D L (a + 1)))
              have HTS := Lib.hid hthS
              clear R hthS c3
              go_wp2_with fail
              have hne : w.heap.size ≠ Wk := by omega
              have hrg1 : wr.drew.rangeAt w.heap.size 0 (kcells (yearTo N D L (a + 1))) := by rw [World.rangeAt_drew]; exact hrgS.out
              have hth1 : wr.drew.there Wk (4 + y * 16) (kcells (yearTo N D L (a + 1))).toArray.size := by rw [World.there_drew]; exact HTS.out
              have hu1 := hu.out
              have hz1 := hzS.out
              have hz2 := hzS2.out
              have ho1 := honeS.out
              have hy0 : (0 : Int) ≤ (y : Int) := by omega
              have hy7 : (y : Int) < 7 := by omega
              generalize hKK : kcells (yearTo N D L (a + 1)) = KK at hrg1 hth1 hz1 hz2 ho1
              have HKK := Lib.hid hKK
              clear hKK
              refine wp_region_still_tail 6 (by kernel_rfl) (by kernel_rfl) ?_
              simp only [List.take_succ_cons, List.take_zero, List.drop_succ_cons, List.drop_zero]
              rw [World.drew_eq]
              still_step
              still_step
              refine wpStill_step (fun K hK => ?_)
              rw [if_pos (by rfl)]
              refine still_load_mid 86 (.tmp 2) rfl w.heap.size 0 rfl KK _ hrg1 hu1 rfl hz1 ?_
              refine hK _ ?_
              clear hK K
              simp only [Act.put, List.setIfInBounds_toArray, List.set_cons_zero, List.set_cons_succ]
              still_step
              still_step
              still_step
              refine wpStill_nil ?_
              refine wpList_store_mid rfl 86 (.tmp 55) (.tmp 52) rfl Wk (4 + y * 16) KK.toArray rfl rfl hth1 hz2 (all_oneCell_toArray ho1) ?_
              rw [HKK.out] at RS
              clear hrg1 hth1 hu1 hz1 hz2 ho1
              go_wp2_with fail
              go_roundw
              case rel =>
                refine ⟨a + 1, by omega, by go_num, RS.out.1, fun h7 => ?_⟩
                have h0 : y = 0 := by have := HY.out; omega
                have h1 := RS.out.2 h0
                have h2 : KK = kcells (yearTo N D L 7) := by rw [← HKK.out, h7]
                rw [← h2]
                exact h1
              case measure => simp [intOf]; omega
        · have hatl : ¬ (a : Int) < 7 := by omega
          obtain rfl : a = 7 := by omega
          have HR7 := Lib.hid R
          have HL7 := Lib.hid (hlast rfl)
          clear R hlast
          go_wp2_with fail
          go_end0
          exact ⟨rfl, HR7.out.part, HR7.out.there, HL7.out⟩
end Go.Proofs.YtejfelijhojndaaGreatDoor
