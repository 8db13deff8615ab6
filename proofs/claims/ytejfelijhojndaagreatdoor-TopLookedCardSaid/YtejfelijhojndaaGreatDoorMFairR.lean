/-
  palfreykit: JawOf: the state while the two rows grow.
-/
import Derived.Test.YtejfelijhojndaaGreatDoorMJaw
import Derived.Test.YtejfelijhojndaaGreatDoorMLate2
namespace Go.Proofs.YtejfelijhojndaaGreatDoor
open Go.RowKit Go.Proofs Go.Shelf

/-- From world wc on, where two values own rows, these rows alone have grown: they are V and W now. -/
structure St (base : Nat) (wc : World) (nv dv : Value) (u : World) (V W : Value) (p q : Nat) (xs ys : List Value) : Prop where
  os : u.os = wc.os
  tape : u.tape = wc.tape
  output : u.output = wc.output
  size : wc.heap.size ≤ u.heap.size
  other : ∀ g, g < wc.heap.size → nv.ownBlock ≠ some g → dv.ownBlock ≠ some g → u.heap[g]? = wc.heap[g]?
  ownN : u.ownsRow base 22 1 V p xs
  ownD : u.ownsRow base 22 1 W q ys
  apart : ∀ g, V.ownBlock = some g → W.ownBlock ≠ some g
  newN : ∀ g, V.ownBlock = some g → nv.ownBlock = some g ∨ wc.heap.size ≤ g
  newD : ∀ g, W.ownBlock = some g → dv.ownBlock = some g ∨ wc.heap.size ≤ g

theorem St.swap {base p q : Nat} {wc u : World} {nv dv V W : Value} {xs ys : List Value} (h : St base wc nv dv u V W p q xs ys) : St base wc dv nv u W V q p ys xs :=
  ⟨h.os, h.tape, h.output, h.size, fun g a b c => h.other g a c b, h.ownD, h.ownN, fun g a b => h.apart g b a, h.newD, h.newN⟩
theorem St.refl {base p q : Nat} {wc : World} {nv dv : Value} {xs ys : List Value} (h1 : wc.ownsRow base 22 1 nv p xs) (h2 : wc.ownsRow base 22 1 dv q ys) (ha : ∀ g, nv.ownBlock = some g → dv.ownBlock ≠ some g) : St base wc nv dv wc.drew nv dv p q xs ys :=
  ⟨rfl, rfl, rfl, Nat.le_refl _, fun _ _ _ _ => rfl, h1, h2, ha, fun _ h => .inl h, fun _ h => .inl h⟩
theorem St.alloc {base p q : Nat} {wc u : World} {nv dv V W : Value} {xs ys : List Value} (h : St base wc nv dv u V W p q xs ys) (o : Obj) : St base wc nv dv (u.alloc o) V W p q xs ys :=
  ⟨h.os, h.tape, h.output, Nat.le_trans h.size (by simp), fun g a b c => (Below.heap_alloc _ _ _ (by have := h.size; omega)).trans (h.other g a b c), h.ownN.alloc _, h.ownD.alloc _, h.apart, h.newN, h.newD⟩
theorem St.append {base p q g cap : Nat} {wc u u' : World} {nv dv V W x : Value} {xs ys : List Value} (h : St base wc nv dv u V W p q xs ys)
    (ho : u'.ownsRow base 22 1 (.slice (some ⟨g, 0, none⟩) (p + 1) cap) (p + 1) (xs ++ [x])) (hg : u.grownBy u' V.ownBlock) (ha : V.ownBlock = some g ∨ g = u.heap.size) :
    St base wc nv dv u' (.slice (some ⟨g, 0, none⟩) (p + 1) cap) W (p + 1) q (xs ++ [x]) ys := by
  have hsz := h.size
  refine ⟨hg.os.trans h.os, hg.tape.trans h.tape, hg.output.trans h.output, Nat.le_trans hsz hg.size, fun g2 a b c => (hg.block g2 (by omega) (fun e => ?_)).trans (h.other g2 a b c), ho, h.ownD.kept hg ?_, fun g2 e1 e2 => ?_, fun g2 e => ?_, h.newD⟩
  · rcases h.newN g2 e.symm with h1 | h1
    · exact b h1
    · omega
  · cases hw : W.ownBlock with
    | none => exact .inl rfl
    | some g3 => right; intro e; exact h.apart g3 e.symm hw
  · simp only [Value.ownBlock, Option.some.injEq] at e1
    subst e1
    rcases ha with ha | ha
    · exact h.apart _ ha e2
    · have := (h.ownD.lt _ e2).2; omega
  · simp only [Value.ownBlock, Option.some.injEq] at e
    subst e
    rcases ha with ha | ha
    · exact h.newN _ ha
    · right; omega
/-- A block that is new and no row lies as it lay behind an append. -/
theorem St.far {base p q : Nat} {wc u u' : World} {nv dv V W : Value} {xs ys : List Value} (h : St base wc nv dv u V W p q xs ys) (hg : u.grownBy u' V.ownBlock) {H : Nat} {o : Obj} (ho : u.heap[H]? = some o) (hn : ∀ g, V.ownBlock = some g → g ≠ H) : u'.heap[H]? = some o :=
  (hg.block H (Array.getElem?_eq_some_iff.1 ho).1 (fun e => hn H e.symm rfl)).trans ho
theorem St.cell {base p q : Nat} {wc u : World} {nv dv V W : Value} {xs ys : List Value} (h : St base wc nv dv u V W p q xs ys) {n1 i : Nat} (h1 : n1 < wc.heap.size) (hb : n1 < base) (hN : wc.ownsRow base 22 1 nv p xs ∨ ∀ g, nv.ownBlock = some g → base ≤ g) (hD : ∀ g, dv.ownBlock = some g → base ≤ g) (hN2 : ∀ g, nv.ownBlock = some g → base ≤ g) :
    u.cell? ⟨n1, i, none⟩ = wc.cell? ⟨n1, i, none⟩ ∧ u.frozen? ⟨n1, i, none⟩ = wc.frozen? ⟨n1, i, none⟩ := by
  have hb2 := h.other n1 h1 (fun e => by have := hN2 _ e; omega) (fun e => by have := hD _ e; omega)
  exact ⟨World.cell?_of_block (w := wc) hb2, World.frozen?_of_block (w := wc) hb2⟩

theorem JRel.grow {b T n i s0 : Nat} {w wc ud : World} {N D : List (List Int)} {xs ys : List Value} {nv dv V W x y : Value} (h : JRel b T n w i wc N D xs ys nv dv) (hbw : b < w.heap.size)
    (st : St (w.heap.size + 1 + 1) wc nv dv ud V W (i + 1) (i + 1) (xs ++ [x]) (ys ++ [y])) (hlx : xs.length = i) (hly : ys.length = i) (hoN : ∀ g, nv.ownBlock = some g → g < s0) (hoD : ∀ g, dv.ownBlock = some g → g < s0) (hs0 : w.heap.size + 2 ≤ s0)
    {nl f : List Int} (hIn : IntsM (fun k => s0 ≤ k) wc x nl) (an : nl.Pairwise (· < ·)) (mn : ∀ y ∈ nl, 0 ≤ y ∧ y < n) (pn : 0 < nl.length) (ln : nl.length ≤ 2)
    (hIf : IntsM (fun k => s0 ≤ k) wc y f) (af : f.Pairwise (· < ·)) (mf : ∀ y ∈ f, 0 ≤ y ∧ y < n ∧ y ≠ i) (lf : f.length ≤ 2) :
    JRel b T n w (i + 1) ((ud.setCell ⟨w.heap.size + 1, 0, none⟩ V).setCell ⟨w.heap.size + 1, 1, none⟩ W) (N ++ [nl]) (D ++ [f]) (xs ++ [x]) (ys ++ [y]) V W := by
  obtain ⟨⟨t', ht', hB⟩, kept, res, jaw, ownN, ownD, apart, lenN, lenD, rowN, rowD, okN, okD⟩ := h
  have l1 := (Array.getElem?_eq_some_iff.1 jaw).1
  have far : ∀ g, g ≠ w.heap.size + 1 → ((ud.setCell ⟨w.heap.size + 1, 0, none⟩ V).setCell ⟨w.heap.size + 1, 1, none⟩ W).heap[g]? = ud.heap[g]? := fun g hg =>
    (Below.heap_setCell _ _ _ _ (by exact hg)).trans (Below.heap_setCell _ _ _ _ (by exact hg))
  have old : ∀ g, g < wc.heap.size → g ≠ w.heap.size + 1 → nv.ownBlock ≠ some g → dv.ownBlock ≠ some g → ((ud.setCell ⟨w.heap.size + 1, 0, none⟩ V).setCell ⟨w.heap.size + 1, 1, none⟩ W).heap[g]? = wc.heap[g]? := fun g h1 h2 h3 h4 => (far g h2).trans (st.other g h1 h3 h4)
  have low : ∀ g, g ≤ w.heap.size → ((ud.setCell ⟨w.heap.size + 1, 0, none⟩ V).setCell ⟨w.heap.size + 1, 1, none⟩ W).heap[g]? = wc.heap[g]? := fun g hg =>
    old g (by omega) (by omega) (fun e => by have := (ownN.lt _ e).1; omega) (fun e => by have := (ownD.lt _ e).1; omega)
  have hsz : ((ud.setCell ⟨w.heap.size + 1, 0, none⟩ V).setCell ⟨w.heap.size + 1, 1, none⟩ W).heap.size = ud.heap.size := by simp
  have hst := st.size
  have newP : ∀ g, g < wc.heap.size → (w.heap.size + 1 < g ∧ nv.ownBlock ≠ some g ∧ dv.ownBlock ≠ some g) → (w.heap.size + 1 < g ∧ V.ownBlock ≠ some g ∧ W.ownBlock ≠ some g) := fun g hg ⟨a, b, c⟩ =>
    ⟨a, fun e => by rcases st.newN g e with h | h; exact b h; omega, fun e => by rcases st.newD g e with h | h; exact c h; omega⟩
  have ofs : ∀ g, s0 ≤ g → (w.heap.size + 1 < g ∧ nv.ownBlock ≠ some g ∧ dv.ownBlock ≠ some g) := fun g hg => ⟨by omega, fun e => by have := hoN g e; omega, fun e => by have := hoD g e; omega⟩
  refine { bag := ⟨t', ht', hB.same fun k hk => low k (by omega)⟩, kept := ⟨st.os.trans kept.os, st.tape.trans kept.tape, st.output.trans kept.output, by have := kept.size; omega, fun k hk hb => (low k (by omega)).trans (kept.block k hk hb)⟩, res := (low _ (Nat.le_refl _)).trans res, jaw := ?_, ownN := ?_, ownD := ?_, apart := st.apart, lenN := by simp [lenN], lenD := by simp [lenD], rowN := fun j hj => ?_, rowD := fun j hj => ?_, okN := fun j hj => ?_, okD := fun j hj => ?_ }
  · have h1 : ud.heap[w.heap.size + 1]? = some (.cells #[nv, dv] 34 (0, 0)) := (st.other _ l1 (fun e => by have := (ownN.lt _ e).1; omega) (fun e => by have := (ownD.lt _ e).1; omega)).trans jaw
    simp [World.setCell, Array.getElem?_modify, h1]
  · exact ownsRow_setCell_below (ownsRow_setCell_below st.ownN (a := ⟨w.heap.size + 1, 0, none⟩) (by show w.heap.size + 1 < _; omega) V) (a := ⟨w.heap.size + 1, 1, none⟩) (by show w.heap.size + 1 < _; omega) W
  · exact ownsRow_setCell_below (ownsRow_setCell_below st.ownD (a := ⟨w.heap.size + 1, 0, none⟩) (by show w.heap.size + 1 < _; omega) V) (a := ⟨w.heap.size + 1, 1, none⟩) (by show w.heap.size + 1 < _; omega) W
  · rcases Nat.lt_succ_iff_lt_or_eq.1 hj with hj | rfl
    · obtain ⟨u, h1, h2⟩ := rowN j hj
      refine ⟨u, by rw [List.getElem?_append_left (by omega)]; exact h1, ?_⟩
      rw [List.getElem?_append_left (by omega)]
      exact h2.step (by rw [hsz]; exact hst) (fun k hk hp => old k hk (by omega) hp.2.1 hp.2.2) newP
    · refine ⟨x, by rw [List.getElem?_append_right (by omega)]; simp [hlx], ?_⟩
      rw [List.getElem?_append_right (by omega)]
      simp only [lenN, Nat.sub_self, List.getElem?_cons_zero, Option.getD_some]
      exact hIn.step (by rw [hsz]; exact hst) (fun k hk hp => old k hk (by have := ofs k hp; omega) (ofs k hp).2.1 (ofs k hp).2.2) (fun k hk hp => newP k hk (ofs k hp))
  · rcases Nat.lt_succ_iff_lt_or_eq.1 hj with hj | rfl
    · obtain ⟨u, h1, h2⟩ := rowD j hj
      refine ⟨u, by rw [List.getElem?_append_left (by omega)]; exact h1, ?_⟩
      rw [List.getElem?_append_left (by omega)]
      exact h2.step (by rw [hsz]; exact hst) (fun k hk hp => old k hk (by omega) hp.2.1 hp.2.2) newP
    · refine ⟨y, by rw [List.getElem?_append_right (by omega)]; simp [hly], ?_⟩
      rw [List.getElem?_append_right (by omega)]
      simp only [lenD, Nat.sub_self, List.getElem?_cons_zero, Option.getD_some]
      exact hIf.step (by rw [hsz]; exact hst) (fun k hk hp => old k hk (by have := ofs k hp; omega) (ofs k hp).2.1 (ofs k hp).2.2) (fun k hk hp => newP k hk (ofs k hp))
  · by_cases hj2 : j < N.length
    · rw [List.getElem_append_left hj2]; exact okN j hj2
    · have hj3 : j = N.length := by simp at hj; omega
      subst hj3
      simp only [List.getElem_concat_length]
      exact ⟨mouthsOK_of an (fun y hy => ⟨(mn y hy).1, (mn y hy).2, by have := (mn y hy).1; omega⟩) (by omega), pn⟩
  · by_cases hj2 : j < D.length
    · rw [List.getElem_append_left hj2]; exact okD j hj2
    · have hj3 : j = D.length := by simp at hj; omega
      subst hj3
      simp only [List.getElem_concat_length]
      rw [lenD]
      exact mouthsOK_of af mf (by omega)
theorem rowsM_of_owns {base n : Nat} {u : World} {v : Value} {xs : List Value} {T : TypeId} {P : Nat → Prop} {M : List (List Int)} (h : u.ownsRow base T 1 v n xs) (hn : 0 < n) (hM : M.length = n) (hP : ∀ g, v.ownBlock = some g → P g)
    (hr : ∀ j, j < n → ∃ x, xs[j]? = some x ∧ IntsM P u x (M[j]?.getD [])) : RowsM P u v M := by
  obtain ⟨h1, h2⟩ := h
  rcases h2 with ⟨_, h0⟩ | ⟨g, cap, cur, rfl, hg, hh, _, _, hs, ht⟩
  · omega
  · refine ⟨g, 0, cap, by rw [hM], hP g rfl, (Array.getElem?_eq_some_iff.1 hh).1, fun i hi => ?_⟩
    obtain ⟨x, hx, hI⟩ := hr i (by omega)
    refine ⟨x, ?_, hI⟩
    have hj2 : (cur.toList.take (n * 1))[i]? = xs[i]? := by rw [ht]
    rw [List.getElem?_take, if_pos (by omega), hx] at hj2
    simp only [World.cell?, hh, Nat.zero_add]
    simpa using hj2
theorem ownsRow_len {base n : Nat} {T : TypeId} {u : World} {v : Value} {xs : List Value} (h : u.ownsRow base T 1 v n xs) : xs.length = n := by
  obtain ⟨h1, _⟩ := h
  simpa using h1
end Go.Proofs.YtejfelijhojndaaGreatDoor

/-
  palfreykit: FairOf, the plain part.
-/
namespace Go.Proofs.YtejfelijhojndaaGreatDoor
open Go.RowKit Go.Proofs Go.Shelf

def matL (n : Nat) (m : Nat → Nat → Int) : List (List Int) := (List.range n).map fun a => (List.range n).map (m a)
def rowA (n : Nat) (m : Nat → Nat → Int) (a : Nat) : Array Value := (((List.range n).map (m a)).map (Value.int .i64)).toArray
theorem matL_length (n : Nat) (m : Nat → Nat → Int) : (matL n m).length = n := by simp [matL]
theorem rowA_get {n a j : Nat} {m : Nat → Nat → Int} (h : j < n) : (rowA n m a)[j]? = some (.int .i64 (m a j)) := by simp [rowA, h]

theorem made_int (n : Nat) : madeCells (Value.int .i64 0).cells (n * 1) = Array.replicate n (.int .i64 0) := by
  have h : (Value.int .i64 0).cells = #[.int .i64 0] := by rfl
  rw [h, Nat.mul_one]
  apply Array.toList_inj.1
  rw [toList_madeCells_one]
  simp
theorem make_int (n : Nat) (hn : n ≤ 100) (w : World) :
    (Instr.makeSlice 22 (.int .i64 n) (.int .i64 n)).run Tryz.prog w = .ok (.slice (some ⟨w.heap.size, 0, none⟩) n n) (w.alloc (.cells (rowA n (fun _ _ => 0) 0) 3)) := by
  obtain ⟨i0, hi, hz0, hz1, hz2⟩ := info_parts Tryz.infoInt
  have h := run_make (P := Tryz.prog) w 22 3 i0 _ Tryz.underlying22 hi hz0 .i64 .i64 n n (by omega) (Int.le_refl _) (by rw [hz2]; omega) (by omega)
  rw [Int.toNat_natCast, hz1, made_int] at h
  have e : rowA n (fun _ _ => 0) 0 = Array.replicate n (.int .i64 0) := by
    apply Array.toList_inj.1
    simp [rowA, List.map_const']
  rw [e]
  exact h

theorem roads_mat {n : Nat} {m : Nat → Nat → Int} {least : Int} (h1 : 1 ≤ n) (h2 : n ≤ 3) (l0 : 0 ≤ least) (l4 : least ≤ 4) (hd : ∀ a, a < n → m a a = 0) (hp : ∀ a c, a < n → c < n → a ≠ c → m a c = m c a ∧ least ≤ m a c ∧ m a c ≤ 2 * least) : RoadsOK (matL n m) := by
  have rng : ∀ a c, a < n → c < n → 0 ≤ m a c ∧ m a c ≤ 2 * least := fun a c ha hc => by
    by_cases e : a = c
    · subst e; rw [hd a ha]; omega
    · have := hp a c ha hc e; omega
  refine ⟨by rw [matL_length]; omega, by rw [matL_length]; omega, fun i h => by simp [matL], fun i j h hj => ?_, fun i h hj => ?_, fun i j h hj hk hl => ?_, fun i j k h hk h2 h3 h4 => ?_⟩
  · simp only [matL, List.length_map, List.length_range, List.getElem_map, List.getElem_range] at h hj ⊢
    have := rng i j h hj; omega
  · simp only [matL, List.length_map, List.length_range, List.getElem_map, List.getElem_range] at h hj ⊢
    exact hd i h
  · simp only [matL, List.length_map, List.length_range, List.getElem_map, List.getElem_range] at h hj ⊢
    by_cases e : i = j
    · subst e; rfl
    · exact (hp i j h hj e).1
  · simp only [matL, List.length_map, List.length_range, List.getElem_map, List.getElem_range] at h hk h2 h3 h4 ⊢
    have r1 := rng i j h h2; have r2 := rng i k h hk; have r3 := rng k j hk h2
    by_cases e : i = j
    · subst e; rw [hd i h]; omega
    · by_cases e2 : i = k
      · subst e2; omega
      · by_cases e3 : k = j
        · subst e3; omega
        · have := hp i j h h2 e; have := hp i k h hk e2; have := hp k j hk h2 e3; omega

/-- The fair in the making: block n1, with k rows of n roads. -/
structure FRel (b T n1 n : Nat) (w wr : World) (rv : Value) (k : Nat) (g : Nat → Nat) (m : Nat → Nat → Int) (sF sT dye most : Int) : Prop where
  bag : ∃ t', t' ≤ T ∧ Bag wr b t'
  kept : Kept b w wr
  lt : w.heap.size < n1
  res : wr.heap[w.heap.size]? = some (.cells #[.slice none 0 0, .slice none 0 0, .int .i64 0, .int .i64 0, .int .i64 0, .int .i64 0] 30 (0, 0))
  blk : wr.heap[n1]? = some (.cells #[.slice none 0 0, rv, .int .i64 sF, .int .i64 sT, .int .i64 dye, .int .i64 most] 30 (0, 0))
  own : wr.ownsRow (n1 + 1) 22 1 rv k ((List.range k).map fun a => .slice (some ⟨g a, 0, none⟩) n n)
  row : ∀ a, a < k → n1 < g a ∧ rv.ownBlock ≠ some (g a) ∧ wr.heap[g a]? = some (.cells (rowA n m a) 3 (0, 0))
  inj : ∀ a c, a < k → c < k → g a = g c → a = c

theorem FRel.keep {b T T' t' n1 n k : Nat} {w wr w' : World} {rv : Value} {g : Nat → Nat} {m : Nat → Nat → Int} {sF sT dye most : Int} (h : FRel b T n1 n w wr rv k g m sF sT dye most) (hbw : b < w.heap.size) (hk : Kept b wr w') (hB : Bag w' b t') (ht : t' ≤ T') :
    FRel b T' n1 n w w' rv k g m sF sT dye most := by
  obtain ⟨_, kept, lt, res, blk, own, row, inj⟩ := h
  have l1 := (Array.getElem?_eq_some_iff.1 res).1
  have l2 := (Array.getElem?_eq_some_iff.1 blk).1
  refine ⟨⟨t', ht, hB⟩, kept.trans hk, lt, (hk.block _ l1 (by omega)).trans res, (hk.block _ l2 (by omega)).trans blk, own.kept hk.grownBy ?_, fun a ha => ?_, inj⟩
  · cases hv : rv.ownBlock with
    | none => exact .inl rfl
    | some g => right; intro e; cases e; have := own.lt _ hv; omega
  · obtain ⟨r1, r2, r3⟩ := row a ha
    exact ⟨r1, r2, (hk.block _ (Array.getElem?_eq_some_iff.1 r3).1 (by omega)).trans r3⟩

/-- A row more. -/
theorem FRel.add {b T n1 n k g' cap : Nat} {w wr u1 u2 u3 : World} {rv : Value} {g : Nat → Nat} {sF sT dye most : Int} {o : Obj} (h : FRel b T n1 n w wr rv k g (fun _ _ => 0) sF sT dye most) (hbw : b < w.heap.size)
    (e1 : u1 = wr.drew.alloc (.cells (rowA n (fun _ _ => 0) 0) 3)) (e2 : u2 = u1.alloc o)
    (ho : u3.ownsRow (n1 + 1) 22 1 (.slice (some ⟨g', 0, none⟩) (k + 1) cap) (k + 1) (((List.range k).map fun a => .slice (some ⟨g a, 0, none⟩) n n) ++ [.slice (some ⟨wr.heap.size, 0, none⟩) n n])) (hg : u2.grownBy u3 rv.ownBlock) (hw : rv.ownBlock = some g' ∨ g' = u2.heap.size) :
    FRel b T n1 n w (u3.setCell ⟨n1, 1, none⟩ (.slice (some ⟨g', 0, none⟩) (k + 1) cap)) (.slice (some ⟨g', 0, none⟩) (k + 1) cap) (k + 1) (fun a => if a = k then wr.heap.size else g a) (fun _ _ => 0) sF sT dye most := by
  obtain ⟨⟨t', ht, hB⟩, kept, lt, res, blk, own, row, inj⟩ := h
  have l1 := (Array.getElem?_eq_some_iff.1 res).1
  have l2 := (Array.getElem?_eq_some_iff.1 blk).1
  have s2 : u2.heap.size = wr.heap.size + 2 := by rw [e2, e1]; simp
  have hown : ∀ x, rv.ownBlock = some x → n1 < x ∧ x < wr.heap.size := fun x e => by have := own.lt _ e; omega
  -- an old block that is no row lies as it lay
  have old : ∀ x, x < wr.heap.size → x ≠ n1 → rv.ownBlock ≠ some x → (u3.setCell ⟨n1, 1, none⟩ (.slice (some ⟨g', 0, none⟩) (k + 1) cap)).heap[x]? = wr.heap[x]? := fun x hx hn hr =>
    (Below.heap_setCell _ _ _ _ (by exact hn)).trans ((hg.block x (by omega) (fun e => hr e.symm)).trans (by rw [e2, e1]; exact (Below.heap_alloc _ _ _ (by simp; omega)).trans (Below.heap_alloc _ _ _ (by exact hx))))
  have b3 : u3.heap[n1]? = wr.heap[n1]? := (hg.block n1 (by omega) (fun e => by have := hown _ e.symm; omega)).trans (by rw [e2, e1]; exact (Below.heap_alloc _ _ _ (by simp; omega)).trans (Below.heap_alloc _ _ _ (by exact l2)))
  have s3 := hg.size
  have zr : (u3.setCell ⟨n1, 1, none⟩ (.slice (some ⟨g', 0, none⟩) (k + 1) cap)).heap[wr.heap.size]? = some (.cells (rowA n (fun _ _ => 0) 0) 3 (0, 0)) :=
    (Below.heap_setCell _ _ _ _ (by show wr.heap.size ≠ n1; omega)).trans ((hg.block _ (by omega) (fun e => by have := hown _ e.symm; omega)).trans (by rw [e2]; exact (Below.heap_alloc _ _ _ (by rw [e1]; simp)).trans (by rw [e1]; exact heap_new wr.drew _)))
  have low : ∀ x, x ≤ w.heap.size → (u3.setCell ⟨n1, 1, none⟩ (.slice (some ⟨g', 0, none⟩) (k + 1) cap)).heap[x]? = wr.heap[x]? := fun x hx => old x (by omega) (by omega) (fun e => by have := hown _ e; omega)
  refine ⟨⟨t', ht, hB.same fun x hx => low x (by omega)⟩, ⟨hg.os.trans (by rw [e2, e1]; exact kept.os), hg.tape.trans (by rw [e2, e1]; exact kept.tape), hg.output.trans (by rw [e2, e1]; exact kept.output), by have := kept.size; simp; omega, fun x hx hb => (low x (by omega)).trans (kept.block x hx hb)⟩, lt, (low _ (Nat.le_refl _)).trans res, ?_, ?_, fun a ha => ?_, fun a c ha hc he => ?_⟩
  · rw [blk] at b3
    simp [World.setCell, Array.getElem?_modify, b3]
  · have := ownsRow_setCell_below ho (a := ⟨n1, 1, none⟩) (by show n1 < n1 + 1; omega) (.slice (some ⟨g', 0, none⟩) (k + 1) cap)
    have e : ((List.range (k + 1)).map fun a => Value.slice (some ⟨if a = k then wr.heap.size else g a, 0, none⟩) n n) = ((List.range k).map fun a => .slice (some ⟨g a, 0, none⟩) n n) ++ [.slice (some ⟨wr.heap.size, 0, none⟩) n n] := by
      rw [List.range_succ, List.map_append]
      congr 1
      · refine List.map_congr_left fun a ha => ?_
        have := List.mem_range.1 ha
        rw [if_neg (by omega)]
      · simp
    rw [e]
    exact this
  · by_cases hak : a = k
    · subst hak
      simp only [if_pos]
      refine ⟨by omega, fun e => ?_, zr⟩
      simp only [Value.ownBlock, Option.some.injEq] at e
      rcases hw with h | h
      · have := hown _ h; omega
      · omega
    · simp only [if_neg hak]
      obtain ⟨r1, r2, r3⟩ := row a (by omega)
      have hlt := (Array.getElem?_eq_some_iff.1 r3).1
      refine ⟨r1, fun e => ?_, (old _ hlt (by omega) r2).trans r3⟩
      simp only [Value.ownBlock, Option.some.injEq] at e
      rcases hw with h | h
      · exact r2 (by rw [h, e])
      · omega
  · have hlt : ∀ a, a < k → g a < wr.heap.size := fun a ha => (Array.getElem?_eq_some_iff.1 (row a ha).2.2).1
    by_cases h1 : a = k <;> by_cases h2 : c = k
    · omega
    · simp only [h1, if_pos, if_neg h2] at he
      have := hlt c (by omega); omega
    · simp only [h2, if_pos, if_neg h1] at he
      have := hlt a (by omega); omega
    · simp only [if_neg h1, if_neg h2] at he
      exact inj a c (by omega) (by omega) he

theorem row_set {w : World} {G n a c : Nat} {m : Nat → Nat → Int} {T : TypeId} {x : Int} (h : w.heap[G]? = some (.cells (rowA n m a) T (0, 0))) : (w.setCell ⟨G, c, none⟩ (.int .i64 x)).heap[G]? = some (.cells (rowA n (fun p q => if p = a ∧ q = c then x else m p q) a) T (0, 0)) := by
  have e : (rowA n m a).setIfInBounds c (.int .i64 x) = rowA n (fun p q => if p = a ∧ q = c then x else m p q) a := by
    apply Array.ext_getElem?
    intro i
    by_cases hi : i < n
    · rw [rowA_get hi, Array.getElem?_setIfInBounds]
      by_cases hc : c = i
      · subst hc; simp [rowA, hi]
      · rw [if_neg hc, rowA_get hi]; simp [Ne.symm hc]
    · simp [rowA, hi]
  simp [World.setCell, Array.getElem?_modify, h, e]

/-- A road and its way back. -/
theorem FRel.pair {b T n1 n i c : Nat} {w wr : World} {rv : Value} {g : Nat → Nat} {m : Nat → Nat → Int} {sF sT dye most x : Int} (h : FRel b T n1 n w wr rv n g m sF sT dye most) (hbw : b < w.heap.size) (hi : i < n) (hc : c < n) (hne : i ≠ c) :
    FRel b T n1 n w ((wr.drew.setCell ⟨g i, c, none⟩ (.int .i64 x)).setCell ⟨g c, i, none⟩ (.int .i64 x)) rv n g (fun p q => if (p = i ∧ q = c) ∨ (p = c ∧ q = i) then x else m p q) sF sT dye most := by
  obtain ⟨⟨t', ht, hB⟩, kept, lt, res, blk, own, row, inj⟩ := h
  have l1 := (Array.getElem?_eq_some_iff.1 res).1
  have l2 := (Array.getElem?_eq_some_iff.1 blk).1
  obtain ⟨i1, i2, i3⟩ := row i hi
  obtain ⟨c1, c2, c3⟩ := row c hc
  have hgne : g i ≠ g c := fun e => hne (inj i c hi hc e)
  have old : ∀ y, y ≠ g i → y ≠ g c → ((wr.drew.setCell ⟨g i, c, none⟩ (.int .i64 x)).setCell ⟨g c, i, none⟩ (.int .i64 x)).heap[y]? = wr.heap[y]? := fun y h1 h2 =>
    (Below.heap_setCell _ _ _ _ (by exact h2)).trans (Below.heap_setCell _ _ _ _ (by exact h1))
  refine ⟨⟨t', ht, hB.same fun y hy => old y (by omega) (by omega)⟩, ⟨kept.os, kept.tape, kept.output, by have := kept.size; simpa using this, fun y hy hb => (old y (by omega) (by omega)).trans (kept.block y hy hb)⟩, lt, (old _ (by omega) (by omega)).trans res, (old _ (by omega) (by omega)).trans blk, ?_, fun a ha => ?_, inj⟩
  · obtain ⟨o1, o2⟩ := own
    refine ⟨o1, ?_⟩
    rcases o2 with o2 | ⟨G, cap, cur, hv, hG, hh, r⟩
    · exact .inl o2
    · refine .inr ⟨G, cap, cur, hv, hG, (old G (fun e => i2 (by rw [hv, ← e]; rfl)) (fun e => c2 (by rw [hv, ← e]; rfl))).trans hh, r⟩
  · obtain ⟨a1, a2, a3⟩ := row a ha
    refine ⟨a1, a2, ?_⟩
    by_cases h1 : a = i
    · subst h1
      rw [Below.heap_setCell _ _ _ _ (by exact hgne)]
      have := row_set (w := wr.drew) (c := c) (x := x) i3
      rw [this]
      congr 2
      simp only [rowA]
      congr 2
      refine List.map_congr_left fun q _ => ?_
      simp [hne]
    · by_cases h2 : a = c
      · subst h2
        have h4 : (wr.drew.setCell ⟨g i, a, none⟩ (.int .i64 x)).heap[g a]? = some (.cells (rowA n m a) 3 (0, 0)) := (Below.heap_setCell _ _ _ _ (by exact Ne.symm hgne)).trans c3
        rw [row_set h4]
        congr 2
        simp only [rowA]
        congr 2
        refine List.map_congr_left fun q _ => ?_
        simp [h1]
      · rw [old _ (fun e => h1 (inj a i ha hi e)) (fun e => h2 (inj a c ha hc e)), a3]
        congr 2
        simp only [rowA]
        congr 2
        refine List.map_congr_left fun q _ => ?_
        simp [h1, h2]
/-- The shoe is stored. -/
theorem FRel.shoe {b T n1 n k : Nat} {w wr : World} {rv : Value} {g : Nat → Nat} {m : Nat → Nat → Int} {sF sT dye most : Int} (h : FRel b T n1 n w wr rv k g m sF sT dye most) (hbw : b < w.heap.size) (x y : Int) :
    FRel b T n1 n w ((wr.setCell ⟨n1, 2, none⟩ (.int .i64 x)).setCell ⟨n1, 3, none⟩ (.int .i64 y)) rv k g m x y dye most := by
  obtain ⟨⟨t', ht, hB⟩, kept, lt, res, blk, own, row, inj⟩ := h
  have old : ∀ z, z ≠ n1 → ((wr.setCell ⟨n1, 2, none⟩ (.int .i64 x)).setCell ⟨n1, 3, none⟩ (.int .i64 y)).heap[z]? = wr.heap[z]? := fun z h1 =>
    (Below.heap_setCell _ _ _ _ (by exact h1)).trans (Below.heap_setCell _ _ _ _ (by exact h1))
  refine ⟨⟨t', ht, hB.same fun z hz => old z (by omega)⟩, (kept.setCell (.inr (by show _ ≤ n1; omega)) _).setCell (.inr (by show _ ≤ n1; omega)) _, lt, (old _ (by omega)).trans res, ?_, ownsRow_setCell_below (ownsRow_setCell_below own (a := ⟨n1, 2, none⟩) (by show n1 < n1 + 1; omega) _) (a := ⟨n1, 3, none⟩) (by show n1 < n1 + 1; omega) _, fun a ha => ?_, inj⟩
  · simp [World.setCell, Array.getElem?_modify, blk]
  · obtain ⟨a1, a2, a3⟩ := row a ha
    exact ⟨a1, a2, (old _ (by omega)).trans a3⟩
/-- The roads ahead of pair (i, c). -/
def PM (n : Nat) (least : Int) (m : Nat → Nat → Int) (i c : Nat) : Prop :=
  (∀ a, a < n → m a a = 0) ∧ ∀ p q, p < n → q < p → (p < i ∨ (p = i ∧ q < c)) → m p q = m q p ∧ least ≤ m p q ∧ m p q ≤ 2 * least
theorem PM.next {n i c : Nat} {least x : Int} {m : Nat → Nat → Int} (h : PM n least m i c) (hc : c < i) (h1 : least ≤ x) (h2 : x ≤ 2 * least) : PM n least (fun p q => if (p = i ∧ q = c) ∨ (p = c ∧ q = i) then x else m p q) i (c + 1) := by
  refine ⟨fun a ha => ?_, fun p q hp hq ho => ?_⟩
  · simp only
    rw [if_neg (by omega)]
    exact h.1 a ha
  · simp only
    by_cases e : p = i ∧ q = c
    · rw [if_pos (.inl e), if_pos (.inr ⟨e.2, e.1⟩)]
      exact ⟨rfl, h1, h2⟩
    · rw [if_neg (by omega), if_neg (by omega)]
      exact h.2 p q hp hq (by omega)
theorem PM.up {n i : Nat} {least : Int} {m : Nat → Nat → Int} (h : PM n least m i i) : PM n least m (i + 1) 0 :=
  ⟨h.1, fun p q hp hq ho => h.2 p q hp hq (by omega)⟩
theorem PM.roads {n : Nat} {least : Int} {m : Nat → Nat → Int} (h : PM n least m n 0) (h1 : 1 ≤ n) (h2 : n ≤ 3) (l0 : 0 ≤ least) (l4 : least ≤ 4) : RoadsOK (matL n m) :=
  roads_mat h1 h2 l0 l4 h.1 fun a c ha hc hne => by
    rcases Nat.lt_or_gt_of_ne hne with hl | hl
    · have := h.2 c a hc hl (by omega); omega
    · exact h.2 a c ha hl (by omega)

/-- What a walk reads of the roads. -/
theorem FRel.cells {b T n1 n k : Nat} {w wr : World} {rv : Value} {g : Nat → Nat} {m : Nat → Nat → Int} {sF sT dye most : Int} (h : FRel b T n1 n w wr rv k g m sF sT dye most) (hk : 0 < k) :
    ∃ gr cap, rv = .slice (some ⟨gr, 0, none⟩) k cap ∧ n1 < gr ∧ gr < wr.heap.size ∧ wr.cell? ⟨n1, 1, none⟩ = some rv ∧ (∀ a, a < k → wr.cell? ⟨gr, a, none⟩ = some (.slice (some ⟨g a, 0, none⟩) n n) ∧ g a ≠ gr ∧ n1 < g a ∧ ∀ j, j < n → wr.cell? ⟨g a, j, none⟩ = some (.int .i64 (m a j)) ∧ wr.frozen? ⟨g a, j, none⟩ = false) := by
  obtain ⟨h1, h2⟩ := h.own
  rcases h2 with ⟨_, h0⟩ | ⟨gr, cap, cur, hv, hg, hh, _, _, hs, ht⟩
  · omega
  · refine ⟨gr, cap, hv, by omega, (Array.getElem?_eq_some_iff.1 hh).1, by simp [World.cell?, h.blk], fun a ha => ?_⟩
    obtain ⟨r1, r2, r3⟩ := h.row a ha
    refine ⟨?_, fun e => r2 (by rw [hv, e]; rfl), r1, fun j hj => ⟨?_, by simp [World.frozen?, r3]⟩⟩
    · have hj2 : (cur.toList.take (k * 1))[a]? = some (.slice (some ⟨g a, 0, none⟩) n n) := by rw [ht]; simp [ha]
      rw [List.getElem?_take, if_pos (by omega)] at hj2
      simp only [World.cell?, hh]
      simpa using hj2
    · simp only [World.cell?, r3]
      exact rowA_get hj
theorem cell_far {w : World} {p q : Addr} {v u : Value} (h : p.block ≠ q.block) (hc : w.cell? p = some u) : (w.setCell q v).cell? p = some u := by
  rw [World.cell?_setCell_other _ _ _ _ (fun e => h (by rw [e]))]; exact hc
theorem cell_far_drew {w : World} {p q : Addr} {v u : Value} (h : p.block ≠ q.block) (hc : w.cell? p = some u) : (w.setCell q v).drew.cell? p = some u := cell_far (v := v) h hc
theorem cell_far_drew2 {w : World} {p q q2 : Addr} {v v2 u : Value} (h : p.block ≠ q.block) (h2 : p.block ≠ q2.block) (hc : w.cell? p = some u) : ((w.setCell q v).setCell q2 v2).drew.cell? p = some u := cell_far (v := v2) h2 (cell_far (v := v) h hc)
/-- The roads as rows. -/
theorem FRel.rowsM {b T n1 n : Nat} {w wr : World} {rv : Value} {g : Nat → Nat} {m : Nat → Nat → Int} {sF sT dye most : Int} (h : FRel b T n1 n w wr rv n g m sF sT dye most) (hn : 0 < n) : RowsM (fun x => n1 < x) wr rv (matL n m) := by
  refine rowsM_of_owns h.own hn (matL_length n m) (fun x e => by have := (h.own.lt _ e).1; omega) fun j hj => ⟨_, by simp [hj]; rfl, ?_⟩
  obtain ⟨r1, r2, r3⟩ := h.row j hj
  have hl : ((matL n m)[j]?.getD []) = (List.range n).map (m j) := by simp [matL, hj]
  rw [hl]
  refine ⟨_, n, by simp, fun _ => ⟨g j, 0, rfl, r1, (Array.getElem?_eq_some_iff.1 r3).1, fun i hi => ?_⟩⟩
  simp at hi
  simp only [World.cell?, r3, Nat.zero_add]
  rw [rowA_get hi]
  simp [hi]
end Go.Proofs.YtejfelijhojndaaGreatDoor
