/-
  palfreytop: TopLooked, the plain part: a row that grows while all else stays.
-/
import Derived.Test.YtejfelijhojndaaGreatDoorMAwake
import Derived.Test.YtejfelijhojndaaGreatDoorMSeen
import Derived.Test.YtejfelijhojndaaGreatDoorMJaw2
namespace Go.Proofs.YtejfelijhojndaaGreatDoor
open Go.RowKit Go.Proofs Go.Shelf

/-- What holds of blocks of a kind goes on holding while these blocks lie as they lay. -/
def Stable (F : (Nat → Prop) → World → Prop) : Prop :=
  ∀ (P P' : Nat → Prop) (w w' : World), w.heap.size ≤ w'.heap.size → (∀ k, k < w.heap.size → P k → w'.heap[k]? = w.heap[k]?) → (∀ k, k < w.heap.size → P k → P' k) → F P w → F P' w'

/-- A row V of k values in the making; n0: the blocks there were at first. -/
structure TRel (b T n0 base : Nat) (TY : TypeId) (F : (Nat → Prop) → World → Prop) (R : Nat → Value → (Nat → Prop) → World → Prop) (w wr : World) (V : Value) (k : Nat) (xs : List Value) : Prop where
  bag : ∃ t', t' ≤ T ∧ Bag wr b t'
  kept : Kept b w wr
  own : wr.ownsRow base TY 1 V k xs
  fix : F (fun g => n0 ≤ g ∧ V.ownBlock ≠ some g) wr
  row : ∀ j, j < k → ∃ u, xs[j]? = some u ∧ R j u (fun g => n0 ≤ g ∧ V.ownBlock ≠ some g) wr

section
variable {b T n0 base : Nat} {TY : TypeId} {F : (Nat → Prop) → World → Prop} {R : Nat → Value → (Nat → Prop) → World → Prop} {w wr : World} {V : Value} {k : Nat} {xs : List Value}
theorem TRel.keep {T' t' : Nat} {w' : World} (h : TRel b T n0 base TY F R w wr V k xs) (hF : Stable F) (hR : ∀ j u, Stable (R j u)) (hb : b < n0) (hbb : b < base) (hk : Kept b wr w') (hB : Bag w' b t') (ht : t' ≤ T') : TRel b T' n0 base TY F R w w' V k xs := by
  obtain ⟨_, kept, own, fix, row⟩ := h
  refine ⟨⟨t', ht, hB⟩, kept.trans hk, own.kept hk.grownBy ?_, hF _ _ _ _ hk.size (fun g hg hp => hk.block g hg (by omega)) (fun _ _ h => h) fix, fun j hj => ?_⟩
  · cases hv : V.ownBlock with
    | none => exact .inl rfl
    | some g => right; intro e; cases e; have := own.lt _ hv; omega
  · obtain ⟨u, h1, h2⟩ := row j hj
    exact ⟨u, h1, hR j u _ _ _ _ hk.size (fun g hg hp => hk.block g hg (by omega)) (fun _ _ h => h) h2⟩
theorem TRel.below {w' : World} (h : TRel b T n0 base TY F R w wr V k xs) (hF : Stable F) (hR : ∀ j u, Stable (R j u)) (hb : b < n0) (hbb : b < base) (hk : Below wr.heap.size wr w') : TRel b T n0 base TY F R w w' V k xs := by
  obtain ⟨t', ht, hB⟩ := h.bag
  exact h.keep hF hR hb hbb ((Kept.refl b wr).of_below hk) (hB.below hk hB.lt) ht
/-- A value more: the append of a literal of one value, laid in world u = wr.alloc o. -/
theorem TRel.push {g cap : Nat} {u u' : World} {x : Value} (h : TRel b T n0 base TY F R w wr V k xs) (hF : Stable F) (hR : ∀ j u, Stable (R j u)) (hb : b < n0) (hbb : b < base) (hw0 : w.heap.size ≤ base) (hu : Below wr.heap.size wr u)
    (ho : u'.ownsRow base TY 1 (.slice (some ⟨g, 0, none⟩) (k + 1) cap) (k + 1) (xs ++ [x])) (hg : u.grownBy u' V.ownBlock) (ha : V.ownBlock = some g ∨ wr.heap.size ≤ g)
    (hx : R k x (fun g => n0 ≤ g ∧ V.ownBlock ≠ some g) wr) : TRel b T n0 base TY F R w u' (.slice (some ⟨g, 0, none⟩) (k + 1) cap) (k + 1) (xs ++ [x]) := by
  obtain ⟨⟨t', ht, hB⟩, kept, own, fix, row⟩ := h
  have hlen : xs.length = k := ownsRow_len own
  have hov : ∀ y, V.ownBlock = some y → base ≤ y ∧ y < wr.heap.size := fun y e => own.lt y e
  have hsz : wr.heap.size ≤ u'.heap.size := Nat.le_trans hu.size hg.size
  have old : ∀ y, y < wr.heap.size → V.ownBlock ≠ some y → u'.heap[y]? = wr.heap[y]? := fun y hy hn => (hg.block y (Nat.lt_of_lt_of_le hy hu.size) (fun e => hn e.symm)).trans (hu.block y hy)
  have f1 : ∀ y, y < wr.heap.size → (n0 ≤ y ∧ V.ownBlock ≠ some y) → u'.heap[y]? = wr.heap[y]? := fun y hy hp => old y hy hp.2
  have f2 : ∀ y, y < wr.heap.size → (n0 ≤ y ∧ V.ownBlock ≠ some y) → (n0 ≤ y ∧ (Value.slice (some ⟨g, 0, none⟩) (k + 1) cap).ownBlock ≠ some y) := fun y hy hp => ⟨hp.1, fun e => by
    simp only [Value.ownBlock, Option.some.injEq] at e
    subst e
    rcases ha with h1 | h1
    · exact hp.2 h1
    · omega⟩
  refine ⟨⟨t', ht, hB.same fun y hy => old y (by have := hB.lt; omega) (fun e => by have := hov y e; omega)⟩, ⟨(hg.os.trans hu.os).trans kept.os, (hg.tape.trans hu.tape).trans kept.tape, (hg.output.trans hu.output).trans kept.output, Nat.le_trans kept.size hsz, fun y hy hyb => (old y (Nat.lt_of_lt_of_le hy kept.size) (fun e => by have := hov y e; omega)).trans (kept.block y hy hyb)⟩, ho, hF _ _ _ _ hsz f1 f2 fix, fun j hj => ?_⟩
  by_cases hjk : j < k
  · obtain ⟨v, h1, h2⟩ := row j hjk
    exact ⟨v, by rw [List.getElem?_append_left (by omega)]; exact h1, hR j v _ _ _ _ hsz f1 f2 h2⟩
  · have : j = k := by omega
    subst this
    exact ⟨x, by rw [List.getElem?_append_right (by omega)]; simp [hlen], hR j x _ _ _ _ hsz f1 f2 hx⟩
end

/-- All that TopLooked has made ahead of its loops. -/
structure TFix (f4 j6 : Nat) (ev rv hv nv dv : Value) (Z : List (Ent × Value)) (I : List Int) (M N D : List (List Int)) (sF sT dye most : Int) (P : Nat → Prop) (w : World) : Prop where
  ents : EntsM P w ev Z
  roads : RowsM P w rv M
  hor : IntsM P w hv I
  next : RowsM P w nv N
  filed : RowsM P w dv D
  pf : P f4
  pj : P j6
  bf : w.heap[f4]? = some (.cells #[ev, rv, .int .i64 sF, .int .i64 sT, .int .i64 dye, .int .i64 most] 30 (0, 0))
  bj : w.heap[j6]? = some (.cells #[nv, dv] 34 (0, 0))
theorem TFix.stable (f4 j6 : Nat) (ev rv hv nv dv : Value) (Z : List (Ent × Value)) (I : List Int) (M N D : List (List Int)) (sF sT dye most : Int) : Stable (TFix f4 j6 ev rv hv nv dv Z I M N D sF sT dye most) := fun P P' w w' h1 h2 h3 h => by
  obtain ⟨a, b, c, d, e, p, q, f, g⟩ := h
  have l1 := (Array.getElem?_eq_some_iff.1 f).1
  have l2 := (Array.getElem?_eq_some_iff.1 g).1
  exact ⟨a.step h1 h2 h3, b.step h1 h2 h3, c.step h1 h2 h3, d.step h1 h2 h3, e.step h1 h2 h3, h3 _ l1 p, h3 _ l2 q, (h2 _ l1 p).trans f, (h2 _ l2 q).trans g⟩

/-- A course's mouths as a value. -/
def CourseV (N : List (List Int)) (v : Value) (P : Nat → Prop) (w : World) : Prop := ∃ (age : Nat) (l : List Nat), age ≤ 6 ∧ l.length = 3 ∧ Course N age l ∧ IntsM P w v (l.map Int.ofNat)
theorem CourseV.stable (N : List (List Int)) (v : Value) : Stable (CourseV N v) := fun P P' w w' h1 h2 h3 ⟨age, l, a, b, c, d⟩ => ⟨age, l, a, b, c, d.step h1 h2 h3⟩
/-- One look as a value. -/
def LookM (y s : Nat) (v : Value) (P : Nat → Prop) (w : World) : Prop := ∃ g T, v = .slice (some ⟨g, 0, none⟩) 1 1 ∧ P g ∧ w.heap[g]? = some (.cells #[.int .i64 (y : Nat), .int .i64 (s : Nat)] T (0, 0))
theorem LookM.stable (y s : Nat) (v : Value) : Stable (LookM y s v) := fun P P' w w' h1 h2 h3 ⟨g, T, a, b, c⟩ => by
  have l := (Array.getElem?_eq_some_iff.1 c).1
  exact ⟨g, T, a, h3 _ l b, (h2 _ l b).trans c⟩
theorem LookM.at {y s : Nat} {v : Value} {P : Nat → Prop} {w : World} (h : LookM y s v P w) : LooksAt w v [(y, s)] := by
  obtain ⟨g, T, rfl, _, h2⟩ := h
  refine ⟨g, 0, 1, rfl, fun j hj => ?_⟩
  match j, hj with
  | 0, _ => simp [World.cell?, h2]
/-- The mouths of k horses, made. -/
structure VFix (N : List (List Int)) (V : Value) (k : Nat) (Ag : Nat → Nat) (C : Nat → List Nat) (P : (Nat → Prop)) (w : World) : Prop where
  age : ∀ j, j < k → Ag j ≤ 6 ∧ (C j).length = 3 ∧ Course N (Ag j) (C j)
  val : ∃ gV cap, V = .slice (some ⟨gV, 0, none⟩) k cap ∧ P gV ∧ gV < w.heap.size ∧ ∀ j, j < k → ∃ u, w.cell? ⟨gV, j, none⟩ = some u ∧ IntsM P w u ((C j).map Int.ofNat)
theorem VFix.stable (N : List (List Int)) (V : Value) (k : Nat) (Ag : Nat → Nat) (C : Nat → List Nat) : Stable (VFix N V k Ag C) := fun P P' w w' h1 h2 h3 ⟨a, gV, cap, hv, hp, hl, hr⟩ =>
  ⟨a, gV, cap, hv, h3 _ hl hp, Nat.lt_of_lt_of_le hl h1, fun j hj => by
    obtain ⟨u, c, i⟩ := hr j hj
    exact ⟨u, (World.cell?_of_block (w := w) (h2 gV hl hp)).trans c, i.step h1 h2 h3⟩⟩
theorem cell_own {u : World} {base n j : Nat} {TY : TypeId} {g cap : Nat} {xs : List Value} {x : Value} (h : u.ownsRow base TY 1 (.slice (some ⟨g, 0, none⟩) n cap) n xs) (hn : 0 < n) (hj : j < n) (hx : xs[j]? = some x) : u.cell? ⟨g, j, none⟩ = some x := by
  rcases h.2 with ⟨h0, _⟩ | ⟨g', cap', cur, hv, _, hh, _, _, hs, ht⟩
  · cases h0
  · cases hv
    have hj2 : (cur.toList.take (n * 1))[j]? = xs[j]? := by rw [ht]
    rw [List.getElem?_take, if_pos (by omega), hx] at hj2
    simp only [World.cell?, hh]
    simpa using hj2
/-- When the loop of the mouths is through. -/
theorem TRel.mouths {b T n0 base k : Nat} {TY : TypeId} {F : (Nat → Prop) → World → Prop} {N : List (List Int)} {w wr : World} {V : Value} {xs : List Value} (h : TRel b T n0 base TY F (fun _ u => CourseV N u) w wr V k xs) (hF : Stable F) (hk : 0 < k) (hn0 : n0 ≤ base) :
    ∃ (Ag : Nat → Nat) (C : Nat → List Nat), VFix N V k Ag C (fun g => n0 ≤ g ∧ (Value.slice none 0 0).ownBlock ≠ some g) wr ∧ F (fun g => n0 ≤ g ∧ (Value.slice none 0 0).ownBlock ≠ some g) wr := by
  have pn : ∀ g : Nat, (Value.slice none 0 0).ownBlock ≠ some g := fun g => by simp [Value.ownBlock]
  have hfix := hF _ (fun g => n0 ≤ g ∧ (Value.slice none 0 0).ownBlock ≠ some g) _ _ (Nat.le_refl _) (fun _ _ _ => rfl) (fun g _ hp => ⟨hp.1, pn g⟩) h.fix
  have hex : ∀ j, ∃ q : Nat × List Nat, j < k → ∃ u, xs[j]? = some u ∧ q.1 ≤ 6 ∧ q.2.length = 3 ∧ Course N q.1 q.2 ∧ IntsM (fun g => n0 ≤ g ∧ (Value.slice none 0 0).ownBlock ≠ some g) wr u (q.2.map Int.ofNat) := fun j => by
    by_cases hj : j < k
    · obtain ⟨u, h1, age, l, h2, h3, h4, h5⟩ := h.row j hj
      exact ⟨(age, l), fun _ => ⟨u, h1, h2, h3, h4, h5.step (Nat.le_refl _) (fun _ _ _ => rfl) (fun g _ hp => ⟨hp.1, pn g⟩)⟩⟩
    · exact ⟨(0, []), fun h => absurd h hj⟩
  obtain ⟨f, hf⟩ := Classical.axiomOfChoice hex
  obtain ⟨gV, cap, hV, hb, hl⟩ := h.own.form hk
  have hown := h.own
  rw [hV] at hown
  refine ⟨fun j => (f j).1, fun j => (f j).2, ⟨fun j hj => ?_, gV, cap, hV, ⟨by omega, pn gV⟩, hl, fun j hj => ?_⟩, hfix⟩
  · obtain ⟨u, h1, h2, h3, h4, h5⟩ := hf j hj
    exact ⟨h2, h3, h4⟩
  · obtain ⟨u, h1, h2, h3, h4, h5⟩ := hf j hj
    exact ⟨u, cell_own hown hk hj h1, h5⟩
/-- The look of entry j: an honest one. -/
def LookX (I : List Int) (C : Nat → List Nat) (j : Nat) (u : Value) (P : Nat → Prop) (w : World) : Prop := ∃ y, y ≤ 2 ∧ LookM y ((C (hOf I j))[y]?.getD 0) u P w
theorem LookX.stable (I : List Int) (C : Nat → List Nat) (j : Nat) (u : Value) : Stable (LookX I C j u) := fun P P' w w' h1 h2 h3 ⟨y, hy, h⟩ => ⟨y, hy, LookM.stable y _ u P P' w w' h1 h2 h3 h⟩
theorem Stable.both {F G : (Nat → Prop) → World → Prop} (hF : Stable F) (hG : Stable G) : Stable (fun P w => F P w ∧ G P w) := fun P P' w w' h1 h2 h3 h => ⟨hF P P' w w' h1 h2 h3 h.1, hG P P' w w' h1 h2 h3 h.2⟩
/-- The looks of n entries, made. -/
def LFix (I : List Int) (C : Nat → List Nat) (U : Value) (n : Nat) (P : Nat → Prop) (w : World) : Prop :=
  0 < n → ∃ gU cap, U = .slice (some ⟨gU, 0, none⟩) n cap ∧ P gU ∧ gU < w.heap.size ∧ ∀ j, j < n → ∃ u, w.cell? ⟨gU, j, none⟩ = some u ∧ LookX I C j u P w
theorem LFix.stable (I : List Int) (C : Nat → List Nat) (U : Value) (n : Nat) : Stable (LFix I C U n) := fun P P' w w' h1 h2 h3 h hn => by
  obtain ⟨gU, cap, hv, hp, hl, hr⟩ := h hn
  exact ⟨gU, cap, hv, h3 _ hl hp, Nat.lt_of_lt_of_le hl h1, fun j hj => by
    obtain ⟨u, c, i⟩ := hr j hj
    exact ⟨u, (World.cell?_of_block (w := w) (h2 gU hl hp)).trans c, LookX.stable I C j u P P' w w' h1 h2 h3 i⟩⟩
theorem TRel.looks {b T n0 base n : Nat} {TY : TypeId} {F : (Nat → Prop) → World → Prop} {I : List Int} {C : Nat → List Nat} {w wr : World} {V : Value} {ys : List Value} (h : TRel b T n0 base TY F (LookX I C) w wr V n ys) (hF : Stable F) (hn0 : n0 ≤ base) :
    LFix I C V n (fun g => n0 ≤ g) wr ∧ F (fun g => n0 ≤ g) wr := by
  refine ⟨fun hn => ?_, hF _ (fun g => n0 ≤ g) _ _ (Nat.le_refl _) (fun _ _ _ => rfl) (fun g _ hp => hp.1) h.fix⟩
  obtain ⟨gV, cap, hV, hb, hl⟩ := h.own.form hn
  have hown := h.own
  rw [hV] at hown
  refine ⟨gV, cap, hV, by omega, hl, fun j hj => ?_⟩
  obtain ⟨u, h1, h2⟩ := h.row j hj
  exact ⟨u, cell_own hown hn hj h1, LookX.stable I C j u _ _ _ _ (Nat.le_refl _) (fun _ _ _ => rfl) (fun g _ hp => hp.1) h2⟩
theorem Stable.at_below {F : (Nat → Prop) → World → Prop} (hF : Stable F) {P : Nat → Prop} {w w' : World} (hb : Below w.heap.size w w') (h : F P w) : F P w' :=
  hF P P w w' hb.size (fun g hg _ => hb.block g hg) (fun _ _ h => h) h
/-- Two looks of one horse, as one list or as two. -/
theorem look_seen {N : List (List Int)} {D : List (List Int)} (hJ : JawOK N D) {age : Nat} {c : List Nat} (hC : Course N age c) (hc : c.length = 3) {y : Nat} (hy : y ≤ 2) : (c[y]?.getD 0) < N.length ∧ c[y]? = some (c[y]?.getD 0) := by
  have h : y < c.length := by omega
  rw [List.getElem?_eq_getElem h]
  exact ⟨hC.lt _ (List.getElem_mem h), rfl⟩
theorem lookX_ok {n y s : Nat} (hy : y ≤ 2) (hs : s < n) : LooksOK [(y, s)] n :=
  ⟨by simp, fun i h => by simp at h; subst h; show y ≤ 6; omega, fun i h => by simp at h; subst h; exact hs, fun i h => by simp at h⟩
theorem lookX_ok2 {n y s y' s' : Nat} (hy : y ≤ 2) (hs : s < n) (hy' : y' ≤ 2) (hs' : s' < n) (hyy : y ≤ y') : LooksOK [(y, s), (y', s')] n :=
  ⟨by simp, fun i h => by
    match i, h with
    | 0, _ => show y ≤ 6; omega
    | 1, _ => show y' ≤ 6; omega, fun i h => by
    match i, h with
    | 0, _ => exact hs
    | 1, _ => exact hs', fun i h => by
    match i, h with
    | 0, _ => exact hyy⟩
theorem look_at2 {w : World} {g cap : Nat} {y s y' s' : Nat} (h0 : w.cell? ⟨g, 0, none⟩ = some (.int .i64 (y : Nat))) (h1 : w.cell? ⟨g, 1, none⟩ = some (.int .i64 (s : Nat))) (h2 : w.cell? ⟨g, 2, none⟩ = some (.int .i64 (y' : Nat))) (h3 : w.cell? ⟨g, 3, none⟩ = some (.int .i64 (s' : Nat))) : LooksAt w (.slice (some ⟨g, 0, none⟩) 2 cap) [(y, s), (y', s')] :=
  ⟨g, 0, cap, rfl, fun j hj => by
    match j, hj with
    | 0, _ => exact ⟨h0, h1⟩
    | 1, _ => exact ⟨h2, h3⟩⟩
theorem pair_free {N D : List (List Int)} (hJ : JawOK N D) {age : Nat} {c : List Nat} (hC : Course N age c) (hc : c.length = 3) (ha : age ≤ 6) {y y' : Nat} (hy : y ≤ 2) (hy' : y' ≤ 2) : 0 < (workS N D [(y, c[y]?.getD 0), (y', c[y']?.getD 0)]).1.length ∧ (workS N D [(y, c[y]?.getD 0), (y', c[y']?.getD 0)]).2 = 0 := by
  obtain ⟨h1, h2⟩ := work_free (L := [(y, c[y]?.getD 0), (y', c[y']?.getD 0)]) hJ hC (by omega) (by omega) (by omega) (fun l hl => by
    simp only [List.mem_cons, List.not_mem_nil, or_false] at hl
    rcases hl with rfl | rfl
    · exact (look_seen hJ hC hc hy).2
    · exact (look_seen hJ hC hc hy').2)
  exact ⟨List.length_pos_iff.2 h1, h2⟩
theorem pair_alike {N D : List (List Int)} (hJ : JawOK N D) {age : Nat} {c : List Nat} (hC : Course N age c) (hc : c.length = 3) (ha : age ≤ 6) {y y' : Nat} (hy : y ≤ 2) (hy' : y' ≤ 2) : alikeB N D [(y, c[y]?.getD 0)] [(y', c[y']?.getD 0)] = true :=
  alike_true hJ hC (by omega) (by omega) (by omega) (fun l hl => by
    simp only [List.cons_append, List.nil_append, List.mem_cons, List.not_mem_nil, or_false] at hl
    rcases hl with rfl | rfl
    · exact (look_seen hJ hC hc hy).2
    · exact (look_seen hJ hC hc hy').2)
end Go.Proofs.YtejfelijhojndaaGreatDoor
