/-
  palfreykit: JawOf, the plain part.
-/
import Derived.Test.YtejfelijhojndaaGreatDoorMLate2
import Derived.Test.YtejfelijhojndaaGreatDoorMTLook
namespace Go.Proofs.YtejfelijhojndaaGreatDoor
open Go.RowKit Go.Proofs Go.Shelf

/-- A slice of rows of integers whose blocks are of the kind P. -/
def RowsM (P : Nat → Prop) (w : World) (v : Value) (M : List (List Int)) : Prop :=
  ∃ g off cap, v = .slice (some ⟨g, off, none⟩) M.length cap ∧ P g ∧ g < w.heap.size ∧ ∀ i, i < M.length → ∃ u, w.cell? ⟨g, off + i, none⟩ = some u ∧ IntsM P w u (M[i]?.getD [])
theorem RowsM.rows {P : Nat → Prop} {w : World} {v : Value} {M : List (List Int)} (h : RowsM P w v M) : RowsAt w v M := by
  obtain ⟨g, off, cap, hv, _, _, hr⟩ := h
  exact ⟨g, off, cap, hv, fun i hi => by obtain ⟨u, hu, hI⟩ := hr i hi; exact ⟨u, hu, hI.ints⟩⟩
theorem RowsM.step {P P' : Nat → Prop} {w w' : World} {v : Value} {M : List (List Int)} (h : RowsM P w v M) (hsz : w.heap.size ≤ w'.heap.size) (hs : ∀ k, k < w.heap.size → P k → w'.heap[k]? = w.heap[k]?) (hp : ∀ k, k < w.heap.size → P k → P' k) : RowsM P' w' v M := by
  obtain ⟨g, off, cap, hv, hpg, hlt, hr⟩ := h
  refine ⟨g, off, cap, hv, hp g hlt hpg, Nat.lt_of_lt_of_le hlt hsz, fun i hi => ?_⟩
  obtain ⟨u, hu, hI⟩ := hr i hi
  exact ⟨u, (World.cell?_of_block (w := w) (hs g hlt hpg)).trans hu, hI.step hsz hs hp⟩

theorem mouthsOK_of {l : List Int} {n barred : Int} (hp : l.Pairwise (· < ·)) (hm : ∀ y ∈ l, 0 ≤ y ∧ y < n ∧ y ≠ barred) (hl : l.length ≤ 3) : MouthsOK l n barred :=
  ⟨fun i h => hm _ (List.getElem_mem h), fun i h => List.pairwise_iff_getElem.1 hp i (i + 1) (by omega) h (by omega), hl⟩

/-- A list of mouths in the making, in blocks that are new since base. -/
def NewList (base : Nat) (w : World) (v : Value) (n barred : Int) (len : Nat) : Prop :=
  ∃ l : List Int, IntsM (fun k => base ≤ k) w v l ∧ l.Pairwise (· < ·) ∧ (∀ y ∈ l, 0 ≤ y ∧ y < n ∧ y ≠ barred) ∧ l.length ≤ len
theorem NewList.kept {base b len : Nat} {w w' : World} {v : Value} {n barred : Int} (h : NewList base w v n barred len) (hb : b < base) (hk : Kept b w w') : NewList base w' v n barred len := by
  obtain ⟨l, h1, h2⟩ := h
  exact ⟨l, h1.step hk.size (fun k hk2 hp => hk.block k hk2 (by omega)) (fun _ _ h => h), h2⟩
theorem NewList.mono {base len len' : Nat} {w : World} {v : Value} {n barred : Int} (h : NewList base w v n barred len) (hl : len ≤ len') : NewList base w v n barred len' := by
  obtain ⟨l, h1, h2, h3, h4⟩ := h
  exact ⟨l, h1, h2, h3, by omega⟩

/-- A list that is new and has one mouth at least. -/
def NewNext (base : Nat) (w : World) (v : Value) (n : Int) (len : Nat) : Prop :=
  ∃ l : List Int, IntsM (fun k => base ≤ k) w v l ∧ l.Pairwise (· < ·) ∧ (∀ y ∈ l, 0 ≤ y ∧ y < n) ∧ 0 < l.length ∧ l.length ≤ len
theorem NewNext.kept {base b len : Nat} {w w' : World} {v : Value} {n : Int} (h : NewNext base w v n len) (hb : b < base) (hk : Kept b w w') : NewNext base w' v n len := by
  obtain ⟨l, h1, h2⟩ := h
  exact ⟨l, h1.step hk.size (fun k hk2 hp => hk.block k hk2 (by omega)) (fun _ _ h => h), h2⟩
theorem NewNext.below {base len : Nat} {w w' : World} {v : Value} {n : Int} (h : NewNext base w v n len) (hk : Below w.heap.size w w') : NewNext base w' v n len := by
  obtain ⟨l, h1, h2⟩ := h
  exact ⟨l, h1.step hk.size (fun k hk2 hp => hk.block k hk2) (fun _ _ h => h), h2⟩
theorem NewList.below {base len : Nat} {w w' : World} {v : Value} {n barred : Int} (h : NewList base w v n barred len) (hk : Below w.heap.size w w') : NewList base w' v n barred len := by
  obtain ⟨l, h1, h2⟩ := h
  exact ⟨l, h1.step hk.size (fun k hk2 hp => hk.block k hk2) (fun _ _ h => h), h2⟩

theorem newNext_lit {base len : Nat} {w : World} {n x : Int} {T : TypeId} (hb : base ≤ w.heap.size) (h0 : 0 ≤ x) (h1 : x < n) (hlen : 1 ≤ len) : NewNext base (w.alloc (.cells #[.int .i64 x] T)) (.slice (some ⟨w.heap.size, 0, none⟩) 1 1) n len :=
  ⟨[x], ⟨_, 1, rfl, fun _ => ⟨w.heap.size, 0, rfl, hb, by simp, fun j hj => by
    obtain rfl : j = 0 := by simpa using hj
    rw [Nat.zero_add, World.cell?_alloc_new]; rfl⟩⟩, List.pairwise_singleton _ _, fun y hy => by simp at hy; subst hy; exact ⟨h0, h1⟩, by simp, by simpa using hlen⟩

/-- The jaw in the making: i mouths of n. -/
structure JRel (b T n : Nat) (w : World) (i : Nat) (wr : World) (N D : List (List Int)) (xs ys : List Value) (nv dv : Value) : Prop where
  bag : ∃ t', t' ≤ T ∧ Bag wr b t'
  kept : Kept b w wr
  res : wr.heap[w.heap.size]? = some (.cells #[.slice none 0 0, .slice none 0 0] 34 (0, 0))
  jaw : wr.heap[w.heap.size + 1]? = some (.cells #[nv, dv] 34 (0, 0))
  ownN : wr.ownsRow (w.heap.size + 1 + 1) 22 1 nv i xs
  ownD : wr.ownsRow (w.heap.size + 1 + 1) 22 1 dv i ys
  apart : ∀ k, nv.ownBlock = some k → dv.ownBlock ≠ some k
  lenN : N.length = i
  lenD : D.length = i
  rowN : ∀ j, j < i → ∃ u, xs[j]? = some u ∧ IntsM (fun k => w.heap.size + 1 < k ∧ nv.ownBlock ≠ some k ∧ dv.ownBlock ≠ some k) wr u (N[j]?.getD [])
  rowD : ∀ j, j < i → ∃ u, ys[j]? = some u ∧ IntsM (fun k => w.heap.size + 1 < k ∧ nv.ownBlock ≠ some k ∧ dv.ownBlock ≠ some k) wr u (D[j]?.getD [])
  okN : ∀ j (h : j < N.length), MouthsOK N[j] n (-1) ∧ 0 < N[j].length
  okD : ∀ j (h : j < D.length), MouthsOK D[j] n j

theorem JRel.keep {b T T' t' n i : Nat} {w wr w' : World} {N D : List (List Int)} {xs ys : List Value} {nv dv : Value} (h : JRel b T n w i wr N D xs ys nv dv) (hbw : b < w.heap.size) (hk : Kept b wr w') (hB : Bag w' b t') (ht : t' ≤ T') : JRel b T' n w i w' N D xs ys nv dv := by
  obtain ⟨_, kept, res, jaw, ownN, ownD, apart, lenN, lenD, rowN, rowD, okN, okD⟩ := h
  have l1 := (Array.getElem?_eq_some_iff.1 res).1
  have l2 := (Array.getElem?_eq_some_iff.1 jaw).1
  have far : ∀ v : Value, ∀ {xs}, wr.ownsRow (w.heap.size + 1 + 1) 22 1 v i xs → v.ownBlock = none ∨ v.ownBlock ≠ some b := fun v xs ho => by
    cases hv : v.ownBlock with
    | none => exact .inl rfl
    | some g => right; intro e; cases e; have := ho.lt _ hv; omega
  refine ⟨⟨t', ht, hB⟩, kept.trans hk, (hk.block _ l1 (by omega)).trans res, (hk.block _ l2 (by omega)).trans jaw, ownN.kept hk.grownBy (far _ ownN), ownD.kept hk.grownBy (far _ ownD), apart, lenN, lenD, fun j hj => ?_, fun j hj => ?_, okN, okD⟩
  · obtain ⟨u, h1, h2⟩ := rowN j hj
    exact ⟨u, h1, h2.step hk.size (fun k hk2 hp => hk.block k hk2 (by omega)) (fun _ _ h => h)⟩
  · obtain ⟨u, h1, h2⟩ := rowD j hj
    exact ⟨u, h1, h2.step hk.size (fun k hk2 hp => hk.block k hk2 (by omega)) (fun _ _ h => h)⟩
theorem JRel.below {b T n i : Nat} {w wr w' : World} {N D : List (List Int)} {xs ys : List Value} {nv dv : Value} (h : JRel b T n w i wr N D xs ys nv dv) (hbw : b < w.heap.size) (hb : Below wr.heap.size wr w') : JRel b T n w i w' N D xs ys nv dv := by
  obtain ⟨t', ht, hB⟩ := h.bag
  exact h.keep hbw ((Kept.refl b wr).of_below hb) (hB.below hb hB.lt) ht

def JawEnd (b t mouths : Nat) (w : World) (e : Ending) (w' : World) : Prop :=
  ∃ (N D : List (List Int)) (nv dv : Value) (t' : Nat), e = .returned (jawV nv dv) ∧ RowsM (fun k => w.heap.size ≤ k) w' nv N ∧ RowsM (fun k => w.heap.size ≤ k) w' dv D ∧ JawOK N D ∧ N.length ≤ mouths ∧ t' ≤ t + 100 ∧ Bag w' b t' ∧ Kept b w w'
end Go.Proofs.YtejfelijhojndaaGreatDoor
