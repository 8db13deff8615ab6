/-
  debt: the row of payments as the sort sees it; the sort of a row; what a settlement makes at its start.
-/
import Derived.Test.YtemoepcfmpapoaaGreatDoorMRSrt2
import Derived.Test.YtemoepcfmpapoaaGreatDoorMRDCatch
namespace Go.Proofs.YtemoepcfmpapoaaGreatDoor
open Go.RowKit Go.Proofs Go.Shelf
attribute [local go_sem] Oper.semAt_some

set_option maxRecDepth 100000
theorem heap_madeD {w W : World} {o : Obj} (h : w.alloc o = W) : W.heap[w.heap.size]? = some o := by rw [← h]; exact heap_new w o
theorem flatP_length (L : List Pay) : (flatP L).length = L.length * 3 := by
  induction L with
  | nil => rfl
  | cons p r ih => simp only [flatP, List.flatMap_cons, List.length_append] at *; simp [ih]; omega
theorem flatP_at : ∀ (L : List Pay) (j : Nat), j < L.length → (flatP L)[j * 3]? = some (.int .i64 (L[j]?.getD default).1) ∧ (flatP L)[j * 3 + 1]? = some (.int .i64 (L[j]?.getD default).2.1) ∧ (flatP L)[j * 3 + 2]? = some (.int .i64 (L[j]?.getD default).2.2)
  | [], j, h => by simp at h
  | p :: r, 0, _ => by simp [flatP]
  | p :: r, j + 1, h => by
    have ih := flatP_at r j (by simpa using h)
    have e : flatP (p :: r) = .int .i64 p.1 :: .int .i64 p.2.1 :: .int .i64 p.2.2 :: flatP r := by simp [flatP]
    rw [e]
    have h1 : (j + 1) * 3 = j * 3 + 3 := by omega
    have h2 : j * 3 + 3 + 1 = j * 3 + 1 + 3 := by omega
    have h3 : j * 3 + 3 + 2 = j * 3 + 2 + 3 := by omega
    rw [h1, h2, h3]
    simpa using ih
theorem pst_of_owns {w : World} {base : Nat} {v : Value} {L : List Pay} (h : w.ownsRow base 78 3 v L.length (flatP L)) :
    (v = .slice none 0 0 ∧ L = []) ∨ ∃ g cap C, v = .slice (some ⟨g, 0, none⟩) L.length cap ∧ base ≤ g ∧ PSt g C w L ∧
      ∀ w' L', L'.length = L.length → PSt g C w' L' → w'.ownsRow base 78 3 v L.length (flatP L') := by
  obtain ⟨h1, h2⟩ := h
  rcases h2 with ⟨hv, h0⟩ | ⟨g, cap, cur, hv, hg, hh, hn, hm, hs, ht⟩
  · exact .inl ⟨hv, by simpa using h0⟩
  · refine .inr ⟨g, cap, cap * 3, hv, hg, ⟨cur, hh, hs, by omega, fun j hj => ?_⟩, fun w' L' hl hp => ?_⟩
    · have hc : ∀ i, i < L.length * 3 → cur[i]? = (flatP L)[i]? := fun i hi => by
        rw [← ht, List.getElem?_take, if_pos hi]
        simp
      obtain ⟨f1, f2, f3⟩ := flatP_at L j hj
      exact ⟨(hc _ (by omega)).trans f1, (hc _ (by omega)).trans f2, (hc _ (by omega)).trans f3⟩
    · obtain ⟨cur', hh', hs', hl', hc'⟩ := hp
      refine ⟨by rw [flatP_length, hl], .inr ⟨g, cap, cur', hv, hg, hh', hn, hm, hs', ?_⟩⟩
      refine List.ext_getElem? fun i => ?_
      rw [List.getElem?_take]
      by_cases hi : i < L.length * 3
      · rw [if_pos hi]
        have hd : i / 3 < L'.length := by omega
        obtain ⟨f1, f2, f3⟩ := flatP_at L' (i / 3) hd
        obtain ⟨g1, g2, g3⟩ := hc' (i / 3) hd
        rw [Array.getElem?_toList]
        rcases (by omega : i = i / 3 * 3 ∨ i = i / 3 * 3 + 1 ∨ i = i / 3 * 3 + 2) with e | e | e
        · rw [e, f1, g1]
        · rw [e, f2, g2]
        · rw [e, f3, g3]
      · rw [if_neg hi, List.getElem?_eq_none (by rw [flatP_length]; omega)]

def RowEnd (base : Nat) (v : Value) (L : List Pay) (w : World) (e : Ending) (w' : World) : Prop :=
  e = .returned (.tuple #[]) ∧ w'.ownsRow base 78 3 v L.length (flatP (sortL cmpP L)) ∧ RKeep (fun k => k < base) w w'
theorem sortRow_any (base : Nat) (v : Value) (L : List Pay) (w : World) (hn : L.length ≤ 8) (h : w.ownsRow base 78 3 v L.length (flatP L)) :
    Calls Tryz.prog 93 #[v, .func (.func 45) #[] #[]] w (RowEnd base v L w) := by
  rcases pst_of_owns h with ⟨rfl, rfl⟩ | ⟨g, cap, C, rfl, hg, hp, hback⟩
  · refine (sort_nil w).mono ?_
    rintro e w' ⟨rfl, hb⟩
    exact ⟨rfl, owns_below h hb, RKeep.of_below hb⟩
  · refine (sort_any g C L.length cap L w rfl hn hp).mono ?_
    rintro e w' ⟨rfl, hp', hk⟩
    exact ⟨rfl, hback w' _ (sortL_length _ _) hp', hk.size, fun k hk1 hk2 => hk.block k hk1 (by omega), hk.os, hk.tape, hk.output⟩

/-- What a settlement makes at its start. -/
def setD (w : World) (Dw n s : Nat) (N : List Int) : DP := ⟨w.heap.size + 1 + 1 + 1 + 1 + 1 + 1, Dw, w.heap.size, w.heap.size + 1, w.heap.size + 1 + 1 + 1 + 1 + 1, w.heap.size + 1 + 1 + 1 + 1, w.heap.size + 1 + 1, n, s, N⟩
def setW (w : World) (Dw s : Nat) : World :=
  (((((w.alloc (.cells #[.pointer (some ⟨Dw, 0, none⟩)] 58)).alloc (.cells #[.int .u64 s] 137)).alloc (.cells #[.slice none 0 0] 69)).alloc (.cells #[.bool false] 4)).alloc
    (.cells #[.bool false, .bool false, .bool false, .bool false, .bool false] 174)).alloc (.cells #[.func (.func 89) #[] (setD w Dw 0 0 []).caps] 25)
/-- The work, as a settlement sees it. -/
structure WkD (Dw n : Nat) (N : List Int) (w : World) : Prop where
  pu : ∃ pa pc, w.cell? ⟨Dw, 0, none⟩ = some (.slice pa n pc)
  nt : ∀ i, i < 5 → w.cell? ⟨Dw, 2 + i, none⟩ = some (.int .i64 (N[i]?.getD 0))
theorem WkD.below {Dw n : Nat} {N : List Int} {w w' : World} (h : WkD Dw n N w) (hb : Below w.heap.size w w') : WkD Dw n N w' := by
  obtain ⟨pa, pc, hp⟩ := h.pu
  exact ⟨⟨pa, pc, below_cell hb hp⟩, fun i hi => below_cell hb (h.nt i hi)⟩
theorem set_made (w : World) (Dw n s : Nat) (N : List Int) (hW : WkD Dw n N w) (hn : 2 ≤ n ∧ n ≤ 5) (hs : s < 1024) (hN : ∀ x ∈ N, -100 ≤ x ∧ x ≤ 100) :
    DApart (setD w Dw n s N) ∧ DueB (setD w Dw n s N) (setW w Dw s) ∧ DSt (setD w Dw n s N) ⟨List.replicate 5 false, []⟩ (setW w Dw s) ∧ (setW w Dw s).heap[w.heap.size + 1 + 1 + 1]? = some (.cells #[.bool false] 4 (0, 0)) ∧ Below w.heap.size w (setW w Dw s) := by
  obtain ⟨W1, h1⟩ : ∃ W1, w.alloc (.cells #[.pointer (some ⟨Dw, 0, none⟩)] 58) = W1 := ⟨_, rfl⟩
  obtain ⟨W2, h2⟩ : ∃ W2, W1.alloc (.cells #[.int .u64 s] 137) = W2 := ⟨_, rfl⟩
  obtain ⟨W3, h3⟩ : ∃ W3, W2.alloc (.cells #[.slice none 0 0] 69) = W3 := ⟨_, rfl⟩
  obtain ⟨W4, h4⟩ : ∃ W4, W3.alloc (.cells #[.bool false] 4) = W4 := ⟨_, rfl⟩
  obtain ⟨W5, h5⟩ : ∃ W5, W4.alloc (.cells #[.bool false, .bool false, .bool false, .bool false, .bool false] 174) = W5 := ⟨_, rfl⟩
  obtain ⟨W6, h6⟩ : ∃ W6, W5.alloc (.cells #[.func (.func 89) #[] (setD w Dw 0 0 []).caps] 25) = W6 := ⟨_, rfl⟩
  have hT : setW w Dw s = W6 := by unfold setW; rw [h1, h2, h3, h4, h5, h6]
  have s1 : W1.heap.size = w.heap.size + 1 := by rw [← h1]; simp
  have s2 : W2.heap.size = w.heap.size + 1 + 1 := by rw [← h2]; simp [s1]
  have s3 : W3.heap.size = w.heap.size + 1 + 1 + 1 := by rw [← h3]; simp [s2]
  have s4 : W4.heap.size = w.heap.size + 1 + 1 + 1 + 1 := by rw [← h4]; simp [s3]
  have s5 : W5.heap.size = w.heap.size + 1 + 1 + 1 + 1 + 1 := by rw [← h5]; simp [s4]
  have s6 : W6.heap.size = w.heap.size + 1 + 1 + 1 + 1 + 1 + 1 := by rw [← h6]; simp [s5]
  have b6 : Below W5.heap.size W5 W6 := by rw [← h6]; exact below_alloc _ _
  have b5 : Below W4.heap.size W4 W6 := below_trans (by rw [← h5]; exact below_alloc _ _) b6
  have b4 : Below W3.heap.size W3 W6 := below_trans (by rw [← h4]; exact below_alloc _ _) b5
  have b3 : Below W2.heap.size W2 W6 := below_trans (by rw [← h3]; exact below_alloc _ _) b4
  have b2 : Below W1.heap.size W1 W6 := below_trans (by rw [← h2]; exact below_alloc _ _) b3
  have b1 : Below w.heap.size w W6 := below_trans (by rw [← h1]; exact below_alloc _ _) b2
  have e1 := below_heap b2 (heap_madeD h1)
  have e2 := below_heap b3 (heap_madeD h2)
  have e3 := below_heap b4 (heap_madeD h3)
  have e4 := below_heap b5 (heap_madeD h4)
  have e5 := below_heap b6 (heap_madeD h5)
  have e6 := heap_madeD h6
  rw [s1] at e2
  rw [s2] at e3
  rw [s3] at e4
  rw [s4] at e5
  rw [s5] at e6
  rw [hT]
  obtain ⟨pa, pc, hp⟩ := hW.pu
  have hDw : Dw < w.heap.size := World.block_lt_of_cell? w _ hp
  refine ⟨⟨⟨?_, ?_, ?_⟩, ⟨?_, ?_, ?_⟩, ⟨?_, ?_, ?_⟩, ⟨?_, ?_, ?_⟩, ?_, ?_, ?_, hn, hs, hN⟩, ⟨cell_of_one e1, cell_of_one e2, cell_of_one e6, ⟨pa, pc, below_cell b1 hp⟩, fun i hi => below_cell b1 (hW.nt i hi)⟩,
    ⟨e5, rfl, ⟨.slice none 0 0, e3, ⟨rfl, .inl ⟨rfl, rfl⟩⟩⟩, by simp, by rw [s6]; exact Nat.le_refl _⟩, e4, b1⟩
  all_goals simp only [setD]; omega
end Go.Proofs.YtemoepcfmpapoaaGreatDoor
