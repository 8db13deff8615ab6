/-
  tooth, the mathematics: honest looks along a true course need no filing.
-/
import Derived.Test.YtejfelijhojndaaGreatDoorMMouths
import Derived.Test.YtejfelijhojndaaGreatDoorMTAlike2
namespace Go.Proofs.YtejfelijhojndaaGreatDoor
open Go.RowKit Go.Proofs Go.Shelf

/-- Something is there, and it costs nothing. -/
def Free (s : List Nat × Nat) : Prop := s.1 ≠ [] ∧ s.2 = 0
theorem offer_zero (s : List Nat × Nat) (v : Nat) : Free (offerL s v 0) := by
  unfold offerL Free
  split
  · omega
  · split
    · exact ⟨by simp, rfl⟩
    · exact ⟨by simp, rfl⟩
theorem offer_keep {s : List Nat × Nat} (h : Free s) (v c : Nat) : Free (offerL s v c) := by
  obtain ⟨h1, h2⟩ := h
  unfold offerL Free
  split
  · exact ⟨h1, h2⟩
  · rename_i hc
    have hc0 : c = 0 := by
      by_cases h0 : s.2 < c
      · exact absurd ⟨h1, h0⟩ hc
      · omega
    subst hc0
    rw [if_neg (by omega)]
    exact ⟨by simp, rfl⟩
theorem best_keep (K : List Ch) (l : List Int) {j : Nat} (h : Free (bestTo K l j)) : ∀ k, j ≤ k → k ≤ l.length → Free (bestTo K l k)
  | 0, hjk, _ => by have : j = 0 := by omega
                    subst this; exact h
  | k + 1, hjk, hk => by
    by_cases e : j = k + 1
    · subst e; exact h
    · have ih := best_keep K l h k (by omega) (by omega)
      rw [bestTo_succ K l (by omega)]
      split
      · exact offer_keep ih _ _
      · exact ih
theorem best_free {K : List Ch} {l : List Int} {x : Int} (hx : x ∈ l) (hK : kAt K x.toNat = (true, 0)) : Free (bestL K l) := by
  obtain ⟨j, hj, rfl⟩ := List.getElem_of_mem hx
  have h : Free (bestTo K l (j + 1)) := by
    rw [bestTo_succ K l hj, hK, if_pos rfl]
    exact offer_zero _ _
  exact best_keep K l h l.length (by omega) (Nat.le_refl _)
theorem befC_free {K : List Ch} {l : List Int} {x : Int} (hx : x ∈ l) (hK : kAt K x.toNat = (true, 0)) : befC K l = (true, 0) := by
  obtain ⟨h1, h2⟩ := best_free hx hK
  unfold befC
  rw [h2, decide_eq_true (List.length_pos_iff.2 h1)]

theorem kAt_set {K : List Ch} {m j : Nat} {c : Ch} (hm : m < K.length) : kAt (K.set m c) j = if m = j then c else kAt K j := by
  unfold kAt
  rw [List.getElem?_set]
  by_cases h : m = j
  · subst h; simp [hm]
  · simp [h]
theorem kAt_before {N : List (List Int)} {K : List Ch} : ∀ (k m : Nat), k ≤ 8 → m < k → kAt (beforeTo N K k) m = befC K (N[m]?.getD [])
  | k + 1, m, hk, hm => by
    rw [beforeTo, kAt_set (by rw [beforeTo_length]; omega)]
    by_cases h : k = m
    · subst h; simp
    · rw [if_neg h]; exact kAt_before k m (by omega) (by omega)
theorem kAt_andTo {D : List (List Int)} {L : List (Nat × Nat)} {y : Nat} {K : List Ch} (h8 : K.length = 8) : ∀ (k m : Nat), k ≤ 8 → kAt (andTo D L y K k) m = if m < k then andC (kAt K m) (seenL D L y m) else kAt K m
  | 0, m, _ => by simp [andTo]
  | k + 1, m, hk => by
    rw [andTo, kAt_set (by rw [andTo_length]; omega), kAt_andTo h8 k k (by omega), kAt_andTo h8 k m (by omega)]
    by_cases h : k = m
    · subst h; simp
    · rw [if_neg h]
      by_cases h2 : m < k
      · rw [if_pos h2, if_pos (by omega)]
      · rw [if_neg h2, if_neg (by omega)]
theorem kAt_init : ∀ (k m : Nat), k ≤ 8 → m < k → kAt (initTo k) m = (true, 0)
  | k + 1, m, hk, hm => by
    rw [initTo, kAt_set (by rw [initTo_length]; omega)]
    by_cases h : k = m
    · simp [h]
    · rw [if_neg h]; exact kAt_init k m (by omega) (by omega)

/-- The looks of year y are of mouth m, if there are any. -/
theorem seen_free {D : List (List Int)} {y m : Nat} : ∀ (L : List (Nat × Nat)), (∀ l ∈ L, l.1 = y → l.2 = m) → ∀ k, k ≤ L.length → seenTo D L y m k = (true, 0)
  | _, _, 0, _ => by simp [seenTo]
  | L, h, k + 1, hk => by
    have ih := seen_free (D := D) L h k (by omega)
    rw [seenTo_succ D L y m (by omega), ih]
    split
    · rename_i hy
      have := h L[k] (List.getElem_mem _) hy
      simp [chanceL, this, andC]
    · rfl

theorem year_all {N D : List (List Int)} {L : List (Nat × Nat)} (hJ : JawOK N D) {Y : Nat} (hL : ∀ l ∈ L, l.1 < Y) : ∀ a, a + Y ≤ 7 → ∀ m, m < N.length → kAt (yearTo N D L a) m = (true, 0)
  | 0, _, m, hm => kAt_init _ m hJ.le hm
  | a + 1, ha, m, hm => by
    rw [yearTo, kAt_andTo (beforeL_length _ _) _ m hJ.le, if_pos hm]
    have h1 : kAt (beforeL N (yearTo N D L a)) m = (true, 0) := by
      unfold beforeL
      rw [kAt_before _ m hJ.le hm]
      have hr := hJ.next m hm
      have h0 : N[m][0] ∈ N[m] := List.getElem_mem hr.2
      have hn := hr.1.num 0 hr.2
      rw [List.getElem?_eq_getElem hm, Option.getD_some]
      exact befC_free h0 (year_all hJ hL a (by omega) _ (by omega))
    rw [h1]
    have h2 : seenL D L (6 - a) m = (true, 0) := seen_free L (fun l hl he => by have := hL l hl; omega) _ (Nat.le_refl _)
    rw [h2]; rfl

/-- Along the course. -/
theorem year_course {N D : List (List Int)} {L : List (Nat × Nat)} (hJ : JawOK N D) {age : Nat} {C : List Nat} (hC : Course N age C) (hC3 : C.length ≤ 7) (hL : ∀ l ∈ L, C[l.1]? = some l.2) :
    ∀ d y m, d + y + 1 = C.length → C[y]? = some m → kAt (yearTo N D L (7 - y)) m = (true, 0) := by
  have hlt : ∀ l ∈ L, l.1 < C.length := fun l hl => (List.getElem?_eq_some_iff.1 (hL l hl)).1
  intro d
  induction d with
  | zero =>
    intro y m hd hm
    have hmN := hC.lt m (List.mem_of_getElem? hm)
    have e : 7 - y = (6 - y) + 1 := by omega
    rw [e, yearTo, kAt_andTo (beforeL_length _ _) _ m hJ.le, if_pos hmN]
    have h1 : kAt (beforeL N (yearTo N D L (6 - y))) m = (true, 0) := by
      unfold beforeL
      rw [kAt_before _ m hJ.le hmN]
      have hr := hJ.next m hmN
      have h0 : N[m][0] ∈ N[m] := List.getElem_mem hr.2
      have hn := hr.1.num 0 hr.2
      rw [List.getElem?_eq_getElem hmN, Option.getD_some]
      exact befC_free h0 (year_all hJ (Y := y + 1) (fun l hl => by have := hlt l hl; omega) _ (by omega) _ (by omega))
    have h2 : seenL D L (6 - (6 - y)) m = (true, 0) := seen_free L (fun l hl he => by
      have := hL l hl
      rw [he, show 6 - (6 - y) = y by omega, hm] at this
      simpa using this.symm) _ (Nat.le_refl _)
    rw [h1, h2]; rfl
  | succ d ih =>
    intro y m hd hm
    have hmN := hC.lt m (List.mem_of_getElem? hm)
    have e : 7 - y = (6 - y) + 1 := by omega
    have hy1 : y + 1 < C.length := by omega
    obtain ⟨m', hm'⟩ : ∃ m', C[y + 1]? = some m' := ⟨_, List.getElem?_eq_getElem hy1⟩
    have hst := hC.step y m m' hm hm'
    have ih' := ih (y + 1) m' (by omega) hm'
    rw [e, yearTo, kAt_andTo (beforeL_length _ _) _ m hJ.le, if_pos hmN]
    have h1 : kAt (beforeL N (yearTo N D L (6 - y))) m = (true, 0) := by
      unfold beforeL
      rw [kAt_before _ m hJ.le hmN]
      exact befC_free hst (by rw [show 6 - y = 7 - (y + 1) by omega]; simpa using ih')
    have h2 : seenL D L (6 - (6 - y)) m = (true, 0) := seen_free L (fun l hl he => by
      have := hL l hl
      rw [he, show 6 - (6 - y) = y by omega, hm] at this
      simpa using this.symm) _ (Nat.le_refl _)
    rw [h1, h2]; rfl

/-- Back to the foal. -/
theorem back_reach {N D : List (List Int)} {K : List Ch} (hJ : JawOK N D) : ∀ (a b m : Nat), m < N.length → Reach N a m → kAt (backTo N K b) m = (true, 0) → kAt (backTo N K (b + a)) 0 = (true, 0)
  | 0, b, m, _, hr, h => by
    have : m = 0 := hr
    subst this; exact h
  | a + 1, b, m, hm, hr, h => by
    obtain ⟨m', hm', hr', hmem⟩ := hr
    have h1 : kAt (backTo N K (b + 1)) m' = (true, 0) := by
      rw [backTo]
      unfold beforeL
      rw [kAt_before _ m' hJ.le hm']
      exact befC_free hmem (by simpa using h)
    have := back_reach hJ a (b + 1) m' hm' hr' h1
    rw [show b + (a + 1) = b + 1 + a by omega]; exact this

theorem age_keep (N : List (List Int)) (K : List Ch) {j : Nat} (h : Free (ageTo N K j)) : ∀ d, Free (ageTo N K (j + d))
  | 0 => h
  | d + 1 => by
    have ih := age_keep N K h d
    rw [show j + (d + 1) = (j + d) + 1 by omega, ageTo]
    split
    · exact offer_keep ih _ _
    · exact ih

/-- Honest looks along a true course: nothing is filed. -/
theorem work_free {N D : List (List Int)} {L : List (Nat × Nat)} (hJ : JawOK N D) {age : Nat} {C : List Nat} (hC : Course N age C) (hC0 : 0 < C.length) (hC7 : C.length ≤ 7) (ha : age ≤ 12) (hL : ∀ l ∈ L, C[l.1]? = some l.2) : Free (workS N D L) := by
  obtain ⟨m, hm⟩ : ∃ m, C[0]? = some m := ⟨_, List.getElem?_eq_getElem hC0⟩
  have h1 := year_course hJ hC hC7 hL (C.length - 1) 0 m (by omega) hm
  have hr := hC.first m hm
  have hmN := hC.lt m (List.mem_of_getElem? hm)
  have h2 := back_reach (K := yearTo N D L 7) hJ age 0 m hmN hr (by simpa [backTo] using h1)
  rw [Nat.zero_add] at h2
  have h3 : Free (ageTo N (yearTo N D L 7) (age + 1)) := by
    rw [ageTo, h2, if_pos rfl]
    exact offer_zero _ _
  have := age_keep N (yearTo N D L 7) h3 (12 - age)
  rw [show age + 1 + (12 - age) = 13 by omega] at this
  exact this
theorem alike_true {N D : List (List Int)} {A B : List (Nat × Nat)} (hJ : JawOK N D) {age : Nat} {C : List Nat} (hC : Course N age C) (hC0 : 0 < C.length) (hC7 : C.length ≤ 7) (ha : age ≤ 12) (hL : ∀ l ∈ A ++ B, C[l.1]? = some l.2) : alikeB N D A B = true := by
  obtain ⟨h1, h2⟩ := work_free hJ hC hC0 hC7 ha hL
  unfold alikeB
  rw [h2, decide_eq_true (List.length_pos_iff.2 h1), decide_eq_true (Nat.zero_le _)]
  rfl
end Go.Proofs.YtejfelijhojndaaGreatDoor
