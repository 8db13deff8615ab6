/-
  bargain: all games gone through: the price in the end.
-/
import Derived.Test.YtemoepcfmpapoaaGreatDoorMRVisit
import Derived.Maps.OwnRows
namespace Go.Proofs.YtemoepcfmpapoaaGreatDoor
open Go.RowKit Go.Proofs Go.Shelf Go.Maps
attribute [local go_sem] Oper.semAt_some

set_option maxRecDepth 100000
theorem over_of_left {p : Pl} (h : PV p) (h0 : p.left ≤ 0) : p.over = true := by
  have := h.ba; have := h.s
  unfold Pl.left at h0
  simp only [Pl.over, Bool.or_eq_true, beq_iff_eq]
  omega

theorem visit_all (mB eB wB vsB tB tb M Wk : Nat) (lo hi : Int) (hl1 : 1 ≤ lo) (hl2 : lo ≤ hi) (hl3 : hi ≤ 3) : ∀ N, VisOK mB eB wB vsB tB tb M Wk lo hi (hi - lo + 1).toNat N := by
  have go : ∀ (N : Nat) (n : Nat) (D : DU) (p : Pl) (w : World), PV p → VisB mB eB wB vsB tB tb M Wk lo hi w → KnownM M n D w → Knows lo (hi - lo + 1).toNat D → n + most N ≤ 2 ^ 62 → (p.over = true ∨ Maps.has D (plKey p) = true) →
      Calls Tryz.prog 109 (#[p.v] ++ visA mB eB wB vsB tB) w (VisEnd M (n + most N) lo (hi - lo + 1).toNat p w) := by
    intro N n D p w hp hV hM hD hn hor
    have h1 : 1 ≤ most N := by cases N <;> simp [most]
    cases hh : Maps.has D (plKey p) with
    | true =>
      refine (visit_known mB eB wB vsB tB tb M Wk n lo hi _ D p w hV hM hD hp hh).mono ?_
      rintro e w' ⟨h2, ⟨D', h3, h4⟩, h5⟩
      exact ⟨h2, ⟨D', World.ownsMap.mono h3 (by omega), h4⟩, h5⟩
    | false =>
      have ho : p.over = true := hor.resolve_right (by simp [hh])
      refine (visit_over mB eB wB vsB tB tb M Wk n lo hi _ D p w hV hM (by unfold maxLen; omega) hD hp hh ho).mono ?_
      rintro e w' ⟨h2, ⟨D', h3, h4⟩, h5⟩
      exact ⟨h2, ⟨D', World.ownsMap.mono h3 (by omega), h4⟩, h5⟩
  intro N
  induction N with
  | zero => exact fun n D p w hp hl hV hM hD hn => go 0 n D p w hp hV hM hD hn (.inl (over_of_left hp (by simpa using hl)))
  | succ N ih =>
    intro n D p w hp hl hV hM hD hn
    by_cases ho : p.over = true
    · exact go (N + 1) n D p w hp hV hM hD hn (.inl ho)
    · by_cases hh : Maps.has D (plKey p) = true
      · exact go (N + 1) n D p w hp hV hM hD hn (.inr hh)
      · exact visit_step mB eB wB vsB tB tb M Wk lo hi _ N n D p w ih rfl hl1 hl2 hl3 hp hl hV hM hD hn (by simpa using hh) (by simpa using ho)

def thruF (z : Nat) : Value := .func (.func 109) #[] (visA (z + 1 + 1 + 1 + 1 + 1) (z + 1 + 1) z (z + 1 + 1 + 1 + 1 + 1 + 1) (z + 1 + 1 + 1))
def thruW (w : World) (Wk : Nat) (p : Pl) (tb : Nat) : World :=
  ((((((w.alloc (.cells #[.pointer (some ⟨Wk, 0, none⟩)] 86)).alloc (.cells (plC p) 90)).alloc (.cells #[.func (.func 77) #[] #[]] 49)).alloc
    (.cells #[.func (.func 79) #[] #[.pointer (some ⟨tb, 0, none⟩)]] 157)).alloc (.map #[] 0)).alloc (.cells #[.map (some (w.heap.size + 1 + 1 + 1 + 1))] 192)).alloc (.cells #[thruF w.heap.size] 93)
theorem heap_made {w W : World} {o : Obj} (h : w.alloc o = W) : W.heap[w.heap.size]? = some o := by rw [← h]; exact heap_new w o
theorem thru_made (w : World) (Wk : Nat) (lo hi : Int) (p : Pl) (tb : Nat) (hW : WkB Wk lo hi w) (ht : TopFn tb w) :
    VisB (w.heap.size + 1 + 1 + 1 + 1 + 1) (w.heap.size + 1 + 1) w.heap.size (w.heap.size + 1 + 1 + 1 + 1 + 1 + 1) (w.heap.size + 1 + 1 + 1) tb (w.heap.size + 1 + 1 + 1 + 1) Wk lo hi (thruW w Wk p tb) ∧ KnownM (w.heap.size + 1 + 1 + 1 + 1) 0 (.map []) (thruW w Wk p tb) ∧ PlB (w.heap.size + 1) p (thruW w Wk p tb) ∧ Below w.heap.size w (thruW w Wk p tb) := by
  obtain ⟨W1, h1⟩ : ∃ W1, w.alloc (.cells #[.pointer (some ⟨Wk, 0, none⟩)] 86) = W1 := ⟨_, rfl⟩
  obtain ⟨W2, h2⟩ : ∃ W2, W1.alloc (.cells (plC p) 90) = W2 := ⟨_, rfl⟩
  obtain ⟨W3, h3⟩ : ∃ W3, W2.alloc (.cells #[.func (.func 77) #[] #[]] 49) = W3 := ⟨_, rfl⟩
  obtain ⟨W4, h4⟩ : ∃ W4, W3.alloc (.cells #[.func (.func 79) #[] #[.pointer (some ⟨tb, 0, none⟩)]] 157) = W4 := ⟨_, rfl⟩
  obtain ⟨W5, h5⟩ : ∃ W5, W4.alloc (.map #[] 0) = W5 := ⟨_, rfl⟩
  obtain ⟨W6, h6⟩ : ∃ W6, W5.alloc (.cells #[.map (some (w.heap.size + 1 + 1 + 1 + 1))] 192) = W6 := ⟨_, rfl⟩
  obtain ⟨W7, h7⟩ : ∃ W7, W6.alloc (.cells #[thruF w.heap.size] 93) = W7 := ⟨_, rfl⟩
  have hT : thruW w Wk p tb = W7 := by unfold thruW; rw [h1, h2, h3, h4, h5, h6, h7]
  have s1 : W1.heap.size = w.heap.size + 1 := by rw [← h1]; simp
  have s2 : W2.heap.size = w.heap.size + 1 + 1 := by rw [← h2]; simp [s1]
  have s3 : W3.heap.size = w.heap.size + 1 + 1 + 1 := by rw [← h3]; simp [s2]
  have s4 : W4.heap.size = w.heap.size + 1 + 1 + 1 + 1 := by rw [← h4]; simp [s3]
  have s5 : W5.heap.size = w.heap.size + 1 + 1 + 1 + 1 + 1 := by rw [← h5]; simp [s4]
  have s6 : W6.heap.size = w.heap.size + 1 + 1 + 1 + 1 + 1 + 1 := by rw [← h6]; simp [s5]
  have b7 : Below W6.heap.size W6 W7 := by rw [← h7]; exact below_alloc _ _
  have b6 : Below W5.heap.size W5 W7 := below_trans (by rw [← h6]; exact below_alloc _ _) b7
  have b5 : Below W4.heap.size W4 W7 := below_trans (by rw [← h5]; exact below_alloc _ _) b6
  have b4 : Below W3.heap.size W3 W7 := below_trans (by rw [← h4]; exact below_alloc _ _) b5
  have b3 : Below W2.heap.size W2 W7 := below_trans (by rw [← h3]; exact below_alloc _ _) b4
  have b2 : Below W1.heap.size W1 W7 := below_trans (by rw [← h2]; exact below_alloc _ _) b3
  have b1 : Below w.heap.size w W7 := below_trans (by rw [← h1]; exact below_alloc _ _) b2
  have e1 := below_heap b2 (heap_made h1)
  have e2 := below_heap b3 (heap_made h2)
  have e3 := below_heap b4 (heap_made h3)
  have e4 := below_heap b5 (heap_made h4)
  have e6 := below_heap b7 (heap_made h6)
  have e7 := heap_made h7
  rw [s1] at e2
  rw [s2] at e3
  rw [s3] at e4
  rw [s5] at e6
  rw [s6] at e7
  have e5 : KnownM (w.heap.size + 1 + 1 + 1 + 1) 0 (.map []) W7 := KnownM.below (w := W5) (by rw [← h5, ← s4]; exact World.ownsMap_made W4 _ _ _) b6
  rw [hT]
  exact ⟨⟨cell_of_one e6, cell_of_one e3, cell_of_one e1, cell_of_one e7, cell_of_one e4, below_cell b1 ht, ⟨below_cell b1 hW.lo, below_cell b1 hW.hi⟩⟩, e5, e2, b1⟩
end Go.Proofs.YtemoepcfmpapoaaGreatDoor
