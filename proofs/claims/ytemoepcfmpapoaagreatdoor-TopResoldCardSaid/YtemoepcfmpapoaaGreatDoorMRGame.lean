/-
  bargain: the game as a plain function: places, what may be said, and the price in the end; that each game ends.
-/
import Derived.WalkKit
namespace Go.Proofs.YtemoepcfmpapoaaGreatDoor

/-- A place: the asking price, the bid, whose turn it is, how often was stood, the limits left to the seller and to the buyer. -/
structure Pl where
  (a b t s c d e f : Int)

def Pl.sd (p : Pl) : Bool := p.t == 0
def Pl.over (p : Pl) : Bool := p.a == p.b || p.s == 2
def Pl.price (p : Pl) : Int := if p.a = p.b then p.a else -1
def Pl.step (p : Pl) (x : Int) : Int := if p.sd then p.a - x else p.b + x
def Pl.within (p : Pl) (x : Int) : Bool := !(decide (x < p.b) || decide (p.a < x))
def Pl.names (lo : Int) (k : Nat) (p : Pl) : List Int := ((List.range k).map fun i => p.step (lo + (i : Nat))).filter p.within
def Pl.after (p : Pl) (n : Int) (ns : List Int) : Pl :=
  if n = -1 then
    match ns with
    | [] => { p with t := 1 - p.t, s := p.s + 1 }
    | n0 :: _ => if p.sd then { p with t := 1 - p.t, s := p.s + 1, c := max p.c (n0 + 1) } else { p with t := 1 - p.t, s := p.s + 1, f := min p.f (n0 - 1) }
  else if p.sd then { p with a := n, t := 1 - p.t, s := 0, d := min p.d n } else { p with b := n, t := 1 - p.t, s := 0, e := max p.e n }
def Pl.fits (p q : Pl) : Bool := if p.sd then decide (q.c ≤ q.d) else decide (q.e ≤ q.f)
def Pl.say (p : Pl) (n : Int) (ns : List Int) : Option (Int × Pl) := if p.fits (p.after n ns) then some (n, p.after n ns) else none
def Pl.plays (lo : Int) (k : Nat) (p : Pl) : List (Int × Pl) := (p.names lo k ++ [-1]).filterMap fun n => p.say n (p.names lo k)

/-- A place that a game can come to. -/
structure PV (p : Pl) : Prop where
  b0 : 0 ≤ p.b
  ba : p.b ≤ p.a
  a12 : p.a ≤ 12
  t : p.t = 0 ∨ p.t = 1
  s : 0 ≤ p.s ∧ p.s ≤ 2
  c0 : 0 ≤ p.c
  cd : p.c ≤ p.d
  d31 : p.d ≤ 31
  e0 : 0 ≤ p.e
  ef : p.e ≤ p.f
  f31 : p.f ≤ 31

def Pl.left (p : Pl) : Int := 2 * (p.a - p.b) + (2 - p.s)

theorem Pl.mem_names {lo : Int} {k : Nat} {p : Pl} {x : Int} (h : x ∈ p.names lo k) : p.b ≤ x ∧ x ≤ p.a ∧ ∃ i : Nat, i < k ∧ x = p.step (lo + i) := by
  unfold Pl.names at h
  rw [List.mem_filter] at h
  obtain ⟨h1, h2⟩ := h
  obtain ⟨i, hi, rfl⟩ := List.mem_map.1 h1
  simp only [Pl.within, Bool.not_eq_true', Bool.or_eq_false_iff, decide_eq_false_iff_not] at h2
  exact ⟨by omega, by omega, i, List.mem_range.1 hi, rfl⟩

theorem PV.after {p : Pl} (h : PV p) {lo : Int} {k : Nat} (hlo : 1 ≤ lo) (ho : p.over = false) {n : Int} (hn : n ∈ p.names lo k ∨ n = -1) (hf : p.fits (p.after n (p.names lo k)) = true) :
    PV (p.after n (p.names lo k)) ∧ (p.after n (p.names lo k)).left < p.left := by
  obtain ⟨b0, ba, a12, ht, ⟨s0, s2⟩, c0, cd, d31, e0, ef, f31⟩ := h
  simp only [Pl.over, Bool.or_eq_false_iff, beq_eq_false_iff_ne, ne_eq] at ho
  obtain ⟨ho1, ho2⟩ := ho
  have ht' : 1 - p.t = 0 ∨ 1 - p.t = 1 := by omega
  generalize hns : p.names lo k = ns at *
  by_cases h1 : n = -1
  · subst h1
    cases ns with
    | nil =>
      simp only [Pl.after, if_pos] at hf ⊢
      exact ⟨⟨b0, ba, a12, ht', ⟨by simp; omega, by simp; omega⟩, c0, cd, d31, e0, ef, f31⟩, by simp [Pl.left]; omega⟩
    | cons n0 r =>
      have hm := Pl.mem_names (p := p) (lo := lo) (k := k) (x := n0) (by rw [hns]; simp)
      simp only [Pl.after, if_pos] at hf ⊢
      by_cases hs : p.sd = true
      · rw [if_pos hs] at hf ⊢
        simp only [Pl.fits, hs, if_pos, decide_eq_true_eq] at hf
        exact ⟨⟨b0, ba, a12, ht', ⟨by simp; omega, by simp; omega⟩, by simp; omega, hf, d31, e0, ef, f31⟩, by simp [Pl.left]; omega⟩
      · rw [if_neg hs] at hf ⊢
        simp only [Pl.fits, hs, if_neg, decide_eq_true_eq] at hf
        exact ⟨⟨b0, ba, a12, ht', ⟨by simp; omega, by simp; omega⟩, c0, cd, d31, e0, by simpa using hf, by simp; omega⟩, by simp [Pl.left]; omega⟩
  · have hm := Pl.mem_names (p := p) (lo := lo) (k := k) (x := n) (by rw [hns]; exact hn.resolve_right h1)
    obtain ⟨m1, m2, i, hi, m3⟩ := hm
    simp only [Pl.after, if_neg h1] at hf ⊢
    by_cases hs : p.sd = true
    · rw [if_pos hs] at hf ⊢
      simp only [Pl.step, hs, if_pos] at m3
      simp only [Pl.fits, hs, if_pos, decide_eq_true_eq] at hf
      exact ⟨⟨b0, m1, by simp; omega, ht', ⟨by simp, by simp⟩, c0, hf, by simp; omega, e0, ef, f31⟩, by simp [Pl.left]; omega⟩
    · rw [if_neg hs] at hf ⊢
      simp only [Pl.step, hs, if_neg] at m3
      simp only [Pl.fits, hs, if_neg, decide_eq_true_eq] at hf
      exact ⟨⟨by simp; omega, m2, a12, ht', ⟨by simp, by simp⟩, c0, cd, d31, by simp; omega, by simpa using hf, f31⟩, by simp [Pl.left]; simp at m3; omega⟩

theorem Pl.mem_plays {lo : Int} {k : Nat} {p : Pl} {x : Int × Pl} (h : x ∈ p.plays lo k) : (x.1 ∈ p.names lo k ∨ x.1 = -1) ∧ x.2 = p.after x.1 (p.names lo k) ∧ p.fits x.2 = true := by
  unfold Pl.plays at h
  obtain ⟨n, hn, hs⟩ := List.mem_filterMap.1 h
  unfold Pl.say at hs
  split at hs
  · rename_i hf
    simp only [Option.some.injEq] at hs
    subst hs
    refine ⟨?_, rfl, hf⟩
    rcases List.mem_append.1 hn with h | h
    · exact .inl h
    · exact .inr (by simpa using h)
  · cases hs

theorem PV.play {p : Pl} (h : PV p) {lo : Int} {k : Nat} (hlo : 1 ≤ lo) (ho : p.over = false) {x : Int × Pl} (hx : x ∈ p.plays lo k) : PV x.2 ∧ x.2.left < p.left := by
  obtain ⟨h1, h2, h3⟩ := Pl.mem_plays hx
  rw [h2] at h3 ⊢
  exact h.after hlo ho h1 h3

theorem PV.left0 {p : Pl} (h : PV p) : 0 ≤ p.left := by
  have := h.ba; have := h.s; unfold Pl.left; omega

/-- The first of what is best. -/
def topS (better : Int → Int → Bool) (s : Int × Bool) (x : Int) : Int × Bool := if !s.2 || better x s.1 then (x, true) else s
def topL (better : Int → Int → Bool) (l : List Int) : Int := (l.foldl (topS better) (0, false)).1
def betterB (s : Bool) (x y : Int) : Bool := if s then decide (y < x) else if x = -1 ∨ y = -1 then decide (y < x) else decide (x < y)

/-- The price in the end, the game gone through for so many moves. -/
def valF (lo : Int) (k : Nat) : Nat → Pl → Int
  | 0, _ => 0
  | n + 1, p => if p.over then p.price else topL (betterB p.sd) ((p.plays lo k).map fun x => valF lo k n x.2)
def Pl.val (lo : Int) (k : Nat) (p : Pl) : Int := valF lo k (p.left.toNat + 1) p

theorem valF_enough {lo : Int} {k : Nat} (hlo : 1 ≤ lo) : ∀ (n m : Nat) (p : Pl), PV p → p.left < n → p.left < m → valF lo k n p = valF lo k m p
  | 0, _, p, h, h1, _ => absurd h.left0 (by omega)
  | n + 1, 0, p, h, _, h2 => absurd h.left0 (by omega)
  | n + 1, m + 1, p, h, h1, h2 => by
    unfold valF
    split
    · rfl
    · rename_i ho
      have ho' : p.over = false := by simpa using ho
      congr 1
      refine List.map_congr_left fun x hx => ?_
      obtain ⟨hv, hl⟩ := h.play hlo ho' hx
      exact valF_enough hlo n m x.2 hv (by omega) (by omega)

theorem val_over {lo : Int} {k : Nat} {p : Pl} (h : p.over = true) : p.val lo k = p.price := by simp [Pl.val, valF, h]
theorem val_step {lo : Int} {k : Nat} {p : Pl} (hlo : 1 ≤ lo) (hv : PV p) (h : p.over = false) : p.val lo k = topL (betterB p.sd) ((p.plays lo k).map fun x => x.2.val lo k) := by
  show valF lo k (p.left.toNat + 1) p = _
  rw [valF, if_neg (by simp [h])]
  congr 1
  refine List.map_congr_left fun x hx => ?_
  obtain ⟨hv', hl⟩ := hv.play hlo h hx
  have h0 := hv.left0
  have h1 := hv'.left0
  exact valF_enough hlo _ _ x.2 hv' (by omega) (by omega)

theorem topL_mem (better : Int → Int → Bool) (P : Int → Prop) (h0 : P 0) (l : List Int) (h : ∀ x ∈ l, P x) : P (topL better l) := by
  have : ∀ (l : List Int) (s : Int × Bool), P s.1 → (∀ x ∈ l, P x) → P (l.foldl (topS better) s).1 := by
    intro l
    induction l with
    | nil => exact fun s hs _ => hs
    | cons x r ih =>
      intro s hs hx
      refine ih _ ?_ (fun y hy => hx y (by simp [hy]))
      unfold topS
      split
      · exact hx x (by simp)
      · exact hs
  exact this l (0, false) h0 h
theorem valF_bounds {lo : Int} {k : Nat} (hlo : 1 ≤ lo) : ∀ (n : Nat) (p : Pl), PV p → -1 ≤ valF lo k n p ∧ valF lo k n p ≤ 12
  | 0, _, _ => by simp [valF]
  | n + 1, p, h => by
    unfold valF
    split
    · have := h.b0; have := h.ba; have := h.a12
      unfold Pl.price
      split <;> omega
    · rename_i ho
      refine topL_mem _ (fun x => -1 ≤ x ∧ x ≤ 12) (by omega) _ fun x hx => ?_
      obtain ⟨y, hy, rfl⟩ := List.mem_map.1 hx
      exact valF_bounds hlo n y.2 (h.play hlo (by simpa using ho) hy).1
theorem val_bounds {lo : Int} {k : Nat} {p : Pl} (hlo : 1 ≤ lo) (hv : PV p) : -1 ≤ p.val lo k ∧ p.val lo k ≤ 12 := valF_bounds hlo _ p hv

/-- How many places a search stores at most, if so many moves are left. -/
def most : Nat → Nat
  | 0 => 1
  | n + 1 => 1 + 4 * most n
theorem most_mono : ∀ {n m : Nat}, n ≤ m → most n ≤ most m
  | 0, 0, _ => Nat.le_refl _
  | 0, m + 1, _ => by unfold most; omega
  | n + 1, m + 1, h => by
    have := most_mono (n := n) (m := m) (by omega)
    unfold most; omega
  | n + 1, 0, h => by omega
theorem plays_length {lo : Int} {k : Nat} {p : Pl} (hk : k ≤ 3) : (p.plays lo k).length ≤ 4 := by
  have h1 : (p.plays lo k).length ≤ (p.names lo k ++ [-1]).length := List.length_filterMap_le _ _
  have h2 : (p.names lo k).length ≤ k := by
    unfold Pl.names
    refine Nat.le_trans (List.length_filter_le _ _) ?_
    simp
  simp at h1
  omega
end Go.Proofs.YtemoepcfmpapoaaGreatDoor
