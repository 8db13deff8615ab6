/-
  debt: settlements without a circle, as plain functions; a horse that is sold on and on at one price is settled by one payment.
-/
import Derived.WalkKit
namespace Go.Proofs.YtemoepcfmpapoaaGreatDoor

/-- A payment: who pays, whom, how many pounds. -/
abbrev Pay := Int × Int × Int
def pbit (x y : Nat) : Nat := if x = y then 0 else 2 ^ (max x y * (max x y - 1) / 2 + min x y)
def hasB (s x y : Nat) : Bool := (s &&& pbit x y) != 0
def payF (x y : Nat) (v : Int) : Pay := if v < 0 then ((y : Int), (x : Int), -v) else ((x : Int), (y : Int), v)

/-- Who is seen, and the payments so far. -/
structure DS where
  seen : List Bool
  pays : List Pay

/-- The first k neighbours of p gone through. -/
def dueTo (rec : Nat → DS → Option (Int × DS)) (s p fr : Nat) : Nat → Int × DS → Option (Int × DS)
  | 0, acc => some acc
  | k + 1, acc => (dueTo rec s p fr k acc).bind fun acc =>
      if k = p ∨ k = fr ∨ hasB s p k = false then some acc
      else (rec k acc.2).bind fun r => if r.1 = 0 then none else some (acc.1 + r.1, { r.2 with pays := r.2.pays ++ [payF p k r.1] })

/-- What p, and all who are reached through p, are owed; none: these pairs are not the ones of a settlement. -/
def dueF (n : Nat) (N : List Int) (s : Nat) : Nat → Nat → Nat → DS → Option (Int × DS)
  | 0, _, _, _ => none
  | fuel + 1, p, fr, st =>
    if st.seen[p]?.getD false then none
    else dueTo (fun q st => dueF n N s fuel q p st) s p fr n (N[p]?.getD 0, { st with seen := st.seen.set p true })

def setTo (n : Nat) (N : List Int) (s : Nat) : Nat → DS → Option DS
  | 0, st => some st
  | k + 1, st => (setTo n N s k st).bind fun st =>
      if st.seen[k]?.getD false then some st else (dueF n N s 6 k k st).bind fun r => if r.1 = 0 then some r.2 else none

/-! ### How many are seen, and how much comes together -/
def cnt (l : List Bool) : Nat := l.count true
theorem cnt_set {l : List Bool} {p : Nat} (hp : p < l.length) (h : l[p]?.getD false = false) : cnt (l.set p true) = cnt l + 1 := by
  have h' : l[p] = false := by simpa [hp] using h
  unfold cnt
  rw [List.count_set hp]
  simp [h']
theorem dueTo_count {m : Nat} {rec : Nat → DS → Option (Int × DS)} {s p fr : Nat}
    (hrec : ∀ q st r, q < m → st.seen.length = m → rec q st = some r → r.2.seen.length = m ∧ r.2.pays.length + cnt st.seen + 1 = st.pays.length + cnt r.2.seen) :
    ∀ k acc r, k ≤ m → acc.2.seen.length = m → dueTo rec s p fr k acc = some r → r.2.seen.length = m ∧ r.2.pays.length + cnt acc.2.seen = acc.2.pays.length + cnt r.2.seen
  | 0, acc, r, _, hl, h => by
    simp only [dueTo, Option.some.injEq] at h
    subst h
    exact ⟨hl, rfl⟩
  | k + 1, acc, r, hk, hl, h => by
    simp only [dueTo, Option.bind_eq_some_iff] at h
    obtain ⟨a, ha, h⟩ := h
    obtain ⟨i1, i2⟩ := dueTo_count hrec k acc a (by omega) hl ha
    split at h
    · simp only [Option.some.injEq] at h
      subst h
      exact ⟨i1, i2⟩
    · simp only [Option.bind_eq_some_iff] at h
      obtain ⟨c, hc, h⟩ := h
      split at h
      · cases h
      · simp only [Option.some.injEq] at h
        subst h
        obtain ⟨j1, j2⟩ := hrec k a.2 c (by omega) i1 hc
        exact ⟨j1, by simp; omega⟩
theorem dueF_count {n : Nat} {N : List Int} {s m : Nat} (hn : n ≤ m) : ∀ fuel p fr st r, p < m → st.seen.length = m → dueF n N s fuel p fr st = some r → r.2.seen.length = m ∧ r.2.pays.length + cnt st.seen + 1 = st.pays.length + cnt r.2.seen
  | 0, p, fr, st, r, _, _, h => by simp [dueF] at h
  | fuel + 1, p, fr, st, r, hp, hl, h => by
    unfold dueF at h
    split at h
    · cases h
    · rename_i hs
      have hs' : st.seen[p]?.getD false = false := by simpa using hs
      have h1 := dueTo_count (m := m) (fun q st r hq hl h => dueF_count hn fuel q p st r hq hl h) n _ r hn (by simpa using hl) h
      obtain ⟨h2, h3⟩ := h1
      simp only at h3
      rw [cnt_set (by omega) hs'] at h3
      exact ⟨h2, by omega⟩
def bnd : Nat → Int
  | 0 => 0
  | f + 1 => 100 + 5 * bnd f
theorem bnd_pos : ∀ f, 0 ≤ bnd f
  | 0 => by simp [bnd]
  | f + 1 => by have := bnd_pos f; simp [bnd]; omega
theorem dueTo_bound {b : Int} (hb : 0 ≤ b) {rec : Nat → DS → Option (Int × DS)} {s p fr : Nat} (hrec : ∀ q st r, rec q st = some r → -b ≤ r.1 ∧ r.1 ≤ b) :
    ∀ k acc r, dueTo rec s p fr k acc = some r → -(k * b) ≤ r.1 - acc.1 ∧ r.1 - acc.1 ≤ k * b
  | 0, acc, r, h => by
    simp only [dueTo, Option.some.injEq] at h
    subst h
    simp
  | k + 1, acc, r, h => by
    simp only [dueTo, Option.bind_eq_some_iff] at h
    obtain ⟨a, ha, h⟩ := h
    have i1 := dueTo_bound hb hrec k acc a ha
    have e : ((k + 1 : Nat) : Int) * b = (k : Int) * b + b := by rw [Int.natCast_add, Int.add_mul]; simp
    rw [e]
    split at h
    · simp only [Option.some.injEq] at h
      subst h
      omega
    · simp only [Option.bind_eq_some_iff] at h
      obtain ⟨c, hc, h⟩ := h
      split at h
      · cases h
      · simp only [Option.some.injEq] at h
        subst h
        have := hrec k a.2 c hc
        simp only
        omega
theorem dueF_bound {n : Nat} {N : List Int} {s : Nat} (hn : n ≤ 5) (hN : ∀ x ∈ N, -100 ≤ x ∧ x ≤ 100) : ∀ fuel p fr st r, dueF n N s fuel p fr st = some r → -bnd fuel ≤ r.1 ∧ r.1 ≤ bnd fuel
  | 0, p, fr, st, r, h => by simp [dueF] at h
  | fuel + 1, p, fr, st, r, h => by
    unfold dueF at h
    split at h
    · cases h
    · have h1 := dueTo_bound (bnd_pos fuel) (fun q st r h => dueF_bound hn hN fuel q p st r h) n _ r h
      have h2 : -100 ≤ N[p]?.getD 0 ∧ N[p]?.getD 0 ≤ 100 := by
        by_cases hp : p < N.length
        · simp only [List.getElem?_eq_getElem hp, Option.getD_some]; exact hN _ (List.getElem_mem hp)
        · simp [show N[p]? = none by simp; omega]
      have h3 : (n : Int) * bnd fuel ≤ 5 * bnd fuel := Int.mul_le_mul_of_nonneg_right (by omega) (bnd_pos fuel)
      simp only [bnd]
      simp only at h1
      omega

/-! ### The order of payments, and their sort -/
def cmpI (x y : Int) : Int := if x < y then -1 else if y < x then 1 else 0
def orL (l : List Int) : Int := (l.find? fun x => x != 0).getD 0
def cmpP (a b : Pay) : Int := orL [cmpI a.1 b.1, cmpI a.2.1 b.2.1, cmpI a.2.2 b.2.2]
variable {α : Type} [Inhabited α]
def swapL (L : List α) (j : Nat) : List α := (L.set (j + 1) (L[j]?.getD default)).set j (L[j + 1]?.getD default)
def bubble (c : α → α → Int) : Nat → List α → List α
  | 0, L => L
  | j + 1, L => if c (L[j + 1]?.getD default) (L[j]?.getD default) < 0 then bubble c j (swapL L j) else L
/-- The first k places sorted by insertion. -/
def sortTo (c : α → α → Int) : Nat → List α → List α
  | 0, L => L
  | 1, L => L
  | k + 2, L => bubble c (k + 1) (sortTo c (k + 1) L)
def sortL (c : α → α → Int) (L : List α) : List α := sortTo c L.length L
theorem swapL_length (L : List α) (j : Nat) : (swapL L j).length = L.length := by simp [swapL]
theorem bubble_length (c : α → α → Int) : ∀ j L, (bubble c j L).length = L.length
  | 0, L => rfl
  | j + 1, L => by unfold bubble; split; rw [bubble_length c j, swapL_length]; rfl
theorem sortTo_length (c : α → α → Int) : ∀ k L, (sortTo c k L).length = L.length
  | 0, L => rfl
  | 1, L => rfl
  | k + 2, L => by unfold sortTo; rw [bubble_length, sortTo_length c (k + 1)]
theorem sortL_length (c : α → α → Int) (L : List α) : (sortL c L).length = L.length := sortTo_length c _ L

/-- The settlement of the pairs s, if there is one. -/
def settledF (n : Nat) (N : List Int) (s : Nat) : Option (List Pay) := (setTo n N s n ⟨List.replicate 5 false, []⟩).map fun st => sortL cmpP st.pays

def popc (s : Nat) : Nat := ((List.range 16).filter fun i => s.testBit i).length
def pairSets (n : Nat) : List Nat := (List.range n).flatMap fun m => (List.range (2 ^ (n * (n - 1) / 2))).filter fun s => popc s == m
/-- The settlements, in the order in which they come. -/
def comeF (n : Nat) (N : List Int) : List Nat → List (List Pay)
  | [] => []
  | s :: r => match settledF n N s with
    | none => comeF n N r
    | some l => l :: comeF n N r
/-- Those with the fewest payments, as they come. -/
def fewTo : List (List Pay) → List (List Pay) → List (List Pay)
  | acc, [] => acc
  | acc, l :: r => if 0 < acc.length ∧ (acc[0]?.getD []).length < l.length then acc else fewTo (acc ++ [l]) r

/-- The same, over the sets of pairs: what comes behind the end is not looked at. -/
def fewG (n : Nat) (N : List Int) : List (List Pay) → List Nat → List (List Pay)
  | acc, [] => acc
  | acc, s :: r => match settledF n N s with
    | none => fewG n N acc r
    | some l => if 0 < acc.length ∧ (acc[0]?.getD []).length < l.length then acc else fewG n N (acc ++ [l]) r
theorem fewG_eq (n : Nat) (N : List Int) : ∀ (S : List Nat) (acc : List (List Pay)), fewG n N acc S = fewTo acc (comeF n N S)
  | [], acc => by simp [fewG, comeF, fewTo]
  | s :: r, acc => by
    unfold fewG comeF
    cases h : settledF n N s with
    | none => exact fewG_eq n N r acc
    | some l =>
      unfold fewTo
      simp only
      split
      · rfl
      · exact fewG_eq n N r (acc ++ [l])

/-- The nets of a horse that is sold on and on at one price, from 0 to k. -/
def chainN (k : Nat) (P : Int) : List Int := ((List.replicate 5 (0 : Int)).set 0 P).set k (-P)
def chainCheck : Bool := (List.range 4).all fun k => (List.range 9).all fun P => fewG (k + 2) (chainN (k + 1) ((P : Nat) + 1)) [] (pairSets (k + 2)) == [[(((k + 1 : Nat) : Int), 0, ((P : Nat) + 1 : Int))]]
set_option maxRecDepth 100000 in
theorem chainCheck_true : chainCheck = true := by kernel_rfl
theorem chain_few {k : Nat} {P : Int} (hk1 : 1 ≤ k) (hk4 : k ≤ 4) (hP1 : 1 ≤ P) (hP9 : P ≤ 9) : fewTo [] (comeF (k + 1) (chainN k P) (pairSets (k + 1))) = [[((k : Int), 0, P)]] := by
  rw [← fewG_eq]
  have h := chainCheck_true
  unfold chainCheck at h
  rw [List.all_eq_true] at h
  have h1 := h (k - 1) (List.mem_range.2 (by omega))
  rw [List.all_eq_true] at h1
  have h2 := h1 (P - 1).toNat (List.mem_range.2 (by omega))
  have e1 : k - 1 + 1 = k := by omega
  have e2 : (((P - 1).toNat : Nat) : Int) + 1 = P := by omega
  have e3 : k - 1 + 2 = k + 1 := by omega
  rw [e1, e2, e3] at h2
  exact eq_of_beq h2
end Go.Proofs.YtemoepcfmpapoaaGreatDoor
