/-
  palfreykit: NewBag, joined, by contract; integers in a block that a bag's doings leave alone.
-/
import Derived.Test.YtejfelijhojndaaGreatDoorMSame
import Derived.Deep.AppendLies
namespace Go.Proofs.YtejfelijhojndaaGreatDoor
open Go.RowKit Go.Proofs Go.Shelf

def NewBagEnd (w : World) (e : Ending) (w' : World) : Prop := e = .returned (.pointer (some ⟨w.heap.size, 0, none⟩)) ∧ Bag w' w.heap.size 0 ∧ Below w.heap.size w w'

set_option maxRecDepth 100000 in
theorem newBag_any (a : Option Addr) (len cap : Nat) (w : World) (h : ∀ j, j < len → ∃ nb off x, a = some ⟨nb, off, none⟩ ∧ nb < w.heap.size ∧ w.cell? ⟨nb, off + j, none⟩ = some (.int .i64 x)) :
    Calls Tryz.prog 4 #[.slice a len cap] w (NewBagEnd w) := by
  have H := Lib.hid h
  clear h
  go_enter Tryz.func4, Tryz.ntmps4
  go_wp2_with fail
  go_ret
  refine ⟨rfl, ⟨a, len, cap, _, _, heap_new w _, fun j hj => ?_⟩, (Below.refl _ w).alloc (Nat.le_refl _) _⟩
  obtain ⟨nb, off, x, ha, hl, hc⟩ := H.out j hj
  exact ⟨nb, off, x, ha, hl, by rw [World.cell?_alloc_lt _ _ _ (by exact hl)]; exact hc⟩

/-- A slice of integers whose block is of the kind P. -/
def IntsM (P : Nat → Prop) (w : World) (v : Value) (l : List Int) : Prop :=
  ∃ a cap, v = .slice a l.length cap ∧ (0 < l.length → ∃ b off, a = some ⟨b, off, none⟩ ∧ P b ∧ b < w.heap.size ∧ ∀ j, j < l.length → w.cell? ⟨b, off + j, none⟩ = some (.int .i64 (l[j]?.getD 0)))
theorem IntsM.ints {P : Nat → Prop} {w : World} {v : Value} {l : List Int} (h : IntsM P w v l) : Ints w v l := by
  obtain ⟨a, cap, hv, hc⟩ := h
  exact ⟨a, cap, hv, fun hl => by obtain ⟨b, off, ha, _, _, hd⟩ := hc hl; exact ⟨b, off, ha, hd⟩⟩
theorem IntsM.step {P P' : Nat → Prop} {w w' : World} {v : Value} {l : List Int} (h : IntsM P w v l) (hsz : w.heap.size ≤ w'.heap.size) (hs : ∀ k, k < w.heap.size → P k → w'.heap[k]? = w.heap[k]?) (hp : ∀ k, k < w.heap.size → P k → P' k) : IntsM P' w' v l := by
  obtain ⟨a, cap, hv, hc⟩ := h
  refine ⟨a, cap, hv, fun hl => ?_⟩
  obtain ⟨b, off, ha, hpb, hlt, hd⟩ := hc hl
  exact ⟨b, off, ha, hp b hlt hpb, Nat.lt_of_lt_of_le hlt hsz, fun j hj => (World.cell?_of_block (w := w) (hs b hlt hpb)).trans (hd j hj)⟩
theorem IntsM.of_owns {P : Nat → Prop} {w : World} {base : Nat} {v : Value} {l : List Int} (h : w.ownsRow base 3 1 v l.length (l.map (Value.int .i64))) (hP : ∀ k, base ≤ k → k < w.heap.size → P k) : IntsM P w v l := by
  obtain ⟨h1, h2⟩ := h
  rcases h2 with ⟨rfl, h0⟩ | ⟨g, cap, cur, rfl, hg, hh, hn, hm, hs, ht⟩
  · exact ⟨none, 0, by rw [h0], fun h => by omega⟩
  · have hlt := (Array.getElem?_eq_some_iff.1 hh).1
    refine ⟨_, cap, rfl, fun _ => ⟨g, 0, rfl, hP g hg hlt, hlt, fun j hj => ?_⟩⟩
    have hj2 : (cur.toList.take (l.length * 1))[j]? = (l.map (Value.int .i64))[j]? := by rw [ht]
    rw [List.getElem?_take, if_pos (by omega)] at hj2
    simp only [World.cell?, hh, Nat.zero_add]
    simp only [Array.getElem?_toList, List.getElem?_map, List.getElem?_eq_getElem hj, Option.map_some] at hj2
    simp [hj2, hj]

/-- One step of joined: the list so far, and whether the number is in it. -/
def joinS (n : Int) (s : List Int × Bool) (x : Int) : List Int × Bool :=
  let t := if n ≤ x ∧ s.2 = false then (s.1 ++ [n], true) else s
  if x = n then t else (t.1 ++ [x], t.2)
def joinTo (n : Int) (l : List Int) (k : Nat) : List Int × Bool := (l.take k).foldl (joinS n) ([], false)
theorem joinTo_succ (n : Int) (l : List Int) {k : Nat} (h : k < l.length) : joinTo n l (k + 1) = joinS n (joinTo n l k) l[k] := by
  simp only [joinTo]
  rw [List.take_succ_eq_append_getElem h, List.foldl_append]
  rfl
def joinL (n : Int) (l : List Int) : List Int := if (joinTo n l l.length).2 then (joinTo n l l.length).1 else (joinTo n l l.length).1 ++ [n]

structure JoinOK (n : Int) (l : List Int) (k : Nat) (s : List Int × Bool) : Prop where
  asc : s.1.Pairwise (· < ·)
  mem : ∀ y ∈ s.1, (∃ j, j < k ∧ l[j]? = some y) ∨ (y = n ∧ s.2 = true)
  yes : s.2 = true → ∃ j x, j < k ∧ l[j]? = some x ∧ n ≤ x
  no : s.2 = false → ∀ j x, j < k → l[j]? = some x → x < n
  len : s.1.length ≤ k + if s.2 then 1 else 0
  pos : s.2 = true → 0 < s.1.length

theorem joinTo_ok (n : Int) (l : List Int) (hl : l.Pairwise (· < ·)) : ∀ k, k ≤ l.length → JoinOK n l k (joinTo n l k)
  | 0, _ => ⟨by simp [joinTo], by simp [joinTo], by simp [joinTo], by simp, by simp [joinTo], by simp [joinTo]⟩
  | k + 1, hk => by
    have ih := joinTo_ok n l hl k (by omega)
    rw [joinTo_succ n l (by omega)]
    generalize joinTo n l k = s at ih ⊢
    obtain ⟨out, put⟩ := s
    have hlk : ∀ j x, j < k → l[j]? = some x → x < l[k] := fun j x hj hx => by
      obtain ⟨hj2, rfl⟩ := List.getElem?_eq_some_iff.1 hx
      exact List.pairwise_iff_getElem.1 hl j k hj2 (by omega) hj
    have hkk : l[k]? = some l[k] := List.getElem?_eq_getElem (by omega)
    obtain ⟨asc, mem, yes, no, len, pos⟩ := ih
    try simp only at asc mem yes no len pos
    cases put with
    | true =>
      rw [show joinS n (out, true) l[k] = if l[k] = n then (out, true) else (out ++ [l[k]], true) by simp [joinS]]
      obtain ⟨j0, x0, hj0, hx0, hn0⟩ := yes rfl
      have hlt := hlk j0 x0 hj0 hx0
      split
      · omega
      · refine ⟨?_, fun y hy => ?_, fun _ => ⟨j0, x0, by omega, hx0, hn0⟩, (fun h => by cases h), by simp at len ⊢; omega, fun _ => by simp⟩
        · rw [List.pairwise_append]
          refine ⟨asc, List.pairwise_singleton _ _, fun y hy z hz => ?_⟩
          simp at hz
          subst hz
          rcases mem y hy with ⟨j, hj, hx⟩ | ⟨rfl, _⟩
          · exact hlk j y hj hx
          · omega
        · rcases List.mem_append.1 hy with h | h
          · rcases mem y h with ⟨j, hj, hx⟩ | h
            · exact .inl ⟨j, by omega, hx⟩
            · exact .inr h
          · simp at h; subst h; exact .inl ⟨k, by omega, hkk⟩
    | false =>
      unfold joinS
      have hno := no rfl
      have hout : ∀ y ∈ out, y < n ∧ y < l[k] := fun y hy => by
        rcases mem y hy with ⟨j, hj, hx⟩ | ⟨_, h⟩
        · exact ⟨hno j y hj hx, hlk j y hj hx⟩
        · cases h
      by_cases hn : n ≤ l[k]
      · simp only [hn, and_self, if_true]
        by_cases he : l[k] = n
        · rw [if_pos he]
          refine ⟨?_, fun y hy => ?_, fun _ => ⟨k, l[k], by omega, hkk, hn⟩, (fun h => by cases h), by simp at len ⊢; omega, fun _ => by simp⟩
          · rw [List.pairwise_append]
            exact ⟨asc, List.pairwise_singleton _ _, fun y hy z hz => by simp at hz; subst hz; exact (hout y hy).1⟩
          · rcases List.mem_append.1 hy with h | h
            · rcases mem y h with ⟨j, hj, hx⟩ | ⟨_, h⟩
              · exact .inl ⟨j, by omega, hx⟩
              · cases h
            · simp at h; exact .inr ⟨h, rfl⟩
        · rw [if_neg he]
          refine ⟨?_, fun y hy => ?_, fun _ => ⟨k, l[k], by omega, hkk, hn⟩, (fun h => by cases h), by simp at len ⊢; omega, fun _ => by simp⟩
          · rw [List.pairwise_append, List.pairwise_append]
            refine ⟨⟨asc, List.pairwise_singleton _ _, fun y hy z hz => by simp at hz; subst hz; exact (hout y hy).1⟩, List.pairwise_singleton _ _, fun y hy z hz => ?_⟩
            simp at hz
            subst hz
            rcases List.mem_append.1 hy with h | h
            · exact (hout y h).2
            · simp at h; omega
          · rcases List.mem_append.1 hy with h | h
            · rcases List.mem_append.1 h with h | h
              · rcases mem y h with ⟨j, hj, hx⟩ | ⟨_, h⟩
                · exact .inl ⟨j, by omega, hx⟩
                · cases h
              · simp at h; exact .inr ⟨h, rfl⟩
            · simp at h; subst h; exact .inl ⟨k, by omega, hkk⟩
      · simp only [hn, false_and, if_false]
        rw [if_neg (by omega)]
        refine ⟨?_, fun y hy => ?_, (fun h => by cases h), fun _ j x hj hx => ?_, by simp at len ⊢; omega, fun h => by cases h⟩
        · rw [List.pairwise_append]
          exact ⟨asc, List.pairwise_singleton _ _, fun y hy z hz => by simp at hz; subst hz; exact (hout y hy).2⟩
        · rcases List.mem_append.1 hy with h | h
          · rcases mem y h with ⟨j, hj, hx⟩ | ⟨_, h⟩
            · exact .inl ⟨j, by omega, hx⟩
            · cases h
          · simp at h; subst h; exact .inl ⟨k, by omega, hkk⟩
        · rcases Nat.lt_succ_iff_lt_or_eq.1 hj with h | rfl
          · exact hno j x h hx
          · rw [hkk] at hx; cases hx; omega

theorem joinL_ok (n : Int) (l : List Int) (hl : l.Pairwise (· < ·)) : (joinL n l).Pairwise (· < ·) ∧ (∀ y ∈ joinL n l, y ∈ l ∨ y = n) ∧ (joinL n l).length ≤ l.length + 1 ∧ 0 < (joinL n l).length := by
  obtain ⟨asc, mem, yes, no, len, pos⟩ := joinTo_ok n l hl l.length (Nat.le_refl _)
  unfold joinL
  cases h : (joinTo n l l.length).2 with
  | true =>
    rw [h] at len
    simp only [if_true] at len ⊢
    refine ⟨asc, fun y hy => ?_, len, ?_⟩
    · rcases mem y hy with ⟨j, _, hx⟩ | ⟨h, _⟩
      · exact .inl (List.mem_of_getElem? hx)
      · exact .inr h
    · exact pos h
  | false =>
    rw [h] at len
    simp only [Bool.false_eq_true, if_false] at len ⊢
    refine ⟨?_, fun y hy => ?_, by simp; omega, by simp⟩
    · rw [List.pairwise_append]
      refine ⟨asc, List.pairwise_singleton _ _, fun y hy z hz => ?_⟩
      simp at hz
      subst hz
      rcases mem y hy with ⟨j, hj, hx⟩ | ⟨_, h2⟩
      · exact no h j y hj hx
      · rw [h] at h2; cases h2
    · rcases List.mem_append.1 hy with h3 | h3
      · rcases mem y h3 with ⟨j, _, hx⟩ | ⟨h3, _⟩
        · exact .inl (List.mem_of_getElem? hx)
        · exact .inr h3
      · simp at h3; exact .inr h3
end Go.Proofs.YtejfelijhojndaaGreatDoor

/-
  palfreykit: joined, by contract.
-/
namespace Go.Proofs.YtejfelijhojndaaGreatDoor
open Go.RowKit Go.Proofs Go.Shelf

def JoinEnd (l : List Int) (w : World) (e : Ending) (w' : World) : Prop := ∃ v, e = .returned v ∧ w'.ownsRow w.heap.size 3 1 v l.length (l.map (Value.int .i64)) ∧ Below w.heap.size w w'

theorem joinTo_len (n : Int) (l : List Int) : ∀ k, k ≤ l.length → (joinTo n l k).1.length ≤ 2 * k
  | 0, _ => by simp [joinTo]
  | k + 1, hk => by
    have ih := joinTo_len n l k (by omega)
    rw [joinTo_succ n l (by omega)]
    unfold joinS
    split <;> split <;> simp <;> omega

set_option maxRecDepth 100000 in
set_option maxHeartbeats 3200000 in
theorem joined_any (v : Value) (l : List Int) (n : Int) (w : World) (hv : Ints w v l) (hl : l.length ≤ 100) :
    Calls Tryz.prog 20 #[v, .int .i64 n] w (JoinEnd (joinL n l) w) := by
  obtain ⟨i0, hi, hz0, hz1, hz2⟩ := info_parts Tryz.infoInt
  obtain ⟨a, cap, rfl, hc⟩ := hv
  have HC := Lib.hid hc
  clear hc
  go_enter Tryz.func20, Tryz.ntmps20
  go_wp2_with fail
  go_loopw [7, 5, 6] (fun i s p wr => ∃ (k : Nat) (out : List Int) (put : Bool), k ≤ l.length ∧ i = .int .i64 k ∧ p = .bool put ∧ joinTo n l k = (out, put) ∧ wr.ownsRow w.heap.size 3 1 s out.length (out.map (Value.int .i64)) ∧ Below w.heap.size w wr) (fun i _ _ _ => l.length - (intOf i).toNat)
  case atStart => exact ⟨0, [], false, Nat.zero_le _, rfl, rfl, rfl, World.ownsRow_nil _ _ _ _, Below.refl _ _⟩
  case round =>
    obtain ⟨k, out, put, hk, rfl, rfl, hs, hown, hbl⟩ := hrel
    have hlen := joinTo_len n l k hk
    rw [hs] at hlen
    simp only at hlen
    by_cases hlt : k < l.length
    · have hklt : (k : Int) < (l.length : Int) := by omega
      have hk0 : (0 : Int) ≤ (k : Int) := by omega
      obtain ⟨b, off, rfl, hd⟩ := HC.out (by omega)
      have ck0 := hd k hlt
      obtain ⟨x, hx⟩ : ∃ x, l[k] = x := ⟨_, rfl⟩
      have hgd : l[k]?.getD 0 = x := by simp [hlt, hx]
      rw [hgd] at ck0
      have ck := below_cell hbl ck0
      have hnx := joinTo_succ n l hlt
      rw [hs, hx] at hnx
      have HO := Lib.hid hown
      have HB := Lib.hid hbl
      have hsz := hbl.size
      have HHS := Lib.hid hs
      clear hd hx hgd hs hown hbl
      by_cases hge : n ≤ x
      · have hd1 : decide (n ≤ x) = true := decide_eq_true hge
        by_cases heq : x = n
        · have he1 : (x == n) = true := by simp [heq]
          have he2 : (x != n) = false := by simp [heq]
          have HEQ := Lib.hid heq
          clear heq
          cases put with
          | true =>
            have HS := Lib.hid (show joinTo n l (k + 1) = (out, true) by rw [hnx]; unfold joinS; simp [HEQ.out])
            clear hnx
            go_wp2_with fail
            go_roundw
            case rel => exact ⟨k + 1, out, true, by omega, by go_num, rfl, HS.out, HO.out, HB.out⟩
            case measure => simp [intOf]; omega
          | false =>
            have HS := Lib.hid (show joinTo n l (k + 1) = (out ++ [n], true) by rw [hnx]; unfold joinS; simp [HEQ.out])
            clear hnx
            go_wp2_with (at_builtin; refine wpList_append_own _ rfl _ _ 22 rfl w.heap.size 3 i0 (.int .i64 0) 1 8 Tryz.underlying22 hi hz0 hz1 hz2 rfl (by decide) _ _ _ rfl (HO.out.alloc _) ⟨wr.heap.size, 0, none⟩ 1 1 [.int .i64 n] rfl rfl ?h1q1 ?h1q2 ?h1q3 ?h1q4 ?h1q5 ?_)
            case h1q1 =>
              intro j u hj
              match j, hj with
              | 0, hj => simp at hj; subst hj; simp [Addr.add]
            case h1q2 => intro u hu; simp at hu; subst hu; rfl
            case h1q3 => unfold maxLen; omega
            case h1q4 => omega
            case h1q5 => simp; omega
            intro v1 w1 hown1 hgrow1 _
            obtain ⟨g1, cap1, rfl⟩ := owns_succ hown1
            have HB1 := Lib.hid ((HB.out.alloc HB.out.size _).grown hgrow1 (by have := HB.out.size; simp; omega) (fun j hj => (HO.out.lt j hj).1))
            have HO1 : Hid (w1.ownsRow w.heap.size 3 1 (.slice (some ⟨g1, 0, none⟩) (out.length + 1) cap1) (out.length + 1) ((out ++ [n]).map (Value.int .i64))) := by show World.ownsRow _ _ _ _ _ _ _; simpa using hown1
            clear hown1 hgrow1
            have hsz1 := HB1.out.size
            have ck1 := below_cell HB1.out ck0
            go_wp2_with fail
            go_roundw
            case rel => exact ⟨k + 1, (out ++ [n]), true, by omega, by go_num, rfl, HS.out, (by simpa using HO1.out), HB1.out⟩
            case measure => simp [intOf]; omega
        · have he1 : (x == n) = false := by simp [heq]
          have he2 : (x != n) = true := by simp [heq]
          have HEQ := Lib.hid heq
          clear heq
          cases put with
          | true =>
            have HS := Lib.hid (show joinTo n l (k + 1) = (out ++ [x], true) by rw [hnx]; unfold joinS; simp [HEQ.out, hge])
            clear hnx
            go_wp2_with (at_builtin; refine wpList_append_own _ rfl _ _ 22 rfl w.heap.size 3 i0 (.int .i64 0) 1 8 Tryz.underlying22 hi hz0 hz1 hz2 rfl (by decide) _ _ _ rfl (HO.out.alloc _) ⟨wr.heap.size, 0, none⟩ 1 1 [.int .i64 x] rfl rfl ?h2q1 ?h2q2 ?h2q3 ?h2q4 ?h2q5 ?_)
            case h2q1 =>
              intro j u hj
              match j, hj with
              | 0, hj => simp at hj; subst hj; simp [Addr.add]
            case h2q2 => intro u hu; simp at hu; subst hu; rfl
            case h2q3 => unfold maxLen; omega
            case h2q4 => omega
            case h2q5 => simp; omega
            intro v2 w2 hown2 hgrow2 _
            obtain ⟨g2, cap2, rfl⟩ := owns_succ hown2
            have HB2 := Lib.hid ((HB.out.alloc HB.out.size _).grown hgrow2 (by have := HB.out.size; simp; omega) (fun j hj => (HO.out.lt j hj).1))
            have HO2 : Hid (w2.ownsRow w.heap.size 3 1 (.slice (some ⟨g2, 0, none⟩) (out.length + 1) cap2) (out.length + 1) ((out ++ [x]).map (Value.int .i64))) := by show World.ownsRow _ _ _ _ _ _ _; simpa using hown2
            clear hown2 hgrow2
            go_wp2_with fail
            go_roundw
            case rel => exact ⟨k + 1, (out ++ [x]), true, by omega, by go_num, rfl, HS.out, (by simpa using HO2.out), HB2.out⟩
            case measure => simp [intOf]; omega
          | false =>
            have HS := Lib.hid (show joinTo n l (k + 1) = ((out ++ [n]) ++ [x], true) by rw [hnx]; unfold joinS; simp [HEQ.out, hge])
            clear hnx
            go_wp2_with (at_builtin; refine wpList_append_own _ rfl _ _ 22 rfl w.heap.size 3 i0 (.int .i64 0) 1 8 Tryz.underlying22 hi hz0 hz1 hz2 rfl (by decide) _ _ _ rfl (HO.out.alloc _) ⟨wr.heap.size, 0, none⟩ 1 1 [.int .i64 n] rfl rfl ?h3q1 ?h3q2 ?h3q3 ?h3q4 ?h3q5 ?_)
            case h3q1 =>
              intro j u hj
              match j, hj with
              | 0, hj => simp at hj; subst hj; simp [Addr.add]
            case h3q2 => intro u hu; simp at hu; subst hu; rfl
            case h3q3 => unfold maxLen; omega
            case h3q4 => omega
            case h3q5 => simp; omega
            intro v1 w1 hown1 hgrow1 _
            obtain ⟨g1, cap1, rfl⟩ := owns_succ hown1
            have HB1 := Lib.hid ((HB.out.alloc HB.out.size _).grown hgrow1 (by have := HB.out.size; simp; omega) (fun j hj => (HO.out.lt j hj).1))
            have HO1 : Hid (w1.ownsRow w.heap.size 3 1 (.slice (some ⟨g1, 0, none⟩) (out.length + 1) cap1) (out.length + 1) ((out ++ [n]).map (Value.int .i64))) := by show World.ownsRow _ _ _ _ _ _ _; simpa using hown1
            clear hown1 hgrow1
            have hsz1 := HB1.out.size
            have ck1 := below_cell HB1.out ck0
            go_wp2_with (at_builtin; refine wpList_append_own _ rfl _ _ 22 rfl w.heap.size 3 i0 (.int .i64 0) 1 8 Tryz.underlying22 hi hz0 hz1 hz2 rfl (by decide) _ _ _ rfl (HO1.out.alloc _) ⟨w1.heap.size, 0, none⟩ 1 1 [.int .i64 x] rfl rfl ?h4q1 ?h4q2 ?h4q3 ?h4q4 ?h4q5 ?_)
            case h4q1 =>
              intro j u hj
              match j, hj with
              | 0, hj => simp at hj; subst hj; simp [Addr.add]
            case h4q2 => intro u hu; simp at hu; subst hu; rfl
            case h4q3 => unfold maxLen; omega
            case h4q4 => omega
            case h4q5 => simp; omega
            intro v2 w2 hown2 hgrow2 _
            obtain ⟨g2, cap2, rfl⟩ := owns_succ hown2
            have HB2 := Lib.hid ((HB1.out.alloc HB1.out.size _).grown hgrow2 (by have := HB1.out.size; simp; omega) (fun j hj => (HO1.out.lt j hj).1))
            have HO2 : Hid (w2.ownsRow w.heap.size 3 1 (.slice (some ⟨g2, 0, none⟩) (out.length + 1 + 1) cap2) (out.length + 1 + 1) (((out ++ [n]) ++ [x]).map (Value.int .i64))) := by show World.ownsRow _ _ _ _ _ _ _; simpa using hown2
            clear hown2 hgrow2
            go_wp2_with fail
            go_roundw
            case rel => exact ⟨k + 1, ((out ++ [n]) ++ [x]), true, by omega, by go_num, rfl, HS.out, (by simpa using HO2.out), HB2.out⟩
            case measure => simp [intOf]; omega
      · have hd1 : decide (n ≤ x) = false := decide_eq_false hge
        have heq : x ≠ n := by omega
        have hge2 : x < n := by omega
        clear hge
        have he1 : (x == n) = false := by simp [heq]
        have he2 : (x != n) = true := by simp [heq]
        have HEQ := Lib.hid heq
        clear heq
        cases put with
        | true =>
          have HS := Lib.hid (show joinTo n l (k + 1) = (out ++ [x], true) by rw [hnx]; unfold joinS; simp [HEQ.out, Int.not_le.2 hge2])
          clear hnx
          go_wp2_with (at_builtin; refine wpList_append_own _ rfl _ _ 22 rfl w.heap.size 3 i0 (.int .i64 0) 1 8 Tryz.underlying22 hi hz0 hz1 hz2 rfl (by decide) _ _ _ rfl (HO.out.alloc _) ⟨wr.heap.size, 0, none⟩ 1 1 [.int .i64 x] rfl rfl ?h5q1 ?h5q2 ?h5q3 ?h5q4 ?h5q5 ?_)
          case h5q1 =>
            intro j u hj
            match j, hj with
            | 0, hj => simp at hj; subst hj; simp [Addr.add]
          case h5q2 => intro u hu; simp at hu; subst hu; rfl
          case h5q3 => unfold maxLen; omega
          case h5q4 => omega
          case h5q5 => simp; omega
          intro v2 w2 hown2 hgrow2 _
          obtain ⟨g2, cap2, rfl⟩ := owns_succ hown2
          have HB2 := Lib.hid ((HB.out.alloc HB.out.size _).grown hgrow2 (by have := HB.out.size; simp; omega) (fun j hj => (HO.out.lt j hj).1))
          have HO2 : Hid (w2.ownsRow w.heap.size 3 1 (.slice (some ⟨g2, 0, none⟩) (out.length + 1) cap2) (out.length + 1) ((out ++ [x]).map (Value.int .i64))) := by show World.ownsRow _ _ _ _ _ _ _; simpa using hown2
          clear hown2 hgrow2
          go_wp2_with fail
          go_roundw
          case rel => exact ⟨k + 1, (out ++ [x]), true, by omega, by go_num, rfl, HS.out, (by simpa using HO2.out), HB2.out⟩
          case measure => simp [intOf]; omega
        | false =>
          have HS := Lib.hid (show joinTo n l (k + 1) = (out ++ [x], false) by rw [hnx]; unfold joinS; simp [HEQ.out, Int.not_le.2 hge2])
          clear hnx
          go_wp2_with (at_builtin; refine wpList_append_own _ rfl _ _ 22 rfl w.heap.size 3 i0 (.int .i64 0) 1 8 Tryz.underlying22 hi hz0 hz1 hz2 rfl (by decide) _ _ _ rfl (HO.out.alloc _) ⟨wr.heap.size, 0, none⟩ 1 1 [.int .i64 x] rfl rfl ?h6q1 ?h6q2 ?h6q3 ?h6q4 ?h6q5 ?_)
          case h6q1 =>
            intro j u hj
            match j, hj with
            | 0, hj => simp at hj; subst hj; simp [Addr.add]
          case h6q2 => intro u hu; simp at hu; subst hu; rfl
          case h6q3 => unfold maxLen; omega
          case h6q4 => omega
          case h6q5 => simp; omega
          intro v2 w2 hown2 hgrow2 _
          obtain ⟨g2, cap2, rfl⟩ := owns_succ hown2
          have HB2 := Lib.hid ((HB.out.alloc HB.out.size _).grown hgrow2 (by have := HB.out.size; simp; omega) (fun j hj => (HO.out.lt j hj).1))
          have HO2 : Hid (w2.ownsRow w.heap.size 3 1 (.slice (some ⟨g2, 0, none⟩) (out.length + 1) cap2) (out.length + 1) ((out ++ [x]).map (Value.int .i64))) := by show World.ownsRow _ _ _ _ _ _ _; simpa using hown2
          clear hown2 hgrow2
          go_wp2_with fail
          go_roundw
          case rel => exact ⟨k + 1, (out ++ [x]), false, by omega, by go_num, rfl, HS.out, (by simpa using HO2.out), HB2.out⟩
          case measure => simp [intOf]; omega
    · have hklt : (l.length : Int) ≤ (k : Int) := by omega
      obtain rfl : k = l.length := by omega
      clear hlt
      have HO := Lib.hid hown
      have HB := Lib.hid hbl
      have hsz := hbl.size
      have HHS := Lib.hid hs
      clear hown hbl hs
      cases put with
      | true =>
        have HJ := Lib.hid (show joinL n l = out by simp [joinL, HHS.out])
        obtain ⟨sa, sn, sc, rfl⟩ := owns_any HO.out
        go_wp2_with fail
        go_ret
        exact ⟨_, rfl, by rw [HJ.out]; exact HO.out, HB.out⟩
      | false =>
        have HJ := Lib.hid (show joinL n l = out ++ [n] by simp [joinL, HHS.out])
        go_wp2_with (at_builtin; refine wpList_append_own _ rfl _ _ 22 rfl w.heap.size 3 i0 (.int .i64 0) 1 8 Tryz.underlying22 hi hz0 hz1 hz2 rfl (by decide) _ _ _ rfl (HO.out.alloc _) ⟨wr.heap.size, 0, none⟩ 1 1 [.int .i64 n] rfl rfl ?h7q1 ?h7q2 ?h7q3 ?h7q4 ?h7q5 ?_)
        case h7q1 =>
          intro j u hj
          match j, hj with
          | 0, hj => simp at hj; subst hj; simp [Addr.add]
        case h7q2 => intro u hu; simp at hu; subst hu; rfl
        case h7q3 => unfold maxLen; omega
        case h7q4 => omega
        case h7q5 => simp; omega
        intro v1 w1 hown1 hgrow1 _
        obtain ⟨g1, cap1, rfl⟩ := owns_succ hown1
        have HB1 := Lib.hid ((HB.out.alloc HB.out.size _).grown hgrow1 (by have := HB.out.size; simp; omega) (fun j hj => (HO.out.lt j hj).1))
        have HO1 := Lib.hid hown1
        clear hown1 hgrow1
        go_wp2_with fail
        go_ret
        exact ⟨_, rfl, by rw [HJ.out]; simpa using HO1.out, HB1.out⟩
end Go.Proofs.YtejfelijhojndaaGreatDoor
