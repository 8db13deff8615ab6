/-
  palfreykit: MouthsOf, by contract: a course of mouths.
-/
import Derived.Test.YtejfelijhojndaaGreatDoorMJaw
import Derived.Deep.CutRange
namespace Go.Proofs.YtejfelijhojndaaGreatDoor
open Go.RowKit Go.Proofs Go.Shelf

/-- Mouth m can be had at this age. -/
def Reach (N : List (List Int)) : Nat → Nat → Prop
  | 0, m => m = 0
  | a + 1, m => ∃ m' : Nat, m' < N.length ∧ Reach N a m' ∧ (m : Int) ∈ N[m']?.getD []
/-- The mouths of some years, one after another, from this age on. -/
structure Course (N : List (List Int)) (age : Nat) (L : List Nat) : Prop where
  first : ∀ m, L[0]? = some m → Reach N age m
  step : ∀ i x y : Nat, L[i]? = some x → L[i + 1]? = some y → (y : Int) ∈ N[x]?.getD []
  lt : ∀ x ∈ L, x < N.length
theorem Course.pre {N : List (List Int)} {age m : Nat} {l : List Nat} (h : Course N age (l ++ [m])) : Course N age l :=
  ⟨fun x hx => h.first x (by rw [List.getElem?_append_left (List.getElem?_eq_some_iff.1 hx).1]; exact hx), fun i x y hx hy => h.step i x y (by rw [List.getElem?_append_left (List.getElem?_eq_some_iff.1 hx).1]; exact hx) (by rw [List.getElem?_append_left (List.getElem?_eq_some_iff.1 hy).1]; exact hy), fun x hx => h.lt x (List.mem_append_left _ hx)⟩
theorem Course.next {N : List (List Int)} {age m m' : Nat} {l : List Nat} (h : Course N age (l ++ [m])) (hm : (m' : Int) ∈ N[m]?.getD []) (hl : m' < N.length) : Course N age (l ++ [m] ++ [m']) := by
  refine ⟨fun x hx => h.first x ?_, fun i x y hx hy => ?_, fun x hx => ?_⟩
  · rw [List.getElem?_append_left (by simp)] at hx; exact hx
  · have hy1 := (List.getElem?_eq_some_iff.1 hy).1
    simp only [List.length_append, List.length_cons, List.length_nil] at hy1
    rw [List.getElem?_append_left (by simp; omega)] at hx
    by_cases hi : i + 1 < (l ++ [m]).length
    · rw [List.getElem?_append_left hi] at hy; exact h.step i x y hx hy
    · simp only [List.length_append, List.length_cons, List.length_nil] at hi
      have he : i = l.length := by omega
      subst he
      simp at hx hy
      subst hx; subst hy; exact hm
  · rcases List.mem_append.1 hx with h1 | h1
    · exact h.lt x h1
    · simp at h1; subst h1; exact hl

def MouthsEnd (b t years : Nat) (N : List (List Int)) (w : World) (e : Ending) (w' : World) : Prop :=
  ∃ (age : Nat) (l : List Nat) (v : Value) (t' : Nat), age ≤ 6 ∧ e = .returned (.tuple #[.int .i64 age, v]) ∧ l.length = years ∧ Course N age l ∧ IntsM (fun k => w.heap.size ≤ k) w' v (l.map Int.ofNat) ∧ t' ≤ t + 7 + years ∧ Bag w' b t' ∧ Kept b w w'

theorem rowM_at {P : Nat → Prop} {w : World} {v : Value} {M : List (List Int)} (h : RowsM P w v M) {m : Nat} (hm : m < M.length) :
    ∃ g off cap rb ro rc, v = .slice (some ⟨g, off, none⟩) M.length cap ∧ (0 < (M[m]?.getD []).length → w.cell? ⟨g, off + m, none⟩ = some (.slice (some ⟨rb, ro, none⟩) (M[m]?.getD []).length rc) ∧ P rb ∧ ∀ j, j < (M[m]?.getD []).length → w.cell? ⟨rb, ro + j, none⟩ = some (.int .i64 ((M[m]?.getD [])[j]?.getD 0))) := by
  obtain ⟨g, off, cap, hv, _, _, hr⟩ := h
  obtain ⟨u, hu, a, rc, rfl, hc⟩ := hr m hm
  by_cases h0 : 0 < (M[m]?.getD []).length
  · obtain ⟨rb, ro, rfl, hp, _, hd⟩ := hc h0
    exact ⟨g, off, cap, rb, ro, rc, hv, fun _ => ⟨hu, hp, hd⟩⟩
  · exact ⟨g, off, cap, 0, 0, rc, hv, fun h => absurd h h0⟩

set_option maxRecDepth 100000 in
set_option maxHeartbeats 1600000 in
theorem mouthsOf_any (b t years : Nat) (N D : List (List Int)) (nv dv : Value) (w : World) (hB : Bag w b t) (ht : t ≤ 100000) (hy : years ≤ 10) (hN : RowsM (fun k => k ≠ b) w nv N) (hd : ∃ a n c, dv = .slice a n c) (hJ : JawOK N D) :
    Calls Tryz.prog 7 #[.pointer (some ⟨b, 0, none⟩), jawV nv dv, .int .i64 years] w (MouthsEnd b t years N w) := by
  have hbw := hB.lt
  obtain ⟨i0, hi, hz0, hz1, hz2⟩ := info_parts Tryz.infoInt
  obtain ⟨W1, hW1⟩ : ∃ W1, w.alloc (.cells #[nv, dv] 34) = W1 := ⟨_, rfl⟩
  have hb1 : Kept b w W1 := by rw [← hW1]; exact (Kept.refl b w).alloc _
  have hblk : W1.heap[w.heap.size]? = some (.cells #[nv, dv] 34 (0, 0)) := by rw [← hW1]; exact heap_new w _
  have hz1w : W1.heap.size = w.heap.size + 1 := by rw [← hW1]; simp
  have hB1 : Bag W1 b t := by rw [← hW1]; exact hB.alloc _
  have hN1 : RowsM (fun k => k ≠ b) W1 nv N := hN.step hb1.size (fun k hk hp => hb1.block k hk hp) (fun _ _ h => h)
  have HN := Lib.hid hN1
  have HBLK := Lib.hid hblk
  have HZ := Lib.hid hz1w
  have HK1 := Lib.hid hb1
  have HJ := Lib.hid hJ
  have hN8 := hJ.le
  have hN0 := hJ.pos
  obtain ⟨ng, noff, ncap, rfl, _⟩ := hN
  obtain ⟨da, dn, dc, rfl⟩ := hd
  -- one step of the course, in whatever world
  have STEP : ∀ (m : Nat) (wr : World), m < N.length → Kept b W1 wr → ∃ (R : List Int) (rb ro rc : Nat), Hid (N[m]?.getD [] = R) ∧ wr.cell? ⟨w.heap.size, 0, none⟩ = some (.slice (some ⟨ng, noff, none⟩) N.length ncap) ∧ wr.cell? ⟨ng, noff + m, none⟩ = some (.slice (some ⟨rb, ro, none⟩) R.length rc) ∧ ∀ (t1 : Nat) (hBr : Bag wr b t1) (ht1 : t1 ≤ 1000000), Calls Tryz.prog 19 #[.pointer (some ⟨b, 0, none⟩), .slice (some ⟨rb, ro, none⟩) R.length rc] wr (PickEnd b t1 R wr) := by
    intro m wr hm hk
    have hr := HN.out.step hk.size (fun k hk2 hp => hk.block k hk2 hp) (fun _ _ h => h)
    obtain ⟨g, off, cap, rb, ro, rc, hv, hc⟩ := rowM_at hr hm
    have hlen : 0 < (N[m]?.getD []).length ∧ (N[m]?.getD []).length ≤ 3 := by
      have := HJ.out.next m hm
      rw [List.getElem?_eq_getElem hm]
      exact ⟨this.2, this.1.le⟩
    obtain ⟨c1, c2, c3⟩ := hc hlen.1
    cases hv
    refine ⟨_, rb, ro, rc, rfl, ?_, c1, fun t1 hBr ht1 => pick_any b t1 rb ro rc _ wr hBr (by omega) hlen.1 (by omega) c2 c3⟩
    have h1 := (hk.block w.heap.size (by have := HZ.out; omega) (by omega)).trans HBLK.out
    simp [World.cell?, h1]
  have HSTEP := Lib.hid STEP
  clear STEP hN1 hblk hz1w hb1 hJ
  unfold jawV at *
  go_enter Tryz.func7, Tryz.ntmps7
  go_wp2_with fail
  refine (upTo_any b t 6 _ hB1 (by omega) (by omega) (by omega)).mono ?_
  rintro e w2 ⟨age', ha1, ha2, rfl, hB2, hk2⟩
  obtain ⟨age, rfl⟩ := Int.eq_ofNat_of_zero_le ha1
  have HK2 := Lib.hid hk2
  clear hk2
  go_wp2_with fail
  have memN : ∀ (m : Nat) (r : Int), m < N.length → r ∈ N[m]?.getD [] → 0 ≤ r ∧ r < N.length := fun m r hm hr => by
    rw [List.getElem?_eq_getElem hm] at hr
    obtain ⟨j, hj, rfl⟩ := List.getElem_of_mem hr
    have := (HJ.out.next m hm).1.num j hj
    exact ⟨this.1, this.2.1⟩
  have HM := Lib.hid memN
  clear memN
  go_loopw [9, 10] (fun mo i wr => ∃ k m : Nat, k ≤ age ∧ i = .int .i64 k ∧ mo = .int .i64 m ∧ m < N.length ∧ Reach N k m ∧ Kept b W1 wr ∧ ∃ t', t' ≤ t + 1 + k ∧ Bag wr b t') (fun _ i _ => age - (intOf i).toNat)
  case atStart => exact ⟨0, 0, Nat.zero_le _, rfl, rfl, hN0, rfl, HK2.out, _, by omega, hB2⟩
  case round =>
    obtain ⟨k, m, hk, rfl, rfl, hm, hR, hkr, t', ht', hBr⟩ := hrel
    by_cases hlt : k < age
    · have hklt : (k : Int) < (age : Int) := by omega
      obtain ⟨R, rb, ro, rc, HEQ, c1, c2, hp⟩ := HSTEP.out m wr hm hkr
      have HP := Lib.hid hp
      clear hp
      have HKR := Lib.hid hkr
      have hm0 : (0 : Int) ≤ (m : Int) := by omega
      have hmn : (m : Int) < (N.length : Int) := by omega
      have HR := Lib.hid hR
      clear hkr hR
      go_wp2_with (go_at_call 19; refine (HP.out t' hBr (by omega)).mono ?_; rintro e w3 ⟨r, hr, rfl, hB3, hk3⟩)
      rw [← HEQ.out] at hr
      obtain ⟨hr0, hr1⟩ := HM.out m r hm hr
      obtain ⟨m', rfl⟩ := Int.eq_ofNat_of_zero_le hr0
      go_roundw
      case rel => exact ⟨k + 1, m', by omega, by go_num, rfl, by omega, ⟨m, hm, HR.out, hr⟩, HKR.out.trans hk3, _, by omega, hB3⟩
      case measure => simp [intOf]; omega
    · obtain rfl : k = age := by omega
      have hklt : (k : Int) ≤ (k : Int) := by omega
      clear hlt
      have HKR := Lib.hid hkr
      have HR := Lib.hid hR
      clear hkr hR
      go_wp2_with fail
      go_loopw [9, 11, 12] (fun mo out i wr2 => ∃ (j m : Nat) (l : List Nat), j ≤ years ∧ i = .int .i64 j ∧ mo = .int .i64 m ∧ l.length = j ∧ Course N k (l ++ [m]) ∧ wr2.ownsRow (w.heap.size + 1) 3 1 out l.length ((l.map Int.ofNat).map (Value.int .i64)) ∧ Kept b W1 wr2 ∧ ∃ t', t' ≤ t + 7 + j ∧ Bag wr2 b t') (fun _ _ i _ => years - (intOf i).toNat)
      case atStart => exact ⟨0, m, [], Nat.zero_le _, rfl, rfl, rfl, ⟨fun x hx => by simp at hx; subst hx; exact HR.out, fun i x y hx hy => by simp at hy, fun x hx => by simp at hx; subst hx; exact hm⟩, World.ownsRow_nil _ _ _ _, HKR.out, _, by omega, hBr⟩
      case round =>
        clear hBr HKR
        obtain ⟨j, m, l, hj, rfl, rfl, hl, hC, hown, hkr, t', ht', hBr⟩ := hrel
        have HC := Lib.hid hC
        have HL := Lib.hid hl
        have HO := Lib.hid hown
        have HKR := Lib.hid hkr
        clear hC hl hown hkr
        by_cases hlt : j < years
        · have hjlt : (j : Int) < (years : Int) := by omega
          have hm2 : m < N.length := HC.out.lt m (by simp)
          have hle : l.length ≤ 9 := by have := HL.out; omega
          have hszr : w.heap.size + 1 ≤ wr.heap.size := by have := HKR.out.size; have := HZ.out; omega
          go_upto_region 10 with fail
          go_wp2_with (at_builtin; refine wpList_append_own _ rfl _ _ 22 rfl (w.heap.size + 1) 3 i0 (.int .i64 0) 1 8 Tryz.underlying22 hi hz0 hz1 hz2 rfl (by decide) _ _ _ rfl (HO.out.alloc _) ⟨wr.heap.size, 0, none⟩ 1 1 [.int .i64 m] rfl rfl ?h1q1 ?h1q2 ?h1q3 ?h1q4 ?h1q5 ?_)
          case h1q1 =>
            intro j u hj
            match j, hj with
            | 0, hj => simp at hj; subst hj; simp [Addr.add]
          case h1q2 => intro u hu; simp at hu; subst hu; rfl
          case h1q3 => unfold maxLen; omega
          case h1q4 => omega
          case h1q5 => simp; omega
          intro v1 w1 hown1 hgrow1 _
          obtain ⟨g1, cap1, rfl⟩ := owns_succ hown1
          have hk1 : Kept b W1 w1 := (HKR.out.alloc _).grown hgrow1 (fun g e => by have := (HO.out.lt g e).1; have := HZ.out; omega)
          have hB3 : Bag w1 b t' := (hBr.alloc _).grown hgrow1 (fun g e => by have := (HO.out.lt g e).1; omega)
          obtain ⟨R, rb, ro, rc, HEQ, c1, c2, hp⟩ := HSTEP.out m w1 hm2 hk1
          have HP := Lib.hid hp
          have HO1 : Hid (w1.ownsRow (w.heap.size + 1) 3 1 (.slice (some ⟨g1, 0, none⟩) (l.length + 1) cap1) (l.length + 1) ((l ++ [m]).map Int.ofNat |>.map (Value.int .i64))) := by show World.ownsRow _ _ _ _ _ _ _; simpa using hown1
          have HK3 := Lib.hid hk1
          have hm0 : (0 : Int) ≤ (m : Int) := by omega
          have hmn : (m : Int) < (N.length : Int) := by omega
          clear hp hown1 hgrow1 hk1
          go_wp2_with (go_at_call 19; refine (HP.out t' hB3 (by omega)).mono ?_; rintro e w3 ⟨r, hr, rfl, hB4, hk4⟩)
          rw [← HEQ.out] at hr
          obtain ⟨hr0, hr1⟩ := HM.out m r hm2 hr
          obtain ⟨m', rfl⟩ := Int.eq_ofNat_of_zero_le hr0
          have HK4 := Lib.hid hk4
          clear hk4
          go_roundw
          case rel =>
            refine ⟨j + 1, m', l ++ [m], by omega, by go_num, rfl, by simp [HL.out], HC.out.next hr (by omega), ?_, HK3.out.trans HK4.out, _, by omega, hB4⟩
            have := HO1.out.kept HK4.out.grownBy (by
              right; intro e; simp only [Value.ownBlock, Option.some.injEq] at e; have := (HO1.out.lt g1 rfl).1; omega)
            simpa using this
          case measure => simp [intOf]; omega
        · obtain rfl : j = years := by omega
          have hjlt : (j : Int) ≤ (j : Int) := by omega
          clear hlt
          obtain ⟨oa, om, oc, rfl⟩ := owns_any HO.out
          go_wp2_with fail
          go_ret2
          refine ⟨k, l, _, t', by omega, rfl, HL.out, HC.out.pre, IntsM.of_owns (by simpa using HO.out) (fun g hg _ => by omega), by omega, hBr, HK1.out.trans HKR.out⟩
end Go.Proofs.YtejfelijhojndaaGreatDoor
