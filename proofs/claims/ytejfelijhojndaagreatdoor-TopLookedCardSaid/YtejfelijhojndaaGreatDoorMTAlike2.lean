/-
  tooth: merge, isTrue, by contract.
-/
import Derived.Test.YtejfelijhojndaaGreatDoorMTNew
import Derived.ArgAppend
namespace Go.Proofs.YtejfelijhojndaaGreatDoor
open Go.RowKit Go.Proofs Go.Shelf

def lcells (L : List (Nat × Nat)) : List Value := L.flatMap fun l => [.int .i64 (l.1 : Nat), .int .i64 (l.2 : Nat)]
theorem lcells_length : ∀ L : List (Nat × Nat), (lcells L).length = L.length * 2
  | [] => rfl
  | c :: L => by
    show ([_, _] ++ lcells L).length = _
    rw [List.length_append, lcells_length L, List.length_cons]; simp; omega
theorem lcells_get : ∀ (L : List (Nat × Nat)) (m : Nat), m < L.length → (lcells L)[m * 2]? = some (.int .i64 ((L[m]?.getD (0, 0)).1 : Nat)) ∧ (lcells L)[m * 2 + 1]? = some (.int .i64 ((L[m]?.getD (0, 0)).2 : Nat))
  | [], m, h => by simp at h
  | c :: L, 0, _ => ⟨rfl, rfl⟩
  | c :: L, m + 1, h => by
    have ih := lcells_get L m (by simpa using h)
    have e1 : (m + 1) * 2 = m * 2 + 2 := by omega
    rw [e1]
    simpa [lcells] using ih
theorem lcells_one : ∀ (L : List (Nat × Nat)), ∀ v ∈ lcells L, v.oneCell' = true := by
  intro L v hv
  obtain ⟨c, _, hc⟩ := List.mem_flatMap.1 hv
  simp at hc
  rcases hc with rfl | rfl <;> rfl
theorem lcells_append (A B : List (Nat × Nat)) : lcells (A ++ B) = lcells A ++ lcells B := by simp [lcells, List.flatMap_append]
theorem looks_cells {w : World} {b off : Nat} : ∀ {L : List (Nat × Nat)}, (∀ j, j < L.length → w.cell? ⟨b, off + j * 2, none⟩ = some (.int .i64 ((L[j]?.getD (0, 0)).1 : Nat)) ∧ w.cell? ⟨b, off + j * 2 + 1, none⟩ = some (.int .i64 ((L[j]?.getD (0, 0)).2 : Nat))) →
    ∀ j u, (lcells L)[j]? = some u → w.cell? ⟨b, off + j, none⟩ = some u := by
  intro L h j u hj
  have hl : j < L.length * 2 := by have := (List.getElem?_eq_some_iff.1 hj).1; rwa [lcells_length] at this
  have hm : j / 2 < L.length := by omega
  obtain ⟨h0, h1⟩ := h (j / 2) hm
  obtain ⟨g0, g1⟩ := lcells_get L (j / 2) hm
  rcases Nat.mod_two_eq_zero_or_one j with hr | hr
  · have e : j = j / 2 * 2 := by omega
    rw [e] at hj ⊢
    rw [g0] at hj
    rw [h0]; exact hj
  · have e : j = j / 2 * 2 + 1 := by omega
    rw [e] at hj ⊢
    rw [g1] at hj
    rw [← Nat.add_assoc, h1]; exact hj
theorem looks_of_owns {w : World} {base : Nat} {v : Value} {L : List (Nat × Nat)} {n : Nat} (hn : n = L.length) (h0 : 0 < L.length) (h : w.ownsRow base 41 2 v n (lcells L)) : LooksAt w v L := by
  subst hn
  obtain ⟨_, h2⟩ := h
  rcases h2 with ⟨_, h9⟩ | ⟨g, cap, cur, rfl, hg, hh, hnc, hm, hs, ht⟩
  · omega
  · refine ⟨g, 0, cap, rfl, fun j hj => ?_⟩
    obtain ⟨g0, g1⟩ := lcells_get L j hj
    have e : ∀ i, i < L.length * 2 → cur[i]? = (lcells L)[i]? := fun i hi => by
      have : (cur.toList.take (L.length * 2))[i]? = (lcells L)[i]? := by rw [ht]
      rwa [List.getElem?_take, if_pos hi, Array.getElem?_toList] at this
    simp only [World.cell?, hh, Nat.zero_add]
    simp
    exact ⟨(e _ (by omega)).trans g0, (e _ (by omega)).trans g1⟩

theorem Tryz.infoLook : (Tryz.prog.info? 41).map (fun i => (i.zero, i.size, i.bytes)) = some (some (.agg #[.int .i64 0, .int .i64 0]), 2, 16) := by kernel_rfl

def MergeEnd (L : List (Nat × Nat)) (w : World) (e : Ending) (w' : World) : Prop := ∃ v, e = .returned v ∧ LooksAt w' v L ∧ Below w.heap.size w w'

set_option maxRecDepth 100000 in
set_option maxHeartbeats 1600000 in
theorem merge_any (ob : Nat) (av bv : Value) (A B : List (Nat × Nat)) (w : World) (hA : LooksAt w av A) (hB : LooksAt w bv B) (ho : w.cell? ⟨ob, 0, none⟩ = some bv) (hA0 : 0 < A.length) (hB0 : 0 < B.length) (hA4 : A.length ≤ 100) (hB4 : B.length ≤ 100) (hcap : ∀ a n c, av = .slice a n c → n ≤ c) :
    Calls Tryz.prog 29 #[av, .slice (some ⟨ob, 0, none⟩) 1 1] w (MergeEnd (A ++ B) w) := by
  obtain ⟨i0, hi, hz0, hz1, hz2⟩ := info_parts Tryz.infoLook
  obtain ⟨ab, aoff, acap, rfl, har⟩ := hA
  obtain ⟨bb, boff, bcap, rfl, hbr⟩ := hB
  have hac := hcap _ _ _ rfl
  clear hcap
  have HA := Lib.hid (looks_cells har)
  have HB := Lib.hid (looks_cells hbr)
  have HA0 := Lib.hid hA0
  clear har hbr
  have hla : (A.length : Int) ≤ (A.length : Int) := Int.le_refl _
  go_enter Tryz.func29, Tryz.ntmps29
  go_wp2_with fail
  go_loopw [9, 0] (fun i s wr => (i = .int .i64 0 ∧ s = .slice (some ⟨ab, aoff, none⟩) A.length acap ∧ w = wr) ∨ (i = .int .i64 1 ∧ LooksAt wr s (A ++ B) ∧ Below w.heap.size w wr)) (fun i _ _ => 1 - (intOf i).toNat)
  case atStart => exact .inl ⟨rfl, rfl, rfl⟩
  case round =>
    rcases hrel with ⟨rfl, rfl, rfl⟩ | ⟨rfl, hL, hbl⟩
    · have hsl : ∀ w : World, (Instr.slice 42 (.slice (some ⟨ab, aoff, none⟩) A.length acap) none (some (.int .i64 A.length)) (some (.int .i64 A.length))).run Tryz.prog w = .ok (.slice (some ⟨ab, aoff, none⟩) A.length A.length) w := fun w => by
        simp [go_sem, Tryz.underlying42]
        intro h; omega
      go_wp2_with (at_builtin; refine wpList_append_grows _ rfl _ _ 42 rfl 41 i0 (.agg #[.int .i64 0, .int .i64 0]) 2 16 Tryz.underlying42 hi hz0 hz1 hz2 rfl (by decide) (some ⟨ab, aoff, none⟩) A.length A.length (lcells A) rfl (fun h => by cases h) (lcells_length A) (fun b hb j u hj => by cases hb; rw [Addr.add_mid]; exact HA.out j u hj) ⟨bb, boff, none⟩ B.length bcap (lcells B) rfl (lcells_length B) (fun j u hj => by rw [Addr.add_mid]; exact HB.out j u hj) (lcells_one B) (by omega) ?c4 ?c5 ?_)
      case c4 => unfold maxLen; omega
      case c5 => omega
      intro v' w1 hown hgrow
      have hb1 : Below w.heap.size w w1 := ⟨hgrow.os, hgrow.tape, hgrow.output, hgrow.size, fun k hk => hgrow.block k hk (by simp)⟩
      have hL1 := looks_of_owns (L := A ++ B) (by rw [List.length_append]) (by rw [List.length_append]; omega) (by rw [lcells_append]; exact hown)
      have HB1 := Lib.hid hb1
      have HL1 := Lib.hid hL1
      clear hown hgrow hb1 hL1 hsl
      go_wp2_with fail
      go_roundw
      case rel => exact .inr ⟨rfl, HL1.out, HB1.out⟩
      case measure => simp [intOf]
    · obtain ⟨lb, loff, lcap, rfl, hlr⟩ := hL
      have HLR := Lib.hid hlr
      have HBL := Lib.hid hbl
      clear hlr hbl
      go_wp2_with fail
      go_ret
      exact ⟨_, rfl, ⟨lb, loff, lcap, rfl, HLR.out⟩, HBL.out⟩

theorem isTrue_any (Wk n : Nat) (sa : Option Addr) (sc : Nat) (w : World) (h : w.cell? ⟨Wk, 142, none⟩ = some (.slice sa n sc)) :
    Calls Tryz.prog 30 #[.pointer (some ⟨Wk, 0, none⟩)] w fun e w' => e = .returned (.bool (decide (0 < n))) ∧ w = w' := by
  go_enter Tryz.func30, Tryz.ntmps30
  go_wp2_with fail
  go_ret
  exact ⟨rfl, rfl⟩
end Go.Proofs.YtejfelijhojndaaGreatDoor

/-
  tooth: begin, beginTrue, Filings, by contract.
-/
namespace Go.Proofs.YtejfelijhojndaaGreatDoor
open Go.RowKit Go.Proofs Go.Shelf

theorem TIn.below {nv dv lv : Value} {N D : List (List Int)} {L : List (Nat × Nat)} {w w' : World} (h : TIn nv dv lv N D L w) (hb : Below w.heap.size w w') : TIn nv dv lv N D L w' :=
  ⟨h.next.below hb, h.filed.below hb, h.looks.below hb, h.jaw⟩

def BeginEnd (s : List Nat × Nat) (w : World) (e : Ending) (w' : World) : Prop :=
  ∃ (Wk : Nat) (sa : Option Addr) (sc : Nat), e = .returned (.tuple #[.pointer (some ⟨Wk, 0, none⟩), .int .i64 0]) ∧ w'.cell? ⟨Wk, 142, none⟩ = some (.slice sa s.1.length sc) ∧ w'.cell? ⟨Wk, 143, none⟩ = some (.int .i64 (s.2 : Nat)) ∧ w.heap.size ≤ Wk ∧ Below w.heap.size w w'

set_option maxRecDepth 100000 in
set_option maxHeartbeats 1600000 in
theorem tbegin_any (nv dv lv ov : Value) (N D : List (List Int)) (L : List (Nat × Nat)) (n : Nat) (w : World) (hI : TIn nv dv lv N D L w) (hO : LooksOK L N.length) (hv : Ints w ov (List.replicate n 0)) (hn : n ≤ 100) :
    Calls Tryz.prog 26 #[jawV nv dv, lv, ov] w (BeginEnd (workS N D L) w) := by
  obtain ⟨W1, hW1⟩ : ∃ W1, w.alloc (.cells #[nv, dv] 34) = W1 := ⟨_, rfl⟩
  have hb1 : Below w.heap.size w W1 := by rw [← hW1]; exact (Below.refl _ w).alloc (Nat.le_refl _) _
  have hblk : W1.heap[w.heap.size]? = some (.cells #[nv, dv] 34 (0, 0)) := by rw [← hW1]; exact heap_new w _
  have q0 : W1.cell? ⟨w.heap.size, 0, none⟩ = some nv := by simp [World.cell?, hblk]
  have q1 : W1.cell? ⟨w.heap.size, 1, none⟩ = some dv := by simp [World.cell?, hblk]
  have hL4 := hO.le
  have C1 := Lib.hid (tcheckLooks_ok nv dv lv N D L W1 (hI.next.below hb1) (hI.filed.below hb1) hI.jaw (hI.looks.below hb1) hO)
  have C2 := Lib.hid (fun W' (hb : Below w.heap.size w W') => first_ok ov n W' (hv.same fun a u h => below_cell hb h) hn)
  have C3 := Lib.hid (fun W' => first_ok (.slice (some ⟨W'.heap.size, 0, none⟩) 2 2) 2 _ (zeros_new W' 43 2) (by omega))
  have C4 := Lib.hid (fun W' (hb : Below w.heap.size w W') => tnewWork_any nv dv lv N D L W' (hI.below hb) (by omega))
  have HB1 := Lib.hid hb1
  obtain ⟨nb, noff, ncap, rfl, _⟩ := hI.next
  obtain ⟨db, doff, dcap, rfl, _⟩ := hI.filed
  obtain ⟨lb, loff, lcap, rfl, _⟩ := hI.looks
  obtain ⟨oa, oc, rfl, _⟩ := hv
  rw [List.length_replicate] at C2 ⊢
  clear hblk hb1 hI hO
  unfold jawV at *
  go_enter Tryz.func26, Tryz.ntmps26
  go_wp2_with fail
  refine C1.out.mono ?_
  rintro e w2 ⟨rfl, hb2⟩
  have HB2 := Lib.hid (HB1.out.trans (hb2.mono HB1.out.size))
  have r0 := below_cell hb2 q0
  have r1 := below_cell hb2 q1
  clear hb2 q0 q1
  go_wp2_with fail
  refine (C2.out _ HB2.out).mono ?_
  rintro e w3 ⟨rfl, hb3⟩
  have HB3 := Lib.hid (HB2.out.trans (hb3.mono HB2.out.size))
  have s0 := below_cell hb3 r0
  have s1 := below_cell hb3 r1
  clear hb3 r0 r1
  go_wp2_with fail
  refine (C3.out w3).mono ?_
  rintro e w4 ⟨rfl, hb4'⟩
  have hb4 : Below w3.heap.size w3 w4 := ((Below.refl _ w3).alloc (Nat.le_refl _) _).trans (hb4'.mono (by simp))
  have HB4 := Lib.hid (HB3.out.trans (hb4.mono HB3.out.size))
  have t0 := below_cell hb4 s0
  have t1 := below_cell hb4 s1
  clear hb4 hb4' s0 s1
  go_wp2_with fail
  refine (C4.out w4 HB4.out).mono ?_
  rintro e w5 ⟨Wk, sa, sc, rfl, a0, a1, hlt, hb5⟩
  have HB5 := Lib.hid (HB4.out.trans (hb5.mono HB4.out.size))
  have hle := HB4.out.size
  have A0 := Lib.hid a0
  have A1 := Lib.hid a1
  clear a0 a1 hb5 t0 t1
  go_wp2_with fail
  go_ret2
  exact ⟨Wk, sa, sc, rfl, A0.out, A1.out, by omega, HB5.out⟩

set_option maxRecDepth 100000 in
set_option maxHeartbeats 1600000 in
theorem beginTrue_any (nv dv lv : Value) (N D : List (List Int)) (L : List (Nat × Nat)) (w : World) (hI : TIn nv dv lv N D L w) (hO : LooksOK L N.length) (hs : 0 < (workS N D L).1.length) :
    Calls Tryz.prog 31 #[jawV nv dv, lv, .slice none 0 0] w (BeginEnd (workS N D L) w) := by
  have hb1 : Below w.heap.size w (w.alloc (.cells #[nv, dv] 34)) := (Below.refl _ w).alloc (Nat.le_refl _) _
  have C1 := Lib.hid (tbegin_any nv dv lv (.slice none 0 0) N D L 0 _ (hI.below hb1) hO ⟨none, 0, rfl, fun h => by simp at h⟩ (by omega))
  have HB1 := Lib.hid hb1
  obtain ⟨nb, noff, ncap, rfl, _⟩ := hI.next
  obtain ⟨db, doff, dcap, rfl, _⟩ := hI.filed
  obtain ⟨lb, loff, lcap, rfl, _⟩ := hI.looks
  clear hb1 hI hO
  have hd : decide (0 < (workS N D L).1.length) = true := decide_eq_true hs
  unfold jawV at *
  go_enter Tryz.func31, Tryz.ntmps31
  go_wp2_with fail
  refine C1.out.mono ?_
  rintro e w2 ⟨Wk, sa, sc, rfl, a0, a1, hlt, hb2⟩
  have HB2 := Lib.hid (HB1.out.trans (hb2.mono HB1.out.size))
  have hle := HB1.out.size
  have A0 := Lib.hid a0
  have A1 := Lib.hid a1
  clear a0 a1 hb2
  go_wp2_with fail
  refine (isTrue_any Wk _ sa sc w2 A0.out).mono ?_
  rintro e w3 ⟨rfl, rfl⟩
  go_wp2_with fail
  go_ret2
  exact ⟨Wk, sa, sc, rfl, A0.out, A1.out, by omega, HB2.out⟩

def FilingsEnd (n : Nat) (w : World) (e : Ending) (w' : World) : Prop := e = .returned (.tuple #[.int .i64 (n : Nat), .int .i64 0]) ∧ Below w.heap.size w w'

set_option maxRecDepth 100000 in
set_option maxHeartbeats 1600000 in
theorem filings_any (nv dv lv : Value) (N D : List (List Int)) (L : List (Nat × Nat)) (w : World) (hI : TIn nv dv lv N D L w) (hO : LooksOK L N.length) (hs : 0 < (workS N D L).1.length) :
    Calls Tryz.prog 11 #[jawV nv dv, lv] w (FilingsEnd (workS N D L).2 w) := by
  have hb1 : Below w.heap.size w (w.alloc (.cells #[nv, dv] 34)) := (Below.refl _ w).alloc (Nat.le_refl _) _
  have C1 := Lib.hid (beginTrue_any nv dv lv N D L _ (hI.below hb1) hO hs)
  have HB1 := Lib.hid hb1
  obtain ⟨nb, noff, ncap, rfl, _⟩ := hI.next
  obtain ⟨db, doff, dcap, rfl, _⟩ := hI.filed
  obtain ⟨lb, loff, lcap, rfl, _⟩ := hI.looks
  clear hb1 hI hO
  unfold jawV at *
  go_enter Tryz.func11, Tryz.ntmps11
  go_wp2_with fail
  refine C1.out.mono ?_
  rintro e w2 ⟨Wk, sa, sc, rfl, a0, a1, hlt, hb2⟩
  have HB2 := Lib.hid (HB1.out.trans (hb2.mono HB1.out.size))
  clear hb2
  go_wp2_with fail
  go_ret2
  exact ⟨rfl, HB2.out⟩
end Go.Proofs.YtejfelijhojndaaGreatDoor

/-
  tooth: Alike, by contract.
-/
namespace Go.Proofs.YtejfelijhojndaaGreatDoor
open Go.RowKit Go.Proofs Go.Shelf

theorem ageTo_le {N : List (List Int)} {K : List Ch} {B : Nat} (h : KB K B) : ∀ a, (ageTo N K a).2 ≤ B
  | 0 => by simp [ageTo]
  | a + 1 => by
    rw [ageTo]
    split
    · exact offerL_le (ageTo_le h a) (KB.back h a 0)
    · exact ageTo_le h a
theorem workS_le {N : List (List Int)} (D : List (List Int)) {L : List (Nat × Nat)} (h8 : N.length ≤ 8) (hL : L.length ≤ 100) : (workS N D L).2 ≤ 1000000 := by
  refine ageTo_le ((KB.year N D L 7).mono ?_) 13
  have h2 : L.length * N.length ≤ 100 * 8 := Nat.mul_le_mul hL h8
  omega

def alikeB (N D : List (List Int)) (A B : List (Nat × Nat)) : Bool := decide (0 < (workS N D (A ++ B)).1.length) && decide ((workS N D (A ++ B)).2 ≤ (workS N D A).2 + (workS N D B).2)
def AlikeEnd (b : Bool) (w : World) (e : Ending) (w' : World) : Prop := e = .returned (.tuple #[.bool b, .int .i64 0]) ∧ Below w.heap.size w w'

set_option maxRecDepth 100000 in
set_option maxHeartbeats 3200000 in
theorem alike_any (nv dv av bv : Value) (N D : List (List Int)) (A B : List (Nat × Nat)) (w : World) (hN : RowsAt w nv N) (hD : RowsAt w dv D) (hJ : JawOK N D) (hA : LooksAt w av A) (hB : LooksAt w bv B) (oA : LooksOK A N.length) (oB : LooksOK B N.length)
    (hA0 : 0 < A.length) (hB0 : 0 < B.length) (hcap : ∀ a n c, av = .slice a n c → n ≤ c) :
    Calls Tryz.prog 10 #[jawV nv dv, av, bv] w (AlikeEnd (alikeB N D A B) w) := by
  obtain ⟨W1, hW1⟩ : ∃ W1, w.alloc (.cells #[nv, dv] 34) = W1 := ⟨_, rfl⟩
  have hb1 : Below w.heap.size w W1 := by rw [← hW1]; exact (Below.refl _ w).alloc (Nat.le_refl _) _
  have hblk : W1.heap[w.heap.size]? = some (.cells #[nv, dv] 34 (0, 0)) := by rw [← hW1]; exact heap_new w _
  have q0 : W1.cell? ⟨w.heap.size, 0, none⟩ = some nv := by simp [World.cell?, hblk]
  have q1 : W1.cell? ⟨w.heap.size, 1, none⟩ = some dv := by simp [World.cell?, hblk]
  have hlA := oA.le
  have hN8 := hJ.le
  have hlB := oB.le
  have IA : TIn nv dv av N D A w := ⟨hN, hD, hA, hJ⟩
  have IB : TIn nv dv bv N D B w := ⟨hN, hD, hB, hJ⟩
  have C1 := Lib.hid (fun W' (hb : Below w.heap.size w W') => tlooks_ok nv dv bv N B W' (hN.below hb) (by obtain ⟨b, off, cap, h, _⟩ := hD; exact ⟨_, _, _, h⟩) hJ.le (hB.below hb) oB)
  have C2 := Lib.hid (fun W' (hb : Below w.heap.size w W') => tbegin_any nv dv av (.slice (some ⟨W'.heap.size, 0, none⟩) 1 1) N D A 1 _ (IA.below (hb.alloc hb.size _)) oA (zeros_new W' 43 1) (by omega))
  have C3 := Lib.hid (fun W' (hb : Below w.heap.size w W') => tnewWork_any nv dv bv N D B W' (IB.below hb) (by omega))
  have C4 := Lib.hid (fun W' ob (hb : Below w.heap.size w W') (ho : W'.cell? ⟨ob, 0, none⟩ = some bv) => merge_any ob av bv A B W' (hA.below hb) (hB.below hb) ho hA0 hB0 (by omega) (by omega) hcap)
  have C5 := Lib.hid (fun W' v (hb : Below w.heap.size w W') (hv : LooksAt W' v (A ++ B)) => tnewWork_any nv dv v N D (A ++ B) W' ⟨hN.below hb, hD.below hb, hv, hJ⟩ (by rw [List.length_append]; omega))
  have HB1 := Lib.hid hb1
  have HQ := Lib.hid (fun W' (hb : Below W1.heap.size W1 W') => And.intro (below_cell hb q0) (below_cell hb q1))
  obtain ⟨nb, noff, ncap, rfl, _⟩ := hN
  obtain ⟨db, doff, dcap, rfl, _⟩ := hD
  obtain ⟨ab, aoff, acap, rfl, _⟩ := hA
  obtain ⟨bb, boff, bcap, rfl, _⟩ := hB
  clear hblk hb1 hJ oA oB IA IB hcap
  unfold jawV at *
  have hd0 := (HQ.out W1.drew ((Below.refl _ W1).drew))
  have hbd := HB1.out.drew
  go_enter Tryz.func10, Tryz.ntmps10
  go_wp2_with fail
  go_region_held3 (fun w' => w'.cell? ⟨w.heap.size, 0, none⟩ = some (.slice (some ⟨nb, noff, none⟩) N.length ncap) ∧ w'.cell? ⟨w.heap.size, 1, none⟩ = some (.slice (some ⟨db, doff, none⟩) D.length dcap))
    (first | exact hd0 | exact HQ.out _ hb2 | exact HQ.out _ (hb2.alloc hb2.size _) | exact HQ.out _ hb3 | go_keep)
    (first
      | (go_at_call 27; refine (C1.out _ hbd).mono ?_; rintro e w2 ⟨rfl, hb2'⟩; have hb2 := (Below.refl W1.heap.size W1).drew.trans hb2')
      | (go_at_call 26; refine (C2.out w2 (HB1.out.trans (hb2.mono HB1.out.size))).mono ?_; rintro e w3 ⟨Wa, sa, sc, rfl, a0, a1, hla, hb3'⟩; have hb3 := hb2.trans (((Below.refl _ w2).alloc (Nat.le_refl _) _ |>.trans (hb3'.mono (by simp))).mono hb2.size)))
  have HB3 := Lib.hid (HB1.out.trans (hb3.mono HB1.out.size))
  have hd3 := HQ.out _ (hb3.drew)
  have h3 := HQ.out _ hb3
  have HQ3 := Lib.hid (fun W' (hb : Below w3.heap.size w3 W') => HQ.out W' (hb3.trans (hb.mono hb3.size)))
  have HA3 := Lib.hid (fun W' (hb : Below w3.heap.size w3 W') => And.intro (below_cell hb a0) (below_cell hb a1))
  clear hb2 hb2' hb3 hb3' hd0 hbd q0 q1 a0 a1
  have hbw3 : Below w3.heap.size w3 w3.drew := (Below.refl _ w3).drew
  have hx3 : Below w3.heap.size w3 (w3.alloc (.cells #[.slice (some ⟨bb, boff, none⟩) B.length bcap] 42)).drew := ((Below.refl _ w3).alloc (Nat.le_refl _) _).drew
  have e3 := HQ3.out _ hbw3
  go_wp2_with fail
  go_region_held3 (fun w' => w'.cell? ⟨w.heap.size, 0, none⟩ = some (.slice (some ⟨nb, noff, none⟩) N.length ncap) ∧ w'.cell? ⟨w.heap.size, 1, none⟩ = some (.slice (some ⟨db, doff, none⟩) D.length dcap))
    (first | exact e3 | exact HQ3.out _ hx3 | exact HQ3.out _ hb4 | exact HQ3.out _ (hb4.alloc hb4.size _) | exact HQ3.out _ hb5 | exact HQ3.out _ hb6 | go_keep)
    (first
      | (go_at_call 28; ((with_reducible refine (C3.out w3.drew (HB3.out.trans (hbw3.mono HB3.out.size))).mono ?_); rintro e w4 ⟨Wb, sb, cb, rfl, b0, b1, hlb, hb4'⟩; have hb4 := hbw3.trans (hb4'.mono hbw3.size); have hoA : (w4.alloc (.cells #[.slice (some ⟨bb, boff, none⟩) B.length bcap] 42)).cell? ⟨w4.heap.size, 0, none⟩ = some (.slice (some ⟨bb, boff, none⟩) B.length bcap) := World.cell?_alloc_new w4 _ _ 0))
      | (go_at_call 28; ((with_reducible refine (C3.out (w3.alloc (.cells #[.slice (some ⟨bb, boff, none⟩) B.length bcap] 42)).drew (HB3.out.trans (hx3.mono HB3.out.size))).mono ?_); rintro e w4 ⟨Wb, sb, cb, rfl, b0, b1, hlb, hb4'⟩; have hb4 := hx3.trans (hb4'.mono hx3.size); have hoB : w4.cell? ⟨w3.heap.size, 0, none⟩ = some (.slice (some ⟨bb, boff, none⟩) B.length bcap) := below_cell hb4' (show (w3.alloc (.cells #[.slice (some ⟨bb, boff, none⟩) B.length bcap] 42)).drew.cell? ⟨w3.heap.size, 0, none⟩ = _ from World.cell?_alloc_new w3 _ _ 0)))
      | (go_at_call 29; ((with_reducible refine (C4.out (w4.alloc (.cells #[.slice (some ⟨bb, boff, none⟩) B.length bcap] 42)) w4.heap.size (HB3.out.trans ((hb4.alloc hb4.size _).mono HB3.out.size)) hoA).mono ?_); rintro e w5 ⟨mv, rfl, hlm, hb5'⟩; have hb5 := (hb4.alloc hb4.size (.cells #[.slice (some ⟨bb, boff, none⟩) B.length bcap] 42)).trans (hb5'.mono (hb4.alloc hb4.size (.cells #[.slice (some ⟨bb, boff, none⟩) B.length bcap] 42)).size); have hb45 : Below w4.heap.size w4 w5 := ((Below.refl _ w4).alloc (Nat.le_refl _) _).trans (hb5'.mono (by simp))))
      | (go_at_call 29; ((with_reducible refine (C4.out w4 w3.heap.size (HB3.out.trans (hb4.mono HB3.out.size)) hoB).mono ?_); rintro e w5 ⟨mv, rfl, hlm, hb5'⟩; have hb5 := hb4.trans (hb5'.mono hb4.size); have hb45 : Below w4.heap.size w4 w5 := hb5'))
      | (go_at_call 28; refine (C5.out w5 mv (HB3.out.trans (hb5.mono HB3.out.size)) hlm).mono ?_; rintro e w6 ⟨Wm, sm, cm, rfl, m0, m1, hlm2, hb6'⟩; have hb6 := hb5.trans (hb6'.mono hb5.size); have hb46 := hb45.trans (hb6'.mono hb45.size))
      | fail)
  all_goals
    have HB6 := Lib.hid (HB3.out.trans (hb6.mono HB3.out.size))
    have ka := (HA3.out _ hb6).2
    have kb := below_cell hb46 b1
    have ba := workS_le D (L := A) hN8 (by omega)
    have bb' := workS_le D (L := B) hN8 (by omega)
    have hal := Lib.hid (show alikeB N D A B = (decide (0 < (workS N D (A ++ B)).1.length) && decide ((workS N D (A ++ B)).2 ≤ (workS N D A).2 + (workS N D B).2)) from rfl)
    have IT := Lib.hid (fun k => isTrue_any Wm _ sm cm (w6.drewN k) m0)
    clear hb4 hb4' hb5 hb5' hb6 hb6' hb45 hb46 hlm hlm2 hlb hla b0 b1 m0 e3 hd3 h3 hbw3 hx3
    try clear hoA
    try clear hoB
    generalize (workS N D A).2 = ca at *
    generalize (workS N D B).2 = cb' at *
    generalize (workS N D (A ++ B)).2 = cm' at *
    have hwr : IntKind.i64.wrap ((ca : Int) + (cb' : Int)) = (ca : Int) + (cb' : Int) := IntWalk.i64_in _ (by omega)
    by_cases hp : 0 < (workS N D (A ++ B)).1.length
    · rw [decide_eq_true hp] at IT hal
      have HI := Lib.hid (fun k => (IT.out k).mono (R' := fun e w' => e = .returned (.bool true) ∧ w' = w6.drewN k) fun _ _ h => ⟨h.1, h.2.symm⟩)
      clear IT hp
      go_wp2_with fail
      go_quiet ((go_at_call 30; exact Calls.quiet_of_same (HI.out _)))
      go_wp2_with fail
      go_ret2
      refine ⟨?_, HB6.out.drewK _⟩
      rw [hal.out, Bool.true_and, show decide (cm' ≤ ca + cb') = decide ((cm' : Int) ≤ (ca : Int) + (cb' : Int)) from decide_eq_decide.2 (by omega)]
      rfl
    · rw [decide_eq_false hp] at IT hal
      have HI := Lib.hid (fun k => (IT.out k).mono (R' := fun e w' => e = .returned (.bool false) ∧ w' = w6.drewN k) fun _ _ h => ⟨h.1, h.2.symm⟩)
      clear IT hp
      go_wp2_with fail
      go_quiet ((go_at_call 30; exact Calls.quiet_of_same (HI.out _)))
      go_wp2_with fail
      go_ret2
      refine ⟨?_, HB6.out.drewK _⟩
      rw [hal.out]
      rfl
end Go.Proofs.YtejfelijhojndaaGreatDoor
