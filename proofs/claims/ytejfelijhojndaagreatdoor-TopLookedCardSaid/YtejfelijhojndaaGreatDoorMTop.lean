/-
  palfreytop: TopLooked, by contract.
-/
import Derived.Test.YtejfelijhojndaaGreatDoorMTopR
import Derived.Deep.CutRange
import Derived.Deep.CutBlock
import Derived.Deep.RegionHeld3
namespace Go.Proofs.YtejfelijhojndaaGreatDoor
open Go.RowKit Go.Proofs Go.Shelf

theorem Tryz.infoLooks : (Tryz.prog.info? 42).map (fun i => (i.zero, i.size, i.bytes)) = some (some (.slice none 0 0), 1, 24) := by kernel_rfl

set_option maxRecDepth 100000 in
set_option maxHeartbeats 1600000 in
theorem topLooked_any (a : Option Addr) (len cap : Nat) (w : World) (h : ∀ j, j < len → ∃ nb off x, a = some ⟨nb, off, none⟩ ∧ nb < w.heap.size ∧ w.cell? ⟨nb, off + j, none⟩ = some (.int .i64 x)) :
    Calls Tryz.prog 3 #[.slice a len cap] w (fun e w' => e = .returned (.bool true) ∧ Below w.heap.size w w') := by
  obtain ⟨i0, hi, hz0, hz1, hz2⟩ := info_parts Tryz.infoInts
  have HNB := Lib.hid (newBag_any a len cap w h)
  clear h
  go_enter Tryz.func3, Tryz.ntmps3
  go_wp2_with fail
  refine HNB.out.mono ?_
  rintro e w1 ⟨rfl, hB1, hbl1⟩
  obtain ⟨b, hb⟩ : ∃ b, b = w.heap.size := ⟨_, rfl⟩
  rw [← hb] at hB1 ⊢
  have hbw1 := hB1.lt
  have HBL1 := Lib.hid hbl1
  have HBE := Lib.hid hb
  clear hbl1 hb HNB
  go_wp2_with fail
  refine (seenOf_any b 0 w1 hB1 (by omega)).mono ?_
  rintro e w2 ⟨ev, rv, hv, Z, I, La, hs, M, sF, sT, dye, most, t2, rfl, hE, hR, hI, hM, hF, hsT, hZ5, hm1, hm3, ht2, hB2, hk2⟩
  have HE := Lib.hid hE
  have HR := Lib.hid hR
  have HI := Lib.hid hI
  have HM := Lib.hid hM
  have HF := Lib.hid hF
  have HK2 := Lib.hid hk2
  obtain ⟨ea, ec, rfl, -⟩ := hE
  obtain ⟨rg, roff, rcap, rfl, -⟩ := hR
  obtain ⟨ha, hc, rfl, -⟩ := hI
  clear hM hF hk2
  unfold fairV
  go_wp2_with fail
  obtain ⟨f4, hf4⟩ : ∃ x, x = w2.heap.size := ⟨_, rfl⟩
  obtain ⟨w3, hw3⟩ : ∃ x, x = w2.alloc (.cells #[.slice ea Z.length ec, .slice (some ⟨rg, roff, none⟩) M.length rcap, .int .i64 sF, .int .i64 sT, .int .i64 dye, .int .i64 most] 30) := ⟨_, rfl⟩
  rw [← hw3, ← hf4]
  have hbf3 : w3.heap[f4]? = some (.cells #[.slice ea Z.length ec, .slice (some ⟨rg, roff, none⟩) M.length rcap, .int .i64 sF, .int .i64 sT, .int .i64 dye, .int .i64 most] 30 (0, 0)) := by rw [hw3, hf4]; exact heap_new w2 _
  have hb3 : Kept b w2 w3 := by rw [hw3]; exact (Kept.refl b w2).alloc _
  have hB3 : Bag w3 b t2 := by rw [hw3]; exact hB2.alloc _
  have HBF3 := Lib.hid hbf3
  have HB3 := Lib.hid hb3
  have HF4 := Lib.hid hf4
  clear hw3 hf4 hbf3 hb3 hB2
  refine (jawOf_any b t2 6 w3 hB3 (by omega) (by omega) (by omega)).mono ?_
  rintro e w4 ⟨N, D, nv, dv, t4, rfl, hN, hD, hJ, hN6, ht4, hB4, hk4⟩
  have hs2 := HK2.out.size
  have hs3 := HB3.out.size
  have hs4 := hk4.size
  have hf3 := (Array.getElem?_eq_some_iff.1 HBF3.out).1
  obtain ⟨j6, hj6⟩ : ∃ x, x = w4.heap.size := ⟨_, rfl⟩
  have HJ := Lib.hid hJ
  have hN0 := hJ.pos
  have hN8 := hJ.le
  have HFX4 : Hid (TFix f4 j6 (.slice ea Z.length ec) (.slice (some ⟨rg, roff, none⟩) M.length rcap) (.slice ha I.length hc) nv dv Z I M N D sF sT dye most (fun g => b + 1 ≤ g ∧ (Value.slice none 0 0).ownBlock ≠ some g) (w4.alloc (.cells #[nv, dv] 34))) := by
    have k24 : Kept b w2 (w4.alloc (.cells #[nv, dv] 34)) := (HB3.out.trans hk4).alloc _
    have old : ∀ g, g < w2.heap.size → g ≠ b → (w4.alloc (.cells #[nv, dv] 34)).heap[g]? = w2.heap[g]? := fun g hg hb => k24.block g hg hb
    have pn : ∀ g : Nat, (Value.slice none 0 0).ownBlock ≠ some g := fun g => by simp [Value.ownBlock]
    have up : ∀ g, g < w4.heap.size → (w4.alloc (.cells #[nv, dv] 34)).heap[g]? = w4.heap[g]? := fun g hg => Below.heap_alloc _ _ _ hg
    exact ⟨HE.out.step k24.size (fun g hg hp => old g hg (by omega)) (fun g _ hp => ⟨by omega, pn g⟩), HR.out.step k24.size (fun g hg hp => old g hg (by omega)) (fun g _ hp => ⟨by omega, pn g⟩), HI.out.step k24.size (fun g hg hp => old g hg (by omega)) (fun g _ hp => ⟨by omega, pn g⟩),
      hN.step (by simp) (fun g hg _ => up g hg) (fun g _ hp => ⟨by omega, pn g⟩), hD.step (by simp) (fun g hg _ => up g hg) (fun g _ hp => ⟨by omega, pn g⟩), ⟨by have := HF4.out; omega, pn _⟩, ⟨by omega, pn _⟩,
      (up f4 (by omega)).trans ((hk4.block f4 hf3 (by have := HF4.out; omega)).trans HBF3.out), by rw [hj6]; exact heap_new w4 _⟩
  have hnvs : ∃ g o c, nv = .slice (some ⟨g, o, none⟩) N.length c := by obtain ⟨g, o, c, h, _⟩ := hN; exact ⟨g, o, c, h⟩
  have hdvs : ∃ g o c, dv = .slice (some ⟨g, o, none⟩) D.length c := by obtain ⟨g, o, c, h, _⟩ := hD; exact ⟨g, o, c, h⟩
  obtain ⟨ng, no, nc, rfl⟩ := hnvs
  obtain ⟨dg, do', dc, rfl⟩ := hdvs
  have HBW : Hid (Below w.heap.size w (w4.alloc (.cells #[.slice (some ⟨ng, no, none⟩) N.length nc, .slice (some ⟨dg, do', none⟩) D.length dc] 34))) :=
    below_kept (b := b) (by rw [HBE.out]; exact Nat.le_refl _) HBL1.out ((((HK2.out.trans HB3.out).trans hk4)).alloc _)
  have hB5 := hB4.alloc (.cells #[.slice (some ⟨ng, no, none⟩) N.length nc, .slice (some ⟨dg, do', none⟩) D.length dc] 34)
  clear hN hD hJ hk4 hB4 hB3 HB3 HBF3 HK2 HE HR HI HBL1
  unfold jawV
  go_wp2_with fail
  obtain ⟨w5, hw5⟩ : ∃ x, x = w4.alloc (.cells #[.slice (some ⟨ng, no, none⟩) N.length nc, .slice (some ⟨dg, do', none⟩) D.length dc] 34) := ⟨_, rfl⟩
  rw [← hw5] at HFX4 HBW hB5
  have hw5s : w4.heap.size < w5.heap.size := by rw [hw5]; simp
  rw [← hw5, ← hj6]
  have hj6l : j6 < w5.heap.size := by omega
  clear hw5 hj6
  go_loopw [7, 8] (fun V i wr => ∃ (k : Nat) (xs : List Value), k ≤ most ∧ i = .int .i64 k ∧ TRel b (t4 + 10 * k) (b + 1) w5.heap.size 22 (TFix f4 j6 (.slice ea Z.length ec) (.slice (some ⟨rg, roff, none⟩) M.length rcap) (.slice ha I.length hc) (.slice (some ⟨ng, no, none⟩) N.length nc) (.slice (some ⟨dg, do', none⟩) D.length dc) Z I M N D sF sT dye most) (fun _ u => CourseV N u) w5 wr V k xs) (fun _ i _ => most - (intOf i).toNat)
  case atStart => exact ⟨0, [], Nat.zero_le _, rfl, ⟨_, by omega, hB5⟩, Kept.refl _ _, World.ownsRow_nil _ _ _ _, HFX4.out, fun j hj => by omega⟩
  case round =>
    clear HFX4 hB5
    obtain ⟨k, xs, hk, rfl, T1⟩ := hrel
    obtain ⟨t6, ht6, hB6⟩ := T1.bag
    obtain ⟨q0, q1, q2, q3, q4, q5⟩ := six_cells T1.fix.bf
    obtain ⟨p0, p1⟩ : wr.cell? ⟨j6, 0, none⟩ = some (.slice (some ⟨ng, no, none⟩) N.length nc) ∧ wr.cell? ⟨j6, 1, none⟩ = some (.slice (some ⟨dg, do', none⟩) D.length dc) := by simp [World.cell?, T1.fix.bj]
    have HT := Lib.hid T1
    clear T1
    by_cases hlt : k < most
    · have hklt : (k : Int) < (most : Int) := by omega
      go_wp2_with fail
      refine (mouthsOf_any b t6 3 N D _ _ wr hB6 (by omega) (by omega) (HT.out.fix.next.step (Nat.le_refl _) (fun _ _ _ => rfl) (fun g _ hp => by have := hp.1; omega)) ⟨_, _, _, rfl⟩ HJ.out).mono ?_
      rintro e w6 ⟨age, l, v, t7, hage, rfl, hl3, hC, hIv, ht7, hB7, hk7⟩
      obtain ⟨va, vc, rfl⟩ : ∃ va vc, v = .slice va l.length vc := by obtain ⟨va, vc, h, _⟩ := hIv; exact ⟨va, vc, by simpa using h⟩
      have HT6 := Lib.hid (HT.out.keep (T' := t4 + 10 * (k + 1)) (TFix.stable _ _ _ _ _ _ _ _ _ _ _ _ _ _ _ _) (fun _ u => CourseV.stable N u) (by omega) (by omega) hk7 hB7 (by omega))
      have HCV := Lib.hid (And.intro hC hIv)
      have HL3 := Lib.hid hl3
      clear hk7 hB7 hC hIv hl3
      go_wp2_with (at_builtin; refine wpList_append_lies _ rfl _ _ _ rfl w5.heap.size 22 i0 (.slice none 0 0) 1 24 (by first | rfl | kernel_rfl) hi hz0 hz1 hz2 rfl (by decide) u7 k xs rfl (HT6.out.own.alloc _) ⟨w6.heap.size, 0, none⟩ 1 1 [.slice va l.length vc] rfl rfl ?a1 ?a2 (by decide) ?a3 ?a4 ?a5 _ rfl ?_)
      case a1 => first | exact World.news_of_block (heap_new w6 _) | exact fun _ _ hu => hu
      case a2 => intro u hu; simp at hu; subst hu; rfl
      case a3 => unfold maxLen; omega
      case a4 => omega
      case a5 => have h1 := HT6.out.kept.size; simp; omega
      intro g6 cap6 w7 own6 grow6 at6 lt6
      have HT7 := Lib.hid (HT6.out.push (x := .slice va l.length vc) (TFix.stable _ _ _ _ _ _ _ _ _ _ _ _ _ _ _ _) (fun _ u => CourseV.stable N u) (by omega) (by omega) (Nat.le_refl _) ((Below.refl _ w6).alloc (Nat.le_refl _) _) (by simpa using own6) grow6 (at6.imp id (fun h => by omega)) ⟨age, l, hage, HL3.out, HCV.out.1, HCV.out.2.step (Nat.le_refl _) (fun _ _ _ => rfl) (fun g _ hp => ⟨by have := HT.out.kept.size; omega, fun e => by have := (HT.out.own.lt g e).2; omega⟩)⟩)
      clear own6 grow6 at6
      go_wp2_with fail
      go_roundw
      case rel => exact ⟨k + 1, _, by omega, by go_num, HT7.out⟩
      case measure => simp [intOf]; omega
    · obtain rfl : k = most := by omega
      have hklt : (k : Int) ≤ (k : Int) := by omega
      clear hlt
      obtain ⟨Ag, C, hVF, hFX⟩ := HT.out.mouths (TFix.stable _ _ _ _ _ _ _ _ _ _ _ _ _ _ _ _) (by omega) (by omega)
      obtain ⟨gV, vcap, hV7, -⟩ := hVF.val
      have HFX := Lib.hid hFX
      have HVF := Lib.hid hVF
      have HTK := Lib.hid HT.out.kept
      have hbr := hB6.lt
      clear hFX hVF
      obtain ⟨wk, rfl⟩ : ∃ x, x = wr := ⟨_, rfl⟩
      go_wp2_with fail
      go_loopw [11, 12] (fun U i wu => ∃ (j : Nat) (ys : List Value), j ≤ I.length ∧ i = .int .i64 j ∧ TRel b (t6 + j) (b + 1) wk.heap.size 42 (fun P w => TFix f4 j6 (.slice ea Z.length ec) (.slice (some ⟨rg, roff, none⟩) M.length rcap) (.slice ha I.length hc) (.slice (some ⟨ng, no, none⟩) N.length nc) (.slice (some ⟨dg, do', none⟩) D.length dc) Z I M N D sF sT dye k P w ∧ VFix N u7 k Ag C P w) (LookX I C) wk wu U j ys) (fun _ i _ => I.length - (intOf i).toNat)
      case atStart => exact ⟨0, [], Nat.zero_le _, rfl, ⟨_, by omega, hB6⟩, Kept.refl _ _, World.ownsRow_nil _ _ _ _, ⟨HFX.out, HVF.out⟩, fun j hj => by omega⟩
      case round =>
        clear HFX HVF hB6
        obtain ⟨j, ys, hj, rfl, U1⟩ := hrel
        obtain ⟨t8, ht8, hB8⟩ := U1.bag
        have HU := Lib.hid U1
        clear U1
        have hI5 : I.length ≤ 5 := by have := HM.out.len; omega
        by_cases hlt : j < I.length
        · have hjlt : (j : Int) < (I.length : Int) := by omega
          go_wp2_with fail
          refine (upTo_any b t8 2 _ hB8 (by omega) (by omega) (by omega)).mono ?_
          rintro e w8 ⟨y', hy1, hy2, rfl, hB9, hk9⟩
          obtain ⟨y, rfl⟩ := Int.eq_ofNat_of_zero_le hy1
          have hy2' : y ≤ 2 := by omega
          have HU8 := Lib.hid (HU.out.keep (T' := t6 + (j + 1)) (Stable.both (TFix.stable _ _ _ _ _ _ _ _ _ _ _ _ _ _ _ _) (VFix.stable _ _ _ _ _)) (fun j u => LookX.stable I C j u) (by omega) (by omega) hk9 hB9 (by omega))
          obtain ⟨hIj, hmost⟩ := HM.out.horse (j := j) (by have := HM.out.len; omega)
          -- the cells
          obtain ⟨ha', hc', he', hd'⟩ := HU8.out.fix.1.hor
          obtain ⟨hb', ho', rfl, _, _, hcell⟩ := hd' (by omega)
          cases he'
          have c1 := hcell j hlt
          rw [hIj, Option.getD_some] at c1
          obtain ⟨gV2, vc2, hv2, _, _, hvc⟩ := HU8.out.fix.2.val
          rw [hV7] at hv2
          cases hv2
          obtain ⟨u, c2, hIu⟩ := hvc (hOf I j) hmost
          obtain ⟨_, hl3, _⟩ := HU8.out.fix.2.age (hOf I j) hmost
          obtain ⟨ua, uc, rfl, hud⟩ := hIu
          obtain ⟨ub, uo, rfl, _, _, huc⟩ := hud (by simp; omega)
          have c3 := huc y (by simp; omega)
          have hs3 : (List.map Int.ofNat (C (hOf I j)))[y]?.getD 0 = (((C (hOf I j))[y]?.getD 0 : Nat) : Int) := by
            rw [List.getElem?_map, List.getElem?_eq_getElem (show y < (C (hOf I j)).length by omega)]; rfl
          rw [hs3] at c3
          rw [List.length_map, hl3] at c2
          obtain ⟨s, hs⟩ : ∃ s, s = (C (hOf I j))[y]?.getD 0 := ⟨_, rfl⟩
          rw [← hs] at c3
          obtain ⟨hj', hhj⟩ : ∃ x, x = hOf I j := ⟨_, rfl⟩
          rw [← hhj] at c1 c2 hmost
          have HS := Lib.hid hs
          have HHJ := Lib.hid hhj
          have HB9 := Lib.hid hB9
          clear hk9 hB8 hB9 hs hhj hs3 hud huc hvc hcell hd' hl3 hIj
          have i1 : (0 : Int) ≤ (hj' : Int) := by omega
          have i2 : (hj' : Int) < (k : Int) := by omega
          have i3 : (0 : Int) ≤ (y : Int) := by omega
          have i4 : (y : Int) < 3 := by omega
          have i5 : (0 : Int) ≤ (j : Int) := by omega
          subst hV7
          obtain ⟨l0, hl0, ly0, ly1, ly2⟩ := info_parts Tryz.infoLooks
          go_wp2_with (at_builtin; go_loud (refine wpList_append_lies _ rfl _ _ _ rfl wk.heap.size 42 l0 (.slice none 0 0) 1 24 (by first | rfl | kernel_rfl) hl0 ly0 ly1 ly2 rfl (by decide) u11 j ys rfl ((HU8.out.own.alloc _).alloc _) ⟨w8.heap.size + 1, 0, none⟩ 1 1 [.slice (some ⟨w8.heap.size, 0, none⟩) 1 1] rfl rfl ?b1 ?b2 (by decide) ?b3 ?b4 ?b5 _ rfl ?_))
          case b1 => first | exact World.news_of_block (by simpa using heap_new (w8.alloc _) _) | exact fun _ _ hu => hu
          case b2 => intro u hu; simp at hu; subst hu; rfl
          case b3 => unfold maxLen; omega
          case b4 => omega
          case b5 => have h1 := HU8.out.kept.size; simp; omega
          intro g6 cap6 w9 own6 grow6 at6 lt6
          have HU9 := Lib.hid (HU8.out.below (Stable.both (TFix.stable _ _ _ _ _ _ _ _ _ _ _ _ _ _ _ _) (VFix.stable _ _ _ _ _)) (fun j u => LookX.stable I C j u) (by omega) (by omega) ((Below.refl _ w8).alloc (Nat.le_refl _) (.cells #[.int .i64 (y : Int), .int .i64 (s : Int)] 41)))
          have hlook : LookX I C j (.slice (some ⟨w8.heap.size, 0, none⟩) 1 1) (fun g => b + 1 ≤ g ∧ u11.ownBlock ≠ some g) (w8.alloc (.cells #[.int .i64 (y : Int), .int .i64 (s : Int)] 41)) := by
            refine ⟨y, hy2', ?_⟩
            rw [← HS.out]
            exact ⟨w8.heap.size, _, rfl, ⟨by have := HB9.out.lt; omega, fun e => by have := (HU8.out.own.lt _ e).2; omega⟩, heap_new w8 _⟩
          have HU10 := Lib.hid (HU9.out.push (x := .slice (some ⟨w8.heap.size, 0, none⟩) 1 1) (Stable.both (TFix.stable _ _ _ _ _ _ _ _ _ _ _ _ _ _ _ _) (VFix.stable _ _ _ _ _)) (fun j u => LookX.stable I C j u) (by omega) (by omega) (Nat.le_refl _) ((Below.refl _ _).alloc (Nat.le_refl _) _) (by simpa using own6) grow6 (at6.imp id (fun h => by simp at h ⊢; omega)) hlook)
          clear own6 grow6 at6 hlook HU8 HU9
          go_wp2_with fail
          go_roundw
          case rel => exact ⟨j + 1, _, by omega, by go_num, HU10.out⟩
          case measure => simp [intOf]; omega
        · obtain rfl : j = I.length := by omega
          have hjlt : (I.length : Int) ≤ (I.length : Int) := by omega
          clear hlt hj
          obtain ⟨hLF, hFX2⟩ := HU.out.looks (Stable.both (TFix.stable _ _ _ _ _ _ _ _ _ _ _ _ _ _ _ _) (VFix.stable _ _ _ _ _)) (by omega)
          have HLF := Lib.hid hLF
          have HFX := Lib.hid hFX2.1
          have HAG := Lib.hid hFX2.2.age
          have HWL := Lib.hid (below_kept (b := b) (by rw [HBE.out]; exact Nat.le_refl _) HBW.out (HTK.out.trans HU.out.kept))
          obtain ⟨wl, rfl⟩ : ∃ x, x = wr := ⟨_, rfl⟩
          clear hLF hFX2 HTK HBW HU hB8
          subst hV7
          go_wp2_with fail
          go_loopw [14] (fun i wr => ∃ i' : Nat, i' ≤ I.length ∧ i = .int .i64 i' ∧ Below wl.heap.size wl wr) (fun i _ => I.length - (intOf i).toNat)
          case atStart => exact ⟨0, Nat.zero_le _, rfl, Below.refl _ _⟩
          case round =>
            obtain ⟨x, hx, rfl, hbx⟩ := hrel
            have HBX := Lib.hid hbx
            clear hbx
            by_cases hlt : x < I.length
            · have hxlt : (x : Int) < (I.length : Int) := by omega
              go_wp2_with fail
              go_loopw [15] (fun i wr => ∃ k' : Nat, k' ≤ x ∧ i = .int .i64 k' ∧ Below wl.heap.size wl wr) (fun i _ => x - (intOf i).toNat)
              case atStart => exact ⟨0, Nat.zero_le _, rfl, HBX.out⟩
              case round =>
                obtain ⟨z, hz, rfl, hbz⟩ := hrel
                have HBZ := Lib.hid hbz
                clear hbz
                by_cases hlz : z < x
                · have hzlt : (z : Int) < (x : Int) := by omega
                  -- what lies in memory
                  have HT := Lib.hid (Stable.at_below (TFix.stable _ _ _ _ _ _ _ _ _ _ _ _ _ _ _ _) HBZ.out HFX.out)
                  have HL := Lib.hid (Stable.at_below (LFix.stable _ _ _ _) HBZ.out HLF.out)
                  obtain ⟨q0, q1, q2, q3, q4, q5⟩ := six_cells HT.out.bf
                  obtain ⟨p0, p1⟩ : wr.cell? ⟨j6, 0, none⟩ = some (.slice (some ⟨ng, no, none⟩) N.length nc) ∧ wr.cell? ⟨j6, 1, none⟩ = some (.slice (some ⟨dg, do', none⟩) D.length dc) := by simp [World.cell?, HT.out.bj]
                  have HS := Lib.hid (same_any (.slice ea Z.length ec) (.slice (some ⟨rg, roff, none⟩) M.length rcap) ⟨Z.map Prod.fst, M, sF, sT, dye, k⟩ x z wr HF.out HT.out.ents.at HT.out.roads.rows (by have := HM.out.len; simp; omega) (by have := HM.out.len; simp; omega) (by
                    have := HM.out.true_way HF.out hZ5
                    intro he
                    simp only [List.length_map, Int.toNat_natCast] at he
                    rw [he] at this
                    simp at this))
                  obtain ⟨V, hV⟩ : ∃ V, V = sameV ⟨Z.map Prod.fst, M, sF, sT, dye, k⟩ x z := ⟨_, rfl⟩
                  rw [← hV] at HS
                  have HV := Lib.hid hV
                  clear hV
                  unfold fairV at HS
                  go_wp2_with fail
                  refine HS.out.mono ?_
                  rintro e wa ⟨rfl, hba⟩
                  have HBA := Lib.hid (HBZ.out.trans (hba.mono HBZ.out.size))
                  clear hba HS HT HL q0 q1 q2 q3 q4 q5 p0 p1
                  have HT := Lib.hid (Stable.at_below (TFix.stable _ _ _ _ _ _ _ _ _ _ _ _ _ _ _ _) HBA.out HFX.out)
                  obtain ⟨gU, ucap, hU, _, hgU, hrow⟩ := Stable.at_below (LFix.stable _ _ _ _) HBA.out HLF.out (by omega)
                  subst hU
                  obtain ⟨ux, cx, yx, hyx, hLx⟩ := hrow x (by omega)
                  obtain ⟨uz, cz, yz, hyz, hLz⟩ := hrow z (by omega)
                  obtain ⟨p0, p1⟩ : wa.cell? ⟨j6, 0, none⟩ = some (.slice (some ⟨ng, no, none⟩) N.length nc) ∧ wa.cell? ⟨j6, 1, none⟩ = some (.slice (some ⟨dg, do', none⟩) D.length dc) := by simp [World.cell?, HT.out.bj]
                  obtain ⟨hxI, hxk⟩ := HM.out.horse (j := x) (by have := HM.out.len; omega)
                  obtain ⟨hzI, hzk⟩ := HM.out.horse (j := z) (by have := HM.out.len; omega)
                  obtain ⟨gx6, ax, ox⟩ := HAG.out _ hxk
                  obtain ⟨gz6, az, oz⟩ := HAG.out _ hzk
                  have sx := (look_seen HJ.out ox ax hyx).1
                  have sz := (look_seen HJ.out oz az hyz).1
                  have hbd : Below wa.heap.size wa wa.drew := (Below.refl _ wa).drew
                  have HAL : Hid (Calls Tryz.prog 10 #[.agg #[.slice (some ⟨ng, no, none⟩) N.length nc, .slice (some ⟨dg, do', none⟩) D.length dc], ux, uz] wa.drew (AlikeEnd (alikeB N D [(yx, (C (hOf I x))[yx]?.getD 0)] [(yz, (C (hOf I z))[yz]?.getD 0)]) wa.drew)) :=
                    alike_any _ _ _ _ N D _ _ wa.drew (HT.out.next.rows.below hbd) (HT.out.filed.rows.below hbd) HJ.out (hLx.at.below hbd) (hLz.at.below hbd) (lookX_ok hyx sx) (lookX_ok hyz sz) (by simp) (by simp) (fun a n c h => by obtain ⟨_, _, h', _⟩ := hLx; rw [h'] at h; cases h; omega)
                  obtain ⟨B, hB⟩ : ∃ B, B = alikeB N D [(yx, (C (hOf I x))[yx]?.getD 0)] [(yz, (C (hOf I z))[yz]?.getD 0)] := ⟨_, rfl⟩
                  rw [← hB] at HAL
                  have HB := Lib.hid hB
                  have HLX := Lib.hid hLx
                  have HLZ := Lib.hid hLz
                  have HHX := Lib.hid hxI
                  have HHZ := Lib.hid hzI
                  have HAX := Lib.hid ax
                  have HAZ := Lib.hid az
                  have HXM := Lib.hid hxk
                  have HZM := Lib.hid hzk
                  have hx0 : (0 : Int) ≤ (x : Int) := by omega
                  have hzz0 : (0 : Int) ≤ (z : Int) := by omega
                  have hzn : (z : Int) < (I.length : Int) := by omega
                  have HS4 : Hid (∀ w', Below wa.drew.heap.size wa.drew w' → w'.cell? ⟨j6, 0, none⟩ = some (.slice (some ⟨ng, no, none⟩) N.length nc) ∧ w'.cell? ⟨j6, 1, none⟩ = some (.slice (some ⟨dg, do', none⟩) D.length dc) ∧ w'.cell? ⟨gU, x, none⟩ = some ux ∧ w'.cell? ⟨gU, z, none⟩ = some uz) := fun w' hb => ⟨below_cell (hbd.trans (hb.mono hbd.size)) p0, below_cell (hbd.trans (hb.mono hbd.size)) p1, below_cell (hbd.trans (hb.mono hbd.size)) cx, below_cell (hbd.trans (hb.mono hbd.size)) cz⟩
                  have HBD := Lib.hid hbd
                  clear hbd
                  clear hrow hB hLx hLz hxI hzI ax az hxk hzk
                  go_wp2_with fail
                  go_region_held3 (fun w' => w'.cell? ⟨j6, 0, none⟩ = some (.slice (some ⟨ng, no, none⟩) N.length nc) ∧ w'.cell? ⟨j6, 1, none⟩ = some (.slice (some ⟨dg, do', none⟩) D.length dc) ∧ w'.cell? ⟨gU, x, none⟩ = some ux ∧ w'.cell? ⟨gU, z, none⟩ = some uz)
                    (first | go_keep | exact HS4.out _ hbb)
                    (first | (go_at_call 10; ((with_reducible refine HAL.out.mono ?_); rintro e wb ⟨rfl, hbb⟩)))
                  have HBB := Lib.hid (HBA.out.trans ((HBD.out.trans (hbb.mono HBD.out.size)).mono HBA.out.size))
                  have HAB := Lib.hid (HBD.out.trans (hbb.mono HBD.out.size))
                  clear hbb HS4 HAL HT p0 p1
                  have HCX := Lib.hid cx
                  have HCZ := Lib.hid cz
                  clear cx cz
                  have HT := Lib.hid (Stable.at_below (TFix.stable _ _ _ _ _ _ _ _ _ _ _ _ _ _ _ _) HBB.out HFX.out)
                  have cx1 : ∃ hb' ho', ha = some ⟨hb', ho', none⟩ ∧ wb.cell? ⟨hb', ho' + x, none⟩ = some (.int .i64 ((hOf I x : Nat) : Int)) ∧ wb.cell? ⟨hb', ho' + z, none⟩ = some (.int .i64 ((hOf I z : Nat) : Int)) := by
                    obtain ⟨ha', hc', he', hd'⟩ := HT.out.hor
                    obtain ⟨hb', ho', rfl, _, _, hcell⟩ := hd' (by omega)
                    cases he'
                    have c1 := hcell x hlt
                    have c2 := hcell z (by omega)
                    rw [HHX.out, Option.getD_some] at c1
                    rw [HHZ.out, Option.getD_some] at c2
                    exact ⟨_, _, rfl, c1, c2⟩
                  obtain ⟨hb', ho', rfl, c1, c2⟩ := cx1
                  obtain ⟨nx, hnx⟩ : ∃ q, q = hOf I x := ⟨_, rfl⟩
                  obtain ⟨nz, hnz⟩ : ∃ q, q = hOf I z := ⟨_, rfl⟩
                  rw [← hnx] at c1
                  rw [← hnz] at c2
                  have HNX := Lib.hid hnx
                  have HNZ := Lib.hid hnz
                  clear hnx hnz
                  by_cases hsame : nx = nz
                  · have HSM := Lib.hid hsame
                    obtain rfl : B = true := by
                      have h1 := HB.out
                      rw [← HNX.out, ← HNZ.out, ← hsame, HNX.out] at h1
                      rw [h1]
                      exact pair_alike HJ.out ox HAX.out gx6 hyx hyz
                    have hq : ((nx : Int) != (nz : Int)) = false := by simp [hsame]
                    clear hsame
                    go_wp2_with fail
                    go_quiet (fail)
                    go_wp2_with fail
                    go_quiet (fail)
                    go_wp2_with fail
                    generalize hwc : wb.drewN _ = wc
                    have HAC : Hid (Below wa.heap.size wa wc) := by rw [← hwc]; exact HAB.out.trans ⟨rfl, rfl, rfl, Nat.le_refl _, fun _ _ => rfl⟩
                    have HBC := Lib.hid (HBA.out.trans (HAC.out.mono HBA.out.size))
                    clear hwc c1 c2 hq
                    have d1 := below_cell HAC.out HCX.out
                    have d2 := below_cell HAC.out HCZ.out
                    obtain ⟨gx, Tx, hux, _, hgx⟩ := LookM.stable _ _ _ _ (fun _ => True) _ _ HAC.out.size (fun g hg _ => HAC.out.block g hg) (fun _ _ _ => trivial) HLX.out
                    obtain ⟨gz, Tz, huz, _, hgz⟩ := LookM.stable _ _ _ _ (fun _ => True) _ _ HAC.out.size (fun g hg _ => HAC.out.block g hg) (fun _ _ _ => trivial) HLZ.out
                    obtain ⟨sx1, hsx1⟩ : ∃ q, q = (C (hOf I x))[yx]?.getD 0 := ⟨_, rfl⟩
                    obtain ⟨sz1, hsz1⟩ : ∃ q, q = (C (hOf I z))[yz]?.getD 0 := ⟨_, rfl⟩
                    rw [← hsx1] at hgx
                    rw [← hsz1] at hgz
                    have e0 : wc.cell? ⟨gx, 0, none⟩ = some (.int .i64 (yx : Nat)) := by simp [World.cell?, hgx]
                    have e1 : wc.cell? ⟨gx, 1, none⟩ = some (.int .i64 (sx1 : Nat)) := by simp [World.cell?, hgx]
                    have e2 : wc.cell? ⟨gz, 0, none⟩ = some (.int .i64 (yz : Nat)) := by simp [World.cell?, hgz]
                    have e3 : wc.cell? ⟨gz, 1, none⟩ = some (.int .i64 (sz1 : Nat)) := by simp [World.cell?, hgz]
                    subst hux huz
                    have HSX := Lib.hid hsx1
                    have HSZ := Lib.hid hsz1
                    clear hsx1 hsz1 hgx hgz
                    go_region_held3 (fun w' => w'.cell? ⟨gU, x, none⟩ = some (.slice (some ⟨gx, 0, none⟩) 1 1) ∧ w'.cell? ⟨gU, z, none⟩ = some (.slice (some ⟨gz, 0, none⟩) 1 1) ∧ w'.cell? ⟨gx, 0, none⟩ = some (.int .i64 (yx : Nat)) ∧ w'.cell? ⟨gx, 1, none⟩ = some (.int .i64 (sx1 : Nat)) ∧ w'.cell? ⟨gz, 0, none⟩ = some (.int .i64 (yz : Nat)) ∧ w'.cell? ⟨gz, 1, none⟩ = some (.int .i64 (sz1 : Nat)))
                      (first | go_keep) (first | fail)
                    go_wp2_with fail
                    obtain ⟨nl, hnl⟩ : ∃ q, q = wc.heap.size := ⟨_, rfl⟩
                    rw [← hnl]
                    generalize hwd : World.alloc (wc.drewN _) _ = wd
                    have hbl : wd.heap[nl]? = some (.cells #[.int .i64 (yx : Nat), .int .i64 (sx1 : Nat), .int .i64 (yz : Nat), .int .i64 (sz1 : Nat)] 41 (0, 0)) := by rw [← hwd, hnl]; exact heap_new _ _
                    have hbd : Below wc.heap.size wc wd := by rw [← hwd]; exact (show Below wc.heap.size wc (wc.drewN _) from ⟨rfl, rfl, rfl, Nat.le_refl _, fun _ _ => rfl⟩).alloc (Nat.le_refl _) _
                    have HBD2 := Lib.hid (HBC.out.trans (hbd.mono HBC.out.size))
                    obtain ⟨l0, l1, l2, l3⟩ : wd.cell? ⟨nl, 0, none⟩ = some (.int .i64 (yx : Nat)) ∧ wd.cell? ⟨nl, 1, none⟩ = some (.int .i64 (sx1 : Nat)) ∧ wd.cell? ⟨nl, 2, none⟩ = some (.int .i64 (yz : Nat)) ∧ wd.cell? ⟨nl, 3, none⟩ = some (.int .i64 (sz1 : Nat)) := by simp [World.cell?, hbl]
                    have HNL : Hid (wl.heap.size ≤ nl) := by rw [hnl]; exact HBC.out.size
                    obtain ⟨m0, m1, m2, m3⟩ : wd.frozen? ⟨nl, 0, none⟩ = false ∧ wd.frozen? ⟨nl, 1, none⟩ = false ∧ wd.frozen? ⟨nl, 2, none⟩ = false ∧ wd.frozen? ⟨nl, 3, none⟩ = false := by simp [World.frozen?, hbl]
                    have HBL := Lib.hid hbl
                    clear hwd hbd hnl hbl d1 d2 e0 e1 e2 e3
                    by_cases hgt : yz < yx
                    · have hgi : (yz : Int) < (yx : Int) := by omega
                      go_quiet (fail)
                      go_wp2_with fail
                      go_region
                      clear l0 l1 l2 l3 m0 m1 m2 m3
                      generalize hw0 : wd.drewN _ = w0
                      have hb0 : w0.heap[nl]? = some (.cells #[.int .i64 (yx : Nat), .int .i64 (sx1 : Nat), .int .i64 (yz : Nat), .int .i64 (sz1 : Nat)] 41 (0, 0)) := by rw [← hw0]; exact HBL.out
                      have hbw : Below wl.heap.size wl w0 := by rw [← hw0]; exact HBD2.out.trans ⟨rfl, rfl, rfl, Nat.le_refl _, fun _ _ => rfl⟩
                      generalize hwe : World.setCell (World.setCell (World.setCell (World.setCell w0 _ _) _ _) _ _) _ _ = we
                      have HBE2 : Hid (Below wl.heap.size wl we) := by rw [← hwe]; exact (((hbw.setCell HNL.out _).setCell HNL.out _).setCell HNL.out _).setCell HNL.out _
                      have kb : we.heap[nl]? = some (.cells #[.int .i64 (yz : Nat), .int .i64 (sz1 : Nat), .int .i64 (yx : Nat), .int .i64 (sx1 : Nat)] 41 (0, 0)) := by rw [← hwe]; simp [World.setCell, Array.getElem?_modify, hb0]
                      obtain ⟨t0, t1, t2, t3⟩ : we.cell? ⟨nl, 0, none⟩ = some (.int .i64 (yz : Nat)) ∧ we.cell? ⟨nl, 1, none⟩ = some (.int .i64 (sz1 : Nat)) ∧ we.cell? ⟨nl, 2, none⟩ = some (.int .i64 (yx : Nat)) ∧ we.cell? ⟨nl, 3, none⟩ = some (.int .i64 (sx1 : Nat)) := by simp [World.cell?, kb]
                      clear hw0 hb0 hbw
                      have hfree := pair_free (D := D) HJ.out ox HAX.out gx6 hyz hyx
                      have hTI : TIn (.slice (some ⟨ng, no, none⟩) N.length nc) (.slice (some ⟨dg, do', none⟩) D.length dc) (.slice (some ⟨nl, 0, none⟩) 2 2) N D [(yz, sz1), (yx, sx1)] we := by
                        have T := Stable.at_below (TFix.stable _ _ _ _ _ _ _ _ _ _ _ _ _ _ _ _) HBE2.out HFX.out
                        exact ⟨T.next.rows, T.filed.rows, look_at2 t0 t1 t2 t3, HJ.out⟩
                      have HFI : Hid (Calls Tryz.prog 11 #[.agg #[.slice (some ⟨ng, no, none⟩) N.length nc, .slice (some ⟨dg, do', none⟩) D.length dc], .slice (some ⟨nl, 0, none⟩) 2 2] we (FilingsEnd 0 we)) := by
                        have hl : [(yz, sz1), (yx, sx1)] = [(yz, (C (hOf I x))[yz]?.getD 0), (yx, (C (hOf I x))[yx]?.getD 0)] := by rw [HSX.out, HSZ.out, ← HNX.out, ← HNZ.out, HSM.out]
                        have hf := filings_any _ _ _ N D _ we hTI (lookX_ok2 hyz (by rw [HSZ.out]; exact sz) hyx (by rw [HSX.out]; exact sx) (by omega)) (by rw [hl]; exact hfree.1)
                        rw [hl, hfree.2] at hf
                        exact hf
                      obtain ⟨p0, p1⟩ : we.cell? ⟨j6, 0, none⟩ = some (.slice (some ⟨ng, no, none⟩) N.length nc) ∧ we.cell? ⟨j6, 1, none⟩ = some (.slice (some ⟨dg, do', none⟩) D.length dc) := by
                        have T := Stable.at_below (TFix.stable _ _ _ _ _ _ _ _ _ _ _ _ _ _ _ _) HBE2.out HFX.out
                        simp [World.cell?, T.bj]
                      clear hwe hTI hfree t0 t1 t2 t3 kb
                      go_wp2_with fail
                      refine HFI.out.mono ?_
                      rintro e wf ⟨rfl, hbf⟩
                      have HBF := Lib.hid (HBE2.out.trans (hbf.mono HBE2.out.size))
                      clear hbf p0 p1
                      go_wp2_with fail
                      go_roundw
                      case rel => exact ⟨z + 1, by omega, by go_num, HBF.out⟩
                      case measure => simp [intOf]; omega
                    · have hgi : (yx : Int) ≤ (yz : Int) := by omega
                      go_quiet (fail)
                      generalize hwe : wd.drewN _ = we
                      have hbe : Below wd.heap.size wd we := by rw [← hwe]; exact ⟨rfl, rfl, rfl, Nat.le_refl _, fun _ _ => rfl⟩
                      have HBE2 := Lib.hid (HBD2.out.trans (hbe.mono HBD2.out.size))
                      have hfree := pair_free (D := D) HJ.out ox HAX.out gx6 hyx hyz
                      have hTI : TIn (.slice (some ⟨ng, no, none⟩) N.length nc) (.slice (some ⟨dg, do', none⟩) D.length dc) (.slice (some ⟨nl, 0, none⟩) 2 2) N D [(yx, sx1), (yz, sz1)] we := by
                        have T := Stable.at_below (TFix.stable _ _ _ _ _ _ _ _ _ _ _ _ _ _ _ _) HBE2.out HFX.out
                        exact ⟨T.next.rows, T.filed.rows, look_at2 (below_cell hbe l0) (below_cell hbe l1) (below_cell hbe l2) (below_cell hbe l3), HJ.out⟩
                      have HFI : Hid (Calls Tryz.prog 11 #[.agg #[.slice (some ⟨ng, no, none⟩) N.length nc, .slice (some ⟨dg, do', none⟩) D.length dc], .slice (some ⟨nl, 0, none⟩) 2 2] we (FilingsEnd 0 we)) := by
                        have hl : [(yx, sx1), (yz, sz1)] = [(yx, (C (hOf I x))[yx]?.getD 0), (yz, (C (hOf I x))[yz]?.getD 0)] := by rw [HSX.out, HSZ.out, ← HNX.out, ← HNZ.out, HSM.out]
                        have hf := filings_any _ _ _ N D _ we hTI (lookX_ok2 hyx (by rw [HSX.out]; exact sx) hyz (by rw [HSZ.out]; exact sz) (by omega)) (by rw [hl]; exact hfree.1)
                        rw [hl, hfree.2] at hf
                        exact hf
                      obtain ⟨p0, p1⟩ : we.cell? ⟨j6, 0, none⟩ = some (.slice (some ⟨ng, no, none⟩) N.length nc) ∧ we.cell? ⟨j6, 1, none⟩ = some (.slice (some ⟨dg, do', none⟩) D.length dc) := by
                        have T := Stable.at_below (TFix.stable _ _ _ _ _ _ _ _ _ _ _ _ _ _ _ _) HBE2.out HFX.out
                        simp [World.cell?, T.bj]
                      clear hwe hbe hTI hfree l0 l1 l2 l3
                      go_wp2_with fail
                      refine HFI.out.mono ?_
                      rintro e wf ⟨rfl, hbf⟩
                      have HBF := Lib.hid (HBE2.out.trans (hbf.mono HBE2.out.size))
                      clear hbf p0 p1
                      go_wp2_with fail
                      go_roundw
                      case rel => exact ⟨z + 1, by omega, by go_num, HBF.out⟩
                      case measure => simp [intOf]; omega
                  · have hq : ((nx : Int) != (nz : Int)) = true := by simp; omega
                    have hq2 : ((nx : Int) == (nz : Int)) = false := by simp; omega
                    have hV1 : (V == 1) = false := by
                      have : V ≠ 1 := fun h => hsame (by rw [HNX.out, HNZ.out]; exact HM.out.surely HF.out hZ5 (by have := HM.out.len; omega) (by have := HM.out.len; omega) (HV.out.symm.trans h))
                      simpa using this
                    clear hsame
                    cases B
                    all_goals
                      go_wp2_with fail
                      go_quiet (fail)
                      go_wp2_with fail
                      go_quiet (fail)
                      go_wp2_with fail
                      go_roundw
                      case rel => exact ⟨z + 1, by omega, by go_num, HBB.out.trans ⟨rfl, rfl, rfl, Nat.le_refl _, fun _ _ => rfl⟩⟩
                      case measure => simp [intOf]; omega
                · obtain rfl : z = x := by omega
                  have hzlt : (z : Int) ≤ (z : Int) := by omega
                  clear hlz hz
                  go_wp2_with fail
                  go_roundw
                  case rel => exact ⟨z + 1, by omega, by go_num, HBZ.out⟩
                  case measure => simp [intOf]; omega
            · obtain rfl : x = I.length := by omega
              have hxlt : (I.length : Int) ≤ (I.length : Int) := by omega
              clear hlt hx
              have HA := Lib.hid (awake_any wr)
              go_wp2_with fail
              refine HA.out.mono ?_
              rintro e wz ⟨rfl, hbz⟩
              have HBZ := Lib.hid hbz
              clear hbz
              go_wp2_with fail
              go_ret
              exact ⟨rfl, HWL.out.trans ((HBX.out.trans (HBZ.out.mono HBX.out.size)).mono HWL.out.size)⟩
end Go.Proofs.YtejfelijhojndaaGreatDoor
