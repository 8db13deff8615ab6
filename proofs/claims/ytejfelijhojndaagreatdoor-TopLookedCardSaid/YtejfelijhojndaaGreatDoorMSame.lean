/-
  mark: newWork, by contract.
-/
import Derived.Test.YtejfelijhojndaaGreatDoorMNewM
import Derived.Deep.RegionHeld3
namespace Go.Proofs.YtejfelijhojndaaGreatDoor
open Go.RowKit Go.Proofs Go.Shelf

theorem nodup_take {L : List Nat} {k : Nat} (hn : L.Nodup) (h : k < L.length) : L[k] ∉ L.take k := by
  intro hm
  obtain ⟨j, hj, hje⟩ := List.getElem_of_mem hm
  have hjk : j < k := Nat.lt_of_lt_of_le hj (List.length_take_le _ _)
  rw [List.getElem_take] at hje
  exact (List.pairwise_iff_getElem.1 hn j k (by omega) h hjk) hje

theorem Kept.putMap {b : Nat} {x y : World} (h : Kept b x y) (o : Obj) : Kept b x (y.putObj b o) :=
  ⟨h.os, h.tape, h.output, by simpa using h.size, fun k hk hb => (World.putObj_heap_other hb).trans (h.block k hk hb)⟩
theorem _root_.Go.RowKit.Below.of_le {B C : Nat} {x y : World} (hBC : B ≤ C) (h : Below C x y) : Below B x y := h.mono hBC
theorem pairs_snoc (F : Fair) (l : List Nat) (h : Nat) : pairsL F (l ++ [h]) = pairsL F l ++ [(h, canF F h)] := by simp [pairsL]
theorem which_pos {h : Nat} (h0 : h ≠ 0) (h64 : h < 64) : 0 < (whichL h.testBit 6).length := by
  have : ∀ x : Fin 64, x.val ≠ 0 → 0 < (whichL x.val.testBit 6).length := by decide
  exact this ⟨h, h64⟩ h0
theorem which_lt {h n : Nat} (hn : h < 2 ^ n) : ∀ x ∈ whichL h.testBit 6, x < n := by
  intro x hx
  have hb : h.testBit x = true := (List.mem_filter.1 hx).2
  rcases Nat.lt_or_ge x n with hh | hh
  · exact hh
  · rw [Nat.testBit_lt_two_pow (Nat.lt_of_lt_of_le hn (Nat.pow_le_pow_right (by omega) hh))] at hb
    cases hb
theorem below_kept' {b : Nat} {w x y : World} (hb : w.heap.size ≤ b) (h : Below w.heap.size w x) (k : Kept b x y) : Below w.heap.size w y :=
  ⟨k.os.trans h.os, k.tape.trans h.tape, k.output.trans h.output, Nat.le_trans h.size k.size, fun i hi => (k.block i (Nat.lt_of_lt_of_le hi h.size) (by omega)).trans (h.block i hi)⟩

def MNewEnd (F : Fair) (w : World) (e : Ending) (w' : World) : Prop :=
  ∃ (Wk M : Nat) (mo : Obj), e = .returned (.pointer (some ⟨Wk, 0, none⟩)) ∧ WorkAt Wk M F.ents.length F.most.toNat mo w' ∧ LookOK M mo (canN F F.ents.length) ∧ Below w.heap.size w w'

set_option maxRecDepth 100000 in
set_option maxHeartbeats 3200000 in
theorem mnewWork_any (ev rv : Value) (F : Fair) (w : World) (hF : FairOK F) (he : EntsAt w ev F.ents) (hr : RowsAt w rv F.roads) :
    Calls Tryz.prog 44 #[fairV ev rv F] w (MNewEnd F w) := by
  have h6 := hF.many
  obtain ⟨ea, ec, hev⟩ : ∃ a c, ev = .slice a F.ents.length c := by obtain ⟨a, c, h, _⟩ := he; exact ⟨a, c, h⟩
  obtain ⟨rb, ro, rc, hrv⟩ : ∃ b o c, rv = .slice (some ⟨b, o, none⟩) F.roads.length c := by obtain ⟨b, o, c, h, _⟩ := hr; exact ⟨b, o, c, h⟩
  obtain ⟨W3, hW3⟩ : ∃ W3, ((w.alloc (.cells #[ev, rv, .int .i64 F.shoeF, .int .i64 F.shoeT, .int .i64 F.dye, .int .i64 F.most] 30)).alloc (.map #[] 0)).alloc (.cells #[ev, rv, .int .i64 F.shoeF, .int .i64 F.shoeT, .int .i64 F.dye, .int .i64 F.most, .map (some (w.heap.size + 1))] 120) = W3 := ⟨_, rfl⟩
  obtain ⟨g0, g1, g2, g3⟩ := three_heap w (.cells #[ev, rv, .int .i64 F.shoeF, .int .i64 F.shoeT, .int .i64 F.dye, .int .i64 F.most] 30) (.map #[] 0) (.cells #[ev, rv, .int .i64 F.shoeF, .int .i64 F.shoeT, .int .i64 F.dye, .int .i64 F.most, .map (some (w.heap.size + 1))] 120)
  rw [hW3] at g0 g1 g2 g3
  have hs3 : W3.heap.size = w.heap.size + 1 + 1 + 1 := by rw [← hW3]; simp
  have hb3 : Below w.heap.size w W3 := by rw [← hW3]; exact (((Below.refl _ w).alloc (Nat.le_refl _) _).alloc (by simp) _).alloc (by simp; omega) _
  have hWF : WorkF (w.heap.size + 1 + 1) F W3 := ⟨⟨ev, by simp [World.cell?, g3], he.below hb3⟩, ⟨rv, by simp [World.cell?, g3], hr.below hb3⟩, by simp [World.cell?, g3], by simp [World.cell?, g3], by simp [World.cell?, g3], by simp [World.cell?, g3]⟩
  have c6 : W3.cell? ⟨w.heap.size + 1 + 1, 6, none⟩ = some (.map (some (w.heap.size + 1))) := by simp [World.cell?, g3]
  have c0 : W3.cell? ⟨w.heap.size, 0, none⟩ = some ev := by simp [World.cell?, g1]
  have HH := Lib.hid (horses_any F.ents.length W3 h6)
  have HF := Lib.hid hF
  have HWF := Lib.hid hWF
  have HB3 := Lib.hid hb3
  have HM3 := Lib.hid g2
  have HS3 := Lib.hid hs3
  have HW3 := Lib.hid hW3
  have hmm : ∀ w : World, (Instr.makeMap 118 none).run Tryz.prog w = .ok (.map (some w.heap.size)) (w.alloc (.map #[] 0)) := fun _ => rfl
  clear g0 g1 g2 g3 hs3 hb3 hWF hF he hr HW3
  subst hev hrv
  unfold fairV
  go_enter Tryz.func44, Tryz.ntmps44
  go_wp2_with fail
  refine HH.out.mono ?_
  rintro e w4 ⟨v, rfl, ho, hnn, hb4⟩
  obtain ⟨g, cap, rfl, hg1, hg2, hgc⟩ := owns_form ho hnn
  have d6 := below_cell hb4 c6
  have HM4 := Lib.hid (below_heap hb4 HM3.out)
  have HWF4 := Lib.hid (HWF.out.below hb4)
  have HB4 := Lib.hid (HB3.out.trans (hb4.mono HB3.out.size))
  have HGC := Lib.hid hgc
  have hlen := horsesL_length F.ents.length
  have hp6 : 2 ^ F.ents.length ≤ 2 ^ 6 := Nat.pow_le_pow_right (by omega) h6
  have h64 : (horsesL F.ents.length).length ≤ 64 := by omega
  have hMlt : w.heap.size + 1 < w4.heap.size := (Array.getElem?_eq_some_iff.1 HM4.out).1
  have hWlt : w.heap.size + 1 + 1 < w4.heap.size := World.block_lt_of_cell? w4 _ d6
  obtain ⟨HL, hHL⟩ : ∃ HL, horsesL F.ents.length = HL := ⟨_, rfl⟩
  rw [hHL] at HGC h64 ⊢
  have HHL := Lib.hid hHL
  clear ho hnn hb4 hgc c6 c0 hW3 hlen hp6 hHL hmm
  go_wp2_with fail
  go_loopw [15] (fun i wr => ∃ k : Nat, k ≤ HL.length ∧ i = .int .i64 k ∧ Kept (w.heap.size + 1) w4 wr ∧ ∃ es clock, wr.heap[w.heap.size + 1]? = some (.map es clock) ∧ MapIs es (pairsL F (HL.take k))) (fun i _ => HL.length - (intOf i).toNat)
  case atStart => exact ⟨0, Nat.zero_le _, rfl, Kept.refl _ _, #[], 0, HM4.out, rfl⟩
  case round =>
    obtain ⟨k, hk, rfl, hK, es, clock, hm, hMI⟩ := hrel
    have hkc : ∀ {a : Addr} {u : Value}, w4.cell? a = some u → wr.cell? a = some u := fun h => kept_cell hK HM4.out h
    by_cases hlt : k < HL.length
    · have hklt : (k : Int) < (HL.length : Int) := by omega
      have hk0 : (0 : Int) ≤ (k : Int) := by omega
      obtain ⟨h, hh⟩ : ∃ h, HL[k] = h := ⟨_, rfl⟩
      have hmem : h ∈ HL := by rw [← hh]; exact List.getElem_mem hlt
      have hlt2 : h < 2 ^ F.ents.length := by rw [← HHL.out] at hmem; exact horsesL_lt _ h hmem
      have h256 : h < 256 := Nat.lt_of_lt_of_le hlt2 (Nat.le_trans (Nat.pow_le_pow_right (by omega) h6) (by decide : 2 ^ 6 ≤ 256))
      have ck := hkc (HGC.out k (.int .u8 (h : Nat)) (by simp [hvals, hlt, hh]))
      have c6 := hkc d6
      have hnew : lookR h (pairsL F (HL.take k)) 0 = none := lookR_none 0 (by rw [← hh]; exact nodup_take (by rw [← HHL.out]; exact nodup_horsesL _) hlt)
      have htk : HL.take (k + 1) = HL.take k ++ [h] := by rw [List.take_succ_eq_append_getElem hlt, hh]
      have hWr : WorkF (w.heap.size + 1 + 1) F wr := HWF4.out.same fun a u hc => hkc hc
      obtain ⟨W5, hW5⟩ : ∃ W5, wr.alloc (.cells #[.int .u8 (h : Nat)] 95) = W5 := ⟨_, rfl⟩
      have hb5 : Below wr.heap.size wr W5 := by rw [← hW5]; exact (Below.refl _ wr).alloc (Nat.le_refl _) _
      have p5 : W5.cell? ⟨wr.heap.size, 0, none⟩ = some (.int .u8 (h : Nat)) := by rw [← hW5]; exact World.cell?_alloc_new wr _ _ _
      have p6 := below_cell hb5 c6
      have pm := below_heap hb5 hm
      have HKS := Lib.hid (fun W' (hb : Below W5.heap.size W5 W') => And.intro (below_cell hb p6) (below_cell hb p5))
      have HMU := Lib.hid (fun W' (hb : Below W5.heap.size W5 W') (v : Bool) => run_put_horse hMI (below_heap hb pm) h v hnew)
      have HMW := Lib.hid (fun W' (hb : Below W5.heap.size W5 W') => below_heap hb pm)
      have HK := Lib.hid hK
      have HMI := Lib.hid hMI
      have HTK := Lib.hid htk
      have HWr5 := Lib.hid (hWr.below hb5)
      have HB5 := Lib.hid hb5
      have hs5 : W5.heap.size = wr.heap.size + 1 := by rw [← hW5]; simp
      have hW4s := hK.size
      have hbD : Below W5.heap.size W5 W5.drew := (Below.refl _ W5).drew
      have e0 := HKS.out _ hbD
      have hputK : ∀ (W' : World) (o : Obj), Below W5.heap.size W5 W' → (W'.putObj (w.heap.size + 1) o).cell? ⟨w.heap.size + 1 + 1, 6, none⟩ = some (.map (some (w.heap.size + 1))) ∧ (W'.putObj (w.heap.size + 1) o).cell? ⟨wr.heap.size, 0, none⟩ = some (.int .u8 (h : Nat)) := fun W' o hb => by
        obtain ⟨x1, x2⟩ := HKS.out W' hb
        exact ⟨(World.cell?_of_block (w := W') (World.putObj_heap_other (by show w.heap.size + 1 + 1 ≠ w.heap.size + 1; omega))).trans x1, (World.cell?_of_block (w := W') (World.putObj_heap_other (by show wr.heap.size ≠ w.heap.size + 1; omega))).trans x2⟩
      have HPK := Lib.hid hputK
      clear hK hm hMI hkc hWr hnew p5 p6 pm hb5 hh htk hputK c6
      by_cases hz : h = 0
      · subst hz
        have hW5' : wr.alloc (.cells #[.int .u8 0] 95) = W5 := hW5
        have ck' : wr.cell? ⟨g, k, none⟩ = some (.int .u8 0) := ck
        have HW5 := Lib.hid hW5'
        clear hW5 hW5' ck
        have LZ := Lib.hid (list_zero W5.drew)
        have WN := Lib.hid (fun W' => why_nil (w.heap.size + 1 + 1) W')
        unfold WhyEnd rV at WN
        have HCF := Lib.hid (show canF F 0 = false by simp [canF])
        go_wp2_with fail
        rw [HW5.out]
        go_region_held3 (fun w' => w'.cell? ⟨w.heap.size + 1 + 1, 6, none⟩ = some (.map (some (w.heap.size + 1))) ∧ w'.cell? ⟨wr.heap.size, 0, none⟩ = some (.int .u8 0))
          (first | exact e0 | exact HKS.out _ hb6 | exact HKS.out _ hb7 | exact HPK.out _ _ hb7 | go_keep)
          (first
            | (go_at_call 60; refine (LZ.out).mono ?_; rintro e w6 ⟨rfl, hb6'⟩; have hb6 := hbD.trans hb6')
            | (go_at_call 59; refine (WN.out w6).mono ?_; rintro e w7 ⟨rfl, hb7'⟩; have hb7 := hb6.trans (hb7'.mono hb6.size); have hmu : (Instr.mapUpdate 118 (.map (some (w.heap.size + 1))) (.agg #[.int .u8 0]) (.bool false)).run Tryz.prog w7 = .ok () (w7.putObj (w.heap.size + 1) (.map (es.push { key := hkey 0, val := .bool false, born := clock }) (clock + 1))) := HMU.out w7 hb7 false))
        have hKf : Kept (w.heap.size + 1) w4 w7 := (HK.out.of_below (Below.of_le hW4s HB5.out)).of_below (Below.of_le (Nat.le_trans hW4s HB5.out.size) hb7)
        have hMs := (Array.getElem?_eq_some_iff.1 (HMW.out w7 hb7)).1
        have HKF := Lib.hid hKf
        clear hb6 hb6' hb7 hb7' hmu e0 hbD hKf
        go_wp2_with fail
        go_roundw
        case rel => exact ⟨k + 1, by omega, by go_num, HKF.out.putMap _, _, _, World.putObj_heap_same hMs, by rw [HTK.out, pairs_snoc, HCF.out]; exact HMI.out.push _ _ _⟩
        case measure => simp [intOf]; omega
      · have hpos : 0 < (whichL h.testBit 6).length := which_pos hz (Nat.lt_of_lt_of_le hlt2 (Nat.le_trans (Nat.pow_le_pow_right (by omega) h6) (by decide : 2 ^ 6 ≤ 64)))
        have LL := Lib.hid (list_any h W5.drew h256)
        have WY := Lib.hid (fun W' (v : Value) (hb : Below W5.heap.size W5 W') (hil : IL W' v (whichL h.testBit 6)) => why_any (w.heap.size + 1 + 1) F (whichL h.testBit 6) v W' (HWr5.out.below hb) HF.out hil (Nat.le_trans (whichL_le _ _) (by omega)) hpos (which_lt hlt2))
        unfold WhyEnd at WY
        rcases whyV_can F hz with ⟨hc, hv⟩ | ⟨hc, t, hv⟩
        all_goals have HCF := Lib.hid hc
        all_goals clear hc
        · have hMU2 := Lib.hid (fun W' hb => HMU.out W' hb true)
          unfold hkey at hMU2
          rw [hv] at WY
          go_wp2_with fail
          go_region_held3 (fun w' => w'.cell? ⟨w.heap.size + 1 + 1, 6, none⟩ = some (.map (some (w.heap.size + 1))) ∧ w'.cell? ⟨wr.heap.size, 0, none⟩ = some (.int .u8 (h : Nat)))
            (first | exact e0 | exact HKS.out _ hb6 | exact HKS.out _ hb7 | exact HPK.out _ _ hb7 | go_keep)
            (first
              | (go_at_call 60; refine (LL.out).mono ?_; rintro e w6 ⟨v, rfl, ho6, hb6'⟩; have hb6 := hbD.trans hb6')
              | (go_at_call 59; refine (WY.out w6 v hb6 (il_of_owns ho6 hpos)).mono ?_; rintro e w7 ⟨rfl, hb7'⟩; have hb7 := hb6.trans (hb7'.mono hb6.size); have hmu := hMU2.out w7 hb7))
          have hKf : Kept (w.heap.size + 1) w4 w7 := (HK.out.of_below (Below.of_le hW4s HB5.out)).of_below (Below.of_le (Nat.le_trans hW4s HB5.out.size) hb7)
          have hMs := (Array.getElem?_eq_some_iff.1 (HMW.out w7 hb7)).1
          have HKF := Lib.hid hKf
          clear hb6 hb6' hb7 hb7' hmu e0 hbD hKf
          go_wp2_with fail
          go_roundw
          case rel => exact ⟨k + 1, by omega, by go_num, HKF.out.putMap _, _, _, World.putObj_heap_same hMs, by rw [HTK.out, pairs_snoc, HCF.out]; exact HMI.out.push _ _ _⟩
          case measure => simp [intOf]; omega
        · have hMU2 := Lib.hid (fun W' hb => HMU.out W' hb false)
          unfold hkey at hMU2
          rw [hv] at WY
          unfold rV at WY
          go_wp2_with fail
          go_region_held3 (fun w' => w'.cell? ⟨w.heap.size + 1 + 1, 6, none⟩ = some (.map (some (w.heap.size + 1))) ∧ w'.cell? ⟨wr.heap.size, 0, none⟩ = some (.int .u8 (h : Nat)))
            (first | exact e0 | exact HKS.out _ hb6 | exact HKS.out _ hb7 | exact HPK.out _ _ hb7 | go_keep)
            (first
              | (go_at_call 60; refine (LL.out).mono ?_; rintro e w6 ⟨v, rfl, ho6, hb6'⟩; have hb6 := hbD.trans hb6')
              | (go_at_call 59; refine (WY.out w6 v hb6 (il_of_owns ho6 hpos)).mono ?_; rintro e w7 ⟨rfl, hb7'⟩; have hb7 := hb6.trans (hb7'.mono hb6.size); have hmu := hMU2.out w7 hb7))
          have hKf : Kept (w.heap.size + 1) w4 w7 := (HK.out.of_below (Below.of_le hW4s HB5.out)).of_below (Below.of_le (Nat.le_trans hW4s HB5.out.size) hb7)
          have hMs := (Array.getElem?_eq_some_iff.1 (HMW.out w7 hb7)).1
          have HKF := Lib.hid hKf
          clear hb6 hb6' hb7 hb7' hmu e0 hbD hKf
          go_wp2_with fail
          go_roundw
          case rel => exact ⟨k + 1, by omega, by go_num, HKF.out.putMap _, _, _, World.putObj_heap_same hMs, by rw [HTK.out, pairs_snoc, HCF.out]; exact HMI.out.push _ _ _⟩
          case measure => simp [intOf]; omega
    · have hklt : ¬ (k : Int) < (HL.length : Int) := by omega
      obtain rfl : k = HL.length := by omega
      have HK := Lib.hid hK
      have HMM := Lib.hid hm
      have HMI := Lib.hid hMI
      have HW := Lib.hid (HWF4.out.same fun a u hc => hkc hc)
      have H6 := Lib.hid (hkc d6)
      clear hK hm hMI hkc
      go_wp2_with fail
      go_ret
      refine ⟨w.heap.size + 1 + 1, w.heap.size + 1, .map es clock, rfl, ?_, look_ok F F.ents.length (by have := HMI.out; rwa [List.take_length, ← HHL.out] at this), ?_⟩
      · obtain ⟨ev, e1, a, c, rfl, _⟩ := HW.out.ents
        refine ⟨⟨a, c, e1⟩, ?_, H6.out, HMM.out⟩
        rw [HW.out.most]
        have := HF.out.most
        congr 2
        omega
      · exact below_kept' (by omega) HB4.out HK.out
end Go.Proofs.YtejfelijhojndaaGreatDoor

/-
  mark: begin, beginParted, Same, by contract.
-/
namespace Go.Proofs.YtejfelijhojndaaGreatDoor
open Go.RowKit Go.Proofs Go.Shelf

theorem flat_le {α β : Type} (f : α → List β) (B : Nat) : ∀ l : List α, (∀ x ∈ l, (f x).length ≤ B) → (l.flatMap f).length ≤ l.length * B
  | [], _ => by simp
  | a :: l, h => by
    rw [List.flatMap_cons, List.length_append, List.length_cons, Nat.add_mul, Nat.one_mul]
    have h1 := h a (by simp)
    have h2 := flat_le f B l fun x hx => h x (by simp [hx])
    omega
theorem fillL_le (can : Nat → Bool) (most : Nat) : ∀ (rs cur : List Nat), (fillL can most rs cur).length ≤ most ^ rs.length
  | [], cur => by simp [fillL]
  | r :: rs, cur => by
    rw [fillL, List.length_cons, Nat.pow_succ, Nat.mul_comm]
    refine Nat.le_trans (flat_le _ (most ^ rs.length) _ fun i hi => ?_) (Nat.mul_le_mul_right _ (by simp; omega))
    split
    · exact fillL_le can most rs _
    · simp
theorem fillL_big (can : Nat → Bool) {most n : Nat} (hm : most ≤ 6) (hn : n ≤ 6) : (fillL can most (List.range n) []).length ≤ 1000000 := by
  refine Nat.le_trans (fillL_le can most _ _) ?_
  rw [List.length_range]
  refine Nat.le_trans (Nat.pow_le_pow_left hm n) (Nat.le_trans (Nat.pow_le_pow_right (by omega) hn) (by decide))

def MBeginEnd (F : Fair) (w : World) (e : Ending) (w' : World) : Prop :=
  ∃ (Wk M : Nat) (mo : Obj), e = .returned (.tuple #[.pointer (some ⟨Wk, 0, none⟩), .int .i64 0]) ∧ WorkAt Wk M F.ents.length F.most.toNat mo w' ∧ LookOK M mo (canN F F.ents.length) ∧ Below w.heap.size w w'

set_option maxRecDepth 100000 in
set_option maxHeartbeats 1600000 in
theorem mbegin_any (ev rv : Value) (F : Fair) (lb : Nat) (l : List Nat) (w : World) (hF : FairOK F) (he : EntsAt w ev F.ents) (hr : RowsAt w rv F.roads) (hl : ∀ j, j < l.length → w.cell? ⟨lb, j, none⟩ = some (.int .i64 (l[j]?.getD 0 : Nat))) (hlt : ∀ x ∈ l, x < F.ents.length) (hl9 : l.length ≤ 100) :
    Calls Tryz.prog 32 #[fairV ev rv F, .slice (some ⟨lb, 0, none⟩) l.length l.length] w (MBeginEnd F w) := by
  have h6 := hF.many
  obtain ⟨ea, ec, hev⟩ : ∃ a c, ev = .slice a F.ents.length c := by obtain ⟨a, c, h, _⟩ := he; exact ⟨a, c, h⟩
  obtain ⟨rb, ro, rc, hrv⟩ : ∃ b o c, rv = .slice (some ⟨b, o, none⟩) F.roads.length c := by obtain ⟨b, o, c, h, _⟩ := hr; exact ⟨b, o, c, h⟩
  obtain ⟨W1, hW1⟩ : ∃ W1, w.alloc (.cells #[ev, rv, .int .i64 F.shoeF, .int .i64 F.shoeT, .int .i64 F.dye, .int .i64 F.most] 30) = W1 := ⟨_, rfl⟩
  have hb1 : Below w.heap.size w W1 := by rw [← hW1]; exact (Below.refl _ w).alloc (Nat.le_refl _) _
  have hblk : W1.heap[w.heap.size]? = some (.cells #[ev, rv, .int .i64 F.shoeF, .int .i64 F.shoeT, .int .i64 F.dye, .int .i64 F.most] 30 (0, 0)) := by rw [← hW1]; exact heap_new w _
  obtain ⟨q0, q1, q2, q3, q4, q5⟩ := six_cells hblk
  have C1 := Lib.hid (check_ok ev rv F W1 hF (he.below hb1) (hr.below hb1))
  have C2 := Lib.hid (fun W' (hb : Below w.heap.size w W') => mnewWork_any ev rv F W' hF (he.below hb) (hr.below hb))
  have OUT := Lib.hid (fun (n : Nat) (W : World) (h : n < F.ents.length) => outside_no (n : Int) 0 ((F.ents.length : Int) - 1) W (by omega) (by omega))
  have HB1 := Lib.hid hb1
  have HLC := Lib.hid hl
  have HLT := Lib.hid hlt
  clear hb1 hblk hl hlt hF he hr
  subst hev hrv
  unfold fairV at *
  go_enter Tryz.func32, Tryz.ntmps32
  go_wp2_with fail
  refine C1.out.mono ?_
  rintro e w2 ⟨rfl, hb2⟩
  have r0 := below_cell hb2 q0
  have r1 := below_cell hb2 q1
  have r2 := below_cell hb2 q2
  have r3 := below_cell hb2 q3
  have r4 := below_cell hb2 q4
  have r5 := below_cell hb2 q5
  have HB2 := Lib.hid (HB1.out.trans (hb2.mono HB1.out.size))
  clear hb2 q0 q1 q2 q3 q4 q5
  go_wp2_with fail
  go_loopw [16] (fun i wr => ∃ k : Nat, k ≤ l.length ∧ i = .int .i64 k ∧ w2 = wr) (fun i _ => l.length - (intOf i).toNat)
  case atStart => exact ⟨0, Nat.zero_le _, rfl, rfl⟩
  case round =>
    obtain ⟨k, hk, rfl, rfl⟩ := hrel
    by_cases hklt : k < l.length
    · have h1 : (k : Int) < (l.length : Int) := by omega
      have h2 : (0 : Int) ≤ (k : Int) := by omega
      have c := below_cell HB2.out (HLC.out k hklt)
      obtain ⟨x, hx⟩ : ∃ x, l[k]?.getD 0 = x := ⟨_, rfl⟩
      have hxl := HLT.out x (by rw [← hx]; simp [hklt])
      rw [hx] at c
      clear hx
      go_wp2_with fail
      refine (OUT.out x _ hxl).mono ?_
      rintro e w3 ⟨rfl, rfl⟩
      go_wp2_with fail
      go_roundw
      case rel => exact ⟨k + 1, by omega, by go_num, (by trivial)⟩
      case measure => simp [intOf]; omega
    · have h1 : ¬ (k : Int) < (l.length : Int) := by omega
      go_wp2_with fail
      refine (C2.out w2 HB2.out).mono ?_
      rintro e w3 ⟨Wk, M, mo, rfl, hW, hlk, hb3⟩
      have HW := Lib.hid hW
      have HLK := Lib.hid hlk
      have HB3 := Lib.hid (HB2.out.trans (hb3.mono HB2.out.size))
      clear hW hlk hb3
      go_wp2_with fail
      go_ret2
      exact ⟨Wk, M, mo, rfl, HW.out, HLK.out, HB3.out⟩

set_option maxRecDepth 100000 in
set_option maxHeartbeats 1600000 in
theorem beginParted_any (ev rv : Value) (F : Fair) (lb : Nat) (l : List Nat) (w : World) (hF : FairOK F) (he : EntsAt w ev F.ents) (hr : RowsAt w rv F.roads) (hl : ∀ j, j < l.length → w.cell? ⟨lb, j, none⟩ = some (.int .i64 (l[j]?.getD 0 : Nat))) (hlt : ∀ x ∈ l, x < F.ents.length) (hl9 : l.length ≤ 100)
    (hw : fillL (canN F F.ents.length) F.most.toNat (List.range F.ents.length) [] ≠ []) :
    Calls Tryz.prog 22 #[fairV ev rv F, .slice (some ⟨lb, 0, none⟩) l.length l.length] w (MBeginEnd F w) := by
  have h6 := hF.many
  obtain ⟨ea, ec, hev⟩ : ∃ a c, ev = .slice a F.ents.length c := by obtain ⟨a, c, h, _⟩ := he; exact ⟨a, c, h⟩
  obtain ⟨rb, ro, rc, hrv⟩ : ∃ b o c, rv = .slice (some ⟨b, o, none⟩) F.roads.length c := by obtain ⟨b, o, c, h, _⟩ := hr; exact ⟨b, o, c, h⟩
  have hb1 : Below w.heap.size w (w.alloc (.cells #[ev, rv, .int .i64 F.shoeF, .int .i64 F.shoeT, .int .i64 F.dye, .int .i64 F.most] 30)) := (Below.refl _ w).alloc (Nat.le_refl _) _
  have C1 := Lib.hid (mbegin_any ev rv F lb l _ hF (he.below hb1) (hr.below hb1) (fun j hj => below_cell hb1 (hl j hj)) hlt hl9)
  have C2 := Lib.hid (fun Wk M mo W' (hW : WorkAt Wk M F.ents.length F.most.toNat mo W') (hlk : LookOK M mo (canN F F.ents.length)) => parted_any Wk M F.ents.length F.most.toNat mo (canN F F.ents.length) W' hW (by omega) hlk)
  have hne : (!(fillL (canN F F.ents.length) F.most.toNat (List.range F.ents.length) []).isEmpty) = true := by
    cases h : fillL (canN F F.ents.length) F.most.toNat (List.range F.ents.length) [] with
    | nil => exact absurd h hw
    | cons a b => rfl
  rw [hne] at C2
  have HB1 := Lib.hid hb1
  clear hb1 hl hlt hF he hr hw hne
  subst hev hrv
  unfold fairV at *
  go_enter Tryz.func22, Tryz.ntmps22
  go_wp2_with fail
  refine C1.out.mono ?_
  rintro e w2 ⟨Wk, M, mo, rfl, hW, hlk, hb2⟩
  have C3 := Lib.hid (C2.out Wk M mo w2 hW hlk)
  have HW := Lib.hid hW
  have HLK := Lib.hid hlk
  have HB2 := Lib.hid (HB1.out.trans (hb2.mono HB1.out.size))
  clear hW hlk hb2
  go_wp2_with fail
  refine C3.out.mono ?_
  rintro e w3 ⟨rfl, hb3⟩
  have HB3 := Lib.hid hb3
  clear hb3
  go_wp2_with fail
  go_ret2
  exact ⟨Wk, M, mo, rfl, HW.out.below HB3.out, HLK.out, HB2.out.trans (HB3.out.mono HB2.out.size)⟩

/-- What Same returns. -/
def sameV (F : Fair) (x y : Nat) : Int :=
  verdictL (yesL (fun P => ofL P x == ofL P y) (fillL (canN F F.ents.length) F.most.toNat (List.range F.ents.length) [])) (yesL (fun P => !(ofL P x == ofL P y)) (fillL (canN F F.ents.length) F.most.toNat (List.range F.ents.length) []))
def SameEnd (v : Int) (w : World) (e : Ending) (w' : World) : Prop := e = .returned (.tuple #[.int .i64 v, .int .i64 0]) ∧ Below w.heap.size w w'

set_option maxRecDepth 100000 in
set_option maxHeartbeats 1600000 in
theorem same_any (ev rv : Value) (F : Fair) (x y : Nat) (w : World) (hF : FairOK F) (he : EntsAt w ev F.ents) (hr : RowsAt w rv F.roads) (hx : x < F.ents.length) (hy : y < F.ents.length)
    (hw : fillL (canN F F.ents.length) F.most.toNat (List.range F.ents.length) [] ≠ []) :
    Calls Tryz.prog 9 #[fairV ev rv F, .int .i64 (x : Nat), .int .i64 (y : Nat)] w (SameEnd (sameV F x y) w) := by
  have h6 := hF.many
  have hm6 := hF.most
  obtain ⟨ea, ec, hev⟩ : ∃ a c, ev = .slice a F.ents.length c := by obtain ⟨a, c, h, _⟩ := he; exact ⟨a, c, h⟩
  obtain ⟨rb, ro, rc, hrv⟩ : ∃ b o c, rv = .slice (some ⟨b, o, none⟩) F.roads.length c := by obtain ⟨b, o, c, h, _⟩ := hr; exact ⟨b, o, c, h⟩
  obtain ⟨W3, hW3⟩ : ∃ W3, ((w.alloc (.cells #[ev, rv, .int .i64 F.shoeF, .int .i64 F.shoeT, .int .i64 F.dye, .int .i64 F.most] 30)).alloc (.cells #[.int .i64 (x : Nat)] 3)).alloc (.cells #[.int .i64 (y : Nat)] 3) = W3 := ⟨_, rfl⟩
  obtain ⟨g0, g1, g2, g3⟩ := three_heap w (.cells #[ev, rv, .int .i64 F.shoeF, .int .i64 F.shoeT, .int .i64 F.dye, .int .i64 F.most] 30) (.cells #[.int .i64 (x : Nat)] 3) (.cells #[.int .i64 (y : Nat)] 3)
  rw [hW3] at g0 g1 g2 g3
  have hs3 : W3.heap.size = w.heap.size + 1 + 1 + 1 := by rw [← hW3]; simp
  have hb3 : Below w.heap.size w W3 := by rw [← hW3]; exact (((Below.refl _ w).alloc (Nat.le_refl _) _).alloc (by simp) _).alloc (by simp; omega) _
  obtain ⟨q0, q1, q2, q3, q4, q5⟩ := six_cells g1
  have cx := cell_of_one g2
  have cy := cell_of_one g3
  have hb4 : Below w.heap.size w (W3.alloc (.cells #[.int .i64 (x : Nat), .int .i64 (y : Nat)] 3)) := hb3.alloc (by omega) _
  have C1 := Lib.hid (beginParted_any ev rv F W3.heap.size [x, y] (W3.alloc (.cells #[.int .i64 (x : Nat), .int .i64 (y : Nat)] 3)) hF (he.below hb4) (hr.below hb4) (fun j hj => by
    rw [World.cell?_alloc_new]
    match j, hj with
    | 0, _ => rfl
    | 1, _ => rfl) (by intro z hz; simp at hz; rcases hz with rfl | rfl <;> assumption) (by simp) hw)
  have C2 := Lib.hid (fun Wk M mo W' (hW : WorkAt Wk M F.ents.length F.most.toNat mo W') (hlk : LookOK M mo (canN F F.ents.length)) (h1 : W'.cell? ⟨w.heap.size + 1, 0, none⟩ = some (.int .i64 (x : Nat))) (h2 : W'.cell? ⟨w.heap.size + 1 + 1, 0, none⟩ = some (.int .i64 (y : Nat))) =>
    verdict_any Wk M F.ents.length F.most.toNat 24 #[] #[.pointer (some ⟨w.heap.size + 1, 0, none⟩), .pointer (some ⟨w.heap.size + 1 + 1, 0, none⟩)] mo (canN F F.ents.length) (fun P => ofL P x == ofL P y) W' hW (by omega) hlk (fun args w => by simp [go_sem])
      (fun P v W'' hP h256 h8 hb => same1_any v P x y _ _ W'' hP h256 (by omega) (by omega) (by omega) (below_cell hb h1) (below_cell hb h2)) (fillL_big _ (by omega) (by omega)))
  have hmf : ∀ (fn : Fn) (first cap : Array Value) (w : World), (Instr.makeFunc fn first cap).run Tryz.prog w = .ok (.func fn first cap) w := fun _ _ _ _ => rfl
  have hbW4 : Below W3.heap.size W3 (W3.alloc (.cells #[.int .i64 (x : Nat), .int .i64 (y : Nat)] 3)) := (Below.refl _ W3).alloc (Nat.le_refl _) _
  have HX := Lib.hid (And.intro (below_cell hbW4 cx) (below_cell hbW4 cy))
  have HB4 := Lib.hid hb4
  clear hb3 hb4 hbW4 g0 g1 g2 g3 hs3 hF he hr hw hm6
  subst hev hrv
  unfold fairV at *
  go_enter Tryz.func9, Tryz.ntmps9
  go_wp2_with fail
  refine C1.out.mono ?_
  rintro e w2 ⟨Wk, M, mo, rfl, hW, hlk, hb2⟩
  have C3 := Lib.hid (C2.out Wk M mo w2 hW hlk (below_cell hb2 HX.out.1) (below_cell hb2 HX.out.2))
  have HB2 := Lib.hid (HB4.out.trans (hb2.mono HB4.out.size))
  clear hW hlk hb2
  go_wp2_with fail
  refine C3.out.mono ?_
  rintro e w3 ⟨rfl, hb3⟩
  have HB3 := Lib.hid hb3
  clear hb3
  go_wp2_with fail
  go_ret2
  exact ⟨rfl, HB2.out.trans (HB3.out.mono HB2.out.size)⟩
end Go.Proofs.YtejfelijhojndaaGreatDoor
