/-
  palfreykit: SeenOf: the horses' first entries and heights.
-/
import Derived.Test.YtejfelijhojndaaGreatDoorMMMath3
import Derived.Test.YtejfelijhojndaaGreatDoorMMouths
import Derived.Deep.CutRange
import Derived.Deep.CutBlock
namespace Go.Proofs.YtejfelijhojndaaGreatDoor
open Go.RowKit Go.Proofs Go.Shelf

/-- Behind the first loop. -/
def SeenAEnd (b t : Nat) (w : World) (wr : World) (n1 : Nat) (rv V W : Value) (Z : List (Ent × Value)) (I : List Int) (M : List (List Int)) (sF sT dye : Int) (most : Nat) : Prop :=
  GRel b (t + 31 + 12 * most) n1 n1 w wr (.slice none 0 0) rv V W Z I M sF sT dye most ∧ Z.length = most ∧ I.length = most ∧ (∀ z ∈ Z, HorseOK z M.length) ∧ (∀ x ∈ I, 13 ≤ x ∧ x ≤ 16)

set_option maxRecDepth 100000 in
set_option maxHeartbeats 1600000 in
theorem seenOf_any (b t : Nat) (w : World) (hB : Bag w b t) (ht : t ≤ 1000) :
    Calls Tryz.prog 5 #[.pointer (some ⟨b, 0, none⟩), .int .i64 5] w (SeenEnd b t w) := by
  have hbw := hB.lt
  obtain ⟨i0, hi, hz0, hz1, hz2⟩ := info_parts Tryz.infoInt
  obtain ⟨j0, hj, hy0, hy1, hy2⟩ := info_parts Tryz.infoEntry
  go_enter Tryz.func5, Tryz.ntmps5
  go_wp2_with fail
  refine (fairOf_any b t _ (hB.alloc _) (by omega)).mono ?_
  rintro e w1 ⟨n, m, rv, sF, sT, dye, most0, t1, rfl, hrv, hF, hsT, hdye, ht1, hB1, hk1⟩
  have hres : w1.heap[w.heap.size]? = some (.cells #[.slice none 0 0, .slice none 0 0, .int .i64 0, .int .i64 0, .int .i64 0, .int .i64 0] 30 (0, 0)) := (hk1.block _ (by simp) (by omega)).trans (heap_new w _)
  have hK1 : Kept b w w1 := ((Kept.refl b w).alloc _).trans hk1
  have hs1 : w.heap.size < w1.heap.size := (Array.getElem?_eq_some_iff.1 hres).1
  have hrv2 : RowsM (fun k => w.heap.size < k) w1 rv (matL n m) := hrv.step (Nat.le_refl _) (fun _ _ _ => rfl) (fun g _ h => by simp at h; omega)
  obtain ⟨M, hM⟩ : ∃ M, M = matL n m := ⟨_, rfl⟩
  rw [← hM] at hrv hrv2 hF
  have HRES := Lib.hid hres
  have HK1 := Lib.hid hK1
  have HRV := Lib.hid hrv2
  have HF := Lib.hid hF
  have hn3 := hF.roads.le
  have hn0 := hF.roads.pos
  simp only at hn3 hn0
  obtain ⟨gr, goff, gcap, rfl, _⟩ := hrv
  clear hM hres hK1 hrv2 hk1 hF
  unfold fairV
  go_wp2_with fail
  obtain ⟨n1, hn1⟩ : ∃ n1, n1 = w1.heap.size := ⟨_, rfl⟩
  have hblk1 : (w1.alloc (.cells #[.slice none 0 0, .slice (some ⟨gr, goff, none⟩) M.length gcap, .int .i64 sF, .int .i64 sT, .int .i64 dye, .int .i64 most0] 30)).heap[n1]? = some (.cells #[.slice none 0 0, .slice (some ⟨gr, goff, none⟩) M.length gcap, .int .i64 sF, .int .i64 sT, .int .i64 dye, .int .i64 most0] 30 (0, 0)) := by rw [hn1]; exact heap_new w1 _
  rw [← hn1]
  refine (among_any b t1 1 3 _ (hB1.alloc _) (by omega) (by omega) (by omega) (by omega) (by omega)).mono ?_
  rintro e w2 ⟨most', hm1, hm2, rfl, hB2, hk2⟩
  obtain ⟨most, rfl⟩ := Int.eq_ofNat_of_zero_le (show 0 ≤ most' by omega)
  have hblk2 := (hk2.block n1 (by simp; omega) (by omega)).trans hblk1
  have fz2 := six_free hblk2
  obtain ⟨q0, q1, q2, q3, q4, q5⟩ := six_cells hblk2
  have HK2 := Lib.hid hk2
  have HB2 := Lib.hid hblk2
  have HN1 := Lib.hid hn1
  clear hk2 hblk1 hblk2 hn1
  go_wp2_with fail
  have HG0 : Hid (GRel b (t + 31 + 12 * 0) n1 n1 w (w2.setCell ⟨n1, 5, none⟩ (.int .i64 most)) (.slice none 0 0) (.slice (some ⟨gr, goff, none⟩) M.length gcap) (.slice none 0 0) (.slice none 0 0) [] [] M sF sT dye most) := by
    have hb2 := HB2.out
    have hl2 := (Array.getElem?_eq_some_iff.1 hb2).1
    have hn1w : w.heap.size < n1 := by rw [HN1.out]; exact hs1
    have K2 : Kept b w w2 := (HK1.out.alloc _).trans HK2.out
    have ol : ∀ g, g < w1.heap.size → g ≠ b → w2.heap[g]? = w1.heap[g]? := fun g hg hb => (HK2.out.block g (by simp; omega) hb).trans (Below.heap_alloc _ _ _ hg)
    have old : ∀ g, g ≠ n1 → (w2.setCell ⟨n1, 5, none⟩ (.int .i64 most)).heap[g]? = w2.heap[g]? := fun g hg => Below.heap_setCell _ _ _ _ (by exact hg)
    have hsz2 := HK2.out.size
    simp only [World.size_alloc] at hsz2
    refine { bag := ⟨_, by omega, hB2.setCell (by show b < n1; omega) _⟩, kept := K2.setCell (.inr (by show _ ≤ n1; omega)) _, lt := hn1w, lex := Nat.le_refl _, res := (old _ (by omega)).trans ((ol _ hs1 (by omega)).trans HRES.out), blk := ?_, ownV := World.ownsRow_nil _ _ _ _, ownW := World.ownsRow_nil _ _ _ _, apart := fun g e => by simp [Value.ownBlock] at e, offV := by simp [Value.ownBlock], offW := by simp [Value.ownBlock], exl := by simpa using hl2, rows := ?_, mZ := by simp }
    · simp [World.setCell, Array.getElem?_modify, hb2]
    · have hn1' := HN1.out
      exact HRV.out.step (by simp; omega) (fun g hg hp => (old g (by omega)).trans (ol g hg (by omega))) (fun g hg hp => ⟨hp, by omega, by omega, by simp [Value.ownBlock], by simp [Value.ownBlock]⟩)
  clear q0 q1 q2 q3 q4 q5 fz2 HB2 HK2 HRV HK1 HRES hB1 hB2
  go_loopw [7, 8, 9] (fun V W i wr => ∃ (k : Nat) (Z : List (Ent × Value)) (I : List Int), k ≤ most ∧ i = .int .i64 k ∧ Z.length = k ∧ I.length = k ∧ GRel b (t + 31 + 12 * k) n1 n1 w wr (.slice none 0 0) (.slice (some ⟨gr, goff, none⟩) M.length gcap) V W Z I M sF sT dye most ∧ (∀ z ∈ Z, HorseOK z M.length) ∧ (∀ x ∈ I, 13 ≤ x ∧ x ≤ 16)) (fun _ _ i _ => most - (intOf i).toNat)
  case atStart => exact ⟨0, [], [], Nat.zero_le _, rfl, rfl, rfl, HG0.out, by simp, by simp⟩
  case round =>
    clear HG0
    obtain ⟨k, Z, I, hk, rfl, hZ, hI, G, hZo, hIo⟩ := hrel
    obtain ⟨q0, q1, q2, q3, q4, q5⟩ := six_cells G.blk
    obtain ⟨t3, ht3, hB3⟩ := G.bag
    have HG := Lib.hid G
    have HZ := Lib.hid hZ
    have HI := Lib.hid hI
    have HZO := Lib.hid hZo
    have HIO := Lib.hid hIo
    have hgsz := (Array.getElem?_eq_some_iff.1 G.blk).1
    clear G hZ hI hZo hIo
    by_cases hlt : k < most
    · have hklt : (k : Int) < (most : Int) := by omega
      go_wp2_with (first
        | (go_at_call 15; (refine (entry_any b t3 M.length _ hB3 (by omega) (by omega) (by omega)).mono ?_; rintro e w4 ⟨eh, ep, ec, et, es, el, ev, rfl, ⟨a1, a2⟩, ⟨b1, b2⟩, ⟨c1, c2⟩, ⟨d1, d2⟩, ⟨e1, e2⟩, hM4, hO4, hasc, hin, hle, hB4, hk4⟩; obtain ⟨va, vc, rfl⟩ := ints_slice hM4; have HG4 := Lib.hid (HG.out.keep (T' := t + 31 + 12 * k + 11) hbw hk4 hB4 (by omega)); have HM4 := Lib.hid (intsM_new hM4 hO4); have HK4 := Lib.hid hk4; have HEO := Lib.hid (And.intro hasc (And.intro hin hle)); clear hk4 hM4 hO4 hasc hin hle))
        | (at_builtin; refine wpList_append_lies _ rfl _ _ _ rfl (n1 + 1) 57 j0 _ 6 64 (by first | rfl | kernel_rfl) hj hy0 hy1 hy2 rfl (by decide) u7 Z.length _ rfl (HG4.out.ownV.alloc _) ⟨w4.heap.size, 0, none⟩ 1 1 (ecells (⟨eh, ep, ec, et, es, el⟩, .slice va el.length vc)) rfl rfl ?a1 ?a2 (by decide) ?a3 ?a4 ?a5 _ rfl ?_))
      case a1 => exact World.news_of_block (heap_new w4 _)
      case a2 => intro u hu; simp [ecells] at hu; rcases hu with rfl | rfl | rfl | rfl | rfl | rfl <;> rfl
      case a3 => have := HZ.out; unfold maxLen; omega
      case a4 => have := HZ.out; omega
      case a5 => have := (Array.getElem?_eq_some_iff.1 HG4.out.blk).1; simp; omega
      intro g5 cap5 w5 own5 grow5 at5 lt5
      have st5 := ((Sg.refl HG4.out.ownV HG4.out.ownW HG4.out.apart).alloc _).append own5 grow5 (by simpa using at5)
      have HG5 : Hid (GRel b (t + 31 + 12 * k + 11) n1 n1 w w5 (.slice none 0 0) (.slice (some ⟨gr, goff, none⟩) M.length gcap) (.slice (some ⟨g5, 0, none⟩) (Z.length + 1) cap5) u8 (Z ++ [(⟨eh, ep, ec, et, es, el⟩, .slice va el.length vc)]) I M sF sT dye most) := by
        refine HG4.out.grow hbw (by simpa using st5) fun z hz => ?_
        rcases List.mem_append.1 hz with h | h
        · exact .inl h
        · simp at h; subst h
          exact .inr (HM4.out.step (Nat.le_refl _) (fun _ _ _ => rfl) (fun g hg hp => HG.out.newP hp))
      clear st5 own5 grow5 at5
      obtain ⟨t5, ht5, hB5⟩ := HG5.out.bag
      go_wp2_with (first
        | (go_at_call 14; (refine (among_any b t5 13 16 _ hB5 (by omega) (by omega) (by omega) (by omega) (by omega)).mono ?_; rintro e w6 ⟨x, hx1, hx2, rfl, hB6, hk6⟩; have HG6 := Lib.hid (HG5.out.keep (T' := t + 31 + 12 * k + 12) hbw hk6 hB6 (by omega)); clear hk6))
        | (at_builtin; refine wpList_append_lies _ rfl _ _ _ rfl (n1 + 1) 3 i0 (.int .i64 0) 1 8 (by first | rfl | kernel_rfl) hi hz0 hz1 hz2 rfl (by decide) u8 I.length _ rfl (HG6.out.ownW.alloc _) ⟨w6.heap.size, 0, none⟩ 1 1 [.int .i64 x] rfl rfl ?b1 ?b2 (by decide) ?b3 ?b4 ?b5 _ rfl ?_))
      case b1 => exact World.news_of_block (heap_new w6 _)
      case b2 => intro u hu; simp at hu; subst hu; rfl
      case b3 => have := HI.out; unfold maxLen; omega
      case b4 => have := HI.out; omega
      case b5 => have := (Array.getElem?_eq_some_iff.1 HG6.out.blk).1; simp; omega
      intro g7 cap7 w7 own7 grow7 at7 lt7
      have st7 := (((Sg.refl HG6.out.ownV HG6.out.ownW HG6.out.apart).alloc _).swap.append own7 grow7 (by simpa using at7)).swap
      have HG7 : Hid (GRel b (t + 31 + 12 * (k + 1)) n1 n1 w w7 (.slice none 0 0) (.slice (some ⟨gr, goff, none⟩) M.length gcap) (.slice (some ⟨g5, 0, none⟩) (Z.length + 1) cap5) (.slice (some ⟨g7, 0, none⟩) (I.length + 1) cap7) (Z ++ [(⟨eh, ep, ec, et, es, el⟩, .slice va el.length vc)]) (I ++ [x]) M sF sT dye most) :=
        HG6.out.grow hbw (by simpa using st7) fun z hz => .inl hz
      clear st7 own7 grow7 at7
      go_wp2_with fail
      go_roundw
      case rel =>
        refine ⟨k + 1, _, _, by omega, by go_num, ?_, ?_, HG7.out, fun z hz => ?_, fun y hy => ?_⟩
        · have := HZ.out; simp; omega
        · have := HI.out; simp; omega
        · rcases List.mem_append.1 hz with h | h
          · exact HZO.out z h
          · simp at h; subst h
            obtain ⟨o1, o2, o3⟩ := HEO.out
            exact ⟨⟨b1, b2⟩, ⟨c1, c2⟩, ⟨o1, o2, o3⟩, ⟨a1, by show eh ≤ 72; omega⟩, ⟨_, _, rfl⟩⟩
        · rcases List.mem_append.1 hy with h | h
          · exact HIO.out y h
          · simp at h; subst h; omega
      case measure => simp [intOf]; omega
    · obtain rfl : k = most := by omega
      have hklt : (k : Int) ≤ (k : Int) := by omega
      clear hlt
      go_wp2_with fail
      refine (among_any b t3 1 5 _ hB3 (by omega) (by omega) (by omega) (by omega) (by omega)).mono ?_
      rintro e w4 ⟨q', hq1, hq2, rfl, hB4, hk4⟩
      obtain ⟨q, rfl⟩ := Int.eq_ofNat_of_zero_le (show 0 ≤ q' by omega)
      have HG4 := Lib.hid (HG.out.keep (T' := t + 31 + 12 * k + 1) hbw hk4 hB4 (by omega))
      clear hk4 hB4 HG q0 q1 q2 q3 q4 q5
      -- the two rows as they lie from here on
      have hk0 : 0 < k := by omega
      obtain ⟨lG, lcap, hV, hlb, hll⟩ := HG4.out.ownV.form (by have := HZ.out; omega)
      obtain ⟨hG, hcap, hW, hhb, hhl⟩ := HG4.out.ownW.form (by have := HI.out; omega)
      have hne : lG ≠ hG := fun e => HG4.out.apart lG (by rw [hV]; rfl) (by rw [hW, e]; rfl)
      obtain ⟨La0, hLa0⟩ : ∃ f : Nat → Ent × Value, f = fun i => Z[i]?.getD (⟨0, 0, 0, 0, 0, []⟩, .slice none 0 0) := ⟨_, rfl⟩
      obtain ⟨hs, hhs⟩ : ∃ f : Nat → Int, f = fun i => I[i]?.getD 0 := ⟨_, rfl⟩
      have fixp : ∀ g, FixP w.heap.size n1 n1 u7 u8 g → FixP w.heap.size n1 lG (.slice none 0 0) (.slice none 0 0) g := fun g h => ⟨h.1, h.2.1, fun e => h.2.2.2.1 (by rw [hV, e]; rfl), by simp [Value.ownBlock], by simp [Value.ownBlock]⟩
      have HG2 : Hid (GRel b (t + 31 + 12 * k + 1) n1 lG w w4 (.slice none 0 0) (.slice (some ⟨gr, goff, none⟩) M.length gcap) (.slice none 0 0) (.slice none 0 0) [] [] M sF sT dye k) := by
        obtain ⟨bag, kept, lt, lex, res, blk, ownV, ownW, apart, offV, offW, exl, rows, mZ⟩ := HG4.out
        exact ⟨bag, kept, lt, by omega, res, blk, World.ownsRow_nil _ _ _ _, World.ownsRow_nil _ _ _ _, fun g e => by simp [Value.ownBlock] at e, by simp [Value.ownBlock], by simp [Value.ownBlock], hll, rows.step (Nat.le_refl _) (fun _ _ _ => rfl) (fun g _ h => fixp g h), by simp⟩
      have HL2 : Hid (LRel w.heap.size n1 lG k w4 (.slice none 0 0) (.slice none 0 0) u8 La0 hs) := by
        have hz := HZ.out
        have hi2 := HI.out
        refine ⟨?_, fun i hi => ?_, ?_⟩
        · rcases HG4.out.ownV.2 with ⟨_, h0⟩ | ⟨g, cap, cur, hv, _, hh, _, _, hs', ht'⟩
          · omega
          · rw [hV] at hv
            cases hv
            refine ⟨cur, _, hh, fun i hi j hj => ?_⟩
            have h6 := six_get Z i j hj (by omega)
            rw [← ht', List.getElem?_take, if_pos (by omega)] at h6
            rw [hLa0]
            simp only [List.getElem?_eq_getElem (show i < Z.length by omega), Option.getD_some]
            simpa using h6
        · rw [hLa0]
          simp only [List.getElem?_eq_getElem (show i < Z.length by omega), Option.getD_some]
          exact (HG4.out.mZ _ (List.getElem_mem _)).step (Nat.le_refl _) (fun _ _ _ => rfl) (fun g _ h => fixp g h)
        · have e : (List.range k).map hs = I := by
            rw [hhs]
            apply List.ext_getElem?
            intro i
            by_cases h : i < k
            · simp [h, show i < I.length by omega]
            · simp [h]; omega
          rw [e]
          exact intsM_own HG4.out.ownW (fun g hg => ⟨by have := (HG4.out.ownW.lt g hg).1; have := HG4.out.lt; omega, by have := (HG4.out.ownW.lt g hg).1; omega, fun e => by rw [hW] at hg; simp [Value.ownBlock] at hg; omega, by simp [Value.ownBlock], by simp [Value.ownBlock]⟩)
      have HM2 : Hid (MInv M sF sT dye k [] [] La0 hs) := by
        have hz := HZ.out
        have hi2 := HI.out
        refine ⟨rfl, by simp, by simp, fun i hi => ?_, fun i hi => ?_, fun i z h hz => by simp at hz, fun i z h hz => by simp at hz, fun h hh => by simp at hh, fun i j x y h _ hi => by simp at hi⟩
        · rw [hLa0]
          simp only [List.getElem?_eq_getElem (show i < Z.length by omega), Option.getD_some]
          exact HZO.out _ (List.getElem_mem _)
        · rw [hhs]
          simp only [List.getElem?_eq_getElem (show i < I.length by omega), Option.getD_some]
          exact HIO.out _ (List.getElem_mem _)
      have hn1w := HG4.out.lt
      rw [HZ.out] at hV
      rw [HI.out] at hW
      subst hV hW
      clear hLa0 hhs fixp HG4 HZ HI HZO HIO hhb hhl hll hne HN1 hs1 hgsz hB
      go_wp2_with fail
      go_loopw [10, 11] (fun hv i wr => ∃ (q : Nat) (ev : Value) (Z : List (Ent × Value)) (I : List Int) (La : Nat → Ent × Value), q ≤ 5 ∧ i = .int .i64 q ∧ Z.length + q ≤ 5 ∧ GRel b (t + 69 + 16 * (5 - q)) n1 lG w wr ev (.slice (some ⟨gr, goff, none⟩) M.length gcap) ev hv Z I M sF sT dye k ∧ LRel w.heap.size n1 lG k wr ev hv (.slice (some ⟨hG, 0, none⟩) k hcap) La hs ∧ MInv M sF sT dye k Z I La hs) (fun _ i _ => (intOf i).toNat)
      case atStart => exact ⟨q, _, [], [], La0, by omega, rfl, by simp; omega, HG2.out.keep hbw (Kept.refl _ _) HG2.out.bag.choose_spec.2 (by have := HG2.out.bag.choose_spec.1; omega), HL2.out, HM2.out⟩
      case round =>
        clear HG2 HL2 HM2 hq1 hq2
        obtain ⟨q, ev, Z, I, La, hq5, rfl, hZq, G, L, MI⟩ := hrel
        obtain ⟨t5, ht5, hB5⟩ := G.bag
        obtain ⟨q0, q1, q2, q3, q4, q5⟩ := six_cells G.blk
        have hwn1 := G.lt
        have hn1l := G.lex
        have hls := G.exl
        have HG := Lib.hid G
        have HL := Lib.hid L
        have HM := Lib.hid MI
        clear G L MI
        by_cases hlt : 0 < q
        · have hq0 : (0 : Int) < (q : Int) := by omega
          go_upto_region 15 with (first
            | (go_at_call 8; (refine (upTo_any b t5 (k - 1) _ hB5 (by omega) (by omega) (by omega)).mono ?_; rintro e w6 ⟨h', hh1, hh2, rfl, hB6, hk6⟩; obtain ⟨h, rfl⟩ := Int.eq_ofNat_of_zero_le hh1; have hhk : h < k := (by omega); have HG6 := Lib.hid (HG.out.keep (T' := t + 69 + 16 * (5 - q) + 1) hbw hk6 hB6 (by omega)); have HL6 := Lib.hid (HL.out.keep (b := b) (by omega) (by omega) hk6); clear hk6; clear q0 q1 q2 q3 q4 q5; obtain ⟨q0, q1, q2, q3, q4, q5⟩ := six_cells HG6.out.blk))
            | (go_at_call 15; (refine (entry_any b (t5 + 1) M.length _ hB6 (by omega) (by omega) (by omega)).mono ?_; rintro e w7 ⟨eh, ep, ec, et, es, el, mv, rfl, ⟨a1, a2⟩, ⟨b1, b2⟩, ⟨c1, c2⟩, ⟨d1, d2⟩, ⟨e1, e2⟩, hM7, hO7, hasc, hin, hle, hB7, hk7⟩; obtain ⟨va, vc, rfl⟩ := ints_slice hM7; have HK7 := Lib.hid hk7; have HM7 := Lib.hid (intsM_new hM7 hO7); have HEO := Lib.hid (And.intro hasc (And.intro hin hle)); clear hk7 hM7 hO7 hasc hin hle)))
          have hb7 : b < w7.heap.size := by have := HK7.out.size; have := hB6.lt; omega
          have HN8 : Hid (NRel b (t + 69 + 16 * (5 - q) + 12) w7 (w7.alloc (.cells #[.int .i64 eh, .int .i64 ep, .int .i64 ec, .slice va el.length vc, .int .i64 et, .int .i64 es] 57)) eh ep ec (.slice va el.length vc) et es) :=
            ⟨(Kept.refl b w7).alloc _, ⟨_, by omega, hB7.alloc _⟩, heap_new w7 _⟩
          obtain ⟨w8, hw8⟩ : ∃ w8, w7.alloc (.cells #[.int .i64 eh, .int .i64 ep, .int .i64 ec, .slice va el.length vc, .int .i64 et, .int .i64 es] 57) = w8 := ⟨_, rfl⟩
          rw [hw8] at HN8 ⊢
          clear hw8 q0 q1 q2 q3 q4 q5 hB5 hB6 hB7
          have hh0 : (0 : Int) ≤ (h : Int) := by omega
          have hhk2 : (h : Int) < (k : Int) := by omega
          -- the coat
          obtain ⟨l0, l1, l2, l3, l4, l5, lf⟩ := (HL6.out.keep (b := b) (by omega) (by omega) (HK7.out.trans HN8.out.kept)).cells hhk
          obtain ⟨n0, n1', n2, n3, n4, n5⟩ := six_cells HN8.out.blk
          have nf := six_free HN8.out.blk
          go_upto_region 16 with fail
          have HN9 := Lib.hid (HN8.out.coat hb7 (La h).1.coat)
          obtain ⟨w9, hw9⟩ : ∃ w9, w8.setCell ⟨w7.heap.size, 2, none⟩ (.int .i64 (La h).1.coat) = w9 := ⟨_, rfl⟩
          rw [hw9] at HN9 ⊢
          obtain ⟨t9, ht9, hB9⟩ := HN9.out.bag
          clear hw9 l0 l1 l2 l3 l4 l5 lf n0 n1' n2 n3 n4 n5 nf HN8
          go_upto_region 17 with fail
          refine (upTo_any b t9 2 _ hB9 (by omega) (by omega) (by omega)).mono ?_
          rintro e w10 ⟨sh, hsh1, hsh2, rfl, hB10, hk10⟩
          have hsh : sh ≤ 2 := by omega
          have HN10 := Lib.hid (HN9.out.draw (T' := t + 69 + 16 * (5 - q) + 13) hb7 hk10 hB10 (by omega))
          clear hk10 hB10 hB9 HN9 hsh2
          obtain ⟨n0, n1', n2, n3, n4, n5⟩ := six_cells HN10.out.blk
          have nf := six_free HN10.out.blk
          go_upto_region 17 with fail
          have HN11 := Lib.hid (HN10.out.shod hb7 sh)
          obtain ⟨w11, hw11⟩ : ∃ w11, w10.setCell ⟨w7.heap.size, 5, none⟩ (.int .i64 sh) = w11 := ⟨_, rfl⟩
          rw [hw11] at HN11 ⊢
          clear hw11 n0 n1' n2 n3 n4 n5 nf HN10
          obtain ⟨_, hb', ho', hha, hhc⟩ := (HL6.out.keep (b := b) (by omega) (by omega) (HK7.out.trans HN11.out.kept)).height hhk
          cases hha
          simp only [Nat.zero_add] at hhc
          obtain ⟨n0, n1', n2, n3, n4, n5⟩ := six_cells HN11.out.blk
          have nf := six_free HN11.out.blk
          go_upto_region 18 with fail
          have HN12 := Lib.hid (HN11.out.height hb7 (hs h))
          obtain ⟨w12, hw12⟩ : ∃ w12, w11.setCell ⟨w7.heap.size, 4, none⟩ (.int .i64 (hs h)) = w12 := ⟨_, rfl⟩
          rw [hw12] at HN12 ⊢
          clear hw12 n0 n1' n2 n3 n4 n5 nf HN11 hhc
          obtain ⟨n0, n1', n2, n3, n4, n5⟩ := six_cells HN12.out.blk
          obtain ⟨t12, ht12, hB12⟩ := HN12.out.bag
          go_cut [80] from 41 to 149 (fun v w' => ∃ r : Bool, v = .bool r ∧ NRel b (t + 69 + 16 * (5 - q) + 14) w7 w' eh ep (La h).1.coat (.slice va el.length vc) (hs h) sh ∧ (r = true → sh ≠ 0) ∧ (r = false → sh ≠ 1))
          case first =>
            have h3 : sh = 0 ∨ sh = 1 ∨ sh = 2 := by omega
            rcases h3 with rfl | rfl | rfl
            · go_wp2_with fail
              go_meet
              case rel => exact ⟨_, rfl, HN12.out.draw hb7 (Kept.refl _ _) hB12 (by omega), by simp, by simp⟩
            · go_wp2_with fail
              go_meet
              case rel => exact ⟨_, rfl, HN12.out.draw hb7 (Kept.refl _ _) hB12 (by omega), by simp, by simp⟩
            · go_wp2_with (go_at_call 16; (refine (once_any b t12 2 _ hB12 (by omega) (by omega) (by omega)).mono ?_; rintro e w13 ⟨r, rfl, hB13, hk13⟩; have HN13 := Lib.hid (HN12.out.draw (T' := t + 69 + 16 * (5 - q) + 14) hb7 hk13 hB13 (by omega)); clear hk13 hB13))
              go_meet
              case rel => exact ⟨_, rfl, HN13.out, by simp, by simp⟩
          case rest =>
          clear n0 n1' n2 n3 n4 n5 hB12 HN12
          obtain ⟨r, rfl, HNa', hr1, hr2⟩ := hcut
          have HNa := Lib.hid HNa'
          have HR1 := Lib.hid hr1
          have HR2 := Lib.hid hr2
          clear HNa' hr1 hr2
          obtain ⟨ta, hta, hBa⟩ := HNa.out.bag
          go_upto_if 80 with fail
          go_cut [] from 41 to 149 (fun w' => ∃ tt : Int, NRel b (t + 69 + 16 * (5 - q) + 15) w7 w' eh ep (La h).1.coat (.slice va el.length vc) tt sh ∧ ((sh ≠ 1 ∧ tt = hs h) ∨ (sh ≠ 0 ∧ ∃ a, sF ≤ a ∧ a ≤ sT ∧ tt = hs h + a)))
          case first =>
            cases r with
            | false =>
              go_wp2_with fail
              go_meet
              case rel => exact ⟨_, HNa.out.draw hb7 (Kept.refl _ _) hBa (by omega), .inl ⟨by have := HR2.out; simpa using this, rfl⟩⟩
            | true =>
              go_upto_region 19 with fail
              have hHsR := HM.out.hsr h hhk
              obtain ⟨n0, n1', n2, n3, n4, n5⟩ := six_cells HNa.out.blk
              obtain ⟨q0, q1, q2, q3, q4, q5⟩ := six_cells (HG6.out.keep hbw (HK7.out.trans HNa.out.kept) hBa (Nat.le_refl _)).blk
              have nf := six_free HNa.out.blk
              refine wp_region_late (fun w' => w'.cell? ⟨w7.heap.size, 4, none⟩ = some (.int .i64 (hs h)) ∧ w'.cell? ⟨n1, 2, none⟩ = some (.int .i64 sF) ∧ w'.cell? ⟨n1, 3, none⟩ = some (.int .i64 sT)) (fun i => i == 11 || i == 12) (by kernel_rfl) ?_
              obtain ⟨wd, hwd⟩ : ∃ x, x = wc.drew := ⟨_, rfl⟩
              have hS : (fun w' : World => w'.cell? ⟨w7.heap.size, 4, none⟩ = some (.int .i64 (hs h)) ∧ w'.cell? ⟨n1, 2, none⟩ = some (.int .i64 sF) ∧ w'.cell? ⟨n1, 3, none⟩ = some (.int .i64 sT)) wd := by rw [hwd]; exact ⟨n4, q2, q3⟩
              rw [← hwd]
              have HNd : Hid (NRel b (t + 69 + 16 * (5 - q) + 14) w7 wd eh ep (La h).1.coat (.slice va el.length vc) (hs h) sh) := by rw [hwd]; exact ⟨HNa.out.kept.drew, ⟨ta, hta, hBa.drew⟩, HNa.out.blk⟩
              have hBd : Bag wd b ta := by rw [hwd]; exact hBa.drew
              clear hwd n0 n1' n2 n3 n4 n5 q0 q1 q2 q3 q4 q5 nf
              refine late_take (i := 0) (v := ?_) (by simp only [List.getElem?_toArray, List.getElem?_cons_zero, List.getElem?_cons_succ]; exact rfl) (by kernel_rfl) (by kernel_rfl) (by exact fun _ _ _ h => h) 12 _ _ _ (by kernel_rfl) (List.mem_of_elem_eq_true (by kernel_rfl)) (Or.inl ⟨by rfl, ?_⟩) hS ?_
              rotate_left
              · intro w2 hw2
                try dsimp only at hw2
                obtain ⟨hw20, hw21, hw22⟩ := hw2
                go_simp
                try with_reducible rfl
              try simp only [Act.put, List.setIfInBounds_toArray, List.set_cons_zero, List.set_cons_succ]
              refine late_take (i := 1) (v := ?_) (by simp only [List.getElem?_toArray, List.getElem?_cons_zero, List.getElem?_cons_succ]; exact rfl) (by kernel_rfl) (by kernel_rfl) (by exact fun _ _ _ h => h) 11 _ _ _ (by kernel_rfl) (List.mem_of_elem_eq_true (by kernel_rfl)) (Or.inl ⟨by rfl, ?_⟩) hS ?_
              rotate_left
              · intro w2 hw2
                try dsimp only at hw2
                obtain ⟨hw20, hw21, hw22⟩ := hw2
                go_simp
                try with_reducible rfl
              try simp only [Act.put, List.setIfInBounds_toArray, List.set_cons_zero, List.set_cons_succ]
              refine late_take (i := 2) (v := ?_) (by simp only [List.getElem?_toArray, List.getElem?_cons_zero, List.getElem?_cons_succ]; exact rfl) (by kernel_rfl) (by kernel_rfl) (by exact fun _ _ _ h => h) 10 _ _ _ (by kernel_rfl) (List.mem_of_elem_eq_true (by kernel_rfl)) (Or.inl ⟨by rfl, ?_⟩) hS ?_
              rotate_left
              · intro w2 hw2
                try dsimp only at hw2
                obtain ⟨hw20, hw21, hw22⟩ := hw2
                go_simp
                try with_reducible rfl
              try simp only [Act.put, List.setIfInBounds_toArray, List.set_cons_zero, List.set_cons_succ]
              refine late_take (i := 3) (v := ?_) (by simp only [List.getElem?_toArray, List.getElem?_cons_zero, List.getElem?_cons_succ]; exact rfl) (by kernel_rfl) (by kernel_rfl) (by exact fun _ _ _ h => h) 9 _ _ _ (by kernel_rfl) (List.mem_of_elem_eq_true (by kernel_rfl)) (Or.inl ⟨by rfl, ?_⟩) hS ?_
              rotate_left
              · intro w2 hw2
                try dsimp only at hw2
                obtain ⟨hw20, hw21, hw22⟩ := hw2
                go_simp
                try with_reducible rfl
              try simp only [Act.put, List.setIfInBounds_toArray, List.set_cons_zero, List.set_cons_succ]
              refine late_take (i := 4) (v := ?_) (by simp only [List.getElem?_toArray, List.getElem?_cons_zero, List.getElem?_cons_succ]; exact rfl) (by kernel_rfl) (by kernel_rfl) (by exact fun _ _ _ h => h) 8 _ _ _ (by kernel_rfl) (List.mem_of_elem_eq_true (by kernel_rfl)) (Or.inl ⟨by rfl, ?_⟩) hS ?_
              rotate_left
              · intro w2 hw2
                try dsimp only at hw2
                obtain ⟨hw20, hw21, hw22⟩ := hw2
                go_simp
                try with_reducible rfl
              try simp only [Act.put, List.setIfInBounds_toArray, List.set_cons_zero, List.set_cons_succ]
              refine late_take (i := 5) (v := ?_) (by simp only [List.getElem?_toArray, List.getElem?_cons_zero, List.getElem?_cons_succ]; exact rfl) (by kernel_rfl) (by kernel_rfl) (by exact fun _ _ _ h => h) 7 _ _ _ (by kernel_rfl) (List.mem_of_elem_eq_true (by kernel_rfl)) (Or.inl ⟨by rfl, ?_⟩) hS ?_
              rotate_left
              · intro w2 hw2
                try dsimp only at hw2
                obtain ⟨hw20, hw21, hw22⟩ := hw2
                go_simp
                try with_reducible rfl
              try simp only [Act.put, List.setIfInBounds_toArray, List.set_cons_zero, List.set_cons_succ]
              refine late_take (i := 6) (v := ?_) (by simp only [List.getElem?_toArray, List.getElem?_cons_zero, List.getElem?_cons_succ]; exact rfl) (by kernel_rfl) (by kernel_rfl) (by exact fun _ _ _ h => h) 6 _ _ _ (by kernel_rfl) (List.mem_of_elem_eq_true (by kernel_rfl)) (Or.inl ⟨by rfl, ?_⟩) hS ?_
              rotate_left
              · intro w2 hw2
                try dsimp only at hw2
                obtain ⟨hw20, hw21, hw22⟩ := hw2
                go_simp
                try with_reducible rfl
              try simp only [Act.put, List.setIfInBounds_toArray, List.set_cons_zero, List.set_cons_succ]
              refine late_take (i := 7) (v := ?_) (by simp only [List.getElem?_toArray, List.getElem?_cons_zero, List.getElem?_cons_succ]; exact rfl) (by kernel_rfl) (by kernel_rfl) (by exact fun _ _ _ h => h) 5 _ _ _ (by kernel_rfl) (List.mem_of_elem_eq_true (by kernel_rfl)) (Or.inl ⟨by rfl, ?_⟩) hS ?_
              rotate_left
              · intro w2 hw2
                try dsimp only at hw2
                obtain ⟨hw20, hw21, hw22⟩ := hw2
                go_simp
                try with_reducible rfl
              try simp only [Act.put, List.setIfInBounds_toArray, List.set_cons_zero, List.set_cons_succ]
              refine late_take (i := 8) (v := ?_) (by simp only [List.getElem?_toArray, List.getElem?_cons_zero, List.getElem?_cons_succ]; exact rfl) (by kernel_rfl) (by kernel_rfl) (by exact fun _ _ _ h => h) 4 _ _ _ (by kernel_rfl) (List.mem_of_elem_eq_true (by kernel_rfl)) (Or.inl ⟨by rfl, ?_⟩) hS ?_
              rotate_left
              · intro w2 hw2
                try dsimp only at hw2
                obtain ⟨hw20, hw21, hw22⟩ := hw2
                go_simp
                try with_reducible rfl
              try simp only [Act.put, List.setIfInBounds_toArray, List.set_cons_zero, List.set_cons_succ]
              refine late_one (i := 9) (by kernel_rfl) (by simp only [List.getElem?_toArray, List.getElem?_cons_zero, List.getElem?_cons_succ]; exact rfl) (by rfl) ?_
              intro K hK
              go_simp
              obtain ⟨sf1, sf2, _⟩ := HF.out.shoe
              simp only at sf1 sf2
              refine (among_any b ta sF sT wd hBd (by omega) (by omega) (by omega) (by omega) (by omega)).mono ?_
              rintro e w14 ⟨a, ha1, ha2, rfl, hB14, hk14⟩
              have HN14 := Lib.hid (HNd.out.draw (T' := t + 69 + 16 * (5 - q) + 15) hb7 hk14 hB14 (by omega))
              obtain ⟨n0, n1', n2, n3, n4, n5⟩ := six_cells HN14.out.blk
              have nf := six_free HN14.out.blk
              obtain ⟨q0, q1, q2, q3, q4, q5⟩ := six_cells (HG6.out.keep hbw (HK7.out.trans HN14.out.kept) hB14 (Nat.le_refl _)).blk
              dsimp only
              have hwr : IntKind.i64.wrap (hs h + a) = hs h + a := IntWalk.i64_in _ (by omega)
              refine hK _ _ (fun _ => ⟨n4, q2, q3⟩) ?_
              clear hK K hk14 hS hBd HNd
              try simp only [Act.put, List.setIfInBounds_toArray, List.set_cons_zero, List.set_cons_succ]
              refine late_one (i := 10) (by kernel_rfl) (by simp only [List.getElem?_toArray, List.getElem?_cons_zero, List.getElem?_cons_succ]; exact rfl) (by rfl) ?_
              intro K hK
              go_simp
              refine hK _ _ (fun _ => ⟨n4, q2, q3⟩) ?_
              clear hK K
              try simp only [Act.put, List.setIfInBounds_toArray, List.set_cons_zero, List.set_cons_succ]
              refine late_one (i := 11) (by kernel_rfl) (by simp only [List.getElem?_toArray, List.getElem?_cons_zero, List.getElem?_cons_succ]; exact rfl) (by rfl) ?_
              intro K hK
              go_simp
              refine hK _ _ (fun h => by simp at h) ?_
              clear hK K
              try simp only [Act.put, List.setIfInBounds_toArray, List.set_cons_zero, List.set_cons_succ]
              refine late_one (i := 12) (by kernel_rfl) (by simp only [List.getElem?_toArray, List.getElem?_cons_zero, List.getElem?_cons_succ]; exact rfl) (by rfl) ?_
              intro K hK
              go_simp
              refine hK _ _ (fun h => by simp at h) ?_
              clear hK K
              try simp only [Act.put, List.setIfInBounds_toArray, List.set_cons_zero, List.set_cons_succ]
              refine late_done (by kernel_rfl) ?_ _
              have HNe := Lib.hid (HN14.out.height hb7 (hs h + a))
              clear n0 n1' n2 n3 n4 n5 nf q0 q1 q2 q3 q4 q5
              go_wp2_with fail
              go_meet
              case rel => exact ⟨_, HNe.out, .inr ⟨by have := HR1.out; simpa using this, a, ha1, by omega, rfl⟩⟩
          case rest =>
          obtain ⟨tt, HNf', hhg⟩ := hcut
          have HNf := Lib.hid HNf'
          have HHG := Lib.hid hhg
          clear HNf' hhg hBa HNa HR1 HR2
          obtain ⟨tf, htf, hBf⟩ := HNf.out.bag
          have HGf := Lib.hid (HG6.out.keep hbw (HK7.out.trans HNf.out.kept) hBf (Nat.le_refl _))
          have hownI := intsM_own (P := fun _ => True) HGf.out.ownW (fun _ _ => trivial)
          have HWI := Lib.hid hownI.ints
          obtain ⟨ia, ic, hu10, _⟩ := hownI
          subst hu10
          go_upto_region 20 with fail
          go_cut [96] from 41 to 149 (fun v w' => ∃ rr : Bool, v = .bool rr ∧ wc = w' ∧ (rr = true ↔ (h : Int) ∈ I))
          case first =>
            go_wp2_with (go_at_call 17; (refine (where_any _ I (h : Int) _ HWI.out (by have := HM.out.len; omega)).mono ?_; rintro e w15 ⟨r, hr1, hr2, hr3, rfl, rfl⟩))
            go_meet
            case rel => exact ⟨_, rfl, rfl, by first | exact decide_eq_true_iff | (simp [hr3]; done) | simp⟩
          case rest =>
          obtain ⟨rr, rfl, rfl, hr3⟩ := hcut
          go_upto_if 96 with fail
          have HR3 := Lib.hid hr3
          clear hr3
          go_cut [] from 41 to 149 (fun w' => ∃ hh : Int, NRel b (t + 69 + 16 * (5 - q) + 16) w7 w' hh ep (La h).1.coat (.slice va el.length vc) tt sh ∧ (0 ≤ hh ∧ hh ≤ 1000) ∧ ((h : Int) ∈ I → (La h).1.hour + roadAt M (La h).1 ⟨eh, ep, ec, et, es, el⟩ + dye * (changed (La h).1.marks el : Nat) ≤ hh))
          case first =>
            cases rr with
            | true =>
              go_upto_region 21 with fail
              have HO := HM.out.okL h hhk
              obtain ⟨lma, lmc, hlm⟩ := HO.slice
              obtain ⟨dy1, _⟩ := HF.out.dye
              simp only at dy1
              have HLf := Lib.hid (HL6.out.keep (b := b) (by omega) (by omega) (HK7.out.trans HNf.out.kept))
              obtain ⟨l0, l1, l2, l3, l4, l5, lf⟩ := HLf.out.cells hhk
              obtain ⟨n0, n1', n2, n3, n4, n5⟩ := six_cells HNf.out.blk
              have nf := six_free HNf.out.blk
              obtain ⟨q0, q1, q2, q3, q4, q5⟩ := six_cells HGf.out.blk
              obtain ⟨pl, hpl⟩ := Int.eq_ofNat_of_zero_le HO.place.1
              obtain ⟨epn, hep⟩ := Int.eq_ofNat_of_zero_le b1
              have hplM : pl < M.length := by have := HO.place.2; omega
              have hepM : epn < M.length := by omega
              have hRl : (M[pl]?.getD []).length = M.length := by rw [List.getElem?_eq_getElem hplM]; exact HF.out.roads.sq pl hplM
              have hRn : ∀ j, j < M.length → 0 ≤ (M[pl]?.getD [])[j]?.getD 0 ∧ (M[pl]?.getD [])[j]?.getD 0 ≤ 9 := fun j hj => by
                have hj2 : j < M[pl].length := by have := HF.out.roads.sq pl hplM; simp only at this; omega
                rw [List.getElem?_eq_getElem hplM, Option.getD_some, List.getElem?_eq_getElem hj2]
                exact HF.out.roads.num pl j hplM hj2
              obtain ⟨g', off', cap', rb, ro, rc, hv', hrow⟩ := rowM_at HGf.out.rows hplM
              cases hv'
              obtain ⟨r1, hrb, r2⟩ := hrow (by omega)
              have hrb1 := hrb.1
              have hgr1 : w.heap.size < gr := by obtain ⟨_, _, _, e1, e2, _⟩ := HGf.out.rows; cases e1; exact e2.1
              have r3 := r2 epn (by omega)
              have hxr := hRn epn hepM
              have hRo : roadAt M (La h).1 ⟨eh, ep, ec, et, es, el⟩ = (M[pl]?.getD [])[epn]?.getD 0 := by simp only [roadAt, hpl, hep, Int.toNat_natCast]
              rw [hRl] at r1
              obtain ⟨x, hx⟩ : ∃ x, x = (M[pl]?.getD [])[epn]?.getD 0 := ⟨_, rfl⟩
              rw [← hx] at r3 hxr hRo
              obtain ⟨lh, hlh⟩ : ∃ lh, lh = (La h).1.hour := ⟨_, rfl⟩
              have hlhr : 0 ≤ lh ∧ lh ≤ 72 := by rw [hlh]; exact HO.hour
              rw [← hlh] at l0
              rw [hpl] at l1
              rw [hlm] at l3
              rw [hep] at n1'
              have hch : changed (La h).1.marks el ≤ 6 := by
                have h1 := notIn_le (La h).1.marks el (La h).1.marks.length
                have h2 := notIn_le el (La h).1.marks el.length
                have h3 := HO.marks.2.2
                have h4 := HEO.out.2.2
                unfold changed
                omega
              have INTS : ∀ u, Kept b wc u → Ints u (.slice va el.length vc) el ∧ Ints u (.slice lma (La h).1.marks.length lmc) (La h).1.marks := fun u hu => by
                have hbl : b < w6.heap.size := by have := HG6.out.kept.size; omega
                refine ⟨(HM7.out.step (P' := fun _ => True) (HNf.out.kept.trans hu).size (fun g hg hp => (HNf.out.kept.trans hu).block g hg (by omega)) (fun _ _ _ => trivial)).ints, ?_⟩
                have := (HLf.out.mL h hhk).step (P' := fun _ => True) hu.size (fun g hg hp => hu.block g hg (by have := hp.1; omega)) (fun _ _ _ => trivial)
                rw [hlm] at this
                exact this.ints
              obtain ⟨lml, hlml⟩ : ∃ l, l = (La h).1.marks := ⟨_, rfl⟩
              rw [← hlml] at INTS hch l3
              have hml : lml.length ≤ 3 := by rw [hlml]; exact HO.marks.2.2
              have hel : el.length ≤ 3 := HEO.out.2.2
              have CH : ∀ u, Kept b wc u → Calls Tryz.prog 18 #[.slice lma lml.length lmc, .slice va el.length vc] u (fun e w' => e = .returned (.int .i64 (changed lml el : Nat)) ∧ u = w') := fun u hu => changed_any _ _ lml el u (INTS u hu).2 (INTS u hu).1 (by omega) (by omega)
              have HCH := Lib.hid CH
              clear CH INTS hrow r2 hRn hRl
              obtain ⟨ch, hchh⟩ : ∃ c, c = changed lml el := ⟨_, rfl⟩
              rw [← hchh] at HCH hch
              have hm1 : 0 ≤ dye * (ch : Int) := Int.mul_nonneg (by omega) (by omega)
              have hm2 : dye * (ch : Int) ≤ 4 * 6 := Int.mul_le_mul (by omega) (by omega) (by omega) (by omega)
              have hw1 : IntKind.i64.wrap (lh + x) = lh + x := IntWalk.i64_in _ (by omega)
              have hw2 : IntKind.i64.wrap (dye * (ch : Int)) = dye * (ch : Int) := IntWalk.i64_in _ (by omega)
              have hw3 : IntKind.i64.wrap (lh + x + dye * (ch : Int)) = lh + x + dye * (ch : Int) := IntWalk.i64_in _ (by omega)
              have i1 : (0 : Int) ≤ (pl : Int) := by omega
              have i2 : (pl : Int) < (M.length : Int) := by omega
              have i3 : (0 : Int) ≤ (epn : Int) := by omega
              have i4 : (epn : Int) < (M.length : Int) := by omega
              have HHX := Lib.hid (And.intro hRo (And.intro hlh (And.intro hlml (And.intro hchh (And.intro hpl (And.intro hlm hep))))))
              clear hx hlh hlml hchh hpl hlm hRo hep
              refine wp_region_late (fun w' => w'.cell? ⟨lG, h * 6, none⟩ = some (.int .i64 lh) ∧ w'.cell? ⟨n1, 1, none⟩ = some (.slice (some ⟨gr, goff, none⟩) M.length gcap) ∧ w'.cell? ⟨lG, h * 6 + 1, none⟩ = some (.int .i64 pl) ∧ w'.cell? ⟨gr, goff + pl, none⟩ = some (.slice (some ⟨rb, ro, none⟩) M.length rc) ∧ w'.cell? ⟨w7.heap.size, 1, none⟩ = some (.int .i64 epn) ∧ w'.cell? ⟨rb, ro + epn, none⟩ = some (.int .i64 x) ∧ w'.cell? ⟨n1, 4, none⟩ = some (.int .i64 dye) ∧ w'.cell? ⟨lG, h * 6 + 3, none⟩ = some (.slice lma lml.length lmc) ∧ w'.cell? ⟨w7.heap.size, 3, none⟩ = some (.slice va el.length vc)) (fun i => i == 36) (by kernel_rfl) ?_
              obtain ⟨wd, hwd⟩ : ∃ x, x = wc.drew := ⟨_, rfl⟩
              have hS : (fun w' : World => w'.cell? ⟨lG, h * 6, none⟩ = some (.int .i64 lh) ∧ w'.cell? ⟨n1, 1, none⟩ = some (.slice (some ⟨gr, goff, none⟩) M.length gcap) ∧ w'.cell? ⟨lG, h * 6 + 1, none⟩ = some (.int .i64 pl) ∧ w'.cell? ⟨gr, goff + pl, none⟩ = some (.slice (some ⟨rb, ro, none⟩) M.length rc) ∧ w'.cell? ⟨w7.heap.size, 1, none⟩ = some (.int .i64 epn) ∧ w'.cell? ⟨rb, ro + epn, none⟩ = some (.int .i64 x) ∧ w'.cell? ⟨n1, 4, none⟩ = some (.int .i64 dye) ∧ w'.cell? ⟨lG, h * 6 + 3, none⟩ = some (.slice lma lml.length lmc) ∧ w'.cell? ⟨w7.heap.size, 3, none⟩ = some (.slice va el.length vc)) wd := by rw [hwd]; exact ⟨l0, q1, l1, r1, n1', r3, q4, l3, n3⟩
              rw [← hwd]
              have hgr := HGf.out.blk
              have HTOS : Hid (∀ u, Kept b wc u → (fun w' : World => w'.cell? ⟨lG, h * 6, none⟩ = some (.int .i64 lh) ∧ w'.cell? ⟨n1, 1, none⟩ = some (.slice (some ⟨gr, goff, none⟩) M.length gcap) ∧ w'.cell? ⟨lG, h * 6 + 1, none⟩ = some (.int .i64 pl) ∧ w'.cell? ⟨gr, goff + pl, none⟩ = some (.slice (some ⟨rb, ro, none⟩) M.length rc) ∧ w'.cell? ⟨w7.heap.size, 1, none⟩ = some (.int .i64 epn) ∧ w'.cell? ⟨rb, ro + epn, none⟩ = some (.int .i64 x) ∧ w'.cell? ⟨n1, 4, none⟩ = some (.int .i64 dye) ∧ w'.cell? ⟨lG, h * 6 + 3, none⟩ = some (.slice lma lml.length lmc) ∧ w'.cell? ⟨w7.heap.size, 3, none⟩ = some (.slice va el.length vc)) u) := fun u hu => by
                have kc : ∀ (p : Addr) v, wc.cell? p = some v → p.block ≠ b → u.cell? p = some v := fun p v hc hb => (hu.cell (World.block_lt_of_cell? wc _ hc) hb).trans hc
                exact ⟨kc _ _ l0 (by show lG ≠ b; omega), kc _ _ q1 (by show n1 ≠ b; omega), kc _ _ l1 (by show lG ≠ b; omega), kc _ _ r1 (by show gr ≠ b; omega), kc _ _ n1' (by show w7.heap.size ≠ b; omega), kc _ _ r3 (by show rb ≠ b; omega), kc _ _ q4 (by show n1 ≠ b; omega), kc _ _ l3 (by show lG ≠ b; omega), kc _ _ n3 (by show w7.heap.size ≠ b; omega)⟩
              clear hgr
              clear n0 n1' n2 n3 n4 n5 q0 q1 q2 q3 q4 q5 nf l0 l1 l2 l3 l4 l5 lf r1 r3
              have HKd : Hid (Kept b wc wd) := by rw [hwd]; exact (Kept.refl b wc).drew
              have HBd : Hid (Bag wd b tf) := by rw [hwd]; exact hBf.drew
              clear hwd
              refine late_take (i := 0) (v := ?_) (by simp only [List.getElem?_toArray, List.getElem?_cons_zero, List.getElem?_cons_succ]; exact rfl) (by kernel_rfl) (by kernel_rfl) (by exact fun _ _ _ h => h) _ _ _ _ (by kernel_rfl) (List.mem_of_elem_eq_true (by kernel_rfl)) (Or.inl ⟨by rfl, ?_⟩) hS ?_
              rotate_left
              · intro w2 hw2
                try dsimp only at hw2
                obtain ⟨y0, y1, y2, y3, y4, y5, y6, y7, y8⟩ := hw2
                go_simp
                try with_reducible rfl
              try simp only [Act.put, List.setIfInBounds_toArray, List.set_cons_zero, List.set_cons_succ]
              refine late_take (i := 1) (v := ?_) (by simp only [List.getElem?_toArray, List.getElem?_cons_zero, List.getElem?_cons_succ]; exact rfl) (by kernel_rfl) (by kernel_rfl) (by exact fun _ _ _ h => h) _ _ _ _ (by kernel_rfl) (List.mem_of_elem_eq_true (by kernel_rfl)) (Or.inl ⟨by rfl, ?_⟩) hS ?_
              rotate_left
              · intro w2 hw2
                try dsimp only at hw2
                obtain ⟨y0, y1, y2, y3, y4, y5, y6, y7, y8⟩ := hw2
                go_simp
                try with_reducible rfl
              try simp only [Act.put, List.setIfInBounds_toArray, List.set_cons_zero, List.set_cons_succ]
              refine late_take (i := 2) (v := ?_) (by simp only [List.getElem?_toArray, List.getElem?_cons_zero, List.getElem?_cons_succ]; exact rfl) (by kernel_rfl) (by kernel_rfl) (by exact fun _ _ _ h => h) _ _ _ _ (by kernel_rfl) (List.mem_of_elem_eq_true (by kernel_rfl)) (Or.inl ⟨by rfl, ?_⟩) hS ?_
              rotate_left
              · intro w2 hw2
                try dsimp only at hw2
                obtain ⟨y0, y1, y2, y3, y4, y5, y6, y7, y8⟩ := hw2
                go_simp
                try with_reducible rfl
              try simp only [Act.put, List.setIfInBounds_toArray, List.set_cons_zero, List.set_cons_succ]
              refine late_take (i := 3) (v := ?_) (by simp only [List.getElem?_toArray, List.getElem?_cons_zero, List.getElem?_cons_succ]; exact rfl) (by kernel_rfl) (by kernel_rfl) (by exact fun _ _ _ h => h) _ _ _ _ (by kernel_rfl) (List.mem_of_elem_eq_true (by kernel_rfl)) (Or.inl ⟨by rfl, ?_⟩) hS ?_
              rotate_left
              · intro w2 hw2
                try dsimp only at hw2
                obtain ⟨y0, y1, y2, y3, y4, y5, y6, y7, y8⟩ := hw2
                go_simp
                try with_reducible rfl
              try simp only [Act.put, List.setIfInBounds_toArray, List.set_cons_zero, List.set_cons_succ]
              refine late_take (i := 4) (v := ?_) (by simp only [List.getElem?_toArray, List.getElem?_cons_zero, List.getElem?_cons_succ]; exact rfl) (by kernel_rfl) (by kernel_rfl) (by exact fun _ _ _ h => h) _ _ _ _ (by kernel_rfl) (List.mem_of_elem_eq_true (by kernel_rfl)) (Or.inl ⟨by rfl, ?_⟩) hS ?_
              rotate_left
              · intro w2 hw2
                try dsimp only at hw2
                obtain ⟨y0, y1, y2, y3, y4, y5, y6, y7, y8⟩ := hw2
                go_simp
                try with_reducible rfl
              try simp only [Act.put, List.setIfInBounds_toArray, List.set_cons_zero, List.set_cons_succ]
              refine late_take (i := 5) (v := ?_) (by simp only [List.getElem?_toArray, List.getElem?_cons_zero, List.getElem?_cons_succ]; exact rfl) (by kernel_rfl) (by kernel_rfl) (by exact fun _ _ _ h => h) _ _ _ _ (by kernel_rfl) (List.mem_of_elem_eq_true (by kernel_rfl)) (Or.inl ⟨by rfl, ?_⟩) hS ?_
              rotate_left
              · intro w2 hw2
                try dsimp only at hw2
                obtain ⟨y0, y1, y2, y3, y4, y5, y6, y7, y8⟩ := hw2
                go_simp
                try with_reducible rfl
              try simp only [Act.put, List.setIfInBounds_toArray, List.set_cons_zero, List.set_cons_succ]
              refine late_take (i := 6) (v := ?_) (by simp only [List.getElem?_toArray, List.getElem?_cons_zero, List.getElem?_cons_succ]; exact rfl) (by kernel_rfl) (by kernel_rfl) (by exact fun _ _ _ h => h) _ _ _ _ (by kernel_rfl) (List.mem_of_elem_eq_true (by kernel_rfl)) (Or.inl ⟨by rfl, ?_⟩) hS ?_
              rotate_left
              · intro w2 hw2
                try dsimp only at hw2
                obtain ⟨y0, y1, y2, y3, y4, y5, y6, y7, y8⟩ := hw2
                go_simp
                try with_reducible rfl
              try simp only [Act.put, List.setIfInBounds_toArray, List.set_cons_zero, List.set_cons_succ]
              refine late_take (i := 7) (v := ?_) (by simp only [List.getElem?_toArray, List.getElem?_cons_zero, List.getElem?_cons_succ]; exact rfl) (by kernel_rfl) (by kernel_rfl) (by exact fun _ _ _ h => h) _ _ _ _ (by kernel_rfl) (List.mem_of_elem_eq_true (by kernel_rfl)) (Or.inl ⟨by rfl, ?_⟩) hS ?_
              rotate_left
              · intro w2 hw2
                try dsimp only at hw2
                obtain ⟨y0, y1, y2, y3, y4, y5, y6, y7, y8⟩ := hw2
                go_simp
                try with_reducible rfl
              try simp only [Act.put, List.setIfInBounds_toArray, List.set_cons_zero, List.set_cons_succ]
              refine late_take (i := 8) (v := ?_) (by simp only [List.getElem?_toArray, List.getElem?_cons_zero, List.getElem?_cons_succ]; exact rfl) (by kernel_rfl) (by kernel_rfl) (by exact fun _ _ _ h => h) _ _ _ _ (by kernel_rfl) (List.mem_of_elem_eq_true (by kernel_rfl)) (Or.inl ⟨by rfl, ?_⟩) hS ?_
              rotate_left
              · intro w2 hw2
                try dsimp only at hw2
                obtain ⟨y0, y1, y2, y3, y4, y5, y6, y7, y8⟩ := hw2
                go_simp
                try with_reducible rfl
              try simp only [Act.put, List.setIfInBounds_toArray, List.set_cons_zero, List.set_cons_succ]
              refine late_take (i := 9) (v := ?_) (by simp only [List.getElem?_toArray, List.getElem?_cons_zero, List.getElem?_cons_succ]; exact rfl) (by kernel_rfl) (by kernel_rfl) (by exact fun _ _ _ h => h) _ _ _ _ (by kernel_rfl) (List.mem_of_elem_eq_true (by kernel_rfl)) (Or.inl ⟨by rfl, ?_⟩) hS ?_
              rotate_left
              · intro w2 hw2
                try dsimp only at hw2
                obtain ⟨y0, y1, y2, y3, y4, y5, y6, y7, y8⟩ := hw2
                go_simp
                try with_reducible rfl
              try simp only [Act.put, List.setIfInBounds_toArray, List.set_cons_zero, List.set_cons_succ]
              refine late_take (i := 10) (v := ?_) (by simp only [List.getElem?_toArray, List.getElem?_cons_zero, List.getElem?_cons_succ]; exact rfl) (by kernel_rfl) (by kernel_rfl) (by exact fun _ _ _ h => h) _ _ _ _ (by kernel_rfl) (List.mem_of_elem_eq_true (by kernel_rfl)) (Or.inl ⟨by rfl, ?_⟩) hS ?_
              rotate_left
              · intro w2 hw2
                try dsimp only at hw2
                obtain ⟨y0, y1, y2, y3, y4, y5, y6, y7, y8⟩ := hw2
                go_simp
                try with_reducible rfl
              try simp only [Act.put, List.setIfInBounds_toArray, List.set_cons_zero, List.set_cons_succ]
              refine late_take (i := 11) (v := ?_) (by simp only [List.getElem?_toArray, List.getElem?_cons_zero, List.getElem?_cons_succ]; exact rfl) (by kernel_rfl) (by kernel_rfl) (by exact fun _ _ _ h => h) _ _ _ _ (by kernel_rfl) (List.mem_of_elem_eq_true (by kernel_rfl)) (Or.inl ⟨by rfl, ?_⟩) hS ?_
              rotate_left
              · intro w2 hw2
                try dsimp only at hw2
                obtain ⟨y0, y1, y2, y3, y4, y5, y6, y7, y8⟩ := hw2
                go_simp
                try with_reducible rfl
              try simp only [Act.put, List.setIfInBounds_toArray, List.set_cons_zero, List.set_cons_succ]
              refine late_take (i := 12) (v := ?_) (by simp only [List.getElem?_toArray, List.getElem?_cons_zero, List.getElem?_cons_succ]; exact rfl) (by kernel_rfl) (by kernel_rfl) (by exact fun _ _ _ h => h) _ _ _ _ (by kernel_rfl) (List.mem_of_elem_eq_true (by kernel_rfl)) (Or.inl ⟨by rfl, ?_⟩) hS ?_
              rotate_left
              · intro w2 hw2
                try dsimp only at hw2
                obtain ⟨y0, y1, y2, y3, y4, y5, y6, y7, y8⟩ := hw2
                go_simp
                try with_reducible rfl
              try simp only [Act.put, List.setIfInBounds_toArray, List.set_cons_zero, List.set_cons_succ]
              refine late_take (i := 13) (v := ?_) (by simp only [List.getElem?_toArray, List.getElem?_cons_zero, List.getElem?_cons_succ]; exact rfl) (by kernel_rfl) (by kernel_rfl) (by exact fun _ _ _ h => h) _ _ _ _ (by kernel_rfl) (List.mem_of_elem_eq_true (by kernel_rfl)) (Or.inl ⟨by rfl, ?_⟩) hS ?_
              rotate_left
              · intro w2 hw2
                try dsimp only at hw2
                obtain ⟨y0, y1, y2, y3, y4, y5, y6, y7, y8⟩ := hw2
                go_simp
                try with_reducible rfl
              try simp only [Act.put, List.setIfInBounds_toArray, List.set_cons_zero, List.set_cons_succ]
              refine late_take (i := 14) (v := ?_) (by simp only [List.getElem?_toArray, List.getElem?_cons_zero, List.getElem?_cons_succ]; exact rfl) (by kernel_rfl) (by kernel_rfl) (by exact fun _ _ _ h => h) _ _ _ _ (by kernel_rfl) (List.mem_of_elem_eq_true (by kernel_rfl)) (Or.inl ⟨by rfl, ?_⟩) hS ?_
              rotate_left
              · intro w2 hw2
                try dsimp only at hw2
                obtain ⟨y0, y1, y2, y3, y4, y5, y6, y7, y8⟩ := hw2
                go_simp
                try with_reducible rfl
              try simp only [Act.put, List.setIfInBounds_toArray, List.set_cons_zero, List.set_cons_succ]
              refine late_take (i := 15) (v := ?_) (by simp only [List.getElem?_toArray, List.getElem?_cons_zero, List.getElem?_cons_succ]; exact rfl) (by kernel_rfl) (by kernel_rfl) (by exact fun _ _ _ h => h) _ _ _ _ (by kernel_rfl) (List.mem_of_elem_eq_true (by kernel_rfl)) (Or.inl ⟨by rfl, ?_⟩) hS ?_
              rotate_left
              · intro w2 hw2
                try dsimp only at hw2
                obtain ⟨y0, y1, y2, y3, y4, y5, y6, y7, y8⟩ := hw2
                go_simp
                try with_reducible rfl
              try simp only [Act.put, List.setIfInBounds_toArray, List.set_cons_zero, List.set_cons_succ]
              refine late_take (i := 16) (v := ?_) (by simp only [List.getElem?_toArray, List.getElem?_cons_zero, List.getElem?_cons_succ]; exact rfl) (by kernel_rfl) (by kernel_rfl) (by exact fun _ _ _ h => h) _ _ _ _ (by kernel_rfl) (List.mem_of_elem_eq_true (by kernel_rfl)) (Or.inl ⟨by rfl, ?_⟩) hS ?_
              rotate_left
              · intro w2 hw2
                try dsimp only at hw2
                obtain ⟨y0, y1, y2, y3, y4, y5, y6, y7, y8⟩ := hw2
                go_simp
                try with_reducible rfl
              try simp only [Act.put, List.setIfInBounds_toArray, List.set_cons_zero, List.set_cons_succ]
              refine late_take (i := 17) (v := ?_) (by simp only [List.getElem?_toArray, List.getElem?_cons_zero, List.getElem?_cons_succ]; exact rfl) (by kernel_rfl) (by kernel_rfl) (by exact fun _ _ _ h => h) _ _ _ _ (by kernel_rfl) (List.mem_of_elem_eq_true (by kernel_rfl)) (Or.inl ⟨by rfl, ?_⟩) hS ?_
              rotate_left
              · intro w2 hw2
                try dsimp only at hw2
                obtain ⟨y0, y1, y2, y3, y4, y5, y6, y7, y8⟩ := hw2
                go_simp
                try with_reducible rfl
              try simp only [Act.put, List.setIfInBounds_toArray, List.set_cons_zero, List.set_cons_succ]
              refine late_take (i := 18) (v := ?_) (by simp only [List.getElem?_toArray, List.getElem?_cons_zero, List.getElem?_cons_succ]; exact rfl) (by kernel_rfl) (by kernel_rfl) (by exact fun _ _ _ h => h) _ _ _ _ (by kernel_rfl) (List.mem_of_elem_eq_true (by kernel_rfl)) (Or.inl ⟨by rfl, ?_⟩) hS ?_
              rotate_left
              · intro w2 hw2
                try dsimp only at hw2
                obtain ⟨y0, y1, y2, y3, y4, y5, y6, y7, y8⟩ := hw2
                go_simp
                try with_reducible rfl
              try simp only [Act.put, List.setIfInBounds_toArray, List.set_cons_zero, List.set_cons_succ]
              refine late_take (i := 19) (v := ?_) (by simp only [List.getElem?_toArray, List.getElem?_cons_zero, List.getElem?_cons_succ]; exact rfl) (by kernel_rfl) (by kernel_rfl) (by exact fun _ _ _ h => h) _ _ _ _ (by kernel_rfl) (List.mem_of_elem_eq_true (by kernel_rfl)) (Or.inl ⟨by rfl, ?_⟩) hS ?_
              rotate_left
              · intro w2 hw2
                try dsimp only at hw2
                obtain ⟨y0, y1, y2, y3, y4, y5, y6, y7, y8⟩ := hw2
                go_simp
                try with_reducible rfl
              try simp only [Act.put, List.setIfInBounds_toArray, List.set_cons_zero, List.set_cons_succ]
              refine late_take (i := 20) (v := ?_) (by simp only [List.getElem?_toArray, List.getElem?_cons_zero, List.getElem?_cons_succ]; exact rfl) (by kernel_rfl) (by kernel_rfl) (by exact fun _ _ _ h => h) _ _ _ _ (by kernel_rfl) (List.mem_of_elem_eq_true (by kernel_rfl)) (Or.inl ⟨by rfl, ?_⟩) hS ?_
              rotate_left
              · intro w2 hw2
                try dsimp only at hw2
                obtain ⟨y0, y1, y2, y3, y4, y5, y6, y7, y8⟩ := hw2
                go_simp
                try with_reducible rfl
              try simp only [Act.put, List.setIfInBounds_toArray, List.set_cons_zero, List.set_cons_succ]
              refine late_take (i := 21) (v := ?_) (by simp only [List.getElem?_toArray, List.getElem?_cons_zero, List.getElem?_cons_succ]; exact rfl) (by kernel_rfl) (by kernel_rfl) (by exact fun _ _ _ h => h) _ _ _ _ (by kernel_rfl) (List.mem_of_elem_eq_true (by kernel_rfl)) (Or.inl ⟨by rfl, ?_⟩) hS ?_
              rotate_left
              · intro w2 hw2
                try dsimp only at hw2
                obtain ⟨y0, y1, y2, y3, y4, y5, y6, y7, y8⟩ := hw2
                go_simp
                try with_reducible rfl
              try simp only [Act.put, List.setIfInBounds_toArray, List.set_cons_zero, List.set_cons_succ]
              refine late_take (i := 22) (v := ?_) (by simp only [List.getElem?_toArray, List.getElem?_cons_zero, List.getElem?_cons_succ]; exact rfl) (by kernel_rfl) (by kernel_rfl) (by exact fun _ _ _ h => h) _ _ _ _ (by kernel_rfl) (List.mem_of_elem_eq_true (by kernel_rfl)) (Or.inl ⟨by rfl, ?_⟩) hS ?_
              rotate_left
              · intro w2 hw2
                try dsimp only at hw2
                obtain ⟨y0, y1, y2, y3, y4, y5, y6, y7, y8⟩ := hw2
                go_simp
                try with_reducible rfl
              try simp only [Act.put, List.setIfInBounds_toArray, List.set_cons_zero, List.set_cons_succ]
              refine late_take (i := 23) (v := ?_) (by simp only [List.getElem?_toArray, List.getElem?_cons_zero, List.getElem?_cons_succ]; exact rfl) (by kernel_rfl) (by kernel_rfl) (by exact fun _ _ _ h => h) _ _ _ _ (by kernel_rfl) (List.mem_of_elem_eq_true (by kernel_rfl)) (Or.inl ⟨by rfl, ?_⟩) hS ?_
              rotate_left
              · intro w2 hw2
                try dsimp only at hw2
                obtain ⟨y0, y1, y2, y3, y4, y5, y6, y7, y8⟩ := hw2
                go_simp
                try with_reducible rfl
              try simp only [Act.put, List.setIfInBounds_toArray, List.set_cons_zero, List.set_cons_succ]
              refine late_take (i := 24) (v := ?_) (by simp only [List.getElem?_toArray, List.getElem?_cons_zero, List.getElem?_cons_succ]; exact rfl) (by kernel_rfl) (by kernel_rfl) (by exact fun _ _ _ h => h) _ _ _ _ (by kernel_rfl) (List.mem_of_elem_eq_true (by kernel_rfl)) (Or.inl ⟨by rfl, ?_⟩) hS ?_
              rotate_left
              · intro w2 hw2
                try dsimp only at hw2
                obtain ⟨y0, y1, y2, y3, y4, y5, y6, y7, y8⟩ := hw2
                go_simp
                try with_reducible rfl
              try simp only [Act.put, List.setIfInBounds_toArray, List.set_cons_zero, List.set_cons_succ]
              refine late_take (i := 25) (v := ?_) (by simp only [List.getElem?_toArray, List.getElem?_cons_zero, List.getElem?_cons_succ]; exact rfl) (by kernel_rfl) (by kernel_rfl) (by exact fun _ _ _ h => h) _ _ _ _ (by kernel_rfl) (List.mem_of_elem_eq_true (by kernel_rfl)) (Or.inl ⟨by rfl, ?_⟩) hS ?_
              rotate_left
              · intro w2 hw2
                try dsimp only at hw2
                obtain ⟨y0, y1, y2, y3, y4, y5, y6, y7, y8⟩ := hw2
                go_simp
                try with_reducible rfl
              try simp only [Act.put, List.setIfInBounds_toArray, List.set_cons_zero, List.set_cons_succ]
              refine late_take (i := 26) (v := ?_) (by simp only [List.getElem?_toArray, List.getElem?_cons_zero, List.getElem?_cons_succ]; exact rfl) (by kernel_rfl) (by kernel_rfl) (by exact fun _ _ _ h => h) _ _ _ _ (by kernel_rfl) (List.mem_of_elem_eq_true (by kernel_rfl)) (Or.inl ⟨by rfl, ?_⟩) hS ?_
              rotate_left
              · intro w2 hw2
                try dsimp only at hw2
                obtain ⟨y0, y1, y2, y3, y4, y5, y6, y7, y8⟩ := hw2
                go_simp
                try with_reducible rfl
              try simp only [Act.put, List.setIfInBounds_toArray, List.set_cons_zero, List.set_cons_succ]
              refine late_take (i := 27) (v := ?_) (by simp only [List.getElem?_toArray, List.getElem?_cons_zero, List.getElem?_cons_succ]; exact rfl) (by kernel_rfl) (by kernel_rfl) (by exact fun _ _ _ h => h) _ _ _ _ (by kernel_rfl) (List.mem_of_elem_eq_true (by kernel_rfl)) (Or.inl ⟨by rfl, ?_⟩) hS ?_
              rotate_left
              · intro w2 hw2
                try dsimp only at hw2
                obtain ⟨y0, y1, y2, y3, y4, y5, y6, y7, y8⟩ := hw2
                go_simp
                try with_reducible rfl
              try simp only [Act.put, List.setIfInBounds_toArray, List.set_cons_zero, List.set_cons_succ]
              refine late_take (i := 31) (v := ?_) (by simp only [List.getElem?_toArray, List.getElem?_cons_zero, List.getElem?_cons_succ]; exact rfl) (by kernel_rfl) (by kernel_rfl) (by exact fun _ _ _ h => h) _ _ _ _ (by kernel_rfl) (List.mem_of_elem_eq_true (by kernel_rfl)) (Or.inl ⟨by rfl, ?_⟩) hS ?_
              rotate_left
              · intro w2 hw2
                try dsimp only at hw2
                obtain ⟨y0, y1, y2, y3, y4, y5, y6, y7, y8⟩ := hw2
                go_simp
                try with_reducible rfl
              try simp only [Act.put, List.setIfInBounds_toArray, List.set_cons_zero, List.set_cons_succ]
              have toS : ∀ u, Kept b wc u → (fun w' : World => w'.cell? ⟨lG, h * 6, none⟩ = some (.int .i64 lh) ∧ w'.cell? ⟨n1, 1, none⟩ = some (.slice (some ⟨gr, goff, none⟩) M.length gcap) ∧ w'.cell? ⟨lG, h * 6 + 1, none⟩ = some (.int .i64 pl) ∧ w'.cell? ⟨gr, goff + pl, none⟩ = some (.slice (some ⟨rb, ro, none⟩) M.length rc) ∧ w'.cell? ⟨w7.heap.size, 1, none⟩ = some (.int .i64 epn) ∧ w'.cell? ⟨rb, ro + epn, none⟩ = some (.int .i64 x) ∧ w'.cell? ⟨n1, 4, none⟩ = some (.int .i64 dye) ∧ w'.cell? ⟨lG, h * 6 + 3, none⟩ = some (.slice lma lml.length lmc) ∧ w'.cell? ⟨w7.heap.size, 3, none⟩ = some (.slice va el.length vc)) u := HTOS.out
              refine late_two (i := 28) (k := 32) (by kernel_rfl) (by simp only [List.getElem?_toArray, List.getElem?_cons_zero, List.getElem?_cons_succ]; exact rfl) (by rfl) (by simp only [List.getElem?_toArray, List.getElem?_cons_zero, List.getElem?_cons_succ]; exact rfl) (by rfl) ?_ ?_
              · intro K hK
                go_simp
                refine (HCH.out wd HKd.out).mono ?_
                rintro e w15 ⟨rfl, rfl⟩
                dsimp only
                refine hK _ _ (fun _ => hS) ?_
                clear hK K
                try simp only [Act.put, List.setIfInBounds_toArray, List.set_cons_zero, List.set_cons_succ]
                refine late_take (i := 29) (v := ?_) (by simp only [List.getElem?_toArray, List.getElem?_cons_zero, List.getElem?_cons_succ]; exact rfl) (by kernel_rfl) (by kernel_rfl) (by exact fun _ _ _ h => h) _ _ _ _ (by kernel_rfl) (List.mem_of_elem_eq_true (by kernel_rfl)) (Or.inl ⟨by rfl, ?_⟩) hS ?_
                rotate_left
                · intro w2 hw2
                  try dsimp only at hw2
                  obtain ⟨y0, y1, y2, y3, y4, y5, y6, y7, y8⟩ := hw2
                  go_simp
                  try with_reducible rfl
                try simp only [Act.put, List.setIfInBounds_toArray, List.set_cons_zero, List.set_cons_succ]
                refine late_take (i := 30) (v := ?_) (by simp only [List.getElem?_toArray, List.getElem?_cons_zero, List.getElem?_cons_succ]; exact rfl) (by kernel_rfl) (by kernel_rfl) (by exact fun _ _ _ h => h) _ _ _ _ (by kernel_rfl) (List.mem_of_elem_eq_true (by kernel_rfl)) (Or.inl ⟨by rfl, ?_⟩) hS ?_
                rotate_left
                · intro w2 hw2
                  try dsimp only at hw2
                  obtain ⟨y0, y1, y2, y3, y4, y5, y6, y7, y8⟩ := hw2
                  go_simp
                  try with_reducible rfl
                try simp only [Act.put, List.setIfInBounds_toArray, List.set_cons_zero, List.set_cons_succ]
                refine late_one (i := 32) (by kernel_rfl) (by simp only [List.getElem?_toArray, List.getElem?_cons_zero, List.getElem?_cons_succ]; exact rfl) (by rfl) ?_
                intro K hK
                go_simp
                refine hK _ _ (fun _ => toS _ (HKd.out.alloc _)) ?_
                clear hK K
                try simp only [Act.put, List.setIfInBounds_toArray, List.set_cons_zero, List.set_cons_succ]
                refine late_one (i := 33) (by kernel_rfl) (by simp only [List.getElem?_toArray, List.getElem?_cons_zero, List.getElem?_cons_succ]; exact rfl) (by rfl) ?_
                intro K hK
                go_simp
                refine (pick_new b tf [0, 0, 1, 3] _ _ wd HBd.out (by omega) (by simp) (by simp)).mono ?_
                rintro e w16 ⟨pv, hpv, rfl, hB16, hk16⟩
                have hpv2 : 0 ≤ pv ∧ pv ≤ 3 := by simp only [List.mem_cons, List.not_mem_nil, or_false] at hpv; omega
                have HK16 := Lib.hid (((HKd.out.alloc _).trans hk16) : Kept b wc w16)
                have HN16 := Lib.hid (HNf.out.draw (T' := t + 69 + 16 * (5 - q) + 16) hb7 HK16.out hB16 (by omega))
                dsimp only
                have hS16 := toS w16 HK16.out
                refine hK _ _ (fun _ => hS16) ?_
                clear hK K hk16 hB16 hpv
                try simp only [Act.put, List.setIfInBounds_toArray, List.set_cons_zero, List.set_cons_succ]
                have hw4 : IntKind.i64.wrap (lh + x + dye * (ch : Int) + pv) = lh + x + dye * (ch : Int) + pv := IntWalk.i64_in _ (by omega)
                refine late_one (i := 34) (by kernel_rfl) (by simp only [List.getElem?_toArray, List.getElem?_cons_zero, List.getElem?_cons_succ]; exact rfl) (by rfl) ?_
                intro K hK
                go_simp
                refine hK _ _ (fun _ => hS16) ?_
                clear hK K
                try simp only [Act.put, List.setIfInBounds_toArray, List.set_cons_zero, List.set_cons_succ]
                refine late_one (i := 35) (by kernel_rfl) (by simp only [List.getElem?_toArray, List.getElem?_cons_zero, List.getElem?_cons_succ]; exact rfl) (by rfl) ?_
                intro K hK
                go_simp
                refine hK _ _ (fun _ => hS16) ?_
                clear hK K
                try simp only [Act.put, List.setIfInBounds_toArray, List.set_cons_zero, List.set_cons_succ]
                obtain ⟨n0, n1', n2, n3, n4, n5⟩ := six_cells HN16.out.blk
                have nf := six_free HN16.out.blk
                refine late_one (i := 36) (by kernel_rfl) (by simp only [List.getElem?_toArray, List.getElem?_cons_zero, List.getElem?_cons_succ]; exact rfl) (by rfl) ?_
                intro K hK
                go_simp
                refine hK _ _ (fun h => by simp at h) ?_
                clear hK K
                try simp only [Act.put, List.setIfInBounds_toArray, List.set_cons_zero, List.set_cons_succ]
                refine late_done (by kernel_rfl) ?_ _
                have HNg := Lib.hid (HN16.out.hour hb7 (lh + x + dye * (ch : Int) + pv))
                clear n0 n1' n2 n3 n4 n5 nf hS16
                go_wp2_with fail
                go_meet
                case rel => exact ⟨_, HNg.out, ⟨by omega, by omega⟩, fun _ => by obtain ⟨z1, z2, z3, z4, _⟩ := HHX.out; rw [z1, ← z2, ← z3, ← z4]; omega⟩
              · intro K hK
                go_simp
                have hSa := toS _ (HKd.out.alloc (.cells #[.int .i64 0, .int .i64 0, .int .i64 1, .int .i64 3] 3))
                refine hK _ _ (fun _ => hSa) ?_
                clear hK K
                try simp only [Act.put, List.setIfInBounds_toArray, List.set_cons_zero, List.set_cons_succ]
                refine late_one (i := 28) (by kernel_rfl) (by simp only [List.getElem?_toArray, List.getElem?_cons_zero, List.getElem?_cons_succ]; exact rfl) (by rfl) ?_
                intro K hK
                go_simp
                refine (HCH.out _ (HKd.out.alloc _)).mono ?_
                rintro e w15 ⟨rfl, rfl⟩
                dsimp only
                refine hK _ _ (fun _ => hSa) ?_
                clear hK K
                try simp only [Act.put, List.setIfInBounds_toArray, List.set_cons_zero, List.set_cons_succ]
                refine late_take (i := 29) (v := ?_) (by simp only [List.getElem?_toArray, List.getElem?_cons_zero, List.getElem?_cons_succ]; exact rfl) (by kernel_rfl) (by kernel_rfl) (by exact fun _ _ _ h => h) _ _ _ _ (by kernel_rfl) (List.mem_of_elem_eq_true (by kernel_rfl)) (Or.inl ⟨by rfl, ?_⟩) hSa ?_
                rotate_left
                · intro w2 hw2
                  try dsimp only at hw2
                  obtain ⟨y0, y1, y2, y3, y4, y5, y6, y7, y8⟩ := hw2
                  go_simp
                  try with_reducible rfl
                try simp only [Act.put, List.setIfInBounds_toArray, List.set_cons_zero, List.set_cons_succ]
                refine late_take (i := 30) (v := ?_) (by simp only [List.getElem?_toArray, List.getElem?_cons_zero, List.getElem?_cons_succ]; exact rfl) (by kernel_rfl) (by kernel_rfl) (by exact fun _ _ _ h => h) _ _ _ _ (by kernel_rfl) (List.mem_of_elem_eq_true (by kernel_rfl)) (Or.inl ⟨by rfl, ?_⟩) hSa ?_
                rotate_left
                · intro w2 hw2
                  try dsimp only at hw2
                  obtain ⟨y0, y1, y2, y3, y4, y5, y6, y7, y8⟩ := hw2
                  go_simp
                  try with_reducible rfl
                try simp only [Act.put, List.setIfInBounds_toArray, List.set_cons_zero, List.set_cons_succ]
                refine late_one (i := 33) (by kernel_rfl) (by simp only [List.getElem?_toArray, List.getElem?_cons_zero, List.getElem?_cons_succ]; exact rfl) (by rfl) ?_
                intro K hK
                go_simp
                refine (pick_new b tf [0, 0, 1, 3] _ _ wd HBd.out (by omega) (by simp) (by simp)).mono ?_
                rintro e w16 ⟨pv, hpv, rfl, hB16, hk16⟩
                have hpv2 : 0 ≤ pv ∧ pv ≤ 3 := by simp only [List.mem_cons, List.not_mem_nil, or_false] at hpv; omega
                have HK16 := Lib.hid (((HKd.out.alloc _).trans hk16) : Kept b wc w16)
                have HN16 := Lib.hid (HNf.out.draw (T' := t + 69 + 16 * (5 - q) + 16) hb7 HK16.out hB16 (by omega))
                dsimp only
                have hS16 := toS w16 HK16.out
                refine hK _ _ (fun _ => hS16) ?_
                clear hK K hk16 hB16 hpv
                try simp only [Act.put, List.setIfInBounds_toArray, List.set_cons_zero, List.set_cons_succ]
                have hw4 : IntKind.i64.wrap (lh + x + dye * (ch : Int) + pv) = lh + x + dye * (ch : Int) + pv := IntWalk.i64_in _ (by omega)
                refine late_one (i := 34) (by kernel_rfl) (by simp only [List.getElem?_toArray, List.getElem?_cons_zero, List.getElem?_cons_succ]; exact rfl) (by rfl) ?_
                intro K hK
                go_simp
                refine hK _ _ (fun _ => hS16) ?_
                clear hK K
                try simp only [Act.put, List.setIfInBounds_toArray, List.set_cons_zero, List.set_cons_succ]
                refine late_one (i := 35) (by kernel_rfl) (by simp only [List.getElem?_toArray, List.getElem?_cons_zero, List.getElem?_cons_succ]; exact rfl) (by rfl) ?_
                intro K hK
                go_simp
                refine hK _ _ (fun _ => hS16) ?_
                clear hK K
                try simp only [Act.put, List.setIfInBounds_toArray, List.set_cons_zero, List.set_cons_succ]
                obtain ⟨n0, n1', n2, n3, n4, n5⟩ := six_cells HN16.out.blk
                have nf := six_free HN16.out.blk
                refine late_one (i := 36) (by kernel_rfl) (by simp only [List.getElem?_toArray, List.getElem?_cons_zero, List.getElem?_cons_succ]; exact rfl) (by rfl) ?_
                intro K hK
                go_simp
                refine hK _ _ (fun h => by simp at h) ?_
                clear hK K
                try simp only [Act.put, List.setIfInBounds_toArray, List.set_cons_zero, List.set_cons_succ]
                refine late_done (by kernel_rfl) ?_ _
                have HNg := Lib.hid (HN16.out.hour hb7 (lh + x + dye * (ch : Int) + pv))
                clear n0 n1' n2 n3 n4 n5 nf hS16
                go_wp2_with fail
                go_meet
                case rel => exact ⟨_, HNg.out, ⟨by omega, by omega⟩, fun _ => by obtain ⟨z1, z2, z3, z4, _⟩ := HHX.out; rw [z1, ← z2, ← z3, ← z4]; omega⟩
            | false =>
              go_wp2_with fail
              go_meet
              case rel => exact ⟨eh, HNf.out.draw hb7 (Kept.refl _ _) hBf (by omega), by omega, fun hm => by have := HR3.out; simp at this; exact absurd hm this⟩
          case rest =>
          obtain ⟨hh, HNh', hhr, hhs⟩ := hcut
          have HNh := Lib.hid HNh'
          have HHS := Lib.hid hhs
          clear HNh' hhs HR3 HGf HWI HNf hBf
          obtain ⟨th, hth, hBh⟩ := HNh.out.bag
          have HGh := Lib.hid (HG6.out.keep (T' := t + 69 + 16 * (5 - q) + 16) hbw (HK7.out.trans HNh.out.kept) hBh hth)
          have HLh := Lib.hid (HL6.out.keep (b := b) (by omega) (by omega) (HK7.out.trans HNh.out.kept))
          obtain ⟨n0, n1', n2, n3, n4, n5⟩ := six_cells HNh.out.blk
          by_cases hbig : 72 < hh
          · go_wp2_with fail
            go_roundw
            case rel =>
              exact ⟨q - 1, ev, Z, I, La, by omega, by go_num, by omega, HGh.out.keep hbw (Kept.refl _ _) hBh (by omega), HLh.out, HM.out⟩
            case measure => simp [intOf]; omega
          · have hsm : hh ≤ 72 := by omega
            clear hbig
            obtain ⟨l0, l1, l2, l3, l4, l5, lf⟩ := HLh.out.cells hhk
            have hlN : lG ≠ w7.heap.size := by have := HK7.out.size; have := HG6.out.exl; omega
            obtain ⟨z, hz⟩ : ∃ z : Ent × Value, z = (⟨hh, ep, (La h).1.coat, tt, sh, el⟩, .slice va el.length vc) := ⟨_, rfl⟩
            go_upto_region 23 with fail
            go_upto_region 24 with fail
            obtain ⟨w20, hw20⟩ : ∃ w20, w20 = (((((wc.setCell ⟨lG, h * 6, none⟩ (.int .i64 hh)).setCell ⟨lG, h * 6 + 1, none⟩ (.int .i64 ep)).setCell ⟨lG, h * 6 + 2, none⟩ (.int .i64 (La h).1.coat)).setCell ⟨lG, h * 6 + 3, none⟩ (.slice va el.length vc)).setCell ⟨lG, h * 6 + 4, none⟩ (.int .i64 tt)).setCell ⟨lG, h * 6 + 5, none⟩ (.int .i64 sh) := ⟨_, rfl⟩
            rw [← hw20]
            have hzI : IntsM (FixP w.heap.size n1 lG ev (.slice ia I.length ic)) wc (.slice va el.length vc) el := HM7.out.step HNh.out.kept.size (fun g hg hp => HNh.out.kept.block g hg (by have := HG6.out.kept.size; omega)) (fun g _ hp => HG6.out.newP hp)
            obtain ⟨k1, k2, k3, hsz20, old20⟩ := six_keeps hw20
            have HL20 := Lib.hid (HLh.out.store (z := (⟨hh, ep, (La h).1.coat, tt, sh, el⟩, .slice va el.length vc)) hhk hzI hw20)
            have HG20 := Lib.hid (HGh.out.exSet hbw (by omega) k1 k2 k3 hsz20 old20)
            have HZ20 := Lib.hid (hzI.step (Nat.le_of_eq hsz20.symm) (fun g _ hp => old20 g hp.2.2.1) (fun _ _ h => h))
            have HB20 := Lib.hid ((old20 _ (Ne.symm hlN)).trans HNh.out.blk)
            clear hw20 hzI old20 hsz20 k1 k2 k3 n0 n1' n2 n3 n4 n5 l0 l1 l2 l3 l4 l5 lf hBh HLh HGh HNh hz
            obtain ⟨n0, n1', n2, n3, n4, n5⟩ := six_cells HB20.out
            obtain ⟨q0, q1, q2, q3, q4, q5⟩ := six_cells HG20.out.blk
            go_wp2_with (at_builtin; refine wpList_append_lies _ rfl _ _ _ rfl (n1 + 1) 57 j0 _ 6 64 (by first | rfl | kernel_rfl) hj hy0 hy1 hy2 rfl (by decide) ev Z.length _ rfl (HG20.out.ownV.alloc _) ⟨w20.heap.size, 0, none⟩ 1 1 (ecells (⟨hh, ep, (La h).1.coat, tt, sh, el⟩, .slice va el.length vc)) rfl rfl ?e1 ?e2 (by decide) ?e3 ?e4 ?e5 _ rfl ?_)
            case e1 => first | exact fun _ _ hu => hu | exact World.news_of_block (heap_new w20 _)
            case e2 => intro u hu; simp [ecells] at hu; rcases hu with rfl | rfl | rfl | rfl | rfl | rfl <;> rfl
            case e3 => unfold maxLen; omega
            case e4 => omega
            case e5 => have := (Array.getElem?_eq_some_iff.1 HG20.out.blk).1; simp; omega
            intro g5 cap5 w21 own5 grow5 at5 lt5
            have HST1 := Lib.hid (((Sg.refl HG20.out.ownV HG20.out.ownW HG20.out.apart).alloc _).append own5 grow5 (by simpa using at5))
            clear own5 grow5 at5 n0 n1' n2 n3 n4 n5 q0 q1 q2 q3 q4 q5
            have hIl : I.length ≤ 5 := by have := HM.out.len; omega
            go_wp2_with (at_builtin; refine wpList_append_lies _ rfl _ _ _ rfl (n1 + 1) 3 i0 (.int .i64 0) 1 8 (by first | rfl | kernel_rfl) hi hz0 hz1 hz2 rfl (by decide) (.slice ia I.length ic) I.length _ rfl (HST1.out.ownD.alloc _) ⟨w21.heap.size, 0, none⟩ 1 1 [.int .i64 h] rfl rfl ?f1 ?f2 (by decide) ?f3 ?f4 ?f5 _ rfl ?_)
            case f1 => first | exact fun _ _ hu => hu | exact World.news_of_block (heap_new w21 _)
            case f2 => intro u hu; simp at hu; subst hu; rfl
            case f3 => unfold maxLen; omega
            case f4 => omega
            case f5 => have := (Array.getElem?_eq_some_iff.1 HG20.out.blk).1; have := HST1.out.size; simp; omega
            intro g6 cap6 w22 own6 grow6 at6 lt6
            have st2 := ((HST1.out.alloc _).swap.append own6 grow6 (by simpa using at6)).swap
            have HG22 := Lib.hid (HG20.out.grow hbw (Z' := Z ++ [(⟨hh, ep, (La h).1.coat, tt, sh, el⟩, .slice va el.length vc)]) (I' := I ++ [(h : Int)]) (by simpa using st2) (fun y hy => by
              rcases List.mem_append.1 hy with h | h
              · exact .inl h
              · simp at h; subst h; exact .inr HZ20.out))
            obtain ⟨f1, f2, f3⟩ := HG20.out.fix st2
            have HL22 := Lib.hid (HL20.out.grow st2.size f1 f2 (f3 lG (.inr rfl)))
            clear st2 own6 grow6 at6 f1 f2 f3 HL20 HG20 HST1
            obtain ⟨q0, q1, q2, q3, q4, q5⟩ := six_cells HG22.out.blk
            have qf := six_free HG22.out.blk
            go_wp2_with fail
            have HGz := Lib.hid (HG22.out.setE hbw (.slice (some ⟨g5, 0, none⟩) (Z.length + 1) cap5))
            have HLz := Lib.hid (HL22.out.setE (by omega) (.slice (some ⟨g5, 0, none⟩) (Z.length + 1) cap5))
            obtain ⟨tz, htz, hBz⟩ := HGz.out.bag
            have HGy := Lib.hid (HGz.out.keep (T' := t + 69 + 16 * (5 - (q - 1))) hbw (Kept.refl _ _) hBz (tq_le htz hlt hq5))
            have HMz := Lib.hid (HM.out.next (z := (⟨hh, ep, (La h).1.coat, tt, sh, el⟩, .slice va el.length vc)) hhk ⟨⟨b1, b2⟩, (HM.out.okL h hhk).coat, HEO.out, ⟨hhr.1, hsm⟩, ⟨_, _, rfl⟩⟩ (hgt_le (HM.out.hsr h hhk) HF.out.shoe HHG.out) ⟨hsh1, hsh⟩ rfl HHG.out HHS.out)
            go_roundw
            case rel =>
              exact ⟨q - 1, _, _, _, _, Nat.le_trans (Nat.sub_le q 1) hq5, by go_num, by rw [List.length_append]; exact zq_le hZq hlt, HGy.out, HLz.out, HMz.out⟩
            case measure => simp [intOf]; omega
        · obtain rfl : q = 0 := by omega
          have hq0 : (0 : Int) ≤ 0 := by omega
          clear hlt
          obtain ⟨z0, z1, z2, z3, z4, z5⟩ := six_cells HG.out.res
          have zf := six_free HG.out.res
          obtain ⟨ea, em, ec, hev⟩ := owns_any HG.out.ownV
          obtain ⟨ia, im, ic, hiv⟩ := owns_any HG.out.ownW
          subst hev hiv
          go_wp2_with fail
          refine bodyPost_ret (v := .tuple #[.agg #[.slice ea em ec, .slice (some ⟨gr, goff, none⟩) M.length gcap, .int .i64 sF, .int .i64 sT, .int .i64 dye, .int .i64 k], .slice ia im ic]) ?_ rfl ?_
          · simp [results, Tryz.results5, go_sem, z0, z1, z2, z3, z4, z5]
          · have hko := HG.out.kept
            have hfix : ∀ x, x ≠ w.heap.size → ((((((wr.setCell ⟨w.heap.size, 0, none⟩ (.slice ea em ec)).setCell ⟨w.heap.size, 1, none⟩ (.slice (some ⟨gr, goff, none⟩) M.length gcap)).setCell ⟨w.heap.size, 2, none⟩ (.int .i64 sF)).setCell ⟨w.heap.size, 3, none⟩ (.int .i64 sT)).setCell ⟨w.heap.size, 4, none⟩ (.int .i64 dye)).setCell ⟨w.heap.size, 5, none⟩ (.int .i64 k)).heap[x]? = wr.heap[x]? := fun x hne =>
              (Below.heap_setCell _ _ _ _ (by exact hne)).trans ((Below.heap_setCell _ _ _ _ (by exact hne)).trans ((Below.heap_setCell _ _ _ _ (by exact hne)).trans ((Below.heap_setCell _ _ _ _ (by exact hne)).trans ((Below.heap_setCell _ _ _ _ (by exact hne)).trans (Below.heap_setCell _ _ _ _ (by exact hne))))))
            have hE : EntsM (fun g => w.heap.size < g) wr (.slice ea em ec) Z := entsM_own HG.out.ownV (fun g hg => by have := (HG.out.ownV.lt g hg).1; omega) (fun z hz => (HG.out.mZ z hz).step (Nat.le_refl _) (fun _ _ _ => rfl) (fun g _ h => h.1))
            have hR : RowsM (fun g => w.heap.size < g) wr (.slice (some ⟨gr, goff, none⟩) M.length gcap) M := HG.out.rows.step (Nat.le_refl _) (fun _ _ _ => rfl) (fun g _ h => h.1)
            have hI2 : IntsM (fun g => w.heap.size < g) wr (.slice ia im ic) I := intsM_own HG.out.ownW (fun g hg => by have := (HG.out.ownW.lt g hg).1; omega)
            refine ⟨_, _, _, Z, I, La, hs, M, sF, sT, dye, k, t5, rfl, hE.step (by simp) (fun x _ hp => hfix x (by omega)) (fun _ _ h => h), hR.step (by simp) (fun x _ hp => hfix x (by omega)) (fun _ _ h => h), hI2.step (by simp) (fun x _ hp => hfix x (by omega)) (fun _ _ h => h), HM.out, HM.out.fair HF.out (by omega) (by omega) (by omega), hsT, by omega, by omega, by omega, by omega, ?_, ?_⟩
            · exact (((((hB5.setCell (by exact hbw) _).setCell (by exact hbw) _).setCell (by exact hbw) _).setCell (by exact hbw) _).setCell (by exact hbw) _).setCell (by exact hbw) _
            · exact (((((hko.setCell (.inr (Nat.le_refl _)) _).setCell (.inr (Nat.le_refl _)) _).setCell (.inr (Nat.le_refl _)) _).setCell (.inr (Nat.le_refl _)) _).setCell (.inr (Nat.le_refl _)) _).setCell (.inr (Nat.le_refl _)) _
end Go.Proofs.YtejfelijhojndaaGreatDoor
