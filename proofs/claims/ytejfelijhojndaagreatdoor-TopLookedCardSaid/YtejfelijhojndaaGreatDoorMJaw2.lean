/-
  palfreykit: JawOf, by contract.
-/
import Derived.Test.YtejfelijhojndaaGreatDoorMFairR
import Derived.Deep.CutRange
import Derived.Deep.CutBlock
namespace Go.Proofs.YtejfelijhojndaaGreatDoor
open Go.RowKit Go.Proofs Go.Shelf

theorem JRel.sz {b T n i : Nat} {w wr : World} {N D : List (List Int)} {xs ys : List Value} {nv dv : Value} (h : JRel b T n w i wr N D xs ys nv dv) : w.heap.size + 2 ≤ wr.heap.size := by
  have := (Array.getElem?_eq_some_iff.1 h.jaw).1
  omega
def JCut (s0 b T n len : Nat) (w : World) (i : Nat) (N D : List (List Int)) (xs ys : List Value) (nv dv nx : Value) (w' : World) : Prop :=
  JRel b T n w i w' N D xs ys nv dv ∧ NewNext s0 w' nx n len ∧ s0 ≤ w'.heap.size

def JLoop (s0 b T n len : Nat) (w : World) (i : Nat) (N D : List (List Int)) (xs ys : List Value) (nv dv nx f : Value) (w' : World) : Prop :=
  JRel b T n w i w' N D xs ys nv dv ∧ NewNext s0 w' nx n 2 ∧ s0 ≤ w'.heap.size ∧ NewList s0 w' f n i len
theorem JLoop.keep {s0 b T T' t' n i len : Nat} {w wr w' : World} {N D : List (List Int)} {xs ys : List Value} {nv dv nx f : Value} (h : JLoop s0 b T n len w i N D xs ys nv dv nx f wr) (hbs : b < s0) (hbw : b < w.heap.size) (hk : Kept b wr w') (hB : Bag w' b t') (ht : t' ≤ T') : JLoop s0 b T' n len w i N D xs ys nv dv nx f w' :=
  ⟨h.1.keep hbw hk hB ht, h.2.1.kept hbs hk, Nat.le_trans h.2.2.1 hk.size, h.2.2.2.kept hbs hk⟩

set_option maxRecDepth 100000 in
set_option maxHeartbeats 1600000 in
theorem jawOf_any (b t mouths : Nat) (w : World) (hB : Bag w b t) (ht : t ≤ 100000) (hm1 : 1 ≤ mouths) (hm2 : mouths ≤ 6) :
    Calls Tryz.prog 6 #[.pointer (some ⟨b, 0, none⟩), .int .i64 mouths] w (JawEnd b t mouths w) := by
  have hbw := hB.lt
  go_enter Tryz.func6, Tryz.ntmps6
  go_wp2_with fail
  refine (among_any b t 1 mouths _ ((hB.alloc _).alloc _) (by omega) (by omega) (by omega) (by omega) (by omega)).mono ?_
  rintro e w2 ⟨n', hn1, hn2, rfl, hB2, hk2⟩
  obtain ⟨n, rfl⟩ := Int.eq_ofNat_of_zero_le (show 0 ≤ n' by omega)
  have hr0 : w2.heap[w.heap.size]? = some (.cells #[.slice none 0 0, .slice none 0 0] 34 (0, 0)) := (hk2.block _ (by simp; omega) (by omega)).trans ((Below.heap_alloc _ _ _ (by simp)).trans (heap_new w _))
  have hr1 : w2.heap[w.heap.size + 1]? = some (.cells #[.slice none 0 0, .slice none 0 0] 34 (0, 0)) := (hk2.block _ (by simp) (by omega)).trans (by have := heap_new (w.alloc (.cells #[.slice none 0 0, .slice none 0 0] 34)) (.cells #[.slice none 0 0, .slice none 0 0] 34); simpa using this)
  have J0 : JRel b (t + 1 + 12 * 0) n w 0 w2 [] [] [] [] (.slice none 0 0) (.slice none 0 0) :=
    { bag := ⟨_, by omega, hB2⟩, kept := (((Kept.refl b w).alloc _).alloc _).trans hk2, res := hr0, jaw := hr1, ownN := World.ownsRow_nil _ _ _ _, ownD := World.ownsRow_nil _ _ _ _, apart := fun k h => by simp [Value.ownBlock] at h, lenN := rfl, lenD := rfl, rowN := fun j hj => by omega, rowD := fun j hj => by omega, okN := fun j hj => by simp at hj, okD := fun j hj => by simp at hj }
  have HJ := Lib.hid J0
  clear hr0 hr1 J0 hB2 hk2
  go_wp2_with fail
  go_loopw [7] (fun i wr => ∃ k : Nat, k ≤ n ∧ i = .int .i64 k ∧ ∃ N D xs ys nv dv, JRel b (t + 1 + 12 * k) n w k wr N D xs ys nv dv) (fun i _ => n - (intOf i).toNat)
  case atStart => exact ⟨0, Nat.zero_le _, rfl, _, _, _, _, _, _, HJ.out⟩
  case round =>
    clear HJ
    obtain ⟨k, hk, rfl, N, D, xs, ys, nv, dv, J⟩ := hrel
    by_cases hlt : k < n
    · have hklt : (k : Int) < (n : Int) := by omega
      obtain ⟨t1, ht1, hB1⟩ := J.bag
      obtain ⟨s0, hs0⟩ : ∃ s0, wr.heap.size = s0 := ⟨_, rfl⟩
      have hs0w := J.sz
      have HoN := Lib.hid (fun g e => (J.ownN.lt g e).2 : ∀ g, nv.ownBlock = some g → g < wr.heap.size)
      have HoD := Lib.hid (fun g e => (J.ownD.lt g e).2 : ∀ g, dv.ownBlock = some g → g < wr.heap.size)
      rw [hs0] at hs0w HoN HoD
      have hbs : b < s0 := by omega
      have HS0 := Lib.hid hs0
      clear hs0
      have HJ := Lib.hid J
      clear J
      go_upto_region 6 with fail
      go_cut [8] from 15 to 81 (fun nx w' => JCut s0 b (t + 1 + 12 * k) n 1 w k N D xs ys nv dv nx w')
      case first =>
        go_wp2_with fail
        all_goals
          go_meet
          case rel =>
            have hs := hB1.lt
            have hs0' := HS0.out
            refine ⟨HJ.out.below hbw ((Below.refl _ wr).alloc (Nat.le_refl _) _), newNext_lit (by omega) (by omega) (by omega) (by omega), by simp; omega⟩
      case rest =>
      obtain ⟨J1, NX1, hz1⟩ := hcut
      clear HJ hB1
      obtain ⟨t2, ht2, hB2⟩ := J1.bag
      have HJ1 := Lib.hid J1
      have HN1 := Lib.hid NX1
      obtain ⟨l1, hI1, hasc1, hm1, hl0, hl1⟩ := NX1
      have h8 : ∃ a1 m1 c1, u8 = .slice a1 m1 c1 := by obtain ⟨a1, c1, h, _⟩ := hI1; exact ⟨a1, _, c1, h⟩
      clear J1
      go_upto_if 27 with (go_at_call 16; refine (once_any b t2 3 _ hB2 (by omega) (by omega) (by omega)).mono ?_; rintro e w3 ⟨r, rfl, hB3, hk3⟩)
      have HJ3 := Lib.hid (HJ1.out.keep (T' := t + 1 + 12 * k + 1) hbw hk3 hB3 (by omega))
      have HI3 := Lib.hid (hI1.step hk3.size (fun g hg hp => hk3.block g hg (by omega)) (fun _ _ h => h) : IntsM (fun k => s0 ≤ k) w3 u8 l1)
      go_cut [8] from 15 to 81 (fun nx w' => JCut s0 b (t + 1 + 12 * k + 2) n 2 w k N D xs ys nv dv nx w')
      case first =>
        cases r with
        | false =>
          go_wp2_with fail
          go_meet
          case rel => exact ⟨HJ3.out.keep hbw (Kept.refl _ _) hB3 (by omega), ⟨l1, HI3.out, hasc1, hm1, hl0, by omega⟩, by have := hk3.size; omega⟩
        | true =>
          go_wp2_with (first
            | (go_at_call 14; refine (among_any b (t2 + 1) k (n - 1) _ hB3 (by omega) (by omega) (by omega) (by omega) (by omega)).mono ?_; rintro e w4 ⟨x, hx1, hx2, rfl, hB4, hk4⟩)
            | (go_at_call 20; refine (joined_any u8 l1 x _ (HI3.out.step (P' := fun _ => True) hk4.size (fun g hg hp => hk4.block g hg (by omega)) (fun _ _ _ => trivial)).ints (by omega)).mono ?_; rintro e w5 ⟨v5, rfl, hown5, hbl5⟩)
            | fail)
          go_meet
          case rel =>
            have hsz := HJ3.out.sz
            have hs4 := hk4.size
            have J4 := HJ3.out.keep (T' := t + 1 + 12 * k + 2) hbw hk4 hB4 (by omega)
            obtain ⟨ja, jm, jl, jp⟩ := joinL_ok x l1 hasc1
            have hs3 := hk3.size
            refine ⟨J4.below hbw hbl5, ⟨joinL x l1, IntsM.of_owns hown5 (fun g hg _ => by omega), ja, fun y hy => ?_, jp, ?_⟩, by have := hbl5.size; omega⟩
            · rcases jm y hy with h | rfl
              · exact hm1 y h
              · omega
            · omega
      case rest =>
      obtain ⟨J4, NX4, hz4⟩ := hcut
      obtain ⟨t4, ht4, hB4⟩ := J4.bag
      clear hB2 hB3 hk3 HJ3 HI3 hI1 hasc1 hm1 hl0 hl1 HN1 HJ1 h8
      have HJ4 := Lib.hid J4
      have HN4 := Lib.hid NX4
      clear J4 NX4
      go_upto_if 36 with (go_at_call 16; refine (once_any b t4 8 _ hB4 (by omega) (by omega) (by omega)).mono ?_; rintro e w5 ⟨r, rfl, hB5, hk5⟩)
      have HJ5 := Lib.hid (HJ4.out.keep (T' := t + 1 + 12 * k + 3) hbw hk5 hB5 (by omega))
      have HN5 := Lib.hid (HN4.out.kept hbs hk5)
      go_cut [8] from 15 to 81 (fun nx w' => JCut s0 b (t + 1 + 12 * k + 4) n 2 w k N D xs ys nv dv nx w')
      case first =>
        cases r with
        | false =>
          go_wp2_with fail
          go_meet
          case rel => exact ⟨HJ5.out.keep hbw (Kept.refl _ _) hB5 (by omega), HN5.out, by have := hk5.size; omega⟩
        | true =>
          go_wp2_with (first
            | (go_at_call 8; refine (upTo_any b (t4 + 1) (n - 1) _ hB5 (by omega) (by omega) (by omega)).mono ?_; rintro e w6 ⟨x, hx1, hx2, rfl, hB6, hk6⟩)
            | fail)
          go_meet
          case rel =>
            have hs6 := hk6.size
            have J6 := HJ5.out.keep (T' := t + 1 + 12 * k + 4) hbw hk6 hB6 (by omega)
            have hsz := J6.sz
            have hs5 := hk5.size
            exact ⟨J6.below hbw ((Below.refl _ w6).alloc (Nat.le_refl _) _), newNext_lit (by omega) hx1 (by omega) (by omega), by simp; omega⟩
      case rest =>
      obtain ⟨J7, NX7, hz7⟩ := hcut
      obtain ⟨t7, ht7, hB7⟩ := J7.bag
      clear hB4 hB5 hk5 HJ5 HN5 HJ4 HN4
      have HJ7 := Lib.hid J7
      have HN7 := Lib.hid NX7
      clear J7 NX7
      go_upto_block 2 with (go_at_call 19; refine (pick_new b t7 [0, 1, 1, 2] _ _ _ hB7 (by omega) (by simp) (by simp)).mono ?_; rintro e w8 ⟨q, hq, rfl, hB8, hk8⟩)
      have hq2 : 0 ≤ q ∧ q ≤ 2 := by
        simp only [List.mem_cons, List.not_mem_nil, or_false] at hq
        omega
      obtain ⟨q, rfl⟩ := Int.eq_ofNat_of_zero_le hq2.1
      have HK8 : Hid (Kept b wc w8) := ((Kept.refl b wc).alloc _).trans hk8
      have HL8 : Hid (JLoop s0 b (t + 1 + 12 * k + 5 + 3 * (2 - q)) n (2 - q) w k N D xs ys nv dv u8 (.slice none 0 0) w8) :=
        ⟨HJ7.out.keep hbw HK8.out hB8 (by omega), HN7.out.kept hbs HK8.out, Nat.le_trans hz7 HK8.out.size, ⟨[], ⟨none, 0, rfl, fun h => by simp at h⟩, List.Pairwise.nil, by simp, by simp⟩⟩
      clear HK8 HJ7 HN7 hB7 hB8 hk8 hq
      go_cut [9] from 45 to 69 (fun f w' => JLoop s0 b (t + 1 + 12 * k + 11) n 2 w k N D xs ys nv dv u8 f w')
      case first =>
        go_wp2_with fail
        go_loopw [9, 10] (fun f kk wr2 => ∃ q : Nat, q ≤ 2 ∧ kk = .int .i64 q ∧ JLoop s0 b (t + 1 + 12 * k + 5 + 3 * (2 - q)) n (2 - q) w k N D xs ys nv dv u8 f wr2) (fun _ kk _ => (intOf kk).toNat)
        case atStart => exact ⟨q, by omega, rfl, HL8.out⟩
        case round =>
          clear HL8 hq2
          obtain ⟨q2, hq2, rfl, L⟩ := hrel
          have HL := Lib.hid L
          have hgo : (0 < q2 ∧ 1 < n) ∨ ¬ (0 < q2 ∧ 1 < n) := Decidable.em _
          rcases hgo with ⟨hq0, hn2'⟩ | hgo
          · have hq0' : (0 : Int) < (q2 : Int) := by omega
            have hn2'' : (1 : Int) < (n : Int) := by omega
            obtain ⟨t9, ht9, hB9⟩ := L.1.bag
            clear L
            go_upto_region 15 with fail
            go_cut [11] from 45 to 69 (fun m w' => ∃ x : Int, m = .int .i64 x ∧ 0 ≤ x ∧ x < n ∧ JLoop s0 b (t + 1 + 12 * k + 5 + 3 * (2 - q2) + 1) n (2 - q2) w k N D xs ys nv dv u8 u9 w')
            case first =>
              go_wp2_with (first
                | (go_at_call 8; refine (upTo_any b t9 _ _ hB9 (by omega) (by omega) (by omega)).mono ?_; rintro e w10 ⟨x, hx1, hx2, rfl, hB10, hk10⟩)
                | fail)
              all_goals
                go_meet
                case rel => exact ⟨x, rfl, hx1, by omega, HL.out.keep hbs hbw hk10 hB10 (by omega)⟩
            case rest =>
            obtain ⟨x, rfl, hx1, hx2, LA⟩ := hcut
            obtain ⟨tA, htA, hBA⟩ := LA.1.bag
            have HLA := Lib.hid LA
            clear LA HL hB9
            go_upto_if 59 with (go_at_call 16; refine (once_any b tA 6 _ hBA (by omega) (by omega) (by omega)).mono ?_; rintro e w11 ⟨r, rfl, hB11, hk11⟩)
            have HLB := Lib.hid (HLA.out.keep (hbs := hbs) (T' := t + 1 + 12 * k + 5 + 3 * (2 - q2) + 2) hbw hk11 hB11 (by omega))
            go_cut [11] from 45 to 69 (fun m w' => ∃ x : Int, m = .int .i64 x ∧ 0 ≤ x ∧ x < n ∧ JLoop s0 b (t + 1 + 12 * k + 5 + 3 * (2 - q2) + 3) n (2 - q2) w k N D xs ys nv dv u8 u9 w')
            case first =>
              cases r with
              | false =>
                go_wp2_with fail
                go_meet
                case rel => exact ⟨x, rfl, hx1, hx2, HLB.out.keep hbs hbw (Kept.refl _ _) hB11 (by omega)⟩
              | true =>
                go_wp2_with (first
                  | (go_at_call 8; refine (upTo_any b (tA + 1) (n - 1) _ hB11 (by omega) (by omega) (by omega)).mono ?_; rintro e w12 ⟨y, hy1, hy2, rfl, hB12, hk12⟩)
                  | fail)
                go_meet
                case rel => exact ⟨y, rfl, hy1, by omega, HLB.out.keep hbs hbw hk12 hB12 (by omega)⟩
            case rest =>
            obtain ⟨m, rfl, hm3, hm4, LC⟩ := hcut
            clear hx1 hx2 HLA HLB hBA hB11 hk11
            obtain ⟨J12, NX12, hz12, f12, hI12, hasc12, hin12, hlen12⟩ := LC
            have HJ12 := Lib.hid J12
            have HNX12 := Lib.hid NX12
            have HI12 := Lib.hid hI12
            obtain ⟨tC, htC, hBC⟩ := J12.bag
            have h9 : ∃ a1 m1 c1, u9 = .slice a1 m1 c1 := by obtain ⟨a1, c1, h, _⟩ := hI12; exact ⟨a1, _, c1, h⟩
            clear J12 NX12 hI12
            obtain ⟨fa, fm, fc, rfl⟩ := h9
            by_cases hmk : m = (k : Int)
            · have hmk1 : (m == (k : Int)) = true := by simp [hmk]
              have hmk2 : (m != (k : Int)) = false := by simp [hmk]
              clear hmk
              go_wp2_with fail
              go_roundw
              case rel => exact ⟨q2 - 1, by omega, by go_num, HJ12.out.keep hbw (Kept.refl _ _) hBC (by omega), HNX12.out, hz12, ⟨f12, HI12.out, hasc12, hin12, by omega⟩⟩
              case measure => simp [intOf]; omega
            · have hmk1 : (m == (k : Int)) = false := by simp [hmk]
              have hmk2 : (m != (k : Int)) = true := by simp [hmk]
              have HMK := Lib.hid hmk
              clear hmk
              go_wp2_with (first
                | (go_at_call 20; refine (joined_any _ f12 m _ HI12.out.ints (by omega)).mono ?_; rintro e w13 ⟨v13, rfl, hown13, hbl13⟩)
                | fail)
              have HB13 := Lib.hid hbl13
              have HO13 := Lib.hid hown13
              clear hbl13 hown13
              go_roundw
              case rel =>
                obtain ⟨ja, jm, jl, jp⟩ := joinL_ok m f12 hasc12
                have hsz := HJ12.out.sz
                refine ⟨q2 - 1, by omega, by go_num, (HJ12.out.below hbw HB13.out).keep hbw (Kept.refl _ _) (hBC.below HB13.out hBC.lt) (by omega), HNX12.out.below HB13.out, Nat.le_trans hz12 HB13.out.size, ⟨joinL m f12, IntsM.of_owns HO13.out (fun g hg _ => by omega), ja, fun y hy => ?_, by omega⟩⟩
                rcases jm y hy with h | rfl
                · exact hin12 y h
                · exact ⟨hm3, hm4, HMK.out⟩
              case measure => simp [intOf]; omega
          · obtain ⟨t9, ht9, hB9⟩ := L.1.bag
            clear L
            by_cases hq0 : 0 < q2
            · have hq0' : (0 : Int) < (q2 : Int) := by omega
              have hn2'' : (n : Int) ≤ 1 := by omega
              clear hgo
              go_wp2_with fail
              go_meet
              case rel =>
                obtain ⟨a1, a2, a7, f12, a3, a4, a5, a6⟩ := HL.out
                exact ⟨a1.keep hbw (Kept.refl _ _) hB9 (by omega), a2, a7, f12, a3, a4, a5, by omega⟩
            · have hq0' : (q2 : Int) ≤ 0 := by omega
              clear hgo hq0
              go_wp2_with fail
              go_meet
              case rel =>
                obtain ⟨a1, a2, a7, f12, a3, a4, a5, a6⟩ := HL.out
                exact ⟨a1.keep hbw (Kept.refl _ _) hB9 (by omega), a2, a7, f12, a3, a4, a5, by omega⟩
      case rest =>
      clear HL8
      go_upto_region 20 with fail
      obtain ⟨J, NX, hzE, f, hIf, hascf, hinf, hlenf⟩ := hcut
      obtain ⟨nl, hIn, hascn, hinn, hposn, hlenn⟩ := NX
      obtain ⟨tE, htE, hBE⟩ := J.bag
      have hsz := J.sz
      have c0 : wc.cell? ⟨w.heap.size + 1, 0, none⟩ = some nv := by simp [World.cell?, J.jaw]
      have c1 : wc.cell? ⟨w.heap.size + 1, 1, none⟩ = some dv := by simp [World.cell?, J.jaw]
      have f0 : wc.frozen? ⟨w.heap.size + 1, 0, none⟩ = false := by simp [World.frozen?, J.jaw]
      have f1 : wc.frozen? ⟨w.heap.size + 1, 1, none⟩ = false := by simp [World.frozen?, J.jaw]
      refine wp_region_late (fun w' => w'.cell? ⟨w.heap.size + 1, 0, none⟩ = some nv ∧ w'.cell? ⟨w.heap.size + 1, 1, none⟩ = some dv) (fun i => i == 11 || i == 12 || i == 13) (by kernel_rfl) ?_
      have hS : (fun w' : World => w'.cell? ⟨w.heap.size + 1, 0, none⟩ = some nv ∧ w'.cell? ⟨w.heap.size + 1, 1, none⟩ = some dv) wc.drew := ⟨c0, c1⟩
      obtain ⟨wd, hwd⟩ : ∃ x, x = wc.drew := ⟨_, rfl⟩
      rw [← hwd] at hS ⊢
      have HWD := Lib.hid hwd
      clear hwd
      refine late_take (i := 0) (v := ?_) (by simp only [List.getElem?_toArray, List.getElem?_cons_zero, List.getElem?_cons_succ]; exact rfl) (by kernel_rfl) (by kernel_rfl) (by exact fun _ _ _ h => h) 13 _ _ _ (by kernel_rfl) (List.mem_of_elem_eq_true (by kernel_rfl)) (Or.inl ⟨by rfl, ?_⟩) hS ?_
      rotate_left
      · intro w2 hw2
        try dsimp only at hw2
        obtain ⟨hw20, hw21⟩ := hw2
        go_simp
        try with_reducible rfl
      try simp only [Act.put, List.setIfInBounds_toArray, List.set_cons_zero, List.set_cons_succ]
      refine late_take (i := 1) (v := ?_) (by simp only [List.getElem?_toArray, List.getElem?_cons_zero, List.getElem?_cons_succ]; exact rfl) (by kernel_rfl) (by kernel_rfl) (by exact fun _ _ _ h => h) 12 _ _ _ (by kernel_rfl) (List.mem_of_elem_eq_true (by kernel_rfl)) (Or.inl ⟨by rfl, ?_⟩) hS ?_
      rotate_left
      · intro w2 hw2
        try dsimp only at hw2
        obtain ⟨hw20, hw21⟩ := hw2
        go_simp
        try with_reducible rfl
      try simp only [Act.put, List.setIfInBounds_toArray, List.set_cons_zero, List.set_cons_succ]
      refine late_take (i := 2) (v := ?_) (by simp only [List.getElem?_toArray, List.getElem?_cons_zero, List.getElem?_cons_succ]; exact rfl) (by kernel_rfl) (by kernel_rfl) (by exact fun _ _ _ h => h) 11 _ _ _ (by kernel_rfl) (List.mem_of_elem_eq_true (by kernel_rfl)) (Or.inl ⟨by rfl, ?_⟩) hS ?_
      rotate_left
      · intro w2 hw2
        try dsimp only at hw2
        obtain ⟨hw20, hw21⟩ := hw2
        go_simp
        try with_reducible rfl
      try simp only [Act.put, List.setIfInBounds_toArray, List.set_cons_zero, List.set_cons_succ]
      refine late_take (i := 5) (v := ?_) (by simp only [List.getElem?_toArray, List.getElem?_cons_zero, List.getElem?_cons_succ]; exact rfl) (by kernel_rfl) (by kernel_rfl) (by exact fun _ _ _ h => h) 10 _ _ _ (by kernel_rfl) (List.mem_of_elem_eq_true (by kernel_rfl)) (Or.inl ⟨by rfl, ?_⟩) hS ?_
      rotate_left
      · intro w2 hw2
        try dsimp only at hw2
        obtain ⟨hw20, hw21⟩ := hw2
        go_simp
        try with_reducible rfl
      try simp only [Act.put, List.setIfInBounds_toArray, List.set_cons_zero, List.set_cons_succ]
      refine late_take (i := 6) (v := ?_) (by simp only [List.getElem?_toArray, List.getElem?_cons_zero, List.getElem?_cons_succ]; exact rfl) (by kernel_rfl) (by kernel_rfl) (by exact fun _ _ _ h => h) 9 _ _ _ (by kernel_rfl) (List.mem_of_elem_eq_true (by kernel_rfl)) (Or.inl ⟨by rfl, ?_⟩) hS ?_
      rotate_left
      · intro w2 hw2
        try dsimp only at hw2
        obtain ⟨hw20, hw21⟩ := hw2
        go_simp
        try with_reducible rfl
      try simp only [Act.put, List.setIfInBounds_toArray, List.set_cons_zero, List.set_cons_succ]
      refine late_take2 (i := 7) (j0 := 9) (c := [8, 7]) (v := ?_) (by simp only [List.getElem?_toArray, List.getElem?_cons_zero, List.getElem?_cons_succ]; exact rfl) (by kernel_rfl) (by kernel_rfl) (by kernel_rfl) rfl (by exact fun _ _ _ h => h) 8 _ _ _ (by kernel_rfl) (List.mem_of_elem_eq_true (by kernel_rfl)) (by kernel_rfl) (Or.inl ⟨by rfl, ?_⟩) hS ?_
      rotate_left
      · intro w2 hw2
        try dsimp only at hw2
        obtain ⟨hw20, hw21⟩ := hw2
        go_simp
        try with_reducible rfl
      try simp only [Act.put, List.setIfInBounds_toArray, List.set_cons_zero, List.set_cons_succ]
      obtain ⟨i0, hi, hz0, hz1, hz2⟩ := info_parts Tryz.infoInts
      obtain ⟨xa, xm, xc, hu8⟩ : ∃ a1 m1 c1, u8 = .slice a1 m1 c1 := by obtain ⟨a1, c1, h, _⟩ := hIn; exact ⟨a1, _, c1, h⟩
      obtain ⟨ya, ym, yc, hu9⟩ : ∃ a1 m1 c1, u9 = .slice a1 m1 c1 := by obtain ⟨a1, c1, h, _⟩ := hIf; exact ⟨a1, _, c1, h⟩
      have HJ := Lib.hid J
      have hSt := St.refl J.ownN J.ownD J.apart
      rw [← HWD.out] at hSt
      have toS : ∀ (u : World) (V W : Value) (p q : Nat) (es fs : List Value), St (w.heap.size + 1 + 1) wc nv dv u V W p q es fs → (u.cell? ⟨w.heap.size + 1, 0, none⟩ = some nv ∧ u.cell? ⟨w.heap.size + 1, 1, none⟩ = some dv) := fun u V W p q es fs h => by
        obtain ⟨g0, _⟩ := h.cell (n1 := w.heap.size + 1) (i := 0) (by omega) (by omega) (.inr fun g e => (HJ.out.ownN.lt g e).1) (fun g e => (HJ.out.ownD.lt g e).1) (fun g e => (HJ.out.ownN.lt g e).1)
        obtain ⟨g1, _⟩ := h.cell (n1 := w.heap.size + 1) (i := 1) (by omega) (by omega) (.inr fun g e => (HJ.out.ownN.lt g e).1) (fun g e => (HJ.out.ownD.lt g e).1) (fun g e => (HJ.out.ownN.lt g e).1)
        exact ⟨g0.trans c0, g1.trans c1⟩
      subst hu8 hu9
      clear J hBE
      refine late_two (i := 3) (k := 8) (by kernel_rfl) (by simp only [List.getElem?_toArray, List.getElem?_cons_zero, List.getElem?_cons_succ]; exact rfl) (by rfl) (by simp only [List.getElem?_toArray, List.getElem?_cons_zero, List.getElem?_cons_succ]; exact rfl) (by rfl) ?_ ?_
      · intro K hK
        go_simp
        obtain ⟨ua, hua⟩ : ∃ x, x = wd.alloc (.cells #[.slice xa xm xc] 22) := ⟨_, rfl⟩
        have sta := hSt.alloc (.cells #[.slice xa xm xc] 22)
        have litN : ua.heap[wd.heap.size]? = some (.cells #[.slice xa xm xc] 22 (0, 0)) := by rw [hua]; exact heap_new _ _
        have neN1 : ∀ g, nv.ownBlock = some g → g ≠ wd.heap.size := fun g e => by have := (hSt.ownN.lt g e).2; omega
        have neN2 : ∀ g, dv.ownBlock = some g → g ≠ wd.heap.size := fun g e => by have := (hSt.ownD.lt g e).2; omega
        rw [← hua] at sta
        rw [← hua]
        refine hK _ _ (fun _ => toS _ _ _ _ _ _ _ sta) ?_
        clear hK K
        try simp only [Act.put, List.setIfInBounds_toArray, List.set_cons_zero, List.set_cons_succ]
        have Hua := Lib.hid hua
        clear hua
        refine late_two (i := 4) (k := 8) (by kernel_rfl) (by simp only [List.getElem?_toArray, List.getElem?_cons_zero, List.getElem?_cons_succ]; exact rfl) (by rfl) (by simp only [List.getElem?_toArray, List.getElem?_cons_zero, List.getElem?_cons_succ]; exact rfl) (by rfl) ?_ ?_
        · intro K hK
          refine wp_append_lies _ _ _ 26 rfl (w.heap.size + 1 + 1) 22 i0 (.slice none 0 0) 1 24 Tryz.underlying26 hi hz0 hz1 hz2 rfl (by decide) nv k xs rfl sta.ownN ⟨wd.heap.size, 0, none⟩ 1 1 [.slice xa xm xc] rfl rfl (World.news_of_block litN) ?hba (by decide) ?hbb ?hbc ?hbd _ rfl ?_
          case hba => intro u hu; simp at hu; subst hu; rfl
          case hbb => unfold maxLen; omega
          case hbc => omega
          case hbd => have := sta.size; omega
          intro gN capN ub ownb growb atb ltb
          have stb := sta.append ownb growb atb
          refine hK _ _ (fun _ => toS _ _ _ _ _ _ _ stb) ?_
          clear hK K
          try simp only [Act.put, List.setIfInBounds_toArray, List.set_cons_zero, List.set_cons_succ]
          have hSb := toS _ _ _ _ _ _ _ stb
          refine late_take (i := 10) (v := ?_) (by simp only [List.getElem?_toArray, List.getElem?_cons_zero, List.getElem?_cons_succ]; exact rfl) (by kernel_rfl) (by kernel_rfl) (by exact fun _ _ _ h => h) _ _ _ _ (by kernel_rfl) (List.mem_of_elem_eq_true (by kernel_rfl)) (Or.inl ⟨by rfl, ?_⟩) hSb ?_
          rotate_left
          · intro w2 hw2
            go_simp
            try with_reducible rfl
          try simp only [Act.put, List.setIfInBounds_toArray, List.set_cons_zero, List.set_cons_succ]
          refine late_one (i := 8) (by kernel_rfl) (by simp only [List.getElem?_toArray, List.getElem?_cons_zero, List.getElem?_cons_succ]; exact rfl) (by rfl) ?_
          intro K hK
          go_simp
          obtain ⟨uc, huc⟩ : ∃ x, x = ub.alloc (.cells #[.slice ya ym yc] 22) := ⟨_, rfl⟩
          have stc := stb.alloc (.cells #[.slice ya ym yc] 22)
          have litD : uc.heap[ub.heap.size]? = some (.cells #[.slice ya ym yc] 22 (0, 0)) := by rw [huc]; exact heap_new _ _
          have neD1 : ∀ g, (Value.slice (some ⟨gN, 0, none⟩) (k + 1) capN).ownBlock = some g → g ≠ ub.heap.size := fun g e => by have := (stb.ownN.lt g e).2; omega
          have neD2 : ∀ g, dv.ownBlock = some g → g ≠ ub.heap.size := fun g e => by have := (stb.ownD.lt g e).2; omega
          rw [← huc] at stc
          rw [← huc]
          refine hK _ _ (fun _ => toS _ _ _ _ _ _ _ stc) ?_
          clear hK K
          try simp only [Act.put, List.setIfInBounds_toArray, List.set_cons_zero, List.set_cons_succ]
          have Huc := Lib.hid huc
          clear huc
          refine late_one (i := 9) (by kernel_rfl) (by simp only [List.getElem?_toArray, List.getElem?_cons_zero, List.getElem?_cons_succ]; exact rfl) (by rfl) ?_
          intro K hK
          refine wp_append_lies _ _ _ 26 rfl (w.heap.size + 1 + 1) 22 i0 (.slice none 0 0) 1 24 Tryz.underlying26 hi hz0 hz1 hz2 rfl (by decide) dv k ys rfl stc.ownD ⟨ub.heap.size, 0, none⟩ 1 1 [.slice ya ym yc] rfl rfl (World.news_of_block litD) ?hda (by decide) ?hdb ?hdc ?hdd _ rfl ?_
          case hda => intro u hu; simp at hu; subst hu; rfl
          case hdb => unfold maxLen; omega
          case hdc => omega
          case hdd => have := stc.size; omega
          intro gD capD ud ownd growd atd ltd
          have std := (stc.swap.append ownd growd atd).swap
          refine hK _ _ (fun _ => toS _ _ _ _ _ _ _ std) ?_
          clear hK K
          try simp only [Act.put, List.setIfInBounds_toArray, List.set_cons_zero, List.set_cons_succ]
          have g0 := (toS _ _ _ _ _ _ _ std).1
          have g1 := (toS _ _ _ _ _ _ _ std).2
          have z0 := (std.cell (n1 := w.heap.size + 1) (i := 0) (by omega) (by omega) (.inr fun g e => (HJ.out.ownN.lt g e).1) (fun g e => (HJ.out.ownD.lt g e).1) (fun g e => (HJ.out.ownN.lt g e).1)).2.trans f0
          have z1 := (std.cell (n1 := w.heap.size + 1) (i := 1) (by omega) (by omega) (.inr fun g e => (HJ.out.ownN.lt g e).1) (fun g e => (HJ.out.ownD.lt g e).1) (fun g e => (HJ.out.ownN.lt g e).1)).2.trans f1
          have HSTD := Lib.hid std
          clear std stc stb sta hSt toS c0 c1 f0 f1 hS
          refine late_one (i := 11) (by kernel_rfl) (by simp only [List.getElem?_toArray, List.getElem?_cons_zero, List.getElem?_cons_succ]; exact rfl) (by rfl) ?_
          intro K hK
          go_simp
          refine hK _ _ (fun h => by simp at h) ?_
          clear hK K
          try simp only [Act.put, List.setIfInBounds_toArray, List.set_cons_zero, List.set_cons_succ]
          refine late_one (i := 12) (by kernel_rfl) (by simp only [List.getElem?_toArray, List.getElem?_cons_zero, List.getElem?_cons_succ]; exact rfl) (by rfl) ?_
          intro K hK
          go_simp
          refine hK _ _ (fun h => by simp at h) ?_
          clear hK K
          try simp only [Act.put, List.setIfInBounds_toArray, List.set_cons_zero, List.set_cons_succ]
          refine late_one (i := 13) (by kernel_rfl) (by simp only [List.getElem?_toArray, List.getElem?_cons_zero, List.getElem?_cons_succ]; exact rfl) (by rfl) ?_
          intro K hK
          go_simp
          refine hK _ _ (fun h => by simp at h) ?_
          clear hK K
          try simp only [Act.put, List.setIfInBounds_toArray, List.set_cons_zero, List.set_cons_succ]
          refine late_done (by kernel_rfl) ?_ _
          have HR : Hid (JRel b (t + 1 + 12 * (k + 1)) n w (k + 1) ((ud.setCell ⟨w.heap.size + 1, 0, none⟩ (.slice (some ⟨gN, 0, none⟩) (k + 1) capN)).setCell ⟨w.heap.size + 1, 1, none⟩ (.slice (some ⟨gD, 0, none⟩) (k + 1) capD)) (N ++ [nl]) (D ++ [f]) (xs ++ [.slice xa xm xc]) (ys ++ [.slice ya ym yc]) (.slice (some ⟨gN, 0, none⟩) (k + 1) capN) (.slice (some ⟨gD, 0, none⟩) (k + 1) capD)) := by
            have h1 := HJ.out.grow hbw HSTD.out (ownsRow_len HJ.out.ownN) (ownsRow_len HJ.out.ownD) HoN.out HoD.out hs0w hIn hascn hinn hposn hlenn hIf hascf hinf hlenf
            obtain ⟨t', ht', hB'⟩ := h1.bag
            exact h1.keep hbw (Kept.refl _ _) hB' (by omega)
          clear HSTD HJ g0 g1 z0 z1
          go_wp2_with fail
          go_roundw
          case rel => exact ⟨k + 1, by omega, by go_num, _, _, _, _, _, _, HR.out⟩
          case measure => simp [intOf]; omega
        · intro K hK
          go_simp
          obtain ⟨ub, hub⟩ : ∃ x, x = ua.alloc (.cells #[.slice ya ym yc] 22) := ⟨_, rfl⟩
          have stb := sta.alloc (.cells #[.slice ya ym yc] 22)
          have litD : ub.heap[ua.heap.size]? = some (.cells #[.slice ya ym yc] 22 (0, 0)) := by rw [hub]; exact heap_new _ _
          have neD1 : ∀ g, nv.ownBlock = some g → g ≠ ua.heap.size := fun g e => by have := (sta.ownN.lt g e).2; omega
          have neD2 : ∀ g, dv.ownBlock = some g → g ≠ ua.heap.size := fun g e => by have := (sta.ownD.lt g e).2; omega
          rw [← hub] at stb
          rw [← hub]
          refine hK _ _ (fun _ => toS _ _ _ _ _ _ _ stb) ?_
          clear hK K
          try simp only [Act.put, List.setIfInBounds_toArray, List.set_cons_zero, List.set_cons_succ]
          have Hub := Lib.hid hub
          clear hub
          have litN' : ub.heap[wd.heap.size]? = some (.cells #[.slice xa xm xc] 22 (0, 0)) := by rw [Hub.out]; exact (Below.heap_alloc _ _ _ (Array.getElem?_eq_some_iff.1 litN).1).trans litN
          clear litN
          have litN := litN'
          clear litN'
          refine late_one (i := 4) (by kernel_rfl) (by simp only [List.getElem?_toArray, List.getElem?_cons_zero, List.getElem?_cons_succ]; exact rfl) (by rfl) ?_
          intro K hK
          refine wp_append_lies _ _ _ 26 rfl (w.heap.size + 1 + 1) 22 i0 (.slice none 0 0) 1 24 Tryz.underlying26 hi hz0 hz1 hz2 rfl (by decide) nv k xs rfl stb.ownN ⟨wd.heap.size, 0, none⟩ 1 1 [.slice xa xm xc] rfl rfl (World.news_of_block litN) ?hca (by decide) ?hcb ?hcc ?hcd _ rfl ?_
          case hca => intro u hu; simp at hu; subst hu; rfl
          case hcb => unfold maxLen; omega
          case hcc => omega
          case hcd => have := stb.size; omega
          intro gN capN uc ownc growc atc ltc
          have stc := stb.append ownc growc atc
          refine hK _ _ (fun _ => toS _ _ _ _ _ _ _ stc) ?_
          clear hK K
          try simp only [Act.put, List.setIfInBounds_toArray, List.set_cons_zero, List.set_cons_succ]
          have litD' : uc.heap[ua.heap.size]? = some (.cells #[.slice ya ym yc] 22 (0, 0)) := stb.far growc litD neD1
          clear litD
          have litD := litD'
          clear litD'
          have hSc := toS _ _ _ _ _ _ _ stc
          refine late_take (i := 10) (v := ?_) (by simp only [List.getElem?_toArray, List.getElem?_cons_zero, List.getElem?_cons_succ]; exact rfl) (by kernel_rfl) (by kernel_rfl) (by exact fun _ _ _ h => h) _ _ _ _ (by kernel_rfl) (List.mem_of_elem_eq_true (by kernel_rfl)) (Or.inl ⟨by rfl, ?_⟩) hSc ?_
          rotate_left
          · intro w2 hw2
            go_simp
            try with_reducible rfl
          try simp only [Act.put, List.setIfInBounds_toArray, List.set_cons_zero, List.set_cons_succ]
          refine late_one (i := 9) (by kernel_rfl) (by simp only [List.getElem?_toArray, List.getElem?_cons_zero, List.getElem?_cons_succ]; exact rfl) (by rfl) ?_
          intro K hK
          refine wp_append_lies _ _ _ 26 rfl (w.heap.size + 1 + 1) 22 i0 (.slice none 0 0) 1 24 Tryz.underlying26 hi hz0 hz1 hz2 rfl (by decide) dv k ys rfl stc.ownD ⟨ua.heap.size, 0, none⟩ 1 1 [.slice ya ym yc] rfl rfl (World.news_of_block litD) ?hda (by decide) ?hdb ?hdc ?hdd _ rfl ?_
          case hda => intro u hu; simp at hu; subst hu; rfl
          case hdb => unfold maxLen; omega
          case hdc => omega
          case hdd => have := stc.size; omega
          intro gD capD ud ownd growd atd ltd
          have std := (stc.swap.append ownd growd atd).swap
          refine hK _ _ (fun _ => toS _ _ _ _ _ _ _ std) ?_
          clear hK K
          try simp only [Act.put, List.setIfInBounds_toArray, List.set_cons_zero, List.set_cons_succ]
          have g0 := (toS _ _ _ _ _ _ _ std).1
          have g1 := (toS _ _ _ _ _ _ _ std).2
          have z0 := (std.cell (n1 := w.heap.size + 1) (i := 0) (by omega) (by omega) (.inr fun g e => (HJ.out.ownN.lt g e).1) (fun g e => (HJ.out.ownD.lt g e).1) (fun g e => (HJ.out.ownN.lt g e).1)).2.trans f0
          have z1 := (std.cell (n1 := w.heap.size + 1) (i := 1) (by omega) (by omega) (.inr fun g e => (HJ.out.ownN.lt g e).1) (fun g e => (HJ.out.ownD.lt g e).1) (fun g e => (HJ.out.ownN.lt g e).1)).2.trans f1
          have HSTD := Lib.hid std
          clear std stc stb sta hSt toS c0 c1 f0 f1 hS
          refine late_one (i := 11) (by kernel_rfl) (by simp only [List.getElem?_toArray, List.getElem?_cons_zero, List.getElem?_cons_succ]; exact rfl) (by rfl) ?_
          intro K hK
          go_simp
          refine hK _ _ (fun h => by simp at h) ?_
          clear hK K
          try simp only [Act.put, List.setIfInBounds_toArray, List.set_cons_zero, List.set_cons_succ]
          refine late_one (i := 12) (by kernel_rfl) (by simp only [List.getElem?_toArray, List.getElem?_cons_zero, List.getElem?_cons_succ]; exact rfl) (by rfl) ?_
          intro K hK
          go_simp
          refine hK _ _ (fun h => by simp at h) ?_
          clear hK K
          try simp only [Act.put, List.setIfInBounds_toArray, List.set_cons_zero, List.set_cons_succ]
          refine late_one (i := 13) (by kernel_rfl) (by simp only [List.getElem?_toArray, List.getElem?_cons_zero, List.getElem?_cons_succ]; exact rfl) (by rfl) ?_
          intro K hK
          go_simp
          refine hK _ _ (fun h => by simp at h) ?_
          clear hK K
          try simp only [Act.put, List.setIfInBounds_toArray, List.set_cons_zero, List.set_cons_succ]
          refine late_done (by kernel_rfl) ?_ _
          have HR : Hid (JRel b (t + 1 + 12 * (k + 1)) n w (k + 1) ((ud.setCell ⟨w.heap.size + 1, 0, none⟩ (.slice (some ⟨gN, 0, none⟩) (k + 1) capN)).setCell ⟨w.heap.size + 1, 1, none⟩ (.slice (some ⟨gD, 0, none⟩) (k + 1) capD)) (N ++ [nl]) (D ++ [f]) (xs ++ [.slice xa xm xc]) (ys ++ [.slice ya ym yc]) (.slice (some ⟨gN, 0, none⟩) (k + 1) capN) (.slice (some ⟨gD, 0, none⟩) (k + 1) capD)) := by
            have h1 := HJ.out.grow hbw HSTD.out (ownsRow_len HJ.out.ownN) (ownsRow_len HJ.out.ownD) HoN.out HoD.out hs0w hIn hascn hinn hposn hlenn hIf hascf hinf hlenf
            obtain ⟨t', ht', hB'⟩ := h1.bag
            exact h1.keep hbw (Kept.refl _ _) hB' (by omega)
          clear HSTD HJ g0 g1 z0 z1
          go_wp2_with fail
          go_roundw
          case rel => exact ⟨k + 1, by omega, by go_num, _, _, _, _, _, _, HR.out⟩
          case measure => simp [intOf]; omega
      · intro K hK
        go_simp
        obtain ⟨ua, hua⟩ : ∃ x, x = wd.alloc (.cells #[.slice ya ym yc] 22) := ⟨_, rfl⟩
        have sta := hSt.alloc (.cells #[.slice ya ym yc] 22)
        have litD : ua.heap[wd.heap.size]? = some (.cells #[.slice ya ym yc] 22 (0, 0)) := by rw [hua]; exact heap_new _ _
        have neD1 : ∀ g, nv.ownBlock = some g → g ≠ wd.heap.size := fun g e => by have := (hSt.ownN.lt g e).2; omega
        have neD2 : ∀ g, dv.ownBlock = some g → g ≠ wd.heap.size := fun g e => by have := (hSt.ownD.lt g e).2; omega
        rw [← hua] at sta
        rw [← hua]
        refine hK _ _ (fun _ => toS _ _ _ _ _ _ _ sta) ?_
        clear hK K
        try simp only [Act.put, List.setIfInBounds_toArray, List.set_cons_zero, List.set_cons_succ]
        have Hua := Lib.hid hua
        clear hua
        refine late_one (i := 3) (by kernel_rfl) (by simp only [List.getElem?_toArray, List.getElem?_cons_zero, List.getElem?_cons_succ]; exact rfl) (by rfl) ?_
        intro K hK
        go_simp
        obtain ⟨ub, hub⟩ : ∃ x, x = ua.alloc (.cells #[.slice xa xm xc] 22) := ⟨_, rfl⟩
        have stb := sta.alloc (.cells #[.slice xa xm xc] 22)
        have litN : ub.heap[ua.heap.size]? = some (.cells #[.slice xa xm xc] 22 (0, 0)) := by rw [hub]; exact heap_new _ _
        have neN1 : ∀ g, nv.ownBlock = some g → g ≠ ua.heap.size := fun g e => by have := (sta.ownN.lt g e).2; omega
        have neN2 : ∀ g, dv.ownBlock = some g → g ≠ ua.heap.size := fun g e => by have := (sta.ownD.lt g e).2; omega
        rw [← hub] at stb
        rw [← hub]
        refine hK _ _ (fun _ => toS _ _ _ _ _ _ _ stb) ?_
        clear hK K
        try simp only [Act.put, List.setIfInBounds_toArray, List.set_cons_zero, List.set_cons_succ]
        have Hub := Lib.hid hub
        clear hub
        have litD' : ub.heap[wd.heap.size]? = some (.cells #[.slice ya ym yc] 22 (0, 0)) := by rw [Hub.out]; exact (Below.heap_alloc _ _ _ (Array.getElem?_eq_some_iff.1 litD).1).trans litD
        clear litD
        have litD := litD'
        clear litD'
        refine late_one (i := 4) (by kernel_rfl) (by simp only [List.getElem?_toArray, List.getElem?_cons_zero, List.getElem?_cons_succ]; exact rfl) (by rfl) ?_
        intro K hK
        refine wp_append_lies _ _ _ 26 rfl (w.heap.size + 1 + 1) 22 i0 (.slice none 0 0) 1 24 Tryz.underlying26 hi hz0 hz1 hz2 rfl (by decide) nv k xs rfl stb.ownN ⟨ua.heap.size, 0, none⟩ 1 1 [.slice xa xm xc] rfl rfl (World.news_of_block litN) ?hca (by decide) ?hcb ?hcc ?hcd _ rfl ?_
        case hca => intro u hu; simp at hu; subst hu; rfl
        case hcb => unfold maxLen; omega
        case hcc => omega
        case hcd => have := stb.size; omega
        intro gN capN uc ownc growc atc ltc
        have stc := stb.append ownc growc atc
        refine hK _ _ (fun _ => toS _ _ _ _ _ _ _ stc) ?_
        clear hK K
        try simp only [Act.put, List.setIfInBounds_toArray, List.set_cons_zero, List.set_cons_succ]
        have litD' : uc.heap[wd.heap.size]? = some (.cells #[.slice ya ym yc] 22 (0, 0)) := stb.far growc litD neD1
        clear litD
        have litD := litD'
        clear litD'
        have hSc := toS _ _ _ _ _ _ _ stc
        refine late_take (i := 10) (v := ?_) (by simp only [List.getElem?_toArray, List.getElem?_cons_zero, List.getElem?_cons_succ]; exact rfl) (by kernel_rfl) (by kernel_rfl) (by exact fun _ _ _ h => h) _ _ _ _ (by kernel_rfl) (List.mem_of_elem_eq_true (by kernel_rfl)) (Or.inl ⟨by rfl, ?_⟩) hSc ?_
        rotate_left
        · intro w2 hw2
          go_simp
          try with_reducible rfl
        try simp only [Act.put, List.setIfInBounds_toArray, List.set_cons_zero, List.set_cons_succ]
        refine late_one (i := 9) (by kernel_rfl) (by simp only [List.getElem?_toArray, List.getElem?_cons_zero, List.getElem?_cons_succ]; exact rfl) (by rfl) ?_
        intro K hK
        refine wp_append_lies _ _ _ 26 rfl (w.heap.size + 1 + 1) 22 i0 (.slice none 0 0) 1 24 Tryz.underlying26 hi hz0 hz1 hz2 rfl (by decide) dv k ys rfl stc.ownD ⟨wd.heap.size, 0, none⟩ 1 1 [.slice ya ym yc] rfl rfl (World.news_of_block litD) ?hda (by decide) ?hdb ?hdc ?hdd _ rfl ?_
        case hda => intro u hu; simp at hu; subst hu; rfl
        case hdb => unfold maxLen; omega
        case hdc => omega
        case hdd => have := stc.size; omega
        intro gD capD ud ownd growd atd ltd
        have std := (stc.swap.append ownd growd atd).swap
        refine hK _ _ (fun _ => toS _ _ _ _ _ _ _ std) ?_
        clear hK K
        try simp only [Act.put, List.setIfInBounds_toArray, List.set_cons_zero, List.set_cons_succ]
        have g0 := (toS _ _ _ _ _ _ _ std).1
        have g1 := (toS _ _ _ _ _ _ _ std).2
        have z0 := (std.cell (n1 := w.heap.size + 1) (i := 0) (by omega) (by omega) (.inr fun g e => (HJ.out.ownN.lt g e).1) (fun g e => (HJ.out.ownD.lt g e).1) (fun g e => (HJ.out.ownN.lt g e).1)).2.trans f0
        have z1 := (std.cell (n1 := w.heap.size + 1) (i := 1) (by omega) (by omega) (.inr fun g e => (HJ.out.ownN.lt g e).1) (fun g e => (HJ.out.ownD.lt g e).1) (fun g e => (HJ.out.ownN.lt g e).1)).2.trans f1
        have HSTD := Lib.hid std
        clear std stc stb sta hSt toS c0 c1 f0 f1 hS
        refine late_one (i := 11) (by kernel_rfl) (by simp only [List.getElem?_toArray, List.getElem?_cons_zero, List.getElem?_cons_succ]; exact rfl) (by rfl) ?_
        intro K hK
        go_simp
        refine hK _ _ (fun h => by simp at h) ?_
        clear hK K
        try simp only [Act.put, List.setIfInBounds_toArray, List.set_cons_zero, List.set_cons_succ]
        refine late_one (i := 12) (by kernel_rfl) (by simp only [List.getElem?_toArray, List.getElem?_cons_zero, List.getElem?_cons_succ]; exact rfl) (by rfl) ?_
        intro K hK
        go_simp
        refine hK _ _ (fun h => by simp at h) ?_
        clear hK K
        try simp only [Act.put, List.setIfInBounds_toArray, List.set_cons_zero, List.set_cons_succ]
        refine late_one (i := 13) (by kernel_rfl) (by simp only [List.getElem?_toArray, List.getElem?_cons_zero, List.getElem?_cons_succ]; exact rfl) (by rfl) ?_
        intro K hK
        go_simp
        refine hK _ _ (fun h => by simp at h) ?_
        clear hK K
        try simp only [Act.put, List.setIfInBounds_toArray, List.set_cons_zero, List.set_cons_succ]
        refine late_done (by kernel_rfl) ?_ _
        have HR : Hid (JRel b (t + 1 + 12 * (k + 1)) n w (k + 1) ((ud.setCell ⟨w.heap.size + 1, 0, none⟩ (.slice (some ⟨gN, 0, none⟩) (k + 1) capN)).setCell ⟨w.heap.size + 1, 1, none⟩ (.slice (some ⟨gD, 0, none⟩) (k + 1) capD)) (N ++ [nl]) (D ++ [f]) (xs ++ [.slice xa xm xc]) (ys ++ [.slice ya ym yc]) (.slice (some ⟨gN, 0, none⟩) (k + 1) capN) (.slice (some ⟨gD, 0, none⟩) (k + 1) capD)) := by
          have h1 := HJ.out.grow hbw HSTD.out (ownsRow_len HJ.out.ownN) (ownsRow_len HJ.out.ownD) HoN.out HoD.out hs0w hIn hascn hinn hposn hlenn hIf hascf hinf hlenf
          obtain ⟨t', ht', hB'⟩ := h1.bag
          exact h1.keep hbw (Kept.refl _ _) hB' (by omega)
        clear HSTD HJ g0 g1 z0 z1
        go_wp2_with fail
        go_roundw
        case rel => exact ⟨k + 1, by omega, by go_num, _, _, _, _, _, _, HR.out⟩
        case measure => simp [intOf]; omega
    · obtain rfl : k = n := by omega
      have hklt : (k : Int) ≤ (k : Int) := by omega
      clear hlt
      have hk0 : 0 < k := by omega
      obtain ⟨t1, ht1, hB1⟩ := J.bag
      obtain ⟨q0, q1⟩ : wr.cell? ⟨w.heap.size + 1, 0, none⟩ = some nv ∧ wr.cell? ⟨w.heap.size + 1, 1, none⟩ = some dv := by simp [World.cell?, J.jaw]
      obtain ⟨r0, r1⟩ : wr.cell? ⟨w.heap.size, 0, none⟩ = some (.slice none 0 0) ∧ wr.cell? ⟨w.heap.size, 1, none⟩ = some (.slice none 0 0) := by simp [World.cell?, J.res]
      obtain ⟨s0, s1⟩ : wr.frozen? ⟨w.heap.size, 0, none⟩ = false ∧ wr.frozen? ⟨w.heap.size, 1, none⟩ = false := by simp [World.frozen?, J.res]
      obtain ⟨na, nm, nc, hnv⟩ := owns_any J.ownN
      obtain ⟨da, dm, dc, hdv⟩ := owns_any J.ownD
      have RN : RowsM (fun g => w.heap.size < g) wr nv N := rowsM_of_owns J.ownN hk0 J.lenN (fun g e => by have := (J.ownN.lt g e).1; omega) (fun j hj => by obtain ⟨u, h1, h2⟩ := J.rowN j hj; exact ⟨u, h1, h2.step (Nat.le_refl _) (fun _ _ _ => rfl) (fun g _ h => by omega)⟩)
      have RD : RowsM (fun g => w.heap.size < g) wr dv D := rowsM_of_owns J.ownD hk0 J.lenD (fun g e => by have := (J.ownD.lt g e).1; omega) (fun j hj => by obtain ⟨u, h1, h2⟩ := J.rowD j hj; exact ⟨u, h1, h2.step (Nat.le_refl _) (fun _ _ _ => rfl) (fun g _ h => by omega)⟩)
      have OK : Hid (JawOK N D) := ⟨by have := J.lenN; omega, by have := J.lenN; omega, by have h1 := J.lenN; have h2 := J.lenD; omega, fun i h => by have := J.okN i h; rw [J.lenN]; exact this, fun i h => by have := J.okD i h; rw [J.lenN]; exact this⟩
      have HLN := Lib.hid J.lenN
      have HK := Lib.hid J.kept
      have HRN := Lib.hid RN
      have HRD := Lib.hid RD
      subst hnv hdv
      clear J RN RD
      go_wp2_with fail
      refine bodyPost_ret (v := .agg #[.slice na nm nc, .slice da dm dc]) ?_ rfl ?_
      · simp [results, Tryz.results6, go_sem, r0, r1]
      · refine ⟨N, D, _, _, t1, rfl, HRN.out.step (by simp) (fun g hg hp => (Below.heap_setCell _ _ _ _ (by show g ≠ w.heap.size; omega)).trans (Below.heap_setCell _ _ _ _ (by show g ≠ w.heap.size; omega))) (fun g _ h => by omega), HRD.out.step (by simp) (fun g hg hp => (Below.heap_setCell _ _ _ _ (by show g ≠ w.heap.size; omega)).trans (Below.heap_setCell _ _ _ _ (by show g ≠ w.heap.size; omega))) (fun g _ h => by omega), OK.out, by have := HLN.out; omega, by omega, (hB1.setCell (by exact hbw) _).setCell (by exact hbw) _, (HK.out.setCell (.inr (Nat.le_refl _)) _).setCell (.inr (Nat.le_refl _)) _⟩
end Go.Proofs.YtejfelijhojndaaGreatDoor
