/-
  bargain: the first of what is best, by contract.
-/
import Derived.Test.YtemoepcfmpapoaaGreatDoorMRWk
import Derived.OrdersHeld
namespace Go.Proofs.YtemoepcfmpapoaaGreatDoor
open Go.RowKit Go.Proofs Go.Shelf

def betV (sd : Bool) : Value := .func (.method "palfrey/bargain.better") #[sdV sd] #[]
/-- The block tb keeps the first of what is best. -/
def TopB (tb : Nat) (sd : Bool) (s : Int × Bool) (w : World) : Prop := w.heap[tb]? = some (.cells #[betV sd, .int .i64 s.1, .bool s.2] 199 (0, 0))

theorem TopB.free {tb : Nat} {sd : Bool} {s : Int × Bool} {w : World} (h : TopB tb sd s w) (i : Nat) : w.frozen? ⟨tb, i, none⟩ = false := by
  simp only [TopB] at h
  simp [World.frozen?, h]
theorem better_any (sd : Bool) (x y : Int) (w : World) : Calls Tryz.prog (if sd then 168 else 171) #[.agg #[], .int .i64 x, .int .i64 y] w (BoolEnd (betterB sd x y) w) := by
  cases sd with
  | true => exact sbetter_any x y w
  | false => exact bbetter_any x y w

set_option maxRecDepth 100000 in
set_option maxHeartbeats 1600000 in
theorem offer_any (tb : Nat) (sd : Bool) (s : Int × Bool) (x : Int) (w : World) (hT : TopB tb sd s w) :
    Calls Tryz.prog 112 #[.pointer (some ⟨tb, 0, none⟩), .int .i64 x] w fun e w' => e = .returned (.tuple #[]) ∧ TopB tb sd (topS (betterB sd) s x) w' ∧ Kept tb w w' := by
  obtain ⟨v, fd⟩ := s
  have c0 : w.cell? ⟨tb, 0, none⟩ = some (betV sd) := by simp [World.cell?, show w.heap[tb]? = _ from hT]
  have c1 : w.cell? ⟨tb, 1, none⟩ = some (.int .i64 v) := by simp [World.cell?, show w.heap[tb]? = _ from hT]
  have c2 : w.cell? ⟨tb, 2, none⟩ = some (.bool fd) := by simp [World.cell?, show w.heap[tb]? = _ from hT]
  have f1 : w.frozen? ⟨tb, 1, none⟩ = false := by simp [World.frozen?, show w.heap[tb]? = _ from hT]
  have f2 : w.frozen? ⟨tb, 2, none⟩ = false := by simp [World.frozen?, show w.heap[tb]? = _ from hT]
  have HT := Lib.hid hT
  clear hT
  cases fd with
  | false =>
    go_enter Tryz.func112, Tryz.ntmps112
    go_wp2_with fail
    go_quiet (fail)
    go_wp2_with fail
    go_end0
    have h2 := fun n => heap_setCell_cells (i := 2) (heap_setCell_cells (w := w.drewN n) (i := 1) HT.out (.int .i64 x)) (.bool true)
    refine ⟨rfl, ?_, (((Kept.refl tb w).drewN _).setCell (.inl rfl) _).setCell (.inl rfl) _⟩
    simp only [topS, Bool.not_false, Bool.true_or, if_true]
    simpa [TopB] using h2 _
  | true =>
    obtain ⟨q, hq⟩ : ∃ q, betterB sd x v = q := ⟨_, rfl⟩
    have HBT := Lib.hid (fun w => better_any sd x v w)
    rw [hq] at HBT
    have hm1 : ∀ w, (method 370 117 (.agg #[]) "palfrey/bargain.better").run Tryz.prog w = .ok (168, .agg #[]) w := fun _ => by kernel_rfl
    have hm2 : ∀ w, (method 370 118 (.agg #[]) "palfrey/bargain.better").run Tryz.prog w = .ok (171, .agg #[]) w := fun _ => by kernel_rfl
    cases sd with
    | true =>
      simp only [betV, sdV, sdT] at c0
      go_enter Tryz.func112, Tryz.ntmps112
      go_wp2_with fail
      go_region_held3 (fun w' => w'.cell? ⟨tb, 0, none⟩ = some (.func (.method "palfrey/bargain.better") #[.iface 117 (.agg #[])] #[]) ∧ w'.cell? ⟨tb, 1, none⟩ = some (.int .i64 v) ∧ w'.cell? ⟨tb, 2, none⟩ = some (.bool true))
        (first | exact ⟨g0, g1, g2⟩ | go_keep)
        (first
          | (go_at_call 168; refine (HBT.out _).mono ?_; rintro q w2 ⟨rfl, hb2⟩; have g0 := below_cell hb2 c0; have g1 := below_cell hb2 c1; have g2 := below_cell hb2 c2))
      have HT2 := Lib.hid (show TopB tb true (v, true) w2 from (hb2.block tb (Array.getElem?_eq_some_iff.1 HT.out).1).trans HT.out)
      have HK2 := Lib.hid ((Kept.refl tb w).drew.of_below hb2)
      have p1 := (HT2.out).free 1
      have p2 := (HT2.out).free 2
      have HQ := Lib.hid hq
      clear hb2 c0 c1 c2 f1 f2 hq
      cases q with
      | true =>
        go_wp2_with fail
        go_end0
        refine ⟨rfl, ?_, (HK2.out.setCell (.inl rfl) _).setCell (.inl rfl) _⟩
        have h2 := heap_setCell_cells (i := 2) (heap_setCell_cells (i := 1) HT2.out (.int .i64 x)) (.bool true)
        simp only [topS, HQ.out]
        simpa [TopB] using h2
      | false =>
        go_wp2_with fail
        go_end0
        refine ⟨rfl, ?_, HK2.out⟩
        simp only [topS, HQ.out]
        simpa using HT2.out
    | false =>
      simp only [betV, sdV, sdT] at c0
      go_enter Tryz.func112, Tryz.ntmps112
      go_wp2_with fail
      go_region_held3 (fun w' => w'.cell? ⟨tb, 0, none⟩ = some (.func (.method "palfrey/bargain.better") #[.iface 118 (.agg #[])] #[]) ∧ w'.cell? ⟨tb, 1, none⟩ = some (.int .i64 v) ∧ w'.cell? ⟨tb, 2, none⟩ = some (.bool true))
        (first | exact ⟨g0, g1, g2⟩ | go_keep)
        (first
          | (go_at_call 171; refine (HBT.out _).mono ?_; rintro q w2 ⟨rfl, hb2⟩; have g0 := below_cell hb2 c0; have g1 := below_cell hb2 c1; have g2 := below_cell hb2 c2))
      have HT2 := Lib.hid (show TopB tb false (v, true) w2 from (hb2.block tb (Array.getElem?_eq_some_iff.1 HT.out).1).trans HT.out)
      have HK2 := Lib.hid ((Kept.refl tb w).drew.of_below hb2)
      have p1 := (HT2.out).free 1
      have p2 := (HT2.out).free 2
      have HQ := Lib.hid hq
      clear hb2 c0 c1 c2 f1 f2 hq
      cases q with
      | true =>
        go_wp2_with fail
        go_end0
        refine ⟨rfl, ?_, (HK2.out.setCell (.inl rfl) _).setCell (.inl rfl) _⟩
        have h2 := heap_setCell_cells (i := 2) (heap_setCell_cells (i := 1) HT2.out (.int .i64 x)) (.bool true)
        simp only [topS, HQ.out]
        simpa [TopB] using h2
      | false =>
        go_wp2_with fail
        go_end0
        refine ⟨rfl, ?_, HK2.out⟩
        simp only [topS, HQ.out]
        simpa using HT2.out

theorem Tryz.infoTop : (Tryz.prog.info? 199).map (·.size) = some 3 := by kernel_rfl
/-- The best of some prices. -/
theorem topL_snoc (b : Int → Int → Bool) (l : List Int) (x : Int) : (l ++ [x]).foldl (topS b) (0, false) = topS b (l.foldl (topS b) (0, false)) x := by simp
set_option maxRecDepth 100000 in
set_option maxHeartbeats 1600000 in
theorem topPrice_any (sd : Bool) (v : Value) (l : List Int) (w : World) (hv : Ints w v l) (hl : l.length ≤ 1000000) :
    Calls Tryz.prog 80 #[betV sd, v] w (IntEnd (topL (betterB sd) l) w) := by
  obtain ⟨av, cap, rfl, hc⟩ := hv
  have HC := Lib.hid hc
  clear hc
  have HTT := Lib.hid (known_there (o := 0) (n := 3) (heap_new w (.cells #[.nilFunc, .int .i64 0, .bool false] 199)) (by simp))
  have HTI := Lib.hid Tryz.infoTop
  obtain ⟨W1, hW1⟩ : ∃ W1, (w.alloc (.cells #[.nilFunc, .int .i64 0, .bool false] 199)).setCells w.heap.size 0 [betV sd, .int .i64 0, .bool false] = W1 := ⟨_, rfl⟩
  have hb1 : Below w.heap.size w W1 := by rw [← hW1]; exact below_setCells (Nat.le_refl _) _ _ (below_alloc w _)
  have hT1 : TopB w.heap.size sd (0, false) W1 := by
    have h := heap_setCells [betV sd, .int .i64 0, .bool false] 0 (heap_new w (.cells #[.nilFunc, .int .i64 0, .bool false] 199))
    rw [hW1] at h
    simpa [TopB, putAll] using h
  have HO := Lib.hid (fun s x w' h => offer_any w.heap.size sd s x w' h)
  have HT1 := Lib.hid hT1
  have HB1 := Lib.hid hb1
  clear hT1 hb1
  obtain ⟨sq, hsq⟩ : ∃ sq, sd = sq := ⟨_, rfl⟩
  cases sq
  all_goals
    simp only [betV, sdV, hsq, sdT] at hW1
    rw [show betV sd = .func (.method "palfrey/bargain.better") #[.iface (sdT sd) (.agg #[])] #[] from rfl]
    simp only [hsq, sdT]
    go_enter Tryz.func80, Tryz.ntmps80
    go_wp2_with (first
      | (refine wpList_store_mid rfl 199 (.tmp 5) (.tmp 9) rfl w.heap.size 0 #[.func (.method "palfrey/bargain.better") #[.iface 117 (.agg #[])] #[], .int .i64 0, .bool false] rfl rfl HTT.out HTI.out (by simp [Value.oneCell']) ?_; rw [hW1])
      | (refine wpList_store_mid rfl 199 (.tmp 5) (.tmp 9) rfl w.heap.size 0 #[.func (.method "palfrey/bargain.better") #[.iface 118 (.agg #[])] #[], .int .i64 0, .bool false] rfl rfl HTT.out HTI.out (by simp [Value.oneCell']) ?_; rw [hW1]))
    go_loopw [12] (fun i wr => ∃ k : Nat, k ≤ l.length ∧ i = .int .i64 k ∧ TopB w.heap.size sd ((l.take k).foldl (topS (betterB sd)) (0, false)) wr ∧ Kept w.heap.size W1 wr) (fun i _ => l.length - (intOf i).toNat)
    case atStart => exact ⟨0, Nat.zero_le _, rfl, HT1.out, Kept.refl _ _⟩
    case round =>
      obtain ⟨k, hk, rfl, hT, hK⟩ := hrel
      have HT := Lib.hid hT
      have HK := Lib.hid hK
      by_cases hlt : k < l.length
      · have hklt : (k : Int) < (l.length : Int) := by omega
        obtain ⟨b, off, rfl, hcc⟩ := HC.out (by omega)
        have hck := hcc k hlt
        obtain ⟨x, hx⟩ : ∃ x, l[k]?.getD 0 = x := ⟨_, rfl⟩
        rw [hx] at hck
        have hlb := World.block_lt_of_cell? w _ hck
        have hc1 := (hK.cell (p := ⟨b, off + k, none⟩) (Nat.lt_of_lt_of_le hlb HB1.out.size) (by show b ≠ w.heap.size; simp at hlb; omega)).trans (below_cell HB1.out hck)
        have HX := Lib.hid hx
        have HOX := Lib.hid (HO.out _ x wr hT)
        clear hcc hx hck hT hK
        go_wp2_with (go_at_call 112; refine HOX.out.mono ?_; rintro q w2 ⟨rfl, hT2, hK2⟩; have HT2 := Lib.hid hT2; have HK2 := Lib.hid hK2; clear hT2 hK2)
        go_roundw
        case rel =>
          refine ⟨k + 1, by omega, by go_num, ?_, HK.out.trans HK2.out⟩
          have e : l.take (k + 1) = l.take k ++ [x] := by rw [List.take_succ_eq_append_getElem hlt]; have := HX.out; simp [hlt] at this; rw [this]
          rw [e, topL_snoc]
          exact HT2.out
        case measure => simp only [intOf]; omega
      · obtain rfl : k = l.length := by omega
        have hklt : ¬ (l.length : Int) < (l.length : Int) := by omega
        obtain ⟨s, hs⟩ : ∃ s, (l.take l.length).foldl (topS (betterB sd)) (0, false) = s := ⟨_, rfl⟩
        rw [hs] at hT
        have c1 : wr.cell? ⟨w.heap.size, 1, none⟩ = some (.int .i64 s.1) := by simp [World.cell?, show wr.heap[w.heap.size]? = _ from hT]
        have HS := Lib.hid hs
        clear hT hK hs
        go_wp2_with fail
        go_ret
        refine ⟨?_, ⟨HK.out.os.trans HB1.out.os, HK.out.tape.trans HB1.out.tape, HK.out.output.trans HB1.out.output, Nat.le_trans HB1.out.size HK.out.size, fun i hi => (HK.out.block i (Nat.lt_of_lt_of_le hi HB1.out.size) (by omega)).trans (HB1.out.block i hi)⟩⟩
        have h9 := HS.out
        rw [List.take_length, hsq] at h9
        rw [topL, h9]
        rfl
end Go.Proofs.YtemoepcfmpapoaaGreatDoor
