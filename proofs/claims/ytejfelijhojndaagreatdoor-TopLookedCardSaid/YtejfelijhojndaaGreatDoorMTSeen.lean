/-
  tooth: chances, and, sight, chance, seen. By contract.
-/
import Derived.Test.YtejfelijhojndaaGreatDoorMTLook2
import Derived.Test.YtejfelijhojndaaGreatDoorMIndex
import Derived.Deep.MidRow
namespace Go.Proofs.YtejfelijhojndaaGreatDoor
open Go.RowKit Go.Proofs Go.Shelf

abbrev Ch := Bool × Nat
def cV (c : Ch) : Value := .agg #[.bool c.1, .int .i64 (c.2 : Nat)]
def andC (a b : Ch) : Ch := if a.1 && b.1 then (true, a.2 + b.2) else (false, 0)

def ChEnd (c : Ch) (w : World) (e : Ending) (w' : World) : Prop := e = .returned (cV c) ∧ Below w.heap.size w w'

theorem cV_mk {a a' : Bool} {n m : Nat} (h : a = a') (h2 : n = m) : Ending.returned (.agg #[.bool a, .int .i64 (n : Nat)]) = .returned (cV (a', m)) := by subst h; subst h2; rfl

set_option maxRecDepth 100000 in
set_option maxHeartbeats 800000 in
theorem and_any (a b : Ch) (w : World) (ha : a.2 ≤ 1000000) (hb : b.2 ≤ 1000000) :
    Calls Tryz.prog 52 #[cV a, cV b] w (ChEnd (andC a b) w) := by
  obtain ⟨a1, a2⟩ := a
  obtain ⟨b1, b2⟩ := b
  simp only at ha hb
  unfold cV
  cases a1 with
  | false =>
    go_enter Tryz.func52, Tryz.ntmps52
    go_wp2_with fail
    refine bodyPost_ret (v := .agg #[.bool false, .int .i64 0]) ?_ rfl ?_
    · simp [results, Tryz.results52, go_sem]
    · exact ⟨rfl, (((Below.refl _ w).alloc (Nat.le_refl _) _).alloc (by simp) _).alloc (by simp; omega) _⟩
  | true =>
    cases b1 with
    | false =>
      go_enter Tryz.func52, Tryz.ntmps52
      go_wp2_with fail
      refine bodyPost_ret (v := .agg #[.bool false, .int .i64 0]) ?_ rfl ?_
      · simp [results, Tryz.results52, go_sem]
      · exact ⟨rfl, (((Below.refl _ w).alloc (Nat.le_refl _) _).alloc (by simp) _).alloc (by simp; omega) _⟩
    | true =>
      go_enter Tryz.func52, Tryz.ntmps52
      go_wp2_with fail
      refine bodyPost_ret (v := .agg #[.bool true, .int .i64 ((a2 + b2 : Nat) : Int)]) ?_ rfl ?_
      · simp [results, Tryz.results52, go_sem]
      · exact ⟨rfl, (((Below.refl _ w).alloc (Nat.le_refl _) _).alloc (by simp) _).alloc (by simp; omega) _⟩

/-- How a look comes about. -/
def sightV (D : List (List Int)) (l : Nat × Nat) (m : Nat) : Value :=
  if m = l.2 then .iface 175 (.agg #[]) else if (l.2 : Int) ∈ (D[m]?.getD []) then .iface 177 (.agg #[]) else .nilIface
def lookV (l : Nat × Nat) : Value := .agg #[.int .i64 (l.1 : Nat), .int .i64 (l.2 : Nat)]
def SightEnd (v : Value) (w : World) (e : Ending) (w' : World) : Prop := e = .returned v ∧ Below w.heap.size w w'

set_option maxRecDepth 100000 in
set_option maxHeartbeats 800000 in
theorem sight_any (nv dv : Value) (D : List (List Int)) (l : Nat × Nat) (m : Nat) (w : World) (hD : RowsAt w dv D) (hm : m < D.length) (hl : (D[m]?.getD []).length ≤ 1000) (hn : ∃ a n c, nv = .slice a n c) :
    Calls Tryz.prog 85 #[jawV nv dv, lookV l, .int .i64 (m : Nat)] w (SightEnd (sightV D l m) w) := by
  obtain ⟨ly, ls⟩ := l
  obtain ⟨na, nn, nc, rfl⟩ := hn
  unfold lookV
  by_cases h : m = ls
  · have hb : ((m : Int) == (ls : Int)) = true := by simp [h]
    have HH := Lib.hid (show sightV D (ly, ls) m = .iface 175 (.agg #[]) by simp [sightV, h])
    obtain ⟨db, doff, dcap, rfl, _⟩ := hD
    unfold jawV
    clear h
    go_enter Tryz.func85, Tryz.ntmps85
    go_wp2_with fail
    go_ret
    exact ⟨by rw [HH.out]; rfl, ((Below.refl _ w).alloc (Nat.le_refl _) _).alloc (by simp) _⟩
  · have hb : ((m : Int) == (ls : Int)) = false := by simp; omega
    obtain ⟨db, doff, dcap, rfl, hr⟩ := hD
    obtain ⟨u, hu, hI⟩ := hr m hm
    obtain ⟨X, hX⟩ : ∃ X, D[m]?.getD [] = X := ⟨_, rfl⟩
    have HX := Lib.hid hX
    rw [hX] at hI hl
    clear hX
    unfold jawV
    obtain ⟨W1, hW1⟩ : ∃ W1, (w.alloc (.cells #[.slice na nn nc, .slice (some ⟨db, doff, none⟩) D.length dcap] 82)).alloc (.cells #[.int .i64 ly, .int .i64 ls] 41) = W1 := ⟨_, rfl⟩
    have hb1 : Below w.heap.size w W1 := by rw [← hW1]; exact ((Below.refl _ w).alloc (Nat.le_refl _) _).alloc (by simp) _
    have q0 : W1.cell? ⟨w.heap.size, 1, none⟩ = some (.slice (some ⟨db, doff, none⟩) D.length dcap) := by rw [← hW1]; simp
    have q1 : W1.cell? ⟨w.heap.size + 1, 1, none⟩ = some (.int .i64 ls) := by rw [← hW1]; simp
    have hu1 := below_cell hb1 hu
    have HC := Lib.hid (fun k => contains_any u (ls : Int) X (W1.drewN k) ((hI.below hb1).below (w := W1) ((Below.refl _ W1).drewK k)) hl |>.mono (R' := fun e w' => e = .returned (.bool (decide ((ls : Int) ∈ X))) ∧ w' = W1.drewN k) fun _ _ h => ⟨h.1, h.2.symm⟩)
    obtain ⟨ua, uc, rfl, _⟩ := hI
    have hm0 : (0 : Int) ≤ (m : Int) := by omega
    have hm1 : (m : Int) < (D.length : Int) := by omega
    have HB := Lib.hid hb1
    clear hr hu hb1
    by_cases hf : (ls : Int) ∈ X
    · have HH := Lib.hid (show sightV D (ly, ls) m = .iface 177 (.agg #[]) by simp only [sightV]; rw [if_neg h, HX.out]; simp [hf])
      rw [decide_eq_true hf] at HC
      clear h hf
      go_enter Tryz.func85, Tryz.ntmps85
      go_wp2_with fail
      go_quiet ((go_at_call 87; exact Calls.quiet_of_same (HC.out _)))
      go_wp2_with fail
      go_ret
      exact ⟨by rw [HH.out]; rfl, HB.out.drewK _⟩
    · have HH := Lib.hid (show sightV D (ly, ls) m = .nilIface by simp only [sightV]; rw [if_neg h, HX.out]; simp [hf])
      rw [decide_eq_false hf] at HC
      clear h hf
      go_enter Tryz.func85, Tryz.ntmps85
      go_wp2_with fail
      go_quiet ((go_at_call 87; exact Calls.quiet_of_same (HC.out _)))
      go_wp2_with fail
      go_ret
      exact ⟨by rw [HH.out]; rfl, HB.out.drewK _⟩
end Go.Proofs.YtejfelijhojndaaGreatDoor

/-
  tooth: chance, seen: the chance of the looks of a year alone. By contract.
-/
namespace Go.Proofs.YtejfelijhojndaaGreatDoor
open Go.RowKit Go.Proofs Go.Shelf

/-- What a work is made of, in the world in which it is made. -/
structure TIn (nv dv lv : Value) (N D : List (List Int)) (L : List (Nat × Nat)) (w0 : World) : Prop where
  next : RowsAt w0 nv N
  filed : RowsAt w0 dv D
  looks : LooksAt w0 lv L
  jaw : JawOK N D

/-- The work in block Wk. -/
structure TWork (Wk : Nat) (nv dv lv : Value) (w0 w : World) : Prop where
  lt : w0.heap.size ≤ Wk
  old : ∀ k, k < w0.heap.size → w.heap[k]? = w0.heap[k]?
  size : w0.heap.size ≤ w.heap.size
  c0 : w.cell? ⟨Wk, 0, none⟩ = some nv
  c1 : w.cell? ⟨Wk, 1, none⟩ = some dv
  c2 : w.cell? ⟨Wk, 2, none⟩ = some lv

theorem TWork.below {Wk : Nat} {nv dv lv : Value} {w0 w w' : World} (h : TWork Wk nv dv lv w0 w) (hb : Below w.heap.size w w') : TWork Wk nv dv lv w0 w' :=
  ⟨h.lt, fun k hk => (hb.block k (Nat.lt_of_lt_of_le hk h.size)).trans (h.old k hk), Nat.le_trans h.size hb.size, below_cell hb h.c0, below_cell hb h.c1, below_cell hb h.c2⟩
theorem TWork.cell {Wk : Nat} {nv dv lv : Value} {w0 w : World} (h : TWork Wk nv dv lv w0 w) {a : Addr} {u : Value} (hc : w0.cell? a = some u) : w.cell? a = some u :=
  (World.cell?_of_block (w := w0) (h.old _ (World.block_lt_of_cell? w0 _ hc))).trans hc
theorem TWork.rows {Wk : Nat} {nv dv lv v : Value} {w0 w : World} {M : List (List Int)} (h : TWork Wk nv dv lv w0 w) (hr : RowsAt w0 v M) : RowsAt w v M := by
  obtain ⟨b, off, cap, hv, hr⟩ := hr
  exact ⟨b, off, cap, hv, fun i hi => by
    obtain ⟨u, hu, hI⟩ := hr i hi
    exact ⟨u, h.cell hu, hI.same fun a x hx => h.cell hx⟩⟩
theorem TWork.look {Wk : Nat} {nv dv lv v : Value} {w0 w : World} {L : List (Nat × Nat)} (h : TWork Wk nv dv lv w0 w) (hr : LooksAt w0 v L) : LooksAt w v L := by
  obtain ⟨b, off, cap, hv, hr⟩ := hr
  exact ⟨b, off, cap, hv, fun j hj => ⟨h.cell (hr j hj).1, h.cell (hr j hj).2⟩⟩

theorem cell_of_two {w : World} {b : Nat} {x y : Value} {T : TypeId} (h : w.heap[b]? = some (.cells #[x, y] T (0, 0))) : w.cell? ⟨b, 0, none⟩ = some x ∧ w.cell? ⟨b, 1, none⟩ = some y ∧ ∀ i, w.frozen? ⟨b, i, none⟩ = false := by
  simp [World.cell?, World.frozen?, h]

theorem honest_any (w : World) : Calls Tryz.prog 162 #[.agg #[]] w fun e w' => e = .returned (.int .i64 0) ∧ Below w.heap.size w w' := by
  go_enter Tryz.func162, Tryz.ntmps162
  go_wp2_with fail
  go_ret
  exact ⟨rfl, (Below.refl _ w).alloc (Nat.le_refl _) _⟩
theorem filed_any (w : World) : Calls Tryz.prog 163 #[.agg #[]] w fun e w' => e = .returned (.int .i64 1) ∧ Below w.heap.size w w' := by
  go_enter Tryz.func163, Tryz.ntmps163
  go_wp2_with fail
  go_ret
  exact ⟨rfl, (Below.refl _ w).alloc (Nat.le_refl _) _⟩

def chanceL (D : List (List Int)) (l : Nat × Nat) (m : Nat) : Ch := if m = l.2 then (true, 0) else if (l.2 : Int) ∈ (D[m]?.getD []) then (true, 1) else (false, 0)

set_option maxRecDepth 100000 in
set_option maxHeartbeats 1600000 in
theorem chance_any (Wk : Nat) (nv dv lv : Value) (N D : List (List Int)) (L : List (Nat × Nat)) (w0 w : World) (hI : TIn nv dv lv N D L w0) (hW : TWork Wk nv dv lv w0 w) (l : Nat × Nat) (m : Nat) (hm : m < N.length) :
    Calls Tryz.prog 70 #[.pointer (some ⟨Wk, 0, none⟩), lookV l, .int .i64 (m : Nat)] w (ChEnd (chanceL D l m) w) := by
  have hsame := hI.jaw.same
  have hDm : (D[m]?.getD []).length ≤ 1000 := by
    have hid : m < D.length := by omega
    have := (hI.jaw.filed m hid).le
    simp [hid]; omega
  obtain ⟨W1, hW1⟩ : ∃ W1, (w.alloc (.cells #[.int .i64 l.1, .int .i64 l.2] 41)).alloc (.cells #[.bool false, .int .i64 0] 84) = W1 := ⟨_, rfl⟩
  have hb1 : Below w.heap.size w W1 := by rw [← hW1]; exact ((Below.refl _ w).alloc (Nat.le_refl _) _).alloc (by simp) _
  obtain ⟨g1, g2, g3, _⟩ := three_heap w (.cells #[.int .i64 l.1, .int .i64 l.2] 41) (.cells #[.bool false, .int .i64 0] 84) (.cells #[] 0)
  have q0 : W1.cell? ⟨w.heap.size, 0, none⟩ = some (.int .i64 l.1) := by rw [← hW1]; simp
  have q1 : W1.cell? ⟨w.heap.size, 1, none⟩ = some (.int .i64 l.2) := by rw [← hW1]; simp
  have q2 : W1.heap[w.heap.size + 1]? = some (.cells #[.bool false, .int .i64 0] 84 (0, 0)) := by
    rw [← hW1]; have := heap_new (w.alloc (.cells #[.int .i64 l.1, .int .i64 l.2] 41)) (.cells #[.bool false, .int .i64 0] 84); rwa [World.size_alloc] at this
  have hbd : Below w.heap.size w W1.drew := hb1.drew
  have p0 := below_cell hb1 hW.c0
  have p1 := below_cell hb1 hW.c1
  have HS := Lib.hid (sight_any nv dv D l m W1.drew ((hW.below hbd).rows hI.filed) (by omega) hDm (by obtain ⟨b, off, cap, h, _⟩ := hI.next; exact ⟨_, _, _, h⟩))
  have HQ := Lib.hid (fun W' (hb : Below W1.drew.heap.size W1.drew W') => And.intro (below_cell hb (show W1.drew.cell? _ = _ from p0)) (And.intro (below_cell hb (show W1.drew.cell? _ = _ from p1)) (And.intro (below_cell hb (show W1.drew.cell? _ = _ from q0)) (below_cell hb (show W1.drew.cell? _ = _ from q1)))))
  have HR2 := Lib.hid (fun W' (hb : Below W1.drew.heap.size W1.drew W') => below_heap hb (show W1.drew.heap[_]? = _ from q2))
  obtain ⟨ly, ls⟩ := l
  simp only at *
  have HB1 := Lib.hid hbd
  obtain ⟨nb, noff, ncap, rfl, _⟩ := hI.next
  obtain ⟨db, doff, dcap, rfl, _⟩ := hI.filed
  have HW := Lib.hid hW
  clear hI hW hb1 hbd g1 g2 g3 hsame hDm
  have hs1 : W1.heap.size = w.heap.size + 1 + 1 := by rw [← hW1]; simp
  unfold lookV jawV at *
  clear p0 p1 q0 q1 q2
  have P0 := (HQ.out W1.drew (Below.refl _ _)).1
  have P1 := (HQ.out W1.drew (Below.refl _ _)).2.1
  have P2 := (HQ.out W1.drew (Below.refl _ _)).2.2.1
  have P3 := (HQ.out W1.drew (Below.refl _ _)).2.2.2
  have hm0 : ∀ w, (method 336 175 (.agg #[]) "palfrey/tooth.filings").run Tryz.prog w = .ok (162, .agg #[]) w := fun _ => by kernel_rfl
  have hm1 : ∀ w, (method 336 177 (.agg #[]) "palfrey/tooth.filings").run Tryz.prog w = .ok (163, .agg #[]) w := fun _ => by kernel_rfl
  by_cases h1 : m = ls
  · have HV := Lib.hid (show sightV D (ly, ls) m = .iface 175 (.agg #[]) by simp [sightV, h1])
    have HC := Lib.hid (show chanceL D (ly, ls) m = (true, 0) by simp [chanceL, h1])
    rw [HV.out] at HS
    clear h1
    go_enter Tryz.func70, Tryz.ntmps70
    go_wp2_with fail
    go_region_held3 (fun w' => w'.cell? ⟨Wk, 0, none⟩ = some (.slice (some ⟨nb, noff, none⟩) N.length ncap) ∧ w'.cell? ⟨Wk, 1, none⟩ = some (.slice (some ⟨db, doff, none⟩) D.length dcap) ∧ w'.cell? ⟨w.heap.size, 0, none⟩ = some (.int .i64 ly) ∧ w'.cell? ⟨w.heap.size, 1, none⟩ = some (.int .i64 ls))
      (first | go_keep | exact HQ.out _ hb2)
      (first | (go_at_call 85; refine (HS.out).mono ?_; rintro e w2 ⟨rfl, hb2⟩))
    have HBB := Lib.hid (HB1.out.trans (hb2.mono HB1.out.size))
    go_wp2_with fail
    refine (honest_any _).mono ?_
    rintro e w3 ⟨rfl, hb3⟩
    have hb23 := hb2.trans (hb3.mono hb2.size)
    obtain ⟨r0, r1, rf⟩ := cell_of_two (HR2.out _ hb23)
    have rf0 := rf 0
    have rf1 := rf 1
    have HB3 := Lib.hid (HBB.out.trans (hb3.mono HBB.out.size))
    clear hb23 hb3 hb2 rf
    go_wp2_with fail
    refine bodyPost_ret (v := cV (true, 0)) ?_ rfl ?_
    · simp [results, Tryz.results70, go_sem, cV, r0, r1]
    · refine ⟨by rw [HC.out], ?_⟩
      exact (HB3.out.setCell (by simp) _).setCell (by simp) _
  · by_cases h2 : (ls : Int) ∈ (D[m]?.getD [])
    · have HV := Lib.hid (show sightV D (ly, ls) m = .iface 177 (.agg #[]) by simp only [sightV]; rw [if_neg h1, if_pos h2])
      have HC := Lib.hid (show chanceL D (ly, ls) m = (true, 1) by simp only [chanceL]; rw [if_neg h1, if_pos h2])
      rw [HV.out] at HS
      clear h1 h2
      go_enter Tryz.func70, Tryz.ntmps70
      go_wp2_with fail
      go_region_held3 (fun w' => w'.cell? ⟨Wk, 0, none⟩ = some (.slice (some ⟨nb, noff, none⟩) N.length ncap) ∧ w'.cell? ⟨Wk, 1, none⟩ = some (.slice (some ⟨db, doff, none⟩) D.length dcap) ∧ w'.cell? ⟨w.heap.size, 0, none⟩ = some (.int .i64 ly) ∧ w'.cell? ⟨w.heap.size, 1, none⟩ = some (.int .i64 ls))
        (first | go_keep | exact HQ.out _ hb2)
        (first | (go_at_call 85; refine (HS.out).mono ?_; rintro e w2 ⟨rfl, hb2⟩))
      have HBB := Lib.hid (HB1.out.trans (hb2.mono HB1.out.size))
      go_wp2_with fail
      refine (filed_any _).mono ?_
      rintro e w3 ⟨rfl, hb3⟩
      have hb23 := hb2.trans (hb3.mono hb2.size)
      obtain ⟨r0, r1, rf⟩ := cell_of_two (HR2.out _ hb23)
      have rf0 := rf 0
      have rf1 := rf 1
      have HB3 := Lib.hid (HBB.out.trans (hb3.mono HBB.out.size))
      clear hb23 hb3 hb2 rf
      go_wp2_with fail
      refine bodyPost_ret (v := cV (true, 1)) ?_ rfl ?_
      · simp [results, Tryz.results70, go_sem, cV, r0, r1]
      · refine ⟨by rw [HC.out], ?_⟩
        exact (HB3.out.setCell (by simp) _).setCell (by simp) _
    · have HV := Lib.hid (show sightV D (ly, ls) m = .nilIface by simp only [sightV]; rw [if_neg h1, if_neg h2])
      have HC := Lib.hid (show chanceL D (ly, ls) m = (false, 0) by simp only [chanceL]; rw [if_neg h1, if_neg h2])
      rw [HV.out] at HS
      clear h1 h2
      go_enter Tryz.func70, Tryz.ntmps70
      go_wp2_with fail
      go_region_held3 (fun w' => w'.cell? ⟨Wk, 0, none⟩ = some (.slice (some ⟨nb, noff, none⟩) N.length ncap) ∧ w'.cell? ⟨Wk, 1, none⟩ = some (.slice (some ⟨db, doff, none⟩) D.length dcap) ∧ w'.cell? ⟨w.heap.size, 0, none⟩ = some (.int .i64 ly) ∧ w'.cell? ⟨w.heap.size, 1, none⟩ = some (.int .i64 ls))
        (first | go_keep | exact HQ.out _ hb2)
        (first | (go_at_call 85; refine (HS.out).mono ?_; rintro e w2 ⟨rfl, hb2⟩))
      obtain ⟨r0, r1, rf⟩ := cell_of_two (HR2.out _ hb2)
      have rf0 := rf 0
      have rf1 := rf 1
      have HB3 := Lib.hid (HB1.out.trans (hb2.mono HB1.out.size))
      clear hb2 rf
      go_wp2_with fail
      refine bodyPost_ret (v := cV (false, 0)) ?_ rfl ?_
      · simp [results, Tryz.results70, go_sem, cV, r0, r1]
      · refine ⟨by rw [HC.out], ?_⟩
        exact (HB3.out.setCell (by simp) _).setCell (by simp) _
end Go.Proofs.YtejfelijhojndaaGreatDoor
