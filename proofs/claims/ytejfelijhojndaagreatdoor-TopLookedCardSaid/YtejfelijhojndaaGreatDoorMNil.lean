/-
  'left', by contract.
-/
import Derived.Test.YtejfelijhojndaaGreatDoorMInter
import Derived.BigQuiet
namespace Go.Proofs.YtejfelijhojndaaGreatDoor
open Go.RowKit Go.Proofs Go.Shelf

theorem outside_any (n a b : Int) (w : World) : Calls Tryz.prog 43 #[.int .i64 n, .int .i64 a, .int .i64 b] w fun e w' => e = .returned (.bool (decide (n < a) || decide (b < n))) ∧ w = w' := by
  go_enter Tryz.func43, Tryz.ntmps43
  go_wp2_with fail
  all_goals
    go_ret
    refine ⟨?_, rfl⟩
    simp [*]

def leftB (F : Fair) (e : Ent) (a : Int) : Bool := (a == 0 && e.shod != 1) || (!(decide (a < F.shoeF) || decide (F.shoeT < a)) && e.shod != 0)
def leftTo (F : Fair) (e : Ent) (k : Nat) : List Int := ((List.range k).filter fun i : Nat => leftB F e (3 - (i : Int))).map fun i : Nat => e.height - (3 - (i : Int))
def leftL (F : Fair) (e : Ent) : List Int := leftTo F e 4
theorem leftTo_succ (F : Fair) (e : Ent) (k : Nat) : leftTo F e (k + 1) = leftTo F e k ++ if leftB F e (3 - (k : Int)) then [e.height - (3 - (k : Int))] else [] := by
  unfold leftTo
  rw [List.range_succ, List.filter_append, List.map_append]
  congr 1
  by_cases h : leftB F e (3 - (k : Int)) <;> simp [h]
theorem leftTo_le (F : Fair) (e : Ent) (k : Nat) : (leftTo F e k).length ≤ k := by
  unfold leftTo
  rw [List.length_map]
  exact Nat.le_trans (List.length_filter_le _ _) (by simp)

set_option maxRecDepth 100000 in
set_option maxHeartbeats 1600000 in
theorem left_any (Wk : Nat) (F : Fair) (e : Ent) (mv : Value) (w : World) (hW : WorkF Wk F w) (hh : 0 ≤ e.height ∧ e.height ≤ 30) (hmv : ∃ a n c, mv = .slice a n c) :
    Calls Tryz.prog 117 #[.pointer (some ⟨Wk, 0, none⟩), .agg #[.int .i64 e.hour, .int .i64 e.place, .int .i64 e.coat, mv, .int .i64 e.height, .int .i64 e.shod]] w (InterEnd (leftL F e) w) := by
  obtain ⟨i0, hi, hz0, hz1, hz2⟩ := info_parts Tryz.infoInt
  obtain ⟨am, nm, cm, rfl⟩ := hmv
  obtain ⟨hh1, hh2⟩ := hh
  obtain ⟨W1, hW1⟩ : ∃ W1, w.alloc (.cells #[.int .i64 e.hour, .int .i64 e.place, .int .i64 e.coat, .slice am nm cm, .int .i64 e.height, .int .i64 e.shod] 57) = W1 := ⟨_, rfl⟩
  have hb1 : Below w.heap.size w W1 := by rw [← hW1]; exact (Below.refl _ w).alloc (Nat.le_refl _) _
  have hblk : W1.heap[w.heap.size]? = some (.cells #[.int .i64 e.hour, .int .i64 e.place, .int .i64 e.coat, .slice am nm cm, .int .i64 e.height, .int .i64 e.shod] 57 (0, 0)) := by rw [← hW1]; exact heap_new w _
  obtain ⟨z0, z1, z2, z3, z4, z5⟩ := six_cells hblk
  have f2 := below_cell hb1 hW.shoeF
  have f3 := below_cell hb1 hW.shoeT
  obtain ⟨sf, hsf⟩ : ∃ z, F.shoeF = z := ⟨_, rfl⟩
  obtain ⟨st, hst⟩ : ∃ z, F.shoeT = z := ⟨_, rfl⟩
  obtain ⟨ht, hht⟩ : ∃ z, e.height = z := ⟨_, rfl⟩
  obtain ⟨sd, hsd⟩ : ∃ z, e.shod = z := ⟨_, rfl⟩
  rw [hsf] at f2
  rw [hst] at f3
  rw [hht] at z4 hh1 hh2
  rw [hsd] at z5
  have HLB : Hid (∀ a, leftB F e a = ((a == 0 && sd != 1) || (!(decide (a < sf) || decide (st < a)) && sd != 0))) := fun a => by unfold leftB; rw [hsf, hst, hsd]
  have HHT := Lib.hid hht
  have hsz1 : w.heap.size + 1 ≤ W1.heap.size := by rw [← hW1]; simp
  have HB1 := Lib.hid hb1
  have Z := Lib.hid (show W1.cell? ⟨w.heap.size, 4, none⟩ = some (.int .i64 ht) ∧ W1.cell? ⟨w.heap.size, 5, none⟩ = some (.int .i64 sd) ∧ W1.cell? ⟨Wk, 2, none⟩ = some (.int .i64 sf) ∧ W1.cell? ⟨Wk, 3, none⟩ = some (.int .i64 st) from ⟨z4, z5, f2, f3⟩)
  clear hsf hst hht hsd hb1 hblk z0 z1 z2 z3 z4 z5 f2 f3 hW
  go_enter Tryz.func117, Tryz.ntmps117
  go_wp2_with fail
  go_loopw [5, 10] (fun v i wr => ∃ k : Nat, k ≤ 4 ∧ i = .int .i64 k ∧ wr.ownsRow W1.heap.size 3 1 v (leftTo F e k).length (ivals (leftTo F e k)) ∧ Below W1.heap.size W1 wr) (fun _ i _ => 4 - (intOf i).toNat)
  case atStart => exact ⟨0, Nat.zero_le _, rfl, World.ownsRow_nil _ _ _ _, Below.refl _ W1⟩
  case round =>
    obtain ⟨k, hk, rfl, hown, hbl⟩ := hrel
    have hle := leftTo_le F e k
    have HO := Lib.hid hown
    have HB := Lib.hid hbl
    have hsz := hbl.size
    have c4 := below_cell hbl Z.out.1
    have c5 := below_cell hbl Z.out.2.1
    have c2 := below_cell hbl Z.out.2.2.1
    have c3 := below_cell hbl Z.out.2.2.2
    clear hown hbl
    by_cases hlt : k < 4
    · have hklt : (k : Int) < 4 := by omega
      have hwr : IntKind.i64.wrap (3 - (k : Int)) = 3 - (k : Int) := IntWalk.i64_in _ (by omega)
      have hwr2 : IntKind.i64.wrap (ht - (3 - (k : Int))) = ht - (3 - (k : Int)) := IntWalk.i64_in _ (by omega)
      obtain ⟨q1, hq1⟩ : ∃ q, ((3 - (k : Int)) == 0) = q := ⟨_, rfl⟩
      obtain ⟨q2, hq2⟩ : ∃ q, (sd != 1) = q := ⟨_, rfl⟩
      obtain ⟨q3, hq3⟩ : ∃ q, (decide (3 - (k : Int) < sf) || decide (st < 3 - (k : Int))) = q := ⟨_, rfl⟩
      obtain ⟨q4, hq4⟩ : ∃ q, (sd != 0) = q := ⟨_, rfl⟩
      have HQ : Hid (leftB F e (3 - (k : Int)) = ((q1 && q2) || (!q3 && q4))) := by
        show _ = _
        rw [HLB.out, hq1, hq2, hq3, hq4]
      obtain ⟨ad, had⟩ : ∃ ad, 3 - (k : Int) = ad := ⟨_, rfl⟩
      have HOU := Lib.hid (fun (W : World) => outside_any ad sf st W)
      rw [had] at hwr hwr2 hq1 hq3
      have HOU := Lib.hid (fun W => show Calls Tryz.prog 43 _ W (fun e w' => e = .returned (.bool q3) ∧ w' = W) from by have := HOU.out W; rw [hq3] at this; exact this.mono fun e w' h => ⟨h.1, h.2.symm⟩)
      have HAD := Lib.hid had
      clear hq3
      cases q1 <;> cases q3
      all_goals
        go_wp2_with fail
        go_big_quiet (first | (go_at_call 43; refine Calls.quiet_of_same (HOU.out _)))
        cases q2 <;> cases q4
        all_goals
          first
            | (have HF : Hid (leftB F e (3 - (k : Int)) = false) := HQ.out
               go_wp2_with fail
               go_roundw
               case rel => exact ⟨k + 1, by omega, by go_num, by rw [leftTo_succ, HF.out, if_neg (by decide), List.append_nil]; exact HO.out, ⟨HB.out.os, HB.out.tape, HB.out.output, HB.out.size, HB.out.block⟩⟩
               case measure => simp only [intOf]; omega)
            | (have HT : Hid (leftB F e (3 - (k : Int)) = true) := HQ.out
               go_wp2_with (first
                 | (at_builtin; refine wpList_append_own _ rfl _ _ 22 rfl W1.heap.size 3 i0 (.int .i64 0) 1 8 Tryz.underlying22 hi hz0 hz1 hz2 rfl (by decide) _ _ _ rfl ((show World.ownsRow (wr.drewN nq) W1.heap.size 3 1 u5 (leftTo F e k).length (ivals (leftTo F e k)) from HO.out).alloc _) ⟨wr.heap.size, 0, none⟩ 1 1 [.int .i64 (ht - ad)] rfl rfl (cell_one_new _ _ _) (fun z hz => by simp at hz; subst hz; rfl) (by unfold maxLen; omega) (by omega) (by have := HB.out.size; simp; omega) ?_; intro v' w3 hown' hgrow _))
               have HO3 := Lib.hid hown'
               have hB3 := ((show Below W1.heap.size W1 (wr.drewN nq) from ⟨HB.out.os, HB.out.tape, HB.out.output, HB.out.size, HB.out.block⟩).alloc HB.out.size _).grown hgrow (by have := HB.out.size; simp; omega) (fun j hj => (HO.out.lt j hj).1)
               have HB3 := Lib.hid hB3
               clear hown' hgrow hB3
               have HOK : Hid (w3.ownsRow W1.heap.size 3 1 v' (leftTo F e (k + 1)).length (ivals (leftTo F e (k + 1)))) := by
                 show World.ownsRow _ _ _ _ _ _ _
                 rw [leftTo_succ, HT.out, if_pos rfl, HAD.out, HHT.out]
                 simpa [ivals] using HO3.out
               go_wp2_with fail
               go_roundw
               case rel => exact ⟨k + 1, by omega, by go_num, HOK.out, HB3.out⟩
               case measure => simp only [intOf]; omega)
    · obtain rfl : k = 4 := by omega
      go_wp2_with fail
      go_ret
      exact ⟨_, rfl, owns_base HO.out (by omega), HB1.out.trans (HB.out.mono HB1.out.size)⟩
end Go.Proofs.YtejfelijhojndaaGreatDoor

/-
  The bar of coats, by contract.
-/
namespace Go.Proofs.YtejfelijhojndaaGreatDoor
open Go.RowKit Go.Proofs Go.Shelf

def coatOf (F : Fair) (x : Nat) : Int := (F.ents[x]?.map Ent.coat).getD 0
def coatB (F : Fair) (L : List Nat) : Bool := L.any fun x => coatOf F x != coatOf F (L[0]?.getD 0)
def BoolEnd (b : Bool) (w : World) (e : Ending) (w' : World) : Prop := e = .returned (.bool b) ∧ Below w.heap.size w w'

/-- Two entries' coats, read in one world. -/
theorem WorkF.coats {Wk : Nat} {F : Fair} {w : World} (h : WorkF Wk F w) {x y : Nat} (hx : x < F.ents.length) (hy : y < F.ents.length) :
    ∃ b off cap, w.cell? ⟨Wk, 0, none⟩ = some (.slice (some ⟨b, off, none⟩) F.ents.length cap) ∧ w.cell? ⟨b, off + x * 6 + 2, none⟩ = some (.int .i64 (coatOf F x)) ∧ w.cell? ⟨b, off + y * 6 + 2, none⟩ = some (.int .i64 (coatOf F y)) := by
  obtain ⟨b, off, cap, mv, h0, _, _, x2, _⟩ := h.entry hx
  obtain ⟨b', off', cap', mv', h0', _, _, y2, _⟩ := h.entry hy
  rw [h0] at h0'
  obtain ⟨⟨rfl, rfl⟩, rfl⟩ : (b = b' ∧ off = off') ∧ cap = cap' := by simpa using h0'
  exact ⟨b, off, cap, h0, by simpa [coatOf, hx] using x2, by simpa [coatOf, hy] using y2⟩

set_option maxRecDepth 100000 in
set_option maxHeartbeats 1600000 in
theorem otherCoat_any (Wk : Nat) (F : Fair) (L : List Nat) (v : Value) (w : World) (hW : WorkF Wk F w) (hI : IL w v L) (hn : L.length ≤ 8) (hlt : ∀ x ∈ L, x < F.ents.length) (h6 : F.ents.length ≤ 6) :
    Calls Tryz.prog 114 #[.agg #[], .pointer (some ⟨Wk, 0, none⟩), v] w (BoolEnd (coatB F L) w) := by
  obtain ⟨g, cap, rfl, hc⟩ := hI
  have HW := Lib.hid hW
  have HC := Lib.hid hc
  have HL := Lib.hid hlt
  clear hW hc hlt
  go_enter Tryz.func114, Tryz.ntmps114
  go_wp2_with fail
  go_loopw [11] (fun i wr => ∃ k : Nat, k ≤ L.length ∧ i = .int .i64 k ∧ (∀ j, j < k → coatOf F (L[j]?.getD 0) = coatOf F (L[0]?.getD 0)) ∧ Below w.heap.size w wr) (fun i _ => L.length - (intOf i).toNat)
  case atStart => exact ⟨0, Nat.zero_le _, rfl, fun j h => by omega, (Below.refl _ w).alloc (Nat.le_refl _) _⟩
  case round =>
    obtain ⟨k, hk, rfl, hall, hbl⟩ := hrel
    have HA := Lib.hid hall
    have HB := Lib.hid hbl
    by_cases hkl : k < L.length
    · have hklt : (k : Int) < (L.length : Int) := by omega
      have hl0 : (0 : Int) < (L.length : Int) := by omega
      obtain ⟨x, hx⟩ : ∃ x, L[k]?.getD 0 = x := ⟨_, rfl⟩
      obtain ⟨y, hy⟩ : ∃ y, L[0]?.getD 0 = y := ⟨_, rfl⟩
      have hxl : x < F.ents.length := HL.out x (by rw [← hx]; simp [hkl])
      have hyl : y < F.ents.length := HL.out y (by rw [← hy]; simp [show 0 < L.length by omega])
      obtain ⟨b, off, cap2, d0, d1, d2⟩ := (HW.out.below hbl).coats hxl hyl
      have c1 := below_cell hbl (HC.out k hkl)
      have c2 := below_cell hbl (HC.out 0 (by omega))
      rw [hx] at c1
      rw [hy] at c2
      obtain ⟨cx, hcx⟩ : ∃ z, coatOf F x = z := ⟨_, rfl⟩
      obtain ⟨cy, hcy⟩ : ∃ z, coatOf F y = z := ⟨_, rfl⟩
      rw [hcx] at d1
      rw [hcy] at d2
      have hx0 : (0 : Int) ≤ (x : Int) := by omega
      have hy0 : (0 : Int) ≤ (y : Int) := by omega
      have hxl' : (x : Int) < (F.ents.length : Int) := by omega
      have hyl' : (y : Int) < (F.ents.length : Int) := by omega
      have HX := Lib.hid hx
      have HY := Lib.hid hy
      have HCX := Lib.hid hcx
      have HCY := Lib.hid hcy
      clear hall hbl hx hy hcx hcy hxl hyl
      go_wp2_with fail
      go_big_quiet (fail)
      by_cases hxy : cx = cy
      · have hd : (cx != cy) = false := by simp [hxy]
        have HXY := Lib.hid hxy
        clear hxy
        go_wp2_with fail
        go_roundw
        case rel => exact ⟨k + 1, by omega, by go_num, fun j hj => by rcases Nat.lt_succ_iff_lt_or_eq.1 hj with h | rfl; exact HA.out j h; rw [HX.out, HY.out, HCX.out, HCY.out]; exact HXY.out, ⟨HB.out.os, HB.out.tape, HB.out.output, HB.out.size, HB.out.block⟩⟩
        case measure => simp only [intOf]; omega
      · have hd : (cx != cy) = true := by simp [hxy]
        have HXY := Lib.hid hxy
        clear hxy
        go_wp2_with fail
        go_ret
        refine ⟨?_, ⟨HB.out.os, HB.out.tape, HB.out.output, HB.out.size, HB.out.block⟩⟩
        have : coatB F L = true := List.any_eq_true.2 ⟨x, by rw [← HX.out]; simp [hkl], by rw [HY.out, HCX.out, HCY.out]; simpa using HXY.out⟩
        rw [this]
        try rfl
    · go_wp2_with fail
      go_ret
      refine ⟨?_, HB.out⟩
      have : coatB F L = false := List.any_eq_false.2 fun x hx => by
        obtain ⟨j, hj, rfl⟩ := List.mem_iff_getElem.1 hx
        have := HA.out j (by omega)
        simp only [List.getElem?_eq_getElem hj, Option.getD_some] at this
        simp [this]
      rw [this]
      try rfl
end Go.Proofs.YtejfelijhojndaaGreatDoor

/-
  'heights', by contract.
-/
namespace Go.Proofs.YtejfelijhojndaaGreatDoor
open Go.RowKit Go.Proofs Go.Shelf

theorem Tryz.infoInts : (Tryz.prog.info? 22).map (fun i => (i.zero, i.size, i.bytes)) = some (some (.slice none 0 0), 1, 24) := by kernel_rfl
theorem made_ints (n : Nat) : madeCells (Value.slice none 0 0).cells (n * 1) = Array.replicate n (.slice none 0 0) := by
  have h : (Value.slice none 0 0).cells = #[.slice none 0 0] := by rfl
  rw [h, Nat.mul_one]
  apply Array.toList_inj.1
  rw [toList_madeCells_one]
  simp
theorem owns_slice {w : World} {base n : Nat} {T : TypeId} {v : Value} {xs : List Value} (h : w.ownsRow base T 1 v n xs) : ∃ a c, v = .slice a n c := by
  obtain ⟨h1, h2⟩ := h
  rcases h2 with ⟨rfl, h0⟩ | ⟨g, cap, cur, rfl, r⟩
  · exact ⟨none, 0, by rw [h0]⟩
  · exact ⟨_, _, rfl⟩
theorem make_ints (n : Nat) (hn : n ≤ 100) (w : World) :
    (Instr.makeSlice 26 (.int .i64 n) (.int .i64 n)).run Tryz.prog w = .ok (.slice (some ⟨w.heap.size, 0, none⟩) n n) (w.alloc (.cells (Array.replicate n (.slice none 0 0)) 22)) := by
  obtain ⟨i0, hi, hz0, hz1, hz2⟩ := info_parts Tryz.infoInts
  have h := run_make (P := Tryz.prog) w 26 22 i0 _ Tryz.underlying26 hi hz0 .i64 .i64 n n (by omega) (Int.le_refl _) (by rw [hz2]; omega) (by omega)
  rw [Int.toNat_natCast, hz1, made_ints] at h
  exact h

def heightsL (F : Fair) (L : List Nat) : List Int := interL (L.map fun x => leftL F (F.ents[x]?.getD ⟨0, 0, 0, 0, 0, []⟩))

set_option maxRecDepth 100000 in
set_option maxHeartbeats 1600000 in
theorem heights_any (Wk : Nat) (F : Fair) (L : List Nat) (v : Value) (w : World) (hW : WorkF Wk F w) (hI : IL w v L) (hn : L.length ≤ 8) (hn0 : 0 < L.length) (hlt : ∀ x ∈ L, x < F.ents.length) (hok : ∀ i (h : i < F.ents.length), 0 ≤ F.ents[i].height ∧ F.ents[i].height ≤ 30) :
    Calls Tryz.prog 116 #[.pointer (some ⟨Wk, 0, none⟩), v] w (InterEnd (heightsL F L) w) := by
  obtain ⟨g, cap, rfl, hc⟩ := hI
  have hmk := make_ints L.length (by omega)
  obtain ⟨W1, hW1⟩ : ∃ W1, w.alloc (.cells (Array.replicate L.length (.slice none 0 0)) 22) = W1 := ⟨_, rfl⟩
  have hb1 : Below w.heap.size w W1 := by rw [← hW1]; exact (Below.refl _ w).alloc (Nat.le_refl _) _
  have hblk : W1.heap[w.heap.size]? = some (.cells (Array.replicate L.length (.slice none 0 0)) 22 (0, 0)) := by rw [← hW1]; exact heap_new w _
  have hs1 : w.heap.size + 1 = W1.heap.size := by rw [← hW1]; simp
  have HW := Lib.hid hW
  have HC := Lib.hid hc
  have HL := Lib.hid hlt
  have HOK := Lib.hid hok
  have HB1 := Lib.hid hb1
  have HBLK := Lib.hid hblk
  have HS1 := Lib.hid hs1
  clear hW hc hlt hok hb1 hblk hs1
  go_enter Tryz.func116, Tryz.ntmps116
  go_wp2_with fail
  go_loopw [13] (fun i wr => ∃ k : Nat, k ≤ L.length ∧ i = .int .i64 k ∧ (∃ cur : Array Value, wr.heap[w.heap.size]? = some (.cells cur 22 (0, 0)) ∧ cur.size = L.length ∧ ∀ j, j < k → ∃ u, cur[j]? = some u ∧ wr.ownsRow W1.heap.size 3 1 u (leftL F (F.ents[L[j]?.getD 0]?.getD ⟨0, 0, 0, 0, 0, []⟩)).length (ivals (leftL F (F.ents[L[j]?.getD 0]?.getD ⟨0, 0, 0, 0, 0, []⟩)))) ∧ Kept w.heap.size W1 wr) (fun i _ => L.length - (intOf i).toNat)
  case atStart => exact ⟨0, Nat.zero_le _, rfl, ⟨_, HBLK.out, by simp, fun j h => by omega⟩, Kept.refl _ _⟩
  case round =>
    obtain ⟨k, hk, rfl, ⟨cur, hcur, hcs, hcj⟩, hkp⟩ := hrel
    have HCU := Lib.hid hcur
    have HCJ := Lib.hid hcj
    have HK := Lib.hid hkp
    have hbl : Below w.heap.size w wr := below_of_kept HB1.out hkp (Nat.le_refl _) HB1.out.size
    have HBL := Lib.hid hbl
    by_cases hkl : k < L.length
    · have hklt : (k : Int) < (L.length : Int) := by omega
      obtain ⟨x, hx⟩ : ∃ x, L[k]?.getD 0 = x := ⟨_, rfl⟩
      have hxl : x < F.ents.length := HL.out x (by rw [← hx]; simp [hkl])
      obtain ⟨b, off, cap2, mv, d0, e0, e1, e2, e3, e4, e5, hm⟩ := (HW.out.below hbl).entry hxl
      obtain ⟨am, cm, rfl, _⟩ := hm
      have c1 := below_cell hbl (HC.out k hkl)
      rw [hx] at c1
      have HLF := Lib.hid (left_any Wk F F.ents[x] (.slice am F.ents[x].marks.length cm) wr (HW.out.below hbl) (HOK.out x hxl) ⟨_, _, _, rfl⟩)
      have hx0 : (0 : Int) ≤ (x : Int) := by omega
      have hxl' : (x : Int) < (F.ents.length : Int) := by omega
      have HX := Lib.hid hx
      obtain ⟨E, hE⟩ : ∃ E, F.ents[x] = E := ⟨_, rfl⟩
      rw [hE] at e0 e1 e2 e3 e4 e5 HLF
      have HE := Lib.hid hE
      clear hcur hcj hkp hbl hx hE
      go_wp2_with (first | (go_at_call 117; refine HLF.out.mono ?_; rintro e w2 ⟨u, rfl, hu, hb2⟩; obtain ⟨ua, uc, rfl⟩ := owns_slice hu; have n1 : w2.cell? ⟨w.heap.size, k, none⟩ = some cur[k] := (by rw [World.cell?, (hb2.block _ (by have := HBL.out.size; have := (Array.getElem?_eq_some_iff.1 HCU.out).1; omega)).trans HCU.out]; simp [show k < cur.size by omega]); have n2 : w2.frozen? ⟨w.heap.size, k, none⟩ = false := (by rw [World.frozen?, (hb2.block _ (by have := HBL.out.size; have := (Array.getElem?_eq_some_iff.1 HCU.out).1; omega)).trans HCU.out]; simp); have HU := Lib.hid hu; have HB2 := Lib.hid hb2; clear hu hb2))
      have hk2 : Kept w.heap.size wr w2 := (Kept.refl _ wr).of_below HB2.out
      have hk3 : ∀ u : Value, Kept w.heap.size wr (w2.setCell ⟨w.heap.size, k, none⟩ u) := fun u => hk2.setCell (.inl rfl) u
      have hh2 : w2.heap[w.heap.size]? = some (.cells cur 22 (0, 0)) := (HB2.out.block _ (by have := (Array.getElem?_eq_some_iff.1 HCU.out).1; omega)).trans HCU.out
      go_roundw
      case rel =>
        refine ⟨k + 1, by omega, by go_num, ⟨cur.setIfInBounds k (.slice ua (leftL F E).length uc), by simp [World.setCell, Array.getElem?_modify, hh2], by simp [hcs], fun j hj => ?_⟩, HK.out.trans (hk3 _)⟩
        have hS := HS1.out
        by_cases hjk : j = k
        · subst hjk
          refine ⟨.slice ua (leftL F E).length uc, by rw [Array.getElem?_setIfInBounds_self_of_lt (by omega)], ?_⟩
          rw [HX.out, show F.ents[x]?.getD ⟨0, 0, 0, 0, 0, []⟩ = E by simp [hxl, HE.out]]
          refine (owns_base HU.out (by have := HK.out.size; omega)).kept ((Kept.refl _ w2).setCell (p := ⟨w.heap.size, j, none⟩) (.inl rfl) _).grownBy ?_
          cases hv : (Value.slice ua (leftL F E).length uc).ownBlock with
          | none => exact .inl rfl
          | some g => right; intro e; have h3 := Option.some.inj e; dsimp only at h3; have := (HU.out.lt _ hv).1; have := HK.out.size; omega
        · obtain ⟨u, hu1, hu2⟩ := HCJ.out j (by omega)
          refine ⟨u, by rw [Array.getElem?_setIfInBounds_ne (fun h => hjk h.symm)]; exact hu1, hu2.kept (hk3 _).grownBy ?_⟩
          cases hv : u.ownBlock with
          | none => exact .inl rfl
          | some g => right; intro e; have h3 := Option.some.inj e; (try dsimp only at h3); have := (hu2.lt _ hv).1; omega
      case measure => simp only [intOf]; omega
    · obtain rfl : k = L.length := by omega
      have HIN := Lib.hid (intersect_any w.heap.size L.length (L.map fun x => leftL F (F.ents[x]?.getD ⟨0, 0, 0, 0, 0, []⟩)) wr hn0 (by omega) (by simp) (fun l hl => by
        obtain ⟨x, _, rfl⟩ := List.mem_map.1 hl
        exact Nat.le_trans (leftTo_le _ _ 4) (by omega)) (fun i hi => by
        have hi' : i < L.length := by simpa using hi
        obtain ⟨u, hu1, hu2⟩ := HCJ.out i hi'
        refine ⟨u, by simp [World.cell?, HCU.out, hu1], ?_⟩
        have := ints_of_owns hu2
        simpa [hi'] using this))
      clear hcur hcj hkp hbl
      go_wp2_with fail
      refine HIN.out.mono ?_
      rintro e w2 ⟨u, rfl, hu, hb2⟩
      have HU := Lib.hid hu
      have HB2 := Lib.hid hb2
      clear hu hb2
      go_wp2_with fail
      go_ret
      exact ⟨u, rfl, owns_base HU.out HBL.out.size, HBL.out.trans (HB2.out.mono HBL.out.size)⟩
end Go.Proofs.YtejfelijhojndaaGreatDoor

/-
  The bars of heights and of hours, by contract.
-/
namespace Go.Proofs.YtejfelijhojndaaGreatDoor
open Go.RowKit Go.Proofs Go.Shelf

def noHeightB (F : Fair) (L : List Nat) : Bool := (heightsL F L).isEmpty

set_option maxRecDepth 100000 in
set_option maxHeartbeats 800000 in
theorem noHeight_any (Wk : Nat) (F : Fair) (L : List Nat) (v : Value) (w : World) (hW : WorkF Wk F w) (hI : IL w v L) (hn : L.length ≤ 8) (hn0 : 0 < L.length) (hlt : ∀ x ∈ L, x < F.ents.length) (hok : ∀ i (h : i < F.ents.length), 0 ≤ F.ents[i].height ∧ F.ents[i].height ≤ 30) :
    Calls Tryz.prog 115 #[.agg #[], .pointer (some ⟨Wk, 0, none⟩), v] w (BoolEnd (noHeightB F L) w) := by
  have hb1 : Below w.heap.size w (w.alloc (.cells #[] 147)) := (Below.refl _ w).alloc (Nat.le_refl _) _
  have HH := Lib.hid (heights_any Wk F L v _ (hW.below hb1) (hI.below hb1) hn hn0 hlt hok)
  have HB1 := Lib.hid hb1
  clear hW hI hlt hok hb1
  go_enter Tryz.func115, Tryz.ntmps115
  go_wp2_with fail
  refine HH.out.mono ?_
  rintro e w2 ⟨u, rfl, hu, hb2⟩
  obtain ⟨ua, uc, rfl⟩ := owns_slice hu
  have HB2 := Lib.hid (HB1.out.trans (hb2.mono HB1.out.size))
  have HV : Hid ((((heightsL F L).length : Int) == 0) = noHeightB F L) := by
    show _ = _
    unfold noHeightB
    cases heightsL F L <;> simp
    omega
  clear hu hb2
  go_wp2_with fail
  go_ret
  exact ⟨by rw [← HV.out]; rfl, HB2.out⟩

def entOf (F : Fair) (x : Nat) : Ent := F.ents[x]?.getD ⟨0, 0, 0, 0, 0, []⟩
def fewAt (F : Fair) (S : List Nat) (i : Nat) : Bool := decide ((entOf F (S[i + 1]?.getD 0)).hour - (entOf F (S[i]?.getD 0)).hour < neededL F (entOf F (S[i]?.getD 0)) (entOf F (S[i + 1]?.getD 0)))
def fewB (F : Fair) (L : List Nat) : Bool := (List.range ((sortL (cmpHour F) L).length - 1)).any (fewAt F (sortL (cmpHour F) L))
theorem sortL_length (c : Nat → Nat → Int) (L : List Nat) : (sortL c L).length = L.length := sortTo_length c _ L
theorem sortL_mem (c : Nat → Nat → Int) (L : List Nat) : ∀ x ∈ sortL c L, x ∈ L := sortTo_mem c _ L (Nat.le_refl _)
theorem cmpHour_le (F : Fair) (x y : Nat) : -1 ≤ cmpHour F x y ∧ cmpHour F x y ≤ 1 := by
  have h1 : ∀ a b : Int, -1 ≤ cmpI a b ∧ cmpI a b ≤ 1 := by intro a b; unfold cmpI; split <;> (try split) <;> omega
  unfold cmpHour
  have k1 := h1 ((F.ents[x]?.map Ent.hour).getD 0) ((F.ents[y]?.map Ent.hour).getD 0)
  have k2 := h1 x y
  generalize cmpI ((F.ents[x]?.map Ent.hour).getD 0) ((F.ents[y]?.map Ent.hour).getD 0) = a at k1 ⊢
  generalize cmpI (x : Int) (y : Int) = b at k2 ⊢
  unfold orL
  by_cases ha : a = 0
  · by_cases hb : b = 0
    · simp [ha, hb]
    · simp [ha, hb]; omega
  · simp [ha]; omega

set_option maxRecDepth 100000 in
set_option maxHeartbeats 1600000 in
theorem fewHours_any (Wk : Nat) (F : Fair) (L : List Nat) (v : Value) (w : World) (hW : WorkF Wk F w) (hF : FairOK F) (hI : IL w v L) (hn : L.length ≤ 8) (hn0 : 0 < L.length) (hlt : ∀ x ∈ L, x < F.ents.length) :
    Calls Tryz.prog 119 #[.agg #[], .pointer (some ⟨Wk, 0, none⟩), v] w (BoolEnd (fewB F L) w) := by
  have hb1 : Below w.heap.size w (w.alloc (.cells #[] 148)) := (Below.refl _ w).alloc (Nat.le_refl _) _
  have HBH := Lib.hid (byHour_any Wk (w.alloc (.cells #[] 148)))
  have HB1 := Lib.hid hb1
  have HW := Lib.hid hW
  have HF := Lib.hid hF
  have HI := Lib.hid hI
  have HL := Lib.hid hlt
  clear hW hI hlt hb1 hF
  go_enter Tryz.func119, Tryz.ntmps119
  go_wp2_with fail
  refine HBH.out.mono ?_
  rintro e w2 ⟨bw, rfl, hbw, hb2⟩
  have HB2 := Lib.hid (HB1.out.trans (hb2.mono HB1.out.size))
  have HS := Lib.hid (sorted_any v #[.pointer (some ⟨bw, 0, none⟩)] (cmpHour F) L w2 (HI.out.below HB2.out) hn (fun x hx y hy W' hb => byHour1_any bw Wk x y F W' (below_cell hb hbw) ((HW.out.below HB2.out).below hb) (HL.out x hx) (HL.out y hy)) (cmpHour_le F))
  clear hbw hb2
  go_wp2_with fail
  refine HS.out.mono ?_
  rintro e w3 ⟨G, cap, rfl, hN, hG, hb3⟩
  have HB3 := Lib.hid (HB2.out.trans (hb3.mono HB2.out.size))
  have HN := Lib.hid hN
  have hGw : w.heap.size ≤ G := Nat.le_trans HB2.out.size hG
  have HSL := Lib.hid (sortL_length (cmpHour F) L)
  have HSM := Lib.hid (fun x hx => HL.out x (sortL_mem (cmpHour F) L x hx))
  obtain ⟨S, hS⟩ : ∃ S, sortL (cmpHour F) L = S := ⟨_, rfl⟩
  rw [hS] at HN HSL HSM
  have HSS := Lib.hid hS
  clear hN hG hb3 hS
  have hwr : IntKind.i64.wrap ((L.length : Int) - 1) = (L.length : Int) - 1 := IntWalk.i64_in _ (by omega)
  go_wp2_with fail
  go_loopw [16] (fun i wr => ∃ k : Nat, k ≤ L.length - 1 ∧ i = .int .i64 k ∧ (∀ j, j < k → fewAt F S j = false) ∧ Below w3.heap.size w3 wr) (fun i _ => L.length - (intOf i).toNat)
  case atStart => exact ⟨0, Nat.zero_le _, rfl, fun j h => by omega, Below.refl _ w3⟩
  case round =>
    obtain ⟨k, hk, rfl, hall, hbl⟩ := hrel
    have HA := Lib.hid hall
    have HB := Lib.hid hbl
    by_cases hkl : k < L.length - 1
    · have hklt : (k : Int) < (L.length : Int) - 1 := by omega
      have hkl2 : (k : Int) + 1 < (L.length : Int) := by omega
      have hkl3 : (k : Int) < (L.length : Int) := by omega
      have hw2 : IntKind.i64.wrap ((k : Int) + 1) = (k : Int) + 1 := IntWalk.i64_in _ (by omega)
      have htn : ((k : Int) + 1).toNat = k + 1 := by omega
      have hk10 : (0 : Int) ≤ (k : Int) + 1 := by omega
      have hs1 : k < S.length := by have := HSL.out; omega
      have hs2 : k + 1 < S.length := by have := HSL.out; omega
      have c1 := below_cell hbl (HN.out.cell hs1)
      have c2 := below_cell hbl (HN.out.cell hs2)
      obtain ⟨x, hx⟩ : ∃ x, S[k]?.getD 0 = x := ⟨_, rfl⟩
      obtain ⟨y, hy⟩ : ∃ y, S[k + 1]?.getD 0 = y := ⟨_, rfl⟩
      rw [hx] at c1
      rw [hy] at c2
      have hxl := HSM.out x (by rw [← hx]; simp [hs1])
      have hyl := HSM.out y (by rw [← hy]; simp [hs2])
      have hbd : Below w.heap.size w wr.drew := (HB3.out.trans (hbl.mono HB3.out.size)).drew
      obtain ⟨hv, hhv⟩ : ∃ z, F.ents[y].hour - F.ents[x].hour = z := ⟨_, rfl⟩
      obtain ⟨nd, hnd⟩ : ∃ z, neededL F F.ents[x] F.ents[y] = z := ⟨_, rfl⟩
      have HH := Lib.hid (fun W' (hb : Below wr.drew.heap.size wr.drew W') => hours_any Wk x y F W' ((HW.out.below hbd).below hb) hxl hyl (fun i h => (HF.out.ents i h).hour))
      have HD := Lib.hid (fun W' (hb : Below wr.drew.heap.size wr.drew W') => needed_any Wk x y F W' ((HW.out.below hbd).below hb) HF.out hxl hyl)
      rw [hhv] at HH
      rw [hnd] at HD
      have HV : Hid (fewAt F S k = decide (hv < nd)) := by
        show _ = _
        unfold fewAt entOf
        rw [hx, hy, List.getElem?_eq_getElem hxl, List.getElem?_eq_getElem hyl, Option.getD_some, Option.getD_some, hhv, hnd]
      have HS8 : Hid (∀ w', Below wr.drew.heap.size wr.drew w' → w'.cell? ⟨G, k, none⟩ = some (.int .i64 x) ∧ w'.cell? ⟨G, k + 1, none⟩ = some (.int .i64 y)) :=
        fun w' h => ⟨below_cell (w := wr.drew) h c1, below_cell (w := wr.drew) h c2⟩
      have HR := Lib.hid (Below.refl wr.drew.heap.size wr.drew)
      clear hall hbl hbd hhv hnd hx hy hxl hyl
      go_wp2_with fail
      go_region_held3 (fun w' => w'.cell? ⟨G, k, none⟩ = some (.int .i64 x) ∧ w'.cell? ⟨G, k + 1, none⟩ = some (.int .i64 y))
        (first | go_keep | exact HS8.out _ hb5 | exact HS8.out _ hb4)
        (first
          | (go_at_call 122; refine (HH.out _ HR.out).mono ?_; rintro e w4 ⟨rfl, hb4⟩)
          | (go_at_call 123; refine (HD.out _ hb4).mono ?_; rintro e w5 ⟨rfl, hb5'⟩; have hb5 := hb4.trans (hb5'.mono hb4.size)))
      by_cases hlt2 : hv < nd
      · have hd : decide (hv < nd) = true := by simp [hlt2]
        have HT : Hid (fewAt F S k = true) := HV.out.trans hd
        go_wp2_with fail
        go_ret
        refine ⟨?_, HB3.out.trans ((HB.out.drew.trans (hb5.mono HB.out.size)).mono HB3.out.size)⟩
        have : fewB F L = true := List.any_eq_true.2 ⟨k, by rw [HSS.out, HSL.out]; simpa using hkl, by rw [HSS.out]; exact HT.out⟩
        rw [this]
        try rfl
      · have hd : decide (hv < nd) = false := by simp [hlt2]
        have HT : Hid (fewAt F S k = false) := HV.out.trans hd
        go_wp2_with fail
        go_roundw
        case rel => exact ⟨k + 1, by omega, by go_num, fun j hj => by rcases Nat.lt_succ_iff_lt_or_eq.1 hj with h | rfl; exact HA.out j h; exact HT.out, HB.out.drew.trans (hb5.mono HB.out.size)⟩
        case measure => simp only [intOf]; omega
    · go_wp2_with fail
      go_ret
      refine ⟨?_, HB3.out.trans (HB.out.mono HB3.out.size)⟩
      have : fewB F L = false := List.any_eq_false.2 fun j hj => by
        rw [HSS.out, HSL.out, List.mem_range] at hj
        rw [HSS.out, HA.out j (by omega)]
        simp
      rw [this]
      try rfl
end Go.Proofs.YtejfelijhojndaaGreatDoor

/-
  'why', by contract.
-/
namespace Go.Proofs.YtejfelijhojndaaGreatDoor
open Go.RowKit Go.Proofs Go.Shelf

def rV (t : TypeId) : Value := .iface t (.agg #[])
def whyV (F : Fair) (L : List Nat) : Value := if coatB F L then rV 146 else if noHeightB F L then rV 147 else if fewB F L then rV 148 else .nilIface
def WhyEnd (v : Value) (w : World) (e : Ending) (w' : World) : Prop := e = .returned v ∧ Below w.heap.size w w'

set_option maxRecDepth 100000 in
set_option maxHeartbeats 1600000 in
theorem why_any (Wk : Nat) (F : Fair) (L : List Nat) (v : Value) (w : World) (hW : WorkF Wk F w) (hF : FairOK F) (hI : IL w v L) (hn : L.length ≤ 8) (hn0 : 0 < L.length) (hlt : ∀ x ∈ L, x < F.ents.length) :
    Calls Tryz.prog 59 #[.pointer (some ⟨Wk, 0, none⟩), v] w (WhyEnd (whyV F L) w) := by
  -- 336: read off the walk's state (the program's own number); a new commit may have another
  have hm0 : ∀ w, (method 336 146 (.agg #[]) "palfrey/mark.bars").run Tryz.prog w = .ok (114, .agg #[]) w := fun _ => by kernel_rfl
  have hm1 : ∀ w, (method 336 147 (.agg #[]) "palfrey/mark.bars").run Tryz.prog w = .ok (115, .agg #[]) w := fun _ => by kernel_rfl
  have hm2 : ∀ w, (method 336 148 (.agg #[]) "palfrey/mark.bars").run Tryz.prog w = .ok (119, .agg #[]) w := fun _ => by kernel_rfl
  obtain ⟨W1, hW1⟩ : ∃ W1, w.alloc (.cells #[rV 146, rV 147, rV 148] 123) = W1 := ⟨_, rfl⟩
  have hb1 : Below w.heap.size w W1 := by rw [← hW1]; exact (Below.refl _ w).alloc (Nat.le_refl _) _
  have hblk : W1.heap[w.heap.size]? = some (.cells #[rV 146, rV 147, rV 148] 123 (0, 0)) := by rw [← hW1]; exact heap_new w _
  have HC := Lib.hid (fun W' (hb : Below W1.heap.size W1 W') => otherCoat_any Wk F L v W' ((hW.below hb1).below hb) ((hI.below hb1).below hb) hn hlt hF.many)
  have HH := Lib.hid (fun W' (hb : Below W1.heap.size W1 W') => noHeight_any Wk F L v W' ((hW.below hb1).below hb) ((hI.below hb1).below hb) hn hn0 hlt (fun i h => (hF.ents i h).height))
  have HD := Lib.hid (fun W' (hb : Below W1.heap.size W1 W') => fewHours_any Wk F L v W' ((hW.below hb1).below hb) hF ((hI.below hb1).below hb) hn hn0 hlt)
  have q0 : W1.cell? ⟨w.heap.size, 0, none⟩ = some (rV 146) := by simp [World.cell?, hblk]
  have q1 : W1.cell? ⟨w.heap.size, 1, none⟩ = some (rV 147) := by simp [World.cell?, hblk]
  have q2 : W1.cell? ⟨w.heap.size, 2, none⟩ = some (rV 148) := by simp [World.cell?, hblk]
  have HB1 := Lib.hid hb1
  unfold rV at *
  clear hW hF hI hlt hb1 hblk
  go_enter Tryz.func59, Tryz.ntmps59
  go_wp2_with fail
  go_loopw [15] (fun i wr => ∃ k : Nat, k ≤ 3 ∧ i = .int .i64 k ∧ (0 < k → coatB F L = false) ∧ (1 < k → noHeightB F L = false) ∧ (2 < k → fewB F L = false) ∧ Below W1.heap.size W1 wr) (fun i _ => 3 - (intOf i).toNat)
  case atStart => exact ⟨0, Nat.zero_le _, rfl, fun h => by omega, fun h => by omega, fun h => by omega, Below.refl _ W1⟩
  case round =>
    obtain ⟨k, hk, rfl, a0, a1, a2, hbl⟩ := hrel
    have HB := Lib.hid hbl
    have r0 := below_cell hbl q0
    have r1 := below_cell hbl q1
    have r2 := below_cell hbl q2
    have A0 := Lib.hid a0
    have A1 := Lib.hid a1
    have A2 := Lib.hid a2
    clear hbl q0 q1 q2 a0 a1 a2
    rcases (by omega : k = 0 ∨ k = 1 ∨ k = 2 ∨ k = 3) with rfl | rfl | rfl | rfl
    · have HX := Lib.hid (HC.out wr HB.out)
      obtain ⟨q, hq⟩ : ∃ q, coatB F L = q := ⟨_, rfl⟩
      rw [hq] at HX
      have HQ := Lib.hid hq
      clear hq
      cases q with
      | false =>
        go_wp2_with fail
        refine HX.out.mono ?_
        rintro e w2 ⟨rfl, hb2⟩
        have HB2 := Lib.hid (HB.out.trans (hb2.mono HB.out.size))
        clear hb2
        go_wp2_with fail
        go_roundw
        case rel => exact ⟨1, by omega, (by first | rfl | go_num), fun _ => HQ.out, fun h => by omega, fun h => by omega, HB2.out⟩
        case measure => simp [intOf]
      | true =>
        go_wp2_with fail
        refine HX.out.mono ?_
        rintro e w2 ⟨rfl, hb2⟩
        have HB2 := Lib.hid (HB.out.trans (hb2.mono HB.out.size))
        clear hb2
        go_wp2_with fail
        go_ret
        refine ⟨?_, HB1.out.trans (HB2.out.mono HB1.out.size)⟩
        rw [whyV, if_pos HQ.out]
        try rfl
    · have HX := Lib.hid (HH.out wr HB.out)
      obtain ⟨q, hq⟩ : ∃ q, noHeightB F L = q := ⟨_, rfl⟩
      rw [hq] at HX
      have HQ := Lib.hid hq
      clear hq
      cases q with
      | false =>
        go_wp2_with fail
        refine HX.out.mono ?_
        rintro e w2 ⟨rfl, hb2⟩
        have HB2 := Lib.hid (HB.out.trans (hb2.mono HB.out.size))
        clear hb2
        go_wp2_with fail
        go_roundw
        case rel => exact ⟨2, by omega, (by first | rfl | go_num), fun _ => A0.out (by omega), fun _ => HQ.out, fun h => by omega, HB2.out⟩
        case measure => simp [intOf]
      | true =>
        go_wp2_with fail
        refine HX.out.mono ?_
        rintro e w2 ⟨rfl, hb2⟩
        have HB2 := Lib.hid (HB.out.trans (hb2.mono HB.out.size))
        clear hb2
        go_wp2_with fail
        go_ret
        refine ⟨?_, HB1.out.trans (HB2.out.mono HB1.out.size)⟩
        rw [whyV, if_neg (by rw [A0.out (by omega)]; simp), if_pos HQ.out]
        try rfl
    · have HX := Lib.hid (HD.out wr HB.out)
      obtain ⟨q, hq⟩ : ∃ q, fewB F L = q := ⟨_, rfl⟩
      rw [hq] at HX
      have HQ := Lib.hid hq
      clear hq
      cases q with
      | false =>
        go_wp2_with fail
        refine HX.out.mono ?_
        rintro e w2 ⟨rfl, hb2⟩
        have HB2 := Lib.hid (HB.out.trans (hb2.mono HB.out.size))
        clear hb2
        go_wp2_with fail
        go_roundw
        case rel => exact ⟨3, by omega, (by first | rfl | go_num), fun _ => A0.out (by omega), fun _ => A1.out (by omega), fun _ => HQ.out, HB2.out⟩
        case measure => simp [intOf]
      | true =>
        go_wp2_with fail
        refine HX.out.mono ?_
        rintro e w2 ⟨rfl, hb2⟩
        have HB2 := Lib.hid (HB.out.trans (hb2.mono HB.out.size))
        clear hb2
        go_wp2_with fail
        go_ret
        refine ⟨?_, HB1.out.trans (HB2.out.mono HB1.out.size)⟩
        rw [whyV, if_neg (by rw [A0.out (by omega)]; simp), if_neg (by rw [A1.out (by omega)]; simp), if_pos HQ.out]
        try rfl
    · go_wp2_with fail
      go_ret
      refine ⟨?_, HB1.out.trans (HB.out.mono HB1.out.size)⟩
      rw [whyV, if_neg (by rw [A0.out (by omega)]; simp), if_neg (by rw [A1.out (by omega)]; simp), if_neg (by rw [A2.out (by omega)]; simp)]
      try rfl
end Go.Proofs.YtejfelijhojndaaGreatDoor

/-
  'why' of no entry, by contract.
-/
namespace Go.Proofs.YtejfelijhojndaaGreatDoor
open Go.RowKit Go.Proofs Go.Shelf

set_option maxRecDepth 100000 in
theorem otherCoat_nil (Wk : Nat) (w : World) :
    Calls Tryz.prog 114 #[.agg #[], .pointer (some ⟨Wk, 0, none⟩), .slice none 0 0] w (BoolEnd false w) := by
  go_enter Tryz.func114, Tryz.ntmps114
  go_wp2_with fail
  go_loopw [11] (fun i wr => i = .int .i64 0 ∧ w.alloc (.cells #[] 146) = wr) (fun _ _ => 0)
  case atStart => exact ⟨rfl, rfl⟩
  case round =>
    obtain ⟨rfl, rfl⟩ := hrel
    go_wp2_with fail
    go_ret
    exact ⟨rfl, (Below.refl _ w).alloc (Nat.le_refl _) _⟩

set_option maxRecDepth 100000 in
theorem intersect_nil (b : Nat) (w : World) :
    Calls Tryz.prog 118 #[.slice (some ⟨b, 0, none⟩) 0 0] w fun e w' => e = .returned (.slice none 0 0) ∧ Below w.heap.size w w' := by
  go_enter Tryz.func118, Tryz.ntmps118
  go_wp2_with fail
  go_step3
  go_wp2_with fail
  rw [Exit.noGoto_ret]
  go_ret
  exact ⟨rfl, Below.refl _ _⟩

set_option maxRecDepth 100000 in
theorem heights_nil (Wk : Nat) (w : World) :
    Calls Tryz.prog 116 #[.pointer (some ⟨Wk, 0, none⟩), .slice none 0 0] w fun e w' => e = .returned (.slice none 0 0) ∧ Below w.heap.size w w' := by
  have hmk : ∀ w : World, (Instr.makeSlice 26 (.int .i64 0) (.int .i64 0)).run Tryz.prog w = .ok (.slice (some ⟨w.heap.size, 0, none⟩) 0 0) (w.alloc (.cells #[] 22)) := fun w => make_ints 0 (by omega) w
  have HI := Lib.hid (intersect_nil w.heap.size (w.alloc (.cells #[] 22)))
  go_enter Tryz.func116, Tryz.ntmps116
  go_wp2_with fail
  go_loopw [13] (fun i wr => i = .int .i64 0 ∧ w.alloc (.cells #[] 22) = wr) (fun _ _ => 0)
  case atStart => exact ⟨rfl, rfl⟩
  case round =>
    obtain ⟨rfl, rfl⟩ := hrel
    go_wp2_with fail
    refine HI.out.mono ?_
    rintro e w2 ⟨rfl, hb⟩
    have HB := Lib.hid (((Below.refl _ w).alloc (Nat.le_refl _) _).trans (hb.mono (by simp)))
    clear hb
    go_wp2_with fail
    go_ret
    exact ⟨rfl, HB.out⟩

set_option maxRecDepth 100000 in
theorem noHeight_nil (Wk : Nat) (w : World) :
    Calls Tryz.prog 115 #[.agg #[], .pointer (some ⟨Wk, 0, none⟩), .slice none 0 0] w (BoolEnd true w) := by
  have HI := Lib.hid (heights_nil Wk (w.alloc (.cells #[] 147)))
  go_enter Tryz.func115, Tryz.ntmps115
  go_wp2_with fail
  refine HI.out.mono ?_
  rintro e w2 ⟨rfl, hb⟩
  have HB := Lib.hid (((Below.refl _ w).alloc (Nat.le_refl _) _).trans (hb.mono (by simp)))
  clear hb
  go_wp2_with fail
  go_ret
  exact ⟨rfl, HB.out⟩

set_option maxRecDepth 100000 in
set_option maxHeartbeats 1600000 in
theorem why_nil (Wk : Nat) (w : World) :
    Calls Tryz.prog 59 #[.pointer (some ⟨Wk, 0, none⟩), .slice none 0 0] w (WhyEnd (rV 147) w) := by
  have hm0 : ∀ w, (method 336 146 (.agg #[]) "palfrey/mark.bars").run Tryz.prog w = .ok (114, .agg #[]) w := fun _ => by kernel_rfl
  have hm1 : ∀ w, (method 336 147 (.agg #[]) "palfrey/mark.bars").run Tryz.prog w = .ok (115, .agg #[]) w := fun _ => by kernel_rfl
  have hm2 : ∀ w, (method 336 148 (.agg #[]) "palfrey/mark.bars").run Tryz.prog w = .ok (119, .agg #[]) w := fun _ => by kernel_rfl
  obtain ⟨W1, hW1⟩ : ∃ W1, w.alloc (.cells #[rV 146, rV 147, rV 148] 123) = W1 := ⟨_, rfl⟩
  have hb1 : Below w.heap.size w W1 := by rw [← hW1]; exact (Below.refl _ w).alloc (Nat.le_refl _) _
  have hblk : W1.heap[w.heap.size]? = some (.cells #[rV 146, rV 147, rV 148] 123 (0, 0)) := by rw [← hW1]; exact heap_new w _
  have HC := Lib.hid (fun W' => otherCoat_nil Wk W')
  have HH := Lib.hid (fun W' => noHeight_nil Wk W')
  have q0 : W1.cell? ⟨w.heap.size, 0, none⟩ = some (rV 146) := by simp [World.cell?, hblk]
  have q1 : W1.cell? ⟨w.heap.size, 1, none⟩ = some (rV 147) := by simp [World.cell?, hblk]
  have q2 : W1.cell? ⟨w.heap.size, 2, none⟩ = some (rV 148) := by simp [World.cell?, hblk]
  have HB1 := Lib.hid hb1
  unfold rV at *
  clear hb1 hblk
  go_enter Tryz.func59, Tryz.ntmps59
  go_wp2_with fail
  go_loopw [15] (fun i wr => ∃ k : Nat, k ≤ 1 ∧ i = .int .i64 k ∧ Below W1.heap.size W1 wr) (fun i _ => 3 - (intOf i).toNat)
  case atStart => exact ⟨0, Nat.zero_le _, rfl, Below.refl _ W1⟩
  case round =>
    obtain ⟨k, hk, rfl, hbl⟩ := hrel
    have HB := Lib.hid hbl
    have r0 := below_cell hbl q0
    have r1 := below_cell hbl q1
    clear hbl q0 q1 q2
    rcases (by omega : k = 0 ∨ k = 1) with rfl | rfl
    · go_wp2_with fail
      refine (HC.out wr).mono ?_
      rintro e w2 ⟨rfl, hb2⟩
      have HB2 := Lib.hid (HB.out.trans (hb2.mono HB.out.size))
      clear hb2
      go_wp2_with fail
      go_roundw
      case rel => exact ⟨1, by omega, (by first | rfl | go_num), HB2.out⟩
      case measure => simp [intOf]
    · go_wp2_with fail
      refine (HH.out wr).mono ?_
      rintro e w2 ⟨rfl, hb2⟩
      have HB2 := Lib.hid (HB.out.trans (hb2.mono HB.out.size))
      clear hb2
      go_wp2_with fail
      go_ret
      exact ⟨rfl, HB1.out.trans (HB2.out.mono HB1.out.size)⟩
end Go.Proofs.YtejfelijhojndaaGreatDoor
