/-
  tooth: two knowns are held against each other.
-/
import Derived.Test.YtejfelijhojndaaGreatDoorMTYears2
import Derived.DeepKeys
namespace Go.Proofs.YtejfelijhojndaaGreatDoor
open Go.RowKit Go.Proofs Go.Shelf

def klits (K : List Ch) : List Lit := K.flatMap fun c => [.bool c.1, .int .i64 (c.2 : Nat)]
theorem klits_inj : ∀ {K K' : List Ch}, klits K = klits K' → K = K'
  | [], [], _ => rfl
  | [], c :: K', h => by simp [klits] at h
  | c :: K, [], h => by simp [klits] at h
  | (a, b) :: K, (a', b') :: K', h => by
    simp only [klits, List.flatMap_cons, List.cons_append, List.nil_append, List.cons.injEq, Lit.bool.injEq, Lit.int.injEq, true_and] at h
    obtain ⟨h1, h2, h3⟩ := h
    rw [h1, show b = b' by omega, klits_inj (K := K) (K' := K') h3]

theorem Tryz.undChance : Tryz.prog.underlying 84 = some (.struct (Tryz.prog.fieldsOf 84)) := by kernel_rfl
theorem known_keyType : Tryz.prog.keyTypeAt 5 86 = true := by kernel_rfl

theorem lit_ok {n : Nat} (h : n ≤ 1000000) : (Lit.int .i64 (n : Int)).wf = true := by
  have h1 : IntKind.i64.min = -9223372036854775808 := by decide
  have h2 : IntKind.i64.max = 9223372036854775807 := by decide
  simp [Lit.wf, h1, h2]
  omega

theorem chance_lits (d : Nat) (c : Ch) (h : c.2 ≤ 1000000) : Tryz.prog.keyLits (d + 2) 84 [.bool c.1, .int .i64 (c.2 : Nat)] = some [.bool c.1, .int .i64 (c.2 : Nat)] := by
  have hw := lit_ok h
  have hb : Tryz.prog.cellsOf 4 = 1 := by kernel_rfl
  have hi : Tryz.prog.cellsOf 3 = 1 := by kernel_rfl
  have hc : Tryz.prog.cellsOf 84 = 2 := by kernel_rfl
  simp [Program.keyLits, Tryz.underlying84, Tryz.underlying4, Tryz.underlying3, hb, hi, hc, hw]

theorem known_lits (d : Nat) {K : List Ch} (h8 : K.length = 8) (hB : KB K 1000000) : Tryz.prog.keyLits (d + 3) 86 (kcells K) = some (klits K) := by
  have hc : Tryz.prog.cellsOf 84 = 2 := by kernel_rfl
  have hk : Tryz.prog.cellsOf 86 = 16 := by kernel_rfl
  match K, h8 with
  | [c0, c1, c2, c3, c4, c5, c6, c7], _ =>
    have b0 := chance_lits d c0 (hB 0)
    have b1 := chance_lits d c1 (hB 1)
    have b2 := chance_lits d c2 (hB 2)
    have b3 := chance_lits d c3 (hB 3)
    have b4 := chance_lits d c4 (hB 4)
    have b5 := chance_lits d c5 (hB 5)
    have b6 := chance_lits d c6 (hB 6)
    have b7 := chance_lits d c7 (hB 7)
    unfold Program.keyLits
    simp only [Tryz.underlying86, hc, hk]
    simp [kcells, klits, List.range_succ, b0, b1, b2, b3, b4, b5, b6, b7]

theorem known_equal {K K' : List Ch} (w : World) (h8 : K.length = 8) (hB : KB K 1000000) (h8' : K'.length = 8) (hB' : KB K' 1000000) :
    ∃ r : Bool, (Op.equalIn 10000 86 (.agg (kcells K).toArray) (.agg (kcells K').toArray)).run Tryz.prog w = .ok r w ∧ (r = true ↔ K = K') := by
  have hk : Tryz.prog.cellsOf 86 = 16 := by kernel_rfl
  have hf : ∀ {K : List Ch}, K.length = 8 → (Value.agg (kcells K).toArray).formed Tryz.prog 86 = true := fun {K} h => by
    simp [Value.formed, Tryz.underlying86, hk, kcells_length, h]
  obtain ⟨r, hr, hi⟩ := run_equalIn_deep 9995 5 86 known_keyType w 3 3 _ _ _ _ (hf h8) (hf h8') (known_lits 0 h8 hB) (known_lits 0 h8' hB')
  exact ⟨r, hr, hi.trans ⟨klits_inj, fun h => by rw [h]⟩⟩
end Go.Proofs.YtejfelijhojndaaGreatDoor

/-
  tooth: knowAges, by contract.
-/
namespace Go.Proofs.YtejfelijhojndaaGreatDoor
open Go.RowKit Go.Proofs Go.Shelf

/-- What is known of the year that lies a years before K's. -/
def backTo (N : List (List Int)) (K : List Ch) : Nat → List Ch
  | 0 => K
  | a + 1 => beforeL N (backTo N K a)
def ageTo (N : List (List Int)) (K : List Ch) : Nat → List Nat × Nat
  | 0 => ([], 0)
  | a + 1 => if (kAt (backTo N K a) 0).1 then offerL (ageTo N K a) a (kAt (backTo N K a) 0).2 else ageTo N K a
theorem backTo_length (N : List (List Int)) {K : List Ch} (h : K.length = 8) : ∀ a, (backTo N K a).length = 8
  | 0 => h
  | a + 1 => beforeL_length _ _
theorem KB.back {N : List (List Int)} {K : List Ch} {B : Nat} (h : KB K B) : ∀ a, KB (backTo N K a) B
  | 0 => h
  | a + 1 => KB.before (KB.back h a) N N.length
theorem ageTo_len (N : List (List Int)) (K : List Ch) : ∀ a, (ageTo N K a).1.length ≤ a
  | 0 => by simp [ageTo]
  | a + 1 => by
    have ih := ageTo_len N K a
    rw [ageTo]
    split
    · have := offerL_len (ageTo N K a) a (kAt (backTo N K a) 0).2
      omega
    · omega

def AgesEnd (Wk : Nat) (s : List Nat × Nat) (w : World) (e : Ending) (w' : World) : Prop :=
  e = .returned (.tuple #[]) ∧ PartK Wk 116 144 w w' ∧ LeastAt Wk 142 w.heap.size s w'

structure ARel (Wk : Nat) (w : World) (K : List Ch) (s : List Nat × Nat) (wr : World) : Prop where
  part : PartK Wk 116 144 w wr
  there : wr.there Wk 116 26
  known : wr.heap[w.heap.size]? = some (.cells (kcells K).toArray 86 (0, 0))
  best : LeastAt Wk 142 (w.heap.size + 1) s wr

theorem LeastAt.same {b o base : Nat} {s : List Nat × Nat} {w w' : World} (h : LeastAt b o base s w) (hs : w.heap.size ≤ w'.heap.size) (hb : ∀ k, base ≤ k → k < w.heap.size → w'.heap[k]? = w.heap[k]?) (h0 : w'.cell? ⟨b, o, none⟩ = w.cell? ⟨b, o, none⟩) (h1 : w'.cell? ⟨b, o + 1, none⟩ = w.cell? ⟨b, o + 1, none⟩)
    (f0 : w'.frozen? ⟨b, o, none⟩ = w.frozen? ⟨b, o, none⟩) (f1 : w'.frozen? ⟨b, o + 1, none⟩ = w.frozen? ⟨b, o + 1, none⟩) : LeastAt b o base s w' := by
  obtain ⟨sv, a, ow, c, d, e⟩ := h
  refine ⟨sv, h0.trans a, ?_, h1.trans c, f0.trans d, f1.trans e⟩
  obtain ⟨h1, h2⟩ := ow
  rcases h2 with h2 | ⟨g, cap, cur, hv, hg, hh, r⟩
  · exact ⟨h1, .inl h2⟩
  · exact ⟨h1, .inr ⟨g, cap, cur, hv, hg, (hb g hg (Array.getElem?_eq_some_iff.1 hh).1).trans hh, r⟩⟩

theorem ARel.below {Wk : Nat} {w wr w2 : World} {K : List Ch} {s : List Nat × Nat} (h : ARel Wk w K s wr) (hW : Wk < w.heap.size) (hb : Below wr.heap.size wr w2) : ARel Wk w K s w2 := by
  have hl := h.part.lt hW
  refine ⟨h.part.below hW hb, fun j hj => ?_, below_heap hb h.known, h.best.same hb.size (fun k _ hk => hb.block k hk) (hb.cell (p := ⟨Wk, 142, none⟩) hl) (hb.cell (p := ⟨Wk, 143, none⟩) hl) (hb.frozen (p := ⟨Wk, 142, none⟩) hl) (hb.frozen (p := ⟨Wk, 143, none⟩) hl)⟩
  obtain ⟨t1, t2⟩ := h.there j hj
  exact ⟨by rw [hb.cell (p := ⟨Wk, 116 + j, none⟩) hl]; exact t1, by rw [hb.frozen (p := ⟨Wk, 116 + j, none⟩) hl]; exact t2⟩

theorem LeastAt.setOther {b o base : Nat} {s : List Nat × Nat} {w : World} (h : LeastAt b o base s w) (a : Addr) (ha : a.block < base) (h0 : a ≠ ⟨b, o, none⟩) (h1 : a ≠ ⟨b, o + 1, none⟩) (v : Value) : LeastAt b o base s (w.setCell a v) :=
  h.same (by simp) (fun k hk _ => Below.heap_setCell _ _ _ _ (by omega)) (World.cell?_setCell_other _ _ _ _ h0) (World.cell?_setCell_other _ _ _ _ h1) (by simp) (by simp)

/-- An age's chance is noted. -/
theorem ARel.note {Wk a : Nat} {w wr : World} {K : List Ch} {s : List Nat × Nat} (h : ARel Wk w K s wr) (hW : Wk < w.heap.size) (ha : a ≤ 12) (u v : Value) :
    ARel Wk w K s ((wr.setCell ⟨Wk, 116 + a * 2, none⟩ u).setCell ⟨Wk, 116 + a * 2 + 1, none⟩ v) := by
  have p1 : PartK Wk 116 144 wr ((wr.setCell ⟨Wk, 116 + a * 2, none⟩ u).setCell ⟨Wk, 116 + a * 2 + 1, none⟩ v) :=
    ⟨((Kept.refl Wk wr).setCell (.inl rfl) _).setCell (.inl rfl) _, fun i hi => by
      rw [World.cell?_setCell_other _ _ _ _ (by intro e; have := congrArg Addr.off e; simp at this; omega), World.cell?_setCell_other _ _ _ _ (by intro e; have := congrArg Addr.off e; simp at this; omega)], fun i => by simp⟩
  refine ⟨h.part.trans p1, fun j hj => ?_, (Below.heap_setCell _ _ _ _ (by show w.heap.size ≠ Wk; omega)).trans ((Below.heap_setCell _ _ _ _ (by show w.heap.size ≠ Wk; omega)).trans h.known),
    (h.best.setOther _ (by show Wk < _; omega) (by intro e; have := congrArg Addr.off e; simp at this; omega) (by intro e; have := congrArg Addr.off e; simp at this; omega) _).setOther _ (by show Wk < _; omega) (by intro e; have := congrArg Addr.off e; simp at this; omega) (by intro e; have := congrArg Addr.off e; simp at this; omega) _⟩
  have := World.there_setCells h.there Wk (116 + a * 2) [u, v]
  exact this j hj

/-- An offer to the best ages. -/
theorem ARel.offer {Wk : Nat} {w wr w2 : World} {K : List Ch} {s s' : List Nat × Nat} (h : ARel Wk w K s wr) (hW : Wk < w.heap.size) (hK : OfferK Wk 142 (w.heap.size + 1) wr w2) {sv : Value} (h0 : w2.cell? ⟨Wk, 142, none⟩ = some sv)
    (ho : w2.ownsRow (w.heap.size + 1) 3 1 sv s'.1.length (nvals s'.1)) (h1 : w2.cell? ⟨Wk, 142 + 1, none⟩ = some (.int .i64 (s'.2 : Nat))) : ARel Wk w K s' w2 := by
  obtain ⟨_, _, _, _, b4, b5⟩ := h.best
  have hp := h.part
  refine ⟨⟨⟨hK.os.trans hp.kept.os, hK.tape.trans hp.kept.tape, hK.output.trans hp.kept.output, Nat.le_trans hp.kept.size hK.size, fun k hk hne => (hK.block k (by omega) hne).trans (hp.kept.block k hk hne)⟩, fun i hi => (hK.cells i (by omega) (by omega)).trans (hp.cells i hi), fun i => (hK.froz i).trans (hp.froz i)⟩,
    fun j hj => ?_, (hK.block _ (by omega) (by omega)).trans h.known, ⟨sv, h0, ho, h1, (hK.froz _).trans b4, (hK.froz _).trans b5⟩⟩
  obtain ⟨t1, t2⟩ := h.there j hj
  exact ⟨by rw [hK.cells _ (by omega) (by omega)]; exact t1, (hK.froz _).trans t2⟩

/-- The next known is stored. -/
theorem ARel.all {Wk : Nat} {w wr : World} {K K' : List Ch} {s : List Nat × Nat} (h : ARel Wk w K s wr) (hW : Wk < w.heap.size) (h8 : K.length = 8) (h8' : K'.length = 8) :
    ARel Wk w K' s (wr.setCells w.heap.size 0 (kcells K')) := by
  have hne : Wk ≠ w.heap.size := by omega
  have hs : ∀ i, (wr.setCells w.heap.size 0 (kcells K')).cell? ⟨Wk, i, none⟩ = wr.cell? ⟨Wk, i, none⟩ := fun i => World.cell?_of_block (w := wr) (heap_setCells_ne w.heap.size Wk hne _ _ _)
  have hf : ∀ i, (wr.setCells w.heap.size 0 (kcells K')).frozen? ⟨Wk, i, none⟩ = wr.frozen? ⟨Wk, i, none⟩ := fun i => World.frozen?_of_block (w := wr) (heap_setCells_ne w.heap.size Wk hne _ _ _)
  refine ⟨h.part.setsNew (by exact Nat.le_refl _) (by omega) _ _, fun j hj => by rw [hs, hf]; exact h.there j hj, ?_, h.best.same (kept_setCells (b := w.heap.size) (x := wr) w.heap.size (.inl rfl) _ _ _ (Kept.refl _ _)).size (fun k hk _ => heap_setCells_ne w.heap.size k (by omega) _ _ _) (hs _) (hs _) (hf _) (hf _)⟩
  have := heap_setCells_all (w.heap.size) (kcells K') [] (kcells K) wr _ _ (by rw [kcells_length, kcells_length, h8, h8']) h.known
  simpa using this
end Go.Proofs.YtejfelijhojndaaGreatDoor

/-
  tooth: knowAges, by contract: the walk.
-/
namespace Go.Proofs.YtejfelijhojndaaGreatDoor
open Go.RowKit Go.Proofs Go.Shelf

set_option maxRecDepth 100000 in
set_option maxHeartbeats 3200000 in
theorem knowAges_any (Wk : Nat) (nv dv lv : Value) (N D : List (List Int)) (L : List (Nat × Nat)) (w0 w : World) (hI : TIn nv dv lv N D L w0) (hW : TWork Wk nv dv lv w0 w) (K : List Ch) (h8 : K.length = 8) (hB : KB K 1000000)
    (hrg : w.rangeAt Wk 4 (kcells K)) (hth : w.there Wk 116 26) (hbest : LeastAt Wk 142 (w.heap.size + 1) ([], 0) w) :
    Calls Tryz.prog 41 #[.pointer (some ⟨Wk, 0, none⟩)] w (AgesEnd Wk (ageTo N K 13) w) := by
  have hlW : Wk < w.heap.size := World.block_lt_of_cell? w _ hW.c0
  have HBef := Lib.hid (fun W' (h : TWork Wk nv dv lv w0 W') (K : List Ch) (hK : K.length = 8) => before_any Wk nv dv lv N D L w0 W' hI h K hK)
  have HWW := Lib.hid hW
  have hu := Lib.hid Tryz.undKnown
  clear hI hW
  obtain ⟨W1, hW1⟩ : ∃ W1, w.alloc (.cells (#[.bool false, .int .i64 0, .bool false, .int .i64 0, .bool false, .int .i64 0, .bool false, .int .i64 0, .bool false, .int .i64 0, .bool false, .int .i64 0, .bool false, .int .i64 0, .bool false, .int .i64 0] : Array Value) 86) = W1 := ⟨_, rfl⟩
  have hb1 : Below w.heap.size w W1 := by rw [← hW1]; exact (Below.refl _ w).alloc (Nat.le_refl _) _
  have hblk : W1.heap[w.heap.size]? = some (.cells (kcells (List.replicate 8 (false, 0))).toArray 86 (0, 0)) := by rw [← hW1]; exact heap_new w _
  have R0 : ARel Wk w (List.replicate 8 (false, 0)) ([], 0) W1 := ⟨.of_below hlW hb1, by rw [← hW1]; exact World.there_alloc hth _, hblk, by
    rw [← hW1]
    exact hbest.same (by simp) (fun k h1 h2 => by omega) (World.cell?_alloc_lt _ _ _ hlW) (World.cell?_alloc_lt _ _ _ hlW) (World.frozen?_alloc_old _ _ _ (by exact Nat.ne_of_lt hlW)) (World.frozen?_alloc_old _ _ _ (by exact Nat.ne_of_lt hlW))⟩
  have R1 := R0.all hlW (by simp) h8
  have hrg0 := Lib.hid hrg
  have hthN := Lib.hid (known_there (o := 0) (n := (kcells K).toArray.size) hblk (by rw [List.size_toArray, List.size_toArray, kcells_length, kcells_length, h8]; simp))
  have hzK := Lib.hid (size_known h8)
  have hzK2 := Lib.hid (size_known' h8)
  have honeK := Lib.hid (all_oneCell_toArray (kcells_one K))
  obtain ⟨W2, hW2⟩ : ∃ W2, W1.setCells w.heap.size 0 (kcells K) = W2 := ⟨_, rfl⟩
  rw [hW2] at R1
  have HR1 := Lib.hid R1
  clear R0 R1 hb1 hblk hth hbest hrg
  go_enter Tryz.func41, Tryz.ntmps41
  go_wp2_with (first
    | (refine wpList_load_mid rfl 86 (.tmp 9) rfl Wk 4 rfl (kcells K) _ hrg0.out hu.out rfl hzK.out ?_)
    | (refine wpList_store_mid rfl 86 (.tmp 2) (.tmp 10) rfl w.heap.size 0 (kcells K).toArray rfl rfl hthN.out hzK2.out honeK.out ?_))
  go_loopw [11, 3] (fun i ch wr => ∃ (a : Nat) (c : Bool), a ≤ 13 ∧ i = .int .i64 a ∧ ch = .bool c ∧ (c = false → beforeL N (backTo N K a) = backTo N K a) ∧ ARel Wk w (backTo N K a) (ageTo N K a) wr) (fun i _ _ => 13 - (intOf i).toNat)
  case atStart => exact ⟨0, true, Nat.zero_le _, rfl, rfl, (fun h => Bool.noConfusion h), HR1.out⟩
  case round =>
    obtain ⟨a, c, ha, rfl, rfl, hch, R⟩ := hrel
    by_cases hat : a < 13
    · have hatl : (a : Int) < 13 := by omega
      have ha0 : (0 : Int) ≤ (a : Int) := by omega
      have hK8 := backTo_length N h8 a
      have hKB : KB (backTo N K a) 1000000 := KB.back hB a
      have hnx := Lib.hid (show ageTo N K (a + 1) = if (kAt (backTo N K a) 0).1 then offerL (ageTo N K a) a (kAt (backTo N K a) 0).2 else ageTo N K a from rfl)
      have hbk := Lib.hid (show backTo N K (a + 1) = beforeL N (backTo N K a) from rfl)
      have hsl := ageTo_len N K a
      obtain ⟨q0, q1⟩ := known_cell R.known (m := 0) (by omega)
      obtain ⟨c0, hc0⟩ : ∃ c0, kAt (backTo N K a) 0 = c0 := ⟨_, rfl⟩
      rw [hc0] at q0 q1 hnx
      have hcc := Lib.hid hc0
      obtain ⟨cb, cf⟩ := c0
      simp only [Nat.zero_mul, Nat.zero_add] at q0 q1 hnx
      have t0 := R.there (a * 2) (by omega)
      have t1 := R.there (a * 2 + 1) (by omega)
      rw [← Nat.add_assoc] at t1
      obtain ⟨t0, f0⟩ := t0
      obtain ⟨t1, f1⟩ := t1
      obtain ⟨u0, hu0⟩ := Option.isSome_iff_exists.1 t0
      obtain ⟨u1, hu1⟩ := Option.isSome_iff_exists.1 t1
      have HR := Lib.hid R
      have HCH := Lib.hid hch
      clear t0 t1 hc0 R hch
      obtain ⟨Wd, hWd⟩ : ∃ Wd, wr.drew = Wd := ⟨_, rfl⟩
      have e0 : Wd.cell? ⟨w.heap.size, 0, none⟩ = some (.bool cb) := by rw [← hWd]; exact q0
      have e1 : Wd.cell? ⟨w.heap.size, 1, none⟩ = some (.int .i64 (cf : Nat)) := by rw [← hWd]; exact q1
      have g0 : Wd.cell? ⟨Wk, 116 + a * 2, none⟩ = some u0 := by rw [← hWd]; exact hu0
      have g1 : Wd.cell? ⟨Wk, 116 + a * 2 + 1, none⟩ = some u1 := by rw [← hWd]; exact hu1
      have k0 : Wd.frozen? ⟨Wk, 116 + a * 2, none⟩ = false := by rw [← hWd]; exact f0
      have k1 : Wd.frozen? ⟨Wk, 116 + a * 2 + 1, none⟩ = false := by rw [← hWd]; exact f1
      have RN := Lib.hid ((HR.out.below hlW (show Below wr.heap.size wr Wd by rw [← hWd]; exact (Below.refl _ wr).drew)).note hlW (a := a) (by omega) (.bool cb) (.int .i64 (cf : Nat)))
      obtain ⟨W4, hW4⟩ : ∃ W4, (Wd.setCell ⟨Wk, 116 + a * 2, none⟩ (.bool cb)).setCell ⟨Wk, 116 + a * 2 + 1, none⟩ (.int .i64 (cf : Nat)) = W4 := ⟨_, rfl⟩
      rw [hW4] at RN
      have HW4 := Lib.hid hW4
      have HWd := Lib.hid hWd
      clear hWd
      clear hW4 q0 q1 hu0 hu1 f0 f1
      go_wp2_with fail
      refine wp_region_still_tail 7 (by kernel_rfl) (by kernel_rfl) ?_
      simp only [List.take_succ_cons, List.take_zero, List.drop_succ_cons, List.drop_zero]
      rw [World.drew_eq, HWd.out]
      repeat still_step
      refine wpStill_nil ?_
      have hW4 := HW4.out
      have hKn4 := RN.out.known
      have p0 := (known_cell hKn4 (m := 0) (by omega)).1
      have p1 := (known_cell hKn4 (m := 0) (by omega)).2
      rw [hcc.out] at p0 p1
      simp only [Nat.zero_mul, Nat.zero_add] at p0 p1
      clear hKn4 e0 e1
      cases cb with
      | false =>
        rw [if_neg (by simp)] at hnx
        have HRX : Hid (ARel Wk w (backTo N K a) (ageTo N K (a + 1)) W4) := by rw [hnx.out]; exact RN.out
        cases c with
        | false =>
          have HEq := Lib.hid (HCH.out (by rfl))
          go_wp2_with fail
          go_roundw
          case rel =>
            refine ⟨a + 1, false, by omega, by go_num, rfl, ?_⟩
            have h1 : backTo N K (a + 1) = backTo N K a := by rw [hbk.out]; exact HEq.out
            refine ⟨fun _ => ?_, ?_⟩
            · rw [h1]; exact HEq.out
            · rw [h1]; exact HRX.out
          case measure => simp [intOf]; omega
        | true =>
          have hrgX := Lib.hid (known_range HRX.out.known)
          have B1 := Lib.hid (HBef.out W4 (HWW.out.part HRX.out.part (by omega)) (backTo N K a) hK8)
          unfold kV KnownEnd kV at B1
          have hz1 := Lib.hid (size_known hK8)
          rw [← hbk.out] at B1
          have hK8n := backTo_length N h8 (a + 1)
          have hKBn : KB (backTo N K (a + 1)) 1000000 := KB.back hB (a + 1)
          have hz2 := Lib.hid (size_known hK8n)
          have hz3 := Lib.hid (size_known' hK8n)
          have hone := Lib.hid (all_oneCell_toArray (kcells_one (backTo N K (a + 1))))
          have HEqv := Lib.hid (fun W' => known_equal W' hK8n hKBn hK8 hKB)
          obtain ⟨KN, hKN⟩ : ∃ KN, backTo N K (a + 1) = KN := ⟨_, rfl⟩
          rw [hKN] at B1 hz2 hz3 hone HEqv
          obtain ⟨KO, hKO⟩ : ∃ KO, backTo N K a = KO := ⟨_, rfl⟩
          rw [hKO] at B1 hrgX hz1 HEqv
          have HKN := Lib.hid hKN
          have HKO := Lib.hid hKO
          clear hKN hKO
          go_wp2_with (first | (refine wpList_load_mid rfl 86 (.tmp 2) rfl w.heap.size 0 rfl (kcells KO) _ hrgX.out hu.out rfl hz1.out ?_))
          refine B1.out.mono ?_
          rintro e w5 ⟨rfl, hb5⟩
          have R5 := HRX.out.below hlW hb5
          obtain ⟨W6, hW6⟩ : ∃ W6, w5.alloc (.cells (#[.bool false, .int .i64 0, .bool false, .int .i64 0, .bool false, .int .i64 0, .bool false, .int .i64 0, .bool false, .int .i64 0, .bool false, .int .i64 0, .bool false, .int .i64 0, .bool false, .int .i64 0] : Array Value) 86) = W6 := ⟨_, rfl⟩
          have h6 : W6.heap[w5.heap.size]? = some (.cells (kcells (List.replicate 8 (false, 0))).toArray 86 (0, 0)) := by rw [← hW6]; exact heap_new w5 _
          have hb6 : Below w5.heap.size w5 W6 := by rw [← hW6]; exact (Below.refl _ w5).alloc (Nat.le_refl _) _
          obtain ⟨W7, hW7⟩ : ∃ W7, W6.setCells w5.heap.size 0 (kcells KN) = W7 := ⟨_, rfl⟩
          have hKN8 : KN.length = 8 := by rw [← HKN.out]; exact hK8n
          have hb7 : Below w5.heap.size w5 W7 := by rw [← hW7]; exact below_setCells _ (Nat.le_refl _) _ _ _ hb6
          have h7 : W7.heap[w5.heap.size]? = some (.cells (kcells KN).toArray 86 (0, 0)) := by
            rw [← hW7]
            have := heap_setCells_all w5.heap.size (kcells KN) [] (kcells (List.replicate 8 (false, 0))) W6 _ _ (by rw [kcells_length, kcells_length, hKN8]; simp) h6
            simpa using this
          have R7 := R5.below hlW hb7
          have hthn := Lib.hid (known_there (o := 0) (n := (kcells KN).toArray.size) h6 (by rw [List.size_toArray, List.size_toArray, kcells_length, kcells_length, hKN8]; simp))
          have hrg7 := Lib.hid (known_range h7)
          have k7 := R7.known
          rw [HKO.out] at k7
          have hrg8 := Lib.hid (known_range k7)
          have hthk := Lib.hid (known_there (o := 0) (n := (kcells KN).toArray.size) k7 (by rw [List.size_toArray, List.size_toArray, kcells_length, kcells_length, hKN8, ← HKO.out, hK8]; simp))
          obtain ⟨r, hr, hri⟩ := HEqv.out W7
          have HRI := Lib.hid hri
          have R8 := Lib.hid (R7.all (K' := KN) hlW hK8 hKN8)
          have HW6 := Lib.hid hW6
          clear R5 R7 hb5 hb6 hb7 h6 h7 k7 hri hW6
          subst hW7
          have hW6 := HW6.out
          go_wp2_with (first
            | (refine wpList_store_mid rfl 86 (.tmp 5) (.tmp 35) rfl w5.heap.size 0 (kcells KN).toArray rfl rfl hthn.out hz3.out hone.out ?_)
            | (refine wpList_load_mid rfl 86 (.tmp 5) rfl w5.heap.size 0 rfl (kcells KN) _ hrg7.out hu.out rfl hz2.out ?_)
            | (refine wpList_load_mid rfl 86 (.tmp 2) rfl w.heap.size 0 rfl (kcells KO) _ hrg8.out hu.out rfl hz1.out ?_)
            | (refine wpList_store_mid rfl 86 (.tmp 2) (.tmp 39) rfl w.heap.size 0 (kcells KN).toArray rfl rfl hthk.out hz3.out hone.out ?_))
          go_roundw
          case rel =>
            refine ⟨a + 1, !r, by omega, by go_num, rfl, ?_⟩
            refine ⟨fun h => ?_, ?_⟩
            · have h1 : KN = KO := HRI.out.1 (by simpa using h)
              have e1 : backTo N K (a + 1) = backTo N K a := by rw [HKN.out, HKO.out, h1]
              exact (congrArg (beforeL N) e1).trans hbk.out.symm
            · rw [HKN.out]; exact R8.out
          case measure => simp [intOf]; omega
      | true =>
        rw [if_pos rfl] at hnx
        obtain ⟨W5, hW5⟩ : ∃ W5, W4.drew = W5 := ⟨_, rfl⟩
        have R4 := RN.out.below hlW (show Below W4.heap.size W4 W5 by rw [← hW5]; exact (Below.refl _ W4).drew)
        obtain ⟨sv, s0, so, s1, sf0, sf1⟩ := R4.best
        have OF := Lib.hid (offer_any Wk 142 (w.heap.size + 1) (ageTo N K a).1 (ageTo N K a).2 a cf sv W5 s0 so s1 sf0 sf1 (by omega) (Nat.succ_le_of_lt (Array.getElem?_eq_some_iff.1 R4.known).1) (by omega))
        have HR4 := Lib.hid R4
        have p2 : W5.cell? ⟨w.heap.size, 1, none⟩ = some (.int .i64 (cf : Nat)) := by rw [← hW5]; exact p1
        have HW5 := Lib.hid hW5
        clear hW5
        clear s0 so s1 sf0 sf1 R4
        go_wp2_with fail
        refine wp_region_still_tail 7 (by kernel_rfl) (by kernel_rfl) ?_
        simp only [List.take_succ_cons, List.take_zero, List.drop_succ_cons, List.drop_zero]
        rw [World.drew_eq, HW5.out]
        repeat still_step
        refine wpStill_nil ?_
        go_wp2_with fail
        refine OF.out.mono ?_
        rintro e w4 ⟨sv2, rfl, t0, to, t1, tk⟩
        have HRX : Hid (ARel Wk w (backTo N K a) (ageTo N K (a + 1)) w4) := by rw [hnx.out]; exact HR4.out.offer hlW tk t0 to t1
        clear t0 to t1 tk p0 p1 p2
        cases c with
        | false =>
          have HEq := Lib.hid (HCH.out (by rfl))
          go_wp2_with fail
          go_roundw
          case rel =>
            refine ⟨a + 1, false, by omega, by go_num, rfl, ?_⟩
            have h1 : backTo N K (a + 1) = backTo N K a := by rw [hbk.out]; exact HEq.out
            refine ⟨fun _ => ?_, ?_⟩
            · rw [h1]; exact HEq.out
            · rw [h1]; exact HRX.out
          case measure => simp [intOf]; omega
        | true =>
          have hrgX := Lib.hid (known_range HRX.out.known)
          have B1 := Lib.hid (HBef.out w4 (HWW.out.part HRX.out.part (by omega)) (backTo N K a) hK8)
          unfold kV KnownEnd kV at B1
          have hz1 := Lib.hid (size_known hK8)
          rw [← hbk.out] at B1
          have hK8n := backTo_length N h8 (a + 1)
          have hKBn : KB (backTo N K (a + 1)) 1000000 := KB.back hB (a + 1)
          have hz2 := Lib.hid (size_known hK8n)
          have hz3 := Lib.hid (size_known' hK8n)
          have hone := Lib.hid (all_oneCell_toArray (kcells_one (backTo N K (a + 1))))
          have HEqv := Lib.hid (fun W' => known_equal W' hK8n hKBn hK8 hKB)
          obtain ⟨KN, hKN⟩ : ∃ KN, backTo N K (a + 1) = KN := ⟨_, rfl⟩
          rw [hKN] at B1 hz2 hz3 hone HEqv
          obtain ⟨KO, hKO⟩ : ∃ KO, backTo N K a = KO := ⟨_, rfl⟩
          rw [hKO] at B1 hrgX hz1 HEqv
          have HKN := Lib.hid hKN
          have HKO := Lib.hid hKO
          clear hKN hKO
          go_wp2_with (first | (refine wpList_load_mid rfl 86 (.tmp 2) rfl w.heap.size 0 rfl (kcells KO) _ hrgX.out hu.out rfl hz1.out ?_))
          refine B1.out.mono ?_
          rintro e w5 ⟨rfl, hb5⟩
          have R5 := HRX.out.below hlW hb5
          obtain ⟨W6, hW6⟩ : ∃ W6, w5.alloc (.cells (#[.bool false, .int .i64 0, .bool false, .int .i64 0, .bool false, .int .i64 0, .bool false, .int .i64 0, .bool false, .int .i64 0, .bool false, .int .i64 0, .bool false, .int .i64 0, .bool false, .int .i64 0] : Array Value) 86) = W6 := ⟨_, rfl⟩
          have h6 : W6.heap[w5.heap.size]? = some (.cells (kcells (List.replicate 8 (false, 0))).toArray 86 (0, 0)) := by rw [← hW6]; exact heap_new w5 _
          have hb6 : Below w5.heap.size w5 W6 := by rw [← hW6]; exact (Below.refl _ w5).alloc (Nat.le_refl _) _
          obtain ⟨W7, hW7⟩ : ∃ W7, W6.setCells w5.heap.size 0 (kcells KN) = W7 := ⟨_, rfl⟩
          have hKN8 : KN.length = 8 := by rw [← HKN.out]; exact hK8n
          have hb7 : Below w5.heap.size w5 W7 := by rw [← hW7]; exact below_setCells _ (Nat.le_refl _) _ _ _ hb6
          have h7 : W7.heap[w5.heap.size]? = some (.cells (kcells KN).toArray 86 (0, 0)) := by
            rw [← hW7]
            have := heap_setCells_all w5.heap.size (kcells KN) [] (kcells (List.replicate 8 (false, 0))) W6 _ _ (by rw [kcells_length, kcells_length, hKN8]; simp) h6
            simpa using this
          have R7 := R5.below hlW hb7
          have hthn := Lib.hid (known_there (o := 0) (n := (kcells KN).toArray.size) h6 (by rw [List.size_toArray, List.size_toArray, kcells_length, kcells_length, hKN8]; simp))
          have hrg7 := Lib.hid (known_range h7)
          have k7 := R7.known
          rw [HKO.out] at k7
          have hrg8 := Lib.hid (known_range k7)
          have hthk := Lib.hid (known_there (o := 0) (n := (kcells KN).toArray.size) k7 (by rw [List.size_toArray, List.size_toArray, kcells_length, kcells_length, hKN8, ← HKO.out, hK8]; simp))
          obtain ⟨r, hr, hri⟩ := HEqv.out W7
          have HRI := Lib.hid hri
          have R8 := Lib.hid (R7.all (K' := KN) hlW hK8 hKN8)
          have HW6 := Lib.hid hW6
          clear R5 R7 hb5 hb6 hb7 h6 h7 k7 hri hW6
          subst hW7
          have hW6 := HW6.out
          go_wp2_with (first
            | (refine wpList_store_mid rfl 86 (.tmp 5) (.tmp 35) rfl w5.heap.size 0 (kcells KN).toArray rfl rfl hthn.out hz3.out hone.out ?_)
            | (refine wpList_load_mid rfl 86 (.tmp 5) rfl w5.heap.size 0 rfl (kcells KN) _ hrg7.out hu.out rfl hz2.out ?_)
            | (refine wpList_load_mid rfl 86 (.tmp 2) rfl w.heap.size 0 rfl (kcells KO) _ hrg8.out hu.out rfl hz1.out ?_)
            | (refine wpList_store_mid rfl 86 (.tmp 2) (.tmp 39) rfl w.heap.size 0 (kcells KN).toArray rfl rfl hthk.out hz3.out hone.out ?_))
          go_roundw
          case rel =>
            refine ⟨a + 1, !r, by omega, by go_num, rfl, ?_⟩
            refine ⟨fun h => ?_, ?_⟩
            · have h1 : KN = KO := HRI.out.1 (by simpa using h)
              have e1 : backTo N K (a + 1) = backTo N K a := by rw [HKN.out, HKO.out, h1]
              exact (congrArg (beforeL N) e1).trans hbk.out.symm
            · rw [HKN.out]; exact R8.out
          case measure => simp [intOf]; omega
    · have hatl : ¬ (a : Int) < 13 := by omega
      obtain rfl : a = 13 := by omega
      have HR := Lib.hid R
      clear R hch
      go_wp2_with fail
      go_end0
      obtain ⟨sv, b0, b1, b2⟩ := HR.out.best
      exact ⟨rfl, HR.out.part, sv, b0, owns_base b1 (by omega), b2⟩
end Go.Proofs.YtejfelijhojndaaGreatDoor

/-
  tooth: newWork, by contract.
-/
namespace Go.Proofs.YtejfelijhojndaaGreatDoor
open Go.RowKit Go.Proofs Go.Shelf

/-- The best ages of a jaw and looks, and the filings that they need. -/
def workS (N D : List (List Int)) (L : List (Nat × Nat)) : List Nat × Nat := ageTo N (yearTo N D L 7) 13

def NewEnd (s : List Nat × Nat) (w : World) (e : Ending) (w' : World) : Prop :=
  ∃ (Wk : Nat) (sa : Option Addr) (sc : Nat), e = .returned (.pointer (some ⟨Wk, 0, none⟩)) ∧ w'.cell? ⟨Wk, 142, none⟩ = some (.slice sa s.1.length sc) ∧ w'.cell? ⟨Wk, 143, none⟩ = some (.int .i64 (s.2 : Nat)) ∧ w.heap.size ≤ Wk ∧ Below w.heap.size w w'

theorem below_kept {b : Nat} {w x y : World} (hb : w.heap.size ≤ b) (h : Below w.heap.size w x) (k : Kept b x y) : Below w.heap.size w y :=
  ⟨k.os.trans h.os, k.tape.trans h.tape, k.output.trans h.output, Nat.le_trans h.size k.size, fun i hi => (k.block i (Nat.lt_of_lt_of_le hi h.size) (by omega)).trans (h.block i hi)⟩
theorem zero_size : Tryz.zeroCells90.size = 144 := by kernel_rfl
theorem zero_at3 : Tryz.zeroCells90[3]? = some (.int .i64 0) := by kernel_rfl
theorem zero_at142 : Tryz.zeroCells90[142]? = some (.slice none 0 0) := by kernel_rfl
theorem zero_at143 : Tryz.zeroCells90[143]? = some (.int .i64 0) := by kernel_rfl

set_option maxRecDepth 100000 in
set_option maxHeartbeats 3200000 in
theorem tnewWork_any (nv dv lv : Value) (N D : List (List Int)) (L : List (Nat × Nat)) (w : World) (hI : TIn nv dv lv N D L w) (hL : L.length ≤ 100) :
    Calls Tryz.prog 28 #[jawV nv dv, lv] w (NewEnd (workS N D L) w) := by
  have HI := Lib.hid hI
  obtain ⟨nb, noff, ncap, hnv⟩ : ∃ b off cap, nv = .slice (some ⟨b, off, none⟩) N.length cap := by obtain ⟨b, off, cap, h, _⟩ := hI.next; exact ⟨b, off, cap, h⟩
  obtain ⟨db, doff, dcap, hdv⟩ : ∃ b off cap, dv = .slice (some ⟨b, off, none⟩) D.length cap := by obtain ⟨b, off, cap, h, _⟩ := hI.filed; exact ⟨b, off, cap, h⟩
  obtain ⟨lb, loff, lcap, hlv, hlr⟩ := hI.looks
  subst hnv hdv hlv
  have HLR := Lib.hid hlr
  clear hI hlr
  unfold jawV
  obtain ⟨W2, hW2⟩ : ∃ W2, (w.alloc (.cells #[.slice (some ⟨nb, noff, none⟩) N.length ncap, .slice (some ⟨db, doff, none⟩) D.length dcap] 34)).alloc (.cells ((((Tryz.zeroCells90.setIfInBounds 0 (.slice (some ⟨nb, noff, none⟩) N.length ncap)).setIfInBounds 1 (.slice (some ⟨db, doff, none⟩) D.length dcap)).setIfInBounds 2 (.slice (some ⟨lb, loff, none⟩) L.length lcap)) : Array Value) 90) = W2 := ⟨_, rfl⟩
  have hs2 : W2.heap.size = w.heap.size + 1 + 1 := by rw [← hW2]; simp
  have hb2 : Below w.heap.size w W2 := by rw [← hW2]; exact ((Below.refl _ w).alloc (Nat.le_refl _) _).alloc (by simp) _
  have hblk : W2.heap[w.heap.size + 1]? = some (.cells ((((Tryz.zeroCells90.setIfInBounds 0 (.slice (some ⟨nb, noff, none⟩) N.length ncap)).setIfInBounds 1 (.slice (some ⟨db, doff, none⟩) D.length dcap)).setIfInBounds 2 (.slice (some ⟨lb, loff, none⟩) L.length lcap)) : Array Value) 90 (0, 0)) := by
    rw [← hW2]
    have := heap_new (w.alloc (.cells #[.slice (some ⟨nb, noff, none⟩) N.length ncap, .slice (some ⟨db, doff, none⟩) D.length dcap] 34)) (.cells ((((Tryz.zeroCells90.setIfInBounds 0 (.slice (some ⟨nb, noff, none⟩) N.length ncap)).setIfInBounds 1 (.slice (some ⟨db, doff, none⟩) D.length dcap)).setIfInBounds 2 (.slice (some ⟨lb, loff, none⟩) L.length lcap)) : Array Value) 90)
    rwa [World.size_alloc] at this
  have c0 : W2.cell? ⟨w.heap.size + 1, 0, none⟩ = some (.slice (some ⟨nb, noff, none⟩) N.length ncap) := by simp [World.cell?, hblk, Array.getElem?_setIfInBounds, zero_size, zero_at3, zero_at142, zero_at143]
  have c1 : W2.cell? ⟨w.heap.size + 1, 1, none⟩ = some (.slice (some ⟨db, doff, none⟩) D.length dcap) := by simp [World.cell?, hblk, Array.getElem?_setIfInBounds, zero_size, zero_at3, zero_at142, zero_at143]
  have c2 : W2.cell? ⟨w.heap.size + 1, 2, none⟩ = some (.slice (some ⟨lb, loff, none⟩) L.length lcap) := by simp [World.cell?, hblk, Array.getElem?_setIfInBounds, zero_size, zero_at3, zero_at142, zero_at143]
  have c3 : W2.cell? ⟨w.heap.size + 1, 3, none⟩ = some (.int .i64 0) := by (simp [World.cell?, hblk, Array.getElem?_setIfInBounds, zero_size]; exact (Array.getElem?_eq_some_iff.1 zero_at3).2)
  have c142 : W2.cell? ⟨w.heap.size + 1, 142, none⟩ = some (.slice none 0 0) := by (simp [World.cell?, hblk, Array.getElem?_setIfInBounds, zero_size]; exact (Array.getElem?_eq_some_iff.1 zero_at142).2)
  have c143 : W2.cell? ⟨w.heap.size + 1, 143, none⟩ = some (.int .i64 0) := by (simp [World.cell?, hblk, Array.getElem?_setIfInBounds, zero_size]; exact (Array.getElem?_eq_some_iff.1 zero_at143).2)
  have hth : W2.there (w.heap.size + 1) 0 144 := known_there hblk (by simp [zero_size])
  have HT := Lib.hid hth
  have HC := Lib.hid (And.intro c0 (And.intro c1 (And.intro c2 (And.intro c3 (And.intro c142 c143)))))
  have HB2 := Lib.hid hb2
  have HS2 := Lib.hid hs2
  clear hblk c0 c1 c2 c3 c142 c143 hth hb2 hs2
  go_enter Tryz.func28, Tryz.ntmps28
  go_wp2_with fail
  go_loopw [15] (fun i wr => ∃ (k : Nat) (x : Int), k ≤ L.length ∧ i = .int .i64 k ∧ PartK (w.heap.size + 1) 3 4 W2 wr ∧ wr.cell? ⟨w.heap.size + 1, 3, none⟩ = some (.int .i64 x)) (fun i _ => L.length - (intOf i).toNat)
  case atStart => exact ⟨0, 0, Nat.zero_le _, rfl, PartK.refl _ _ _ _, HC.out.2.2.2.1⟩
  case round =>
    obtain ⟨k, x, hk, rfl, hp, hx⟩ := hrel
    by_cases hlt : k < L.length
    · have hklt : (k : Int) < (L.length : Int) := by omega
      have hk0 : (0 : Int) ≤ (k : Int) := by omega
      obtain ⟨d0, d1⟩ := HLR.out k hlt
      have e0 := below_cell HB2.out d0
      have e1 := below_cell HB2.out d1
      obtain ⟨y, hy⟩ : ∃ y, (L[k]?.getD (0, 0)).1 = y := ⟨_, rfl⟩
      obtain ⟨z, hz⟩ : ∃ z, (L[k]?.getD (0, 0)).2 = z := ⟨_, rfl⟩
      rw [hy] at e0
      rw [hz] at e1
      have hlb : lb < w.heap.size := World.block_lt_of_cell? w _ d0
      have g0 := (World.cell?_of_block (w := W2) (a := ⟨lb, loff + k * 2, none⟩) (hp.kept.block lb (by have := HS2.out; omega) (by omega))).trans e0
      have g1 := (World.cell?_of_block (w := W2) (a := ⟨lb, loff + k * 2 + 1, none⟩) (hp.kept.block lb (by have := HS2.out; omega) (by omega))).trans e1
      have hsw : w.heap.size + 1 < wr.heap.size := World.block_lt_of_cell? wr _ hx
      have hxf : wr.frozen? ⟨w.heap.size + 1, 3, none⟩ = false := (hp.froz 3).trans (HT.out 3 (by omega)).2
      obtain ⟨W3, hW3⟩ : ∃ W3, (wr.alloc (.cells #[.int .i64 (y : Nat), .int .i64 (z : Nat)] 41)).drew = W3 := ⟨_, rfl⟩
      have p3 : W3.cell? ⟨w.heap.size + 1, 3, none⟩ = some (.int .i64 x) := by
        rw [← hW3]; show (wr.alloc _).cell? _ = _; rw [World.cell?_alloc_lt _ _ _ hsw]; exact hx
      have pf : W3.frozen? ⟨w.heap.size + 1, 3, none⟩ = false := by
        rw [← hW3]; show (wr.alloc _).frozen? _ = _; rw [World.frozen?_alloc_old _ _ _ (by exact Nat.ne_of_lt hsw)]; exact hxf
      have p4 : W3.cell? ⟨wr.heap.size, 0, none⟩ = some (.int .i64 (y : Nat)) := by
        rw [← hW3]; show (wr.alloc _).cell? _ = _; exact World.cell?_alloc_new wr _ _ _
      have HP3 := Lib.hid (hp.below (by have := HS2.out; omega) (show Below wr.heap.size wr W3 by rw [← hW3]; exact ((Below.refl _ wr).alloc (Nat.le_refl _) _).drew))
      have HW3 := Lib.hid hW3
      clear e0 e1 d0 d1 hp hx hxf hW3 hy hz
      go_wp2_with fail
      refine wp_region_still_tail 10 (by kernel_rfl) (by kernel_rfl) ?_
      simp only [List.take_succ_cons, List.take_zero, List.drop_succ_cons, List.drop_zero]
      rw [World.drew_eq, HW3.out]
      repeat still_step
      refine wpStill_nil ?_
      go_wp2_with fail
      go_roundw
      case rel => exact ⟨k + 1, _, by omega, by go_num, HP3.out.setsIn [_] 3 (Nat.le_refl _) (Nat.le_refl _), World.cell?_setCell_same _ _ _ p3⟩
      case measure => simp [intOf]; omega
    · have hklt : ¬ (k : Int) < (L.length : Int) := by omega
      have h2 := HS2.out
      have hW : TWork (w.heap.size + 1) (.slice (some ⟨nb, noff, none⟩) N.length ncap) (.slice (some ⟨db, doff, none⟩) D.length dcap) (.slice (some ⟨lb, loff, none⟩) L.length lcap) w wr :=
        ⟨by omega, fun j hj => (hp.kept.block j (by omega) (by omega)).trans (HB2.out.block j hj), Nat.le_trans HB2.out.size hp.kept.size, (hp.cells 0 (.inl (by omega))).trans HC.out.1, (hp.cells 1 (.inl (by omega))).trans HC.out.2.1, (hp.cells 2 (.inl (by omega))).trans HC.out.2.2.1⟩
      have ht : wr.there (w.heap.size + 1) 0 144 := hp.there HT.out fun i h1 h2 _ => by
        obtain rfl : i = 3 := by omega
        rw [hx]; rfl
      have Y := Lib.hid (knowYears_any _ _ _ _ N D L w wr HI.out hW hL ht)
      have HP := Lib.hid hp
      have HWW := Lib.hid hW
      have hlW : w.heap.size + 1 < wr.heap.size := World.block_lt_of_cell? wr _ hx
      clear hp hx hW ht
      go_wp2_with fail
      refine Y.out.mono ?_
      rintro e w3 ⟨rfl, hp3, ht3, hr3⟩
      have hW3 := HWW.out.part hp3 (by omega)
      have k142 := (hp3.cells 142 (.inr (by omega))).trans ((HP.out.cells 142 (.inr (by omega))).trans HC.out.2.2.2.2.1)
      have k143 := (hp3.cells 143 (.inr (by omega))).trans ((HP.out.cells 143 (.inr (by omega))).trans HC.out.2.2.2.2.2)
      have f142 := (hp3.froz 142).trans ((HP.out.froz 142).trans (HT.out 142 (by omega)).2)
      have f143 := (hp3.froz 143).trans ((HP.out.froz 143).trans (HT.out 143 (by omega)).2)
      have hKB : KB (yearTo N D L 7) 1000000 := by
        have h1 := KB.year N D L 7
        refine h1.mono ?_
        have h2 : L.length * N.length ≤ 100 * 8 := Nat.mul_le_mul hL HI.out.jaw.le
        omega
      have A := Lib.hid (knowAges_any _ _ _ _ N D L w w3 HI.out hW3 (yearTo N D L 7) (yearTo_length _ _ _ _) hKB hr3 (fun j hj => by
        have := ht3 (116 + j) (by omega)
        rwa [Nat.zero_add] at this) ⟨_, k142, World.ownsRow_nil _ _ _ _, k143, f142, f143⟩)
      have HP3 := Lib.hid hp3
      clear hp3 ht3 hr3 hW3 k142 k143 f142 f143 hKB
      go_wp2_with fail
      refine A.out.mono ?_
      rintro e w4 ⟨rfl, hp4, sv, a0, ao, a1, _, _⟩
      obtain ⟨sa, sn, sc, rfl⟩ := owns_any ao
      have hsn : sn = (workS N D L).1.length := by
        obtain ⟨_, h2⟩ := ao
        rcases h2 with ⟨hv, h9⟩ | ⟨g, cap, cur, hv, _⟩
        · cases hv; exact h9.symm
        · cases hv; rfl
      subst hsn
      have HP4 := Lib.hid hp4
      have A0 := Lib.hid a0
      have A1 := Lib.hid a1
      clear hp4 ao a0 a1
      go_wp2_with fail
      go_ret
      exact ⟨w.heap.size + 1, sa, sc, rfl, A0.out, A1.out, by omega, below_kept (by omega) (below_kept (by omega) (below_kept (by omega) HB2.out HP.out.kept) HP3.out.kept) HP4.out.kept⟩
end Go.Proofs.YtejfelijhojndaaGreatDoor
