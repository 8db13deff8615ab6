/-
  The map of horses: a new key is put in, a key is looked up.
-/
import Derived.Test.YtejfelijhojndaaGreatDoorMHorses
import Derived.Laws.StructEq
import Derived.MapKept
import Derived.DeepKeys
namespace Go.Proofs.YtejfelijhojndaaGreatDoor
open Go.RowKit Go.Proofs Go.Shelf

def hkey (h : Nat) : Value := .agg #[.int .u8 (h : Nat)]
/-- The entries read as the pairs l. -/
def MapIs (es : Array MapEntry) (l : List (Nat × Bool)) : Prop := es.toList.map (fun e => (e.key, e.val)) = l.map fun p => (hkey p.1, Value.bool p.2)

theorem horse_equal (a b : Nat) (w : World) : (Op.equal 95 (hkey a) (hkey b)).run Tryz.prog w = .ok ((a : Int) == (b : Int)) w := by
  unfold Op.equal hkey
  have hu : Tryz.prog.underlying 95 = some (.struct (Tryz.prog.fieldsOf 95)) := by kernel_rfl
  have hp : Tryz.prog.stoodInHeld 95 = false := by kernel_rfl
  rw [show Op.maxDepth = 9999 + 1 from rfl, run_equalIn_struct w 9999 _ _ _ hu hp]
  simp [go_sem, Tryz.underlying95, Tryz.underlying5]
  by_cases h : (a : Int) = (b : Int)
  · rw [if_pos h]; simp [h]
  · rw [if_neg h]; simp [h]

/-- Where key h stands in l, from place i on, and what it stands for. -/
def lookR (h : Nat) : List (Nat × Bool) → Nat → Option (Nat × Value)
  | [], _ => none
  | p :: r, i => if h = p.1 then some (i, .bool p.2) else lookR h r (i + 1)

theorem run_asking (h : Nat) (w : World) : ∀ (es : List MapEntry) (l : List (Nat × Bool)) (i : Nat), es.map (fun e => (e.key, e.val)) = l.map (fun p => (hkey p.1, Value.bool p.2)) →
    (Instr.findAsking 95 (hkey h) es i).run Tryz.prog w = .ok (lookR h l i) w
  | [], [], i, _ => by simp [Instr.findAsking, lookR]
  | [], p :: l, i, he => by simp at he
  | e :: es, [], i, he => by simp at he
  | e :: es, p :: l, i, he => by
    simp only [List.map_cons, List.cons.injEq, Prod.mk.injEq] at he
    obtain ⟨⟨hk, hv⟩, hr⟩ := he
    have ih := run_asking h w es l (i + 1) hr
    simp only [Instr.findAsking, Sem.run_bind, hk, horse_equal, Result.andThen_ok, lookR]
    by_cases hh : h = p.1
    · rw [if_pos hh, hh]; simp [hv]
    · rw [if_neg hh]
      have : ((h : Int) == (p.1 : Int)) = false := by simp; omega
      rw [this]
      simpa using ih

theorem run_findKey_horse (h : Nat) (w : World) {es : Array MapEntry} {l : List (Nat × Bool)} (hM : MapIs es l) :
    (Instr.findKey 95 (hkey h) es.toList).run Tryz.prog w = .ok (lookR h l 0) w := by
  have hu : Tryz.prog.underlying 95 = some (.struct (Tryz.prog.fieldsOf 95)) := by kernel_rfl
  unfold MapIs at hM
  unfold Instr.findKey
  rw [Sem.run_bind, run_underlying hu, Result.andThen_ok]
  generalize es.toList = el at hM ⊢
  cases el with
  | nil =>
    cases l with
    | nil => simp [Instr.findNow, lookR]
    | cons p l => simp at hM
  | cons e el =>
    have : Instr.findNow (.struct (Tryz.prog.fieldsOf 95)) (hkey h) (e :: el) 0 = none := by
      simp [Instr.findNow, Instr.sameNow]
    rw [this]
    exact run_asking h w _ l 0 hM

theorem run_checkKey_horse' (b : Bool) (h n : Nat) (w : World) : (Instr.checkKey b (n + 1 + 1) 95 (hkey h)).run Tryz.prog w = .ok () w := by
  have h1 : ∀ w, (Instr.checkKey b (n + 1) 5 (.int .u8 (h : Nat))).run Tryz.prog w = .ok () w := fun w => by
    unfold Instr.checkKey
    simp [go_sem, Tryz.underlying5]
  unfold Instr.checkKey hkey
  simp [go_sem, Tryz.underlying95, h1]
theorem run_checkKey_horse (b : Bool) (h : Nat) (w : World) : (Instr.checkKey b 10000 95 (hkey h)).run Tryz.prog w = .ok () w := run_checkKey_horse' b h 9998 w

theorem run_put_horse {es : Array MapEntry} {l : List (Nat × Bool)} {clock M : Nat} {w : World} (hM : MapIs es l) (hb : w.heap[M]? = some (.map es clock)) (h : Nat) (v : Bool) (hn : lookR h l 0 = none) :
    (Instr.mapUpdate 118 (.map (some M)) (hkey h) (.bool v)).run Tryz.prog w = .ok () (w.putObj M (.map (es.push { key := hkey h, val := .bool v, born := clock }) (clock + 1))) := by
  have hu : Tryz.prog.underlying 118 = some (.map 95 4) := by kernel_rfl
  simp [Instr.mapUpdate, run_underlying hu, MapKept.run_getObj_map hb, run_checkKey_horse, run_findKey_horse h w hM, hn, MapKept.run_setObj_map _ hb, World.putObj]

theorem run_look_horse {es : Array MapEntry} {l : List (Nat × Bool)} {clock M : Nat} {w : World} (hM : MapIs es l) (hb : w.heap[M]? = some (.map es clock)) (h : Nat) :
    (Instr.lookup 118 (.map (some M)) (hkey h) false).run Tryz.prog w = .ok (match lookR h l 0 with | some (_, v) => v | none => .bool false) w := by
  have hu : Tryz.prog.underlying 118 = some (.map 95 4) := by kernel_rfl
  have hz : (zeroValue 4).run Tryz.prog w = .ok (.bool false) w := by simp [go_sem]
  have hf := run_findKey_horse h w hM
  cases hl : lookR h l 0 with
  | none => rw [hl] at hf; simp [Instr.lookup, run_underlying hu, MapKept.run_getObj_map hb, run_checkKey_horse, hf, hz]
  | some p => rw [hl] at hf; simp [Instr.lookup, run_underlying hu, MapKept.run_getObj_map hb, run_checkKey_horse, hf]
theorem MapIs.push {es : Array MapEntry} {l : List (Nat × Bool)} (hM : MapIs es l) (h born : Nat) (v : Bool) : MapIs (es.push { key := hkey h, val := .bool v, born := born }) (l ++ [(h, v)]) := by
  unfold MapIs at *
  simp [hM]
end Go.Proofs.YtejfelijhojndaaGreatDoor

/-
  mark: newWork, the plain part: which horses there are; what the map says.
-/
namespace Go.Proofs.YtejfelijhojndaaGreatDoor
open Go.RowKit Go.Proofs Go.Shelf

theorem or_pow_eq {x n : Nat} (h : x < 2 ^ n) : x ||| 2 ^ n = x + 2 ^ n := by
  have := Nat.two_pow_add_eq_or_of_lt h 1
  rw [Nat.mul_one] at this
  rw [Nat.or_comm, ← this, Nat.add_comm]
theorem mem_horsesL : ∀ (n h : Nat), h < 2 ^ n → h ∈ horsesL n
  | 0, h, hh => by simp [horsesL]; simpa using hh
  | n + 1, h, hh => by
    rw [Nat.pow_succ] at hh
    simp only [horsesL, List.mem_append, List.mem_map]
    by_cases h1 : h < 2 ^ n
    · exact .inl (mem_horsesL n h h1)
    · refine .inr ⟨h - 2 ^ n, mem_horsesL n _ (by omega), ?_⟩
      rw [or_pow_eq (by omega)]
      omega
theorem nodup_horsesL : ∀ n, (horsesL n).Nodup
  | 0 => by simp [horsesL]
  | n + 1 => by
    simp only [horsesL]
    rw [List.nodup_append]
    refine ⟨nodup_horsesL n, ?_, ?_⟩
    · rw [List.Nodup, List.pairwise_map]
      refine List.Pairwise.imp_of_mem ?_ (nodup_horsesL n)
      intro a b ha hb hab e
      rw [or_pow_eq (horsesL_lt n a ha), or_pow_eq (horsesL_lt n b hb)] at e
      omega
    · intro a ha b hb e
      obtain ⟨c, hc, rfl⟩ := List.mem_map.1 hb
      have := horsesL_lt n a ha
      rw [or_pow_eq (horsesL_lt n c hc)] at e
      omega

/-- May these entries be one horse? -/
def canF (F : Fair) (h : Nat) : Bool := if h = 0 then false else !(coatB F (whichL h.testBit 6) || noHeightB F (whichL h.testBit 6) || fewB F (whichL h.testBit 6))
theorem whyV_can (F : Fair) {h : Nat} (h0 : h ≠ 0) : (canF F h = true ∧ whyV F (whichL h.testBit 6) = .nilIface) ∨ (canF F h = false ∧ ∃ t, whyV F (whichL h.testBit 6) = rV t) := by
  unfold canF whyV
  rw [if_neg h0]
  cases coatB F (whichL h.testBit 6) <;> cases noHeightB F (whichL h.testBit 6) <;> cases fewB F (whichL h.testBit 6) <;> simp <;> exact ⟨_, rfl⟩

def pairsL (F : Fair) (l : List Nat) : List (Nat × Bool) := l.map fun h => (h, canF F h)
theorem lookR_none {F : Fair} {h : Nat} : ∀ {l : List Nat} (i : Nat), h ∉ l → lookR h (pairsL F l) i = none
  | [], _, _ => rfl
  | a :: l, i, hn => by
    simp only [List.mem_cons, not_or] at hn
    show lookR h ((a, canF F a) :: pairsL F l) i = none
    rw [lookR, if_neg hn.1]
    exact lookR_none (i + 1) hn.2
theorem lookR_some {F : Fair} {h : Nat} : ∀ {l : List Nat} (i : Nat), h ∈ l → ∃ j, lookR h (pairsL F l) i = some (j, .bool (canF F h))
  | [], _, hm => by cases hm
  | a :: l, i, hm => by
    show ∃ j, lookR h ((a, canF F a) :: pairsL F l) i = some (j, .bool (canF F h))
    rw [lookR]
    by_cases e : h = a
    · rw [if_pos e]; subst e; exact ⟨i, rfl⟩
    · rw [if_neg e]
      exact lookR_some (i + 1) (by simpa [e] using hm)

/-- What the map of all horses says. -/
def canN (F : Fair) (n h : Nat) : Bool := decide (h < 2 ^ n) && canF F h
theorem look_ok (F : Fair) (n : Nat) {M clock : Nat} {es : Array MapEntry} (hM : MapIs es (pairsL F (horsesL n))) : LookOK M (.map es clock) (canN F n) := by
  intro W h hb h256
  have := run_look_horse hM hb h
  unfold hkey at this
  rw [this]
  by_cases hh : h < 2 ^ n
  · obtain ⟨j, hj⟩ := lookR_some (F := F) 0 (mem_horsesL n h hh)
    rw [hj]
    simp [canN, hh]
  · rw [lookR_none 0 (fun hm => hh (horsesL_lt n h hm))]
    simp [canN, hh]

theorem RowsAt.same {w w' : World} {v : Value} {M : List (List Int)} (h : RowsAt w v M) (hs : ∀ a u, w.cell? a = some u → w'.cell? a = some u) : RowsAt w' v M := by
  obtain ⟨b, off, cap, hv, hr⟩ := h
  exact ⟨b, off, cap, hv, fun i hi => by
    obtain ⟨u, hu, hi⟩ := hr i hi
    exact ⟨u, hs _ _ hu, hi.same hs⟩⟩
theorem EntsAt.same {w w' : World} {v : Value} {es : List Ent} (h : EntsAt w v es) (hs : ∀ a u, w.cell? a = some u → w'.cell? a = some u) : EntsAt w' v es := by
  obtain ⟨a, cap, hv, hr⟩ := h
  refine ⟨a, cap, hv, fun hl => ?_⟩
  obtain ⟨b, off, ha, hd⟩ := hr hl
  refine ⟨b, off, ha, fun i hi => ?_⟩
  obtain ⟨mv, h0, h1, h2, h3, h4, h5, h6⟩ := hd i hi
  exact ⟨mv, hs _ _ h0, hs _ _ h1, hs _ _ h2, hs _ _ h3, hs _ _ h4, hs _ _ h5, h6.same hs⟩
theorem WorkF.same {Wk : Nat} {F : Fair} {w w' : World} (h : WorkF Wk F w) (hs : ∀ a u, w.cell? a = some u → w'.cell? a = some u) : WorkF Wk F w' := by
  obtain ⟨ev, e1, e2⟩ := h.ents
  obtain ⟨rv, r1, r2⟩ := h.roads
  exact ⟨⟨ev, hs _ _ e1, e2.same hs⟩, ⟨rv, hs _ _ r1, r2.same hs⟩, hs _ _ h.shoeF, hs _ _ h.shoeT, hs _ _ h.dye, hs _ _ h.most⟩
/-- Cells stay while a map alone is written. -/
theorem kept_cell {M : Nat} {x y : World} {es : Array MapEntry} {c : Nat} (hK : Kept M x y) (hm : x.heap[M]? = some (.map es c)) {a : Addr} {u : Value} (hc : x.cell? a = some u) : y.cell? a = some u := by
  refine (hK.cell (World.block_lt_of_cell? x _ hc) ?_).trans hc
  intro e
  obtain ⟨b, o, s⟩ := a
  simp only at e
  subst e
  simp [World.cell?, hm] at hc

set_option maxRecDepth 100000 in
set_option maxHeartbeats 800000 in
theorem which_none (kf limit : Nat) (first cap : Array Value) (w : World) (hl : limit ≤ 100) (ek : ∀ args w, (callFunc kf args).run Tryz.prog w = .ok (.enter kf args) w)
    (hcall : ∀ i, i < limit → ∀ W', Below w.heap.size w W' → Calls Tryz.prog kf (first.push (.int .i64 (i : Nat)) ++ cap) W' fun e w'' => e = .returned (.bool false) ∧ Below W'.heap.size W' w'') :
    Calls Tryz.prog 74 #[.int .i64 limit, .func (.func kf) first cap] w fun e w' => e = .returned (.slice none 0 0) ∧ Below w.heap.size w w' := by
  have HC := Lib.hid hcall
  clear hcall
  go_enter Tryz.func74, Tryz.ntmps74
  go_wp2_with fail
  go_loopw [5, 8] (fun v i wr => ∃ k : Nat, k ≤ limit ∧ i = .int .i64 k ∧ v = .slice none 0 0 ∧ Below w.heap.size w wr) (fun _ i _ => limit - (intOf i).toNat)
  case atStart => exact ⟨0, Nat.zero_le _, rfl, rfl, Below.refl _ _⟩
  case round =>
    obtain ⟨k, hk, rfl, rfl, hbl⟩ := hrel
    by_cases hlt : k < limit
    · have HB := Lib.hid hbl
      have HC1 := Lib.hid (HC.out k hlt wr hbl)
      clear hbl
      go_wp2_with fail
      refine HC1.out.mono ?_
      rintro e w2 ⟨rfl, hb2⟩
      have HB2 := Lib.hid (HB.out.trans (hb2.mono HB.out.size))
      clear hb2
      go_wp2_with fail
      go_roundw
      case rel => exact ⟨k + 1, by omega, by go_num, rfl, HB2.out⟩
      case measure => simp [intOf]; omega
    · obtain rfl : k = limit := by omega
      have HB := Lib.hid hbl
      clear hbl
      go_wp2_with fail
      go_ret
      exact ⟨rfl, HB.out⟩

set_option maxRecDepth 100000 in
theorem list_zero (w : World) : Calls Tryz.prog 60 #[.agg #[.int .u8 0]] w fun e w' => e = .returned (.slice none 0 0) ∧ Below w.heap.size w w' := by
  have hmf : ∀ (fn : Fn) (first cap : Array Value) (w : World), (Instr.makeFunc fn first cap).run Tryz.prog w = .ok (.func fn first cap) w := fun _ _ _ _ => rfl
  have HW := Lib.hid (which_none 46 6 #[.agg #[.int .u8 0]] #[] (w.alloc (.cells #[.int .u8 0] 95)) (by omega) (fun args w => by simp [go_sem])
    (fun i hi W' _ => by have := has_any 0 i W' (by omega) (by omega); simpa using this))
  go_enter Tryz.func60, Tryz.ntmps60
  go_wp2_with fail
  refine HW.out.mono ?_
  rintro e w2 ⟨rfl, hb⟩
  have HB := Lib.hid hb
  clear hb
  go_wp2_with fail
  go_ret
  exact ⟨rfl, ((Below.refl _ w).alloc (Nat.le_refl _) _).trans (HB.out.mono (by simp))⟩
end Go.Proofs.YtejfelijhojndaaGreatDoor
