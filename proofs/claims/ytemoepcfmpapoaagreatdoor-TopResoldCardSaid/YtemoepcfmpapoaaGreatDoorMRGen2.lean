/-
  A loop over an iterator of whatever things: what its rounds keep, what they come to; and a loop whose iterator panics at once. Own laws.
-/
import Derived.Test.YtemoepcfmpapoaaGreatDoorMRPl
import Derived.RangeFuncNested
import Derived.RangeFuncLeaves
import Derived.TacticsInMore
import Derived.OwnWalkIn
import Derived.Shelf.Abstract
import Derived.Shelf.RegionOpen
import Derived.LoopNIn
import Derived.LoopIn
import Derived.Defers
namespace Go.Proofs.YtemoepcfmpapoaaGreatDoor
open Go.RowKit Go.Proofs Go.Shelf

/-- Outside the memory nothing has changed. -/
structure Env (W W' : World) : Prop where
  os : W'.os = W.os
  tape : W'.tape = W.tape
  output : W'.output = W.output
theorem Env.refl (W : World) : Env W W := ⟨rfl, rfl, rfl⟩
theorem Env.trans {X Y Z : World} (h : Env X Y) (k : Env Y Z) : Env X Z := ⟨k.os.trans h.os, k.tape.trans h.tape, k.output.trans h.output⟩
theorem Env.below {n : Nat} {X Y : World} (h : Below n X Y) : Env X Y := ⟨h.os, h.tape, h.output⟩
theorem Env.grown {r : Option Nat} {X Y : World} (h : X.grownBy Y r) : Env X Y := ⟨h.os, h.tape, h.output⟩
theorem Env.put (X : World) (b : Nat) (o : Obj) : Env X (X.putObj b o) := ⟨rfl, rfl, rfl⟩

/-- Of what lay there the blocks K lie as they lay. -/
structure RKeep (K : Nat → Prop) (W W' : World) : Prop where
  size : W.heap.size ≤ W'.heap.size
  same : ∀ k, k < W.heap.size → K k → W'.heap[k]? = W.heap[k]?
  env : Env W W'
theorem RKeep.refl (K : Nat → Prop) (W : World) : RKeep K W W := ⟨Nat.le_refl _, fun _ _ _ => rfl, Env.refl _⟩
theorem RKeep.trans {K : Nat → Prop} {X Y Z : World} (h : RKeep K X Y) (k : RKeep K Y Z) : RKeep K X Z :=
  ⟨Nat.le_trans h.size k.size, fun i hi hs => (k.same i (Nat.lt_of_lt_of_le hi h.size) hs).trans (h.same i hi hs), h.env.trans k.env⟩
theorem RKeep.of_below {K : Nat → Prop} {X Y : World} (h : Below X.heap.size X Y) : RKeep K X Y := ⟨h.size, fun i hi _ => h.block i hi, Env.below h⟩
theorem RKeep.mono {K L : Nat → Prop} {X Y : World} (h : RKeep K X Y) (hl : ∀ k, k < X.heap.size → L k → K k) : RKeep L X Y := ⟨h.size, fun i hi hL => h.same i hi (hl i hi hL), h.env⟩
theorem RKeep.cell {K : Nat → Prop} {X Y : World} (h : RKeep K X Y) {a : Addr} {v : Value} (hk : K a.block) (hc : X.cell? a = some v) : Y.cell? a = some v :=
  (World.cell?_of_block (w := X) (h.same _ (World.block_lt_of_cell? X _ hc) hk)).trans hc
theorem RKeep.heap {K : Nat → Prop} {X Y : World} (h : RKeep K X Y) {k : Nat} {o : Obj} (hk : K k) (hc : X.heap[k]? = some o) : Y.heap[k]? = some o :=
  (h.same _ (Array.getElem?_eq_some_iff.1 hc).1 hk).trans hc
theorem RKeep.setCell {K : Nat → Prop} {X : World} (b i : Nat) (hb : ¬ K b) (v : Value) : RKeep K X (X.setCell ⟨b, i, none⟩ v) :=
  ⟨by simp, fun _ _ hs => Below.heap_setCell _ _ _ _ (fun e => hb (by cases e; exact hs)), Env.below ((Below.refl 0 X).setCell (by exact Nat.zero_le _) v)⟩

variable {α : Type}

/-- The rounds, as the iterator meets them: J holds between two of them, Jx when one has said 'no more'. H: how much memory there was ahead of the first round: what rounds make lies behind it, and is theirs to write. -/
def YOK (l : Nat) (K : Nat → Nat → Prop) (Bn : Nat) (outs : List α) (E : α → World → Array Value → Prop) (J Jx : Nat → List α → World → Prop) : Prop :=
  ∀ (H m : Nat) (pre : List α) (x : α) (vs : Array Value) (W : World), J H pre W → E x W vs → pre ++ [x] <+: outs → Bn ≤ H → H ≤ W.heap.size →
    YieldAt Fence.wide m Tryz.prog l vs W fun e W' => ∃ bv, e = .returned (.bool bv) ∧ RKeep (K H) W W' ∧ (bv = true → J H (pre ++ [x]) W') ∧ (bv = false → Jx H (pre ++ [x]) W')

/-- What an iterator comes to. -/
def GPost (J Jx : Nat → List α → World → Prop) (outs : List α) (e : Ending) (W' : World) : Prop :=
  (∃ v, e = .returned v) ∧ ∃ H, (J H outs W' ∨ ∃ q, q <+: outs ∧ Jx H q W')

/-- The contract of an iterator that writes nothing but what it makes anew, as its callers use it: S are the older blocks that rounds may write. -/
def GenOK (gf : Nat) (lb : Array Value) (E : α → World → Array Value → Prop) (outs : List α) (S : Nat → Prop) (w : World) : Prop :=
  ∀ (l : Nat) (K : Nat → Nat → Prop) (W : World) (J Jx : Nat → List α → World → Prop), (∀ H k, W.heap.size ≤ H → k < w.heap.size → ¬ S k → K H k) → (∀ H k, W.heap.size ≤ k → k < H → K H k) → Below w.heap.size w W →
    (∀ H s A B, J H s A → RKeep (fun _ => True) A B → J H s B) → (∀ H s A B, Jx H s A → RKeep (fun _ => True) A B → Jx H s B) →
    YOK l K W.heap.size outs E J Jx → (∀ H, W.heap.size ≤ H → J H [] W) → Calls Tryz.prog gf (#[.func (.yield l) #[] #[]] ++ lb) W (GPost J Jx outs)

/-- What a round of the loop's body comes to. -/
def gPost (S : Nat → Prop) (H : Nat) (I : List α → World → Prop) (Ix : Code → List α → World → Prop) (xs : List α) (W : World) : Exit → Act → World → Prop
  | .normal, _, W' => RKeep (fun k => ¬ S k ∧ k < H) W W' ∧ I xs W'
  | .ret, _, W' => RKeep (fun k => ¬ S k ∧ k < H) W W' ∧ Ix .ret xs W'
  | .exit id, _, W' => RKeep (fun k => ¬ S k ∧ k < H) W W' ∧ Ix (.exit id) xs W'
  | .goto t, _, W' => RKeep (fun k => ¬ S k ∧ k < H) W W' ∧ Ix (.goto t) xs W'
  | .panic _, _, _ => False
  | .outgrown, _, _ => False

theorem wp_range_gen {g : Operand} {ps : Array Tmp} {assign body : Code} {Q : Exit → Act → World → Prop} {a : Act} {w : World} {n gf : Nat} {lb : Array Value}
    (hg : a.eval g = .func (.func gf) #[] lb) (eg : ∀ args w, (callFunc gf args).run Tryz.prog w = .ok (.enter gf args) w)
    {E : α → World → Array Value → Prop} {outs : List α} {S : Nat → Prop} (hS : ∀ k, S k → k < w.heap.size) (hseq : GenOK gf lb E outs S w)
    (hE : ∀ x W vs l o, E x W vs → (∃ r, W.heap[l]? = some (.loop r)) → E x (W.putObj l o) vs) (hps : ∀ x W vs, E x W vs → vs.size = ps.size)
    (I : Nat → List α → World → Prop) (Ix : Nat → Code → List α → World → Prop) (hI : ∀ H s A B, w.heap.size + 2 ≤ H → I H s A → RKeep (fun j => j ≠ w.heap.size + 1) A B → I H s B) (hIx : ∀ H c s A B, w.heap.size + 2 ≤ H → Ix H c s A → RKeep (fun j => j ≠ w.heap.size + 1) A B → Ix H c s B)
    (h0 : ∀ H, w.heap.size + 2 ≤ H → I H [] w) (Ax : α → Array Value → Act → World → Prop) (hAx : ∀ x vs a₁ W l o, Ax x vs a₁ W → (∃ r, W.heap[l]? = some (.loop r)) → Ax x vs a₁ (W.putObj l o))
    (hassign : ∀ (H l m : Nat) (pre : List α) (x : α) (vs : Array Value) (W : World) (K : Act → World → Prop), w.heap.size + 2 ≤ H → H ≤ W.heap.size → pre ++ [x] <+: outs → I H pre W → E x W vs →
      (∀ a₁ W₁, Below W.heap.size W W₁ → E x W₁ vs → Ax x vs a₁ W₁ → K a₁ W₁) →
      assign.wpIn (Fence.wide.inRound l) m Tryz.prog (Exit.then K (fun _ _ _ => False)) { tmps := (ps.zip vs).foldl (fun t (p, v) => t.setIfInBounds p v) a.tmps, defers := [] } W)
    (hbody : ∀ (H l m : Nat) (pre : List α) (x : α) (vs : Array Value) (a₁ : Act) (W : World), w.heap.size + 2 ≤ H → H ≤ W.heap.size → pre ++ [x] <+: outs → I H pre W → E x W vs → Ax x vs a₁ W → body.wpIn (Fence.wide.inRound l) m Tryz.prog (gPost S H (I H) (Ix H) (pre ++ [x]) W) a₁ W)
    (hdone : ∀ (H D : Nat) (W : World), w.heap.size + 2 ≤ H → D = w.heap.size → I H outs W → W.heap[D]? = some (.deferred (some [])) → Q .normal { a with defers := { target := .collected D, args := #[] } :: a.defers } W)
    (hstop : ∀ (H D : Nat) (c : Code) (pre : List α) (W : World), w.heap.size + 2 ≤ H → D = w.heap.size → pre <+: outs → Ix H c pre W → W.heap[D]? = some (.deferred (some [])) → c.wpIn Fence.wide n Tryz.prog Q { a with defers := { target := .collected D, args := #[] } :: a.defers } W) :
    (Code.rangeFunc g ps assign body).wpIn Fence.wide n Tryz.prog Q a w := by
  refine wpIn_rangeFunc ?_
  intro fn hfn
  rw [show Fence.wide.round = none from rfl]
  obtain ⟨rec, hrec⟩ : ∃ rec : LoopState → Option Code → Loop, rec = fun st pe => { state := st, pending := pe, fn, tmps := a.tmps, params := ps, assign, body, defers := w.heap.size } := ⟨_, rfl⟩
  obtain ⟨W1, hW1⟩ : ∃ W1, (w.alloc (.deferred (some []))).alloc (.loop (rec .ready none)) = W1 := ⟨_, rfl⟩
  have hs1 : W1.heap.size = w.heap.size + 1 + 1 := by rw [← hW1]; simp
  have hb1 : Below w.heap.size w W1 := by
    rw [← hW1]; exact ((Below.refl _ w).alloc (Nat.le_refl _) _).alloc (by simp) _
  have hL1 : W1.heap[w.heap.size + 1]? = some (.loop (rec .ready none)) := by
    rw [← hW1]; have := heap_new (w.alloc (.deferred (some []))) (.loop (rec .ready none)); rwa [World.size_alloc] at this
  have hK1 : W1.heap[w.heap.size]? = some (.deferred (some [])) := by
    rw [← hW1]; exact (Below.heap_alloc _ _ _ (by simp)).trans (heap_new w _)
  have hput : ∀ (W : World) (o : Obj), w.heap.size + 1 < W.heap.size → Below w.heap.size W (W.putObj (w.heap.size + 1) o) := fun W o hl =>
    (Below.refl _ W).grown (grownBy_putObj' W _ o) (by omega) (fun k e => by cases e; omega)
  refine ⟨w.heap.size + 1, [{ target := .collected w.heap.size, args := #[] }], W1, { target := .fn (.func gf) lb, args := #[.func (.yield (w.heap.size + 1)) #[] #[]] }, W1, gf,
    #[.func (.yield (w.heap.size + 1)) #[] #[]] ++ lb, W1, ?_, ?_, ?_, ?_, fun h => (by cases h), ?_⟩
  · rw [← hW1, hrec]; exact run_enterLoop_outer _ _ _ _ _
  · simp only [resolve, hg]
    simp [go_sem]
  · intro f' _; trivial
  · simp [invoke, go_sem, eg]
  · refine callsIn_wide.2 ?_
    have hR1 : RKeep (fun j => j ≠ w.heap.size + 1) w W1 := RKeep.of_below hb1
    have hrp : ∀ (W : World) (o : Obj), RKeep (fun j => j ≠ w.heap.size + 1) W (W.putObj (w.heap.size + 1) o) := fun W o =>
      ⟨by simp [World.putObj], fun j _ hne => World.putObj_heap_other hne, Env.put _ _ _⟩
    refine (hseq (w.heap.size + 1) (fun H k => ¬ S k ∧ k ≠ w.heap.size + 1 ∧ k < H) W1
      (fun H pre W => w.heap.size + 2 ≤ H ∧ I H pre W ∧ W.heap[w.heap.size + 1]? = some (.loop (rec .ready none)) ∧ W.heap[w.heap.size]? = some (.deferred (some [])))
      (fun H pre W => w.heap.size + 2 ≤ H ∧ ∃ c, Ix H c pre W ∧ W.heap[w.heap.size + 1]? = some (.loop (rec .done (some c))) ∧ W.heap[w.heap.size]? = some (.deferred (some [])))
      (fun H k hH hk hs => ⟨hs, by omega, by omega⟩) (fun H k hk hkH => ⟨fun h => by have := hS k h; omega, by omega, hkH⟩) hb1 ?_ ?_ ?_ (fun H hH => ⟨by omega, hI _ _ _ _ (by omega) (h0 H (by omega)) hR1, hL1, hK1⟩)).mono ?_
    · rintro H s A B ⟨h0, h1, h2, h3⟩ hb
      exact ⟨h0, hI _ _ _ _ h0 h1 (hb.mono fun _ _ _ => trivial), hb.heap trivial h2, hb.heap trivial h3⟩
    · rintro H s A B ⟨h0, c, h1, h2, h3⟩ hb
      exact ⟨h0, c, hIx _ _ _ _ _ h0 h1 (hb.mono fun _ _ _ => trivial), hb.heap trivial h2, hb.heap trivial h3⟩
    · rintro H m pre x vs W ⟨hH, hi, hl, hk⟩ hx hpx hsz hHW
      have hy := run_yield (P := Tryz.prog) (args := vs) hl (by rw [hrec]; exact hps _ _ _ hx)
      rw [hrec] at hy
      refine ⟨fn, _, assign, body, hy, roundIn_of_wpIn hfn (hassign H _ _ pre x vs W _ hH hHW hpx hi hx fun a₁ W₁ hbw hx1 hax1 => ?_)⟩
      clear hy
      have hl₁ : W₁.heap[w.heap.size + 1]? = some (.loop (rec .ready none)) := (hbw.block _ (by omega)).trans hl
      have hk₁ : W₁.heap[w.heap.size]? = some (.deferred (some [])) := (hbw.block _ (by omega)).trans hk
      have hsz₁ := hbw.size
      have hlt : w.heap.size + 1 < W₁.heap.size := by omega
      refine ⟨_, run_beginRound hl₁ (by rw [hrec]), ?_⟩
      have hl2 : (W₁.putObj (w.heap.size + 1) (.loop { rec .ready none with state := .busy })).heap[w.heap.size + 1]? = some (.loop { rec .ready none with state := .busy }) := World.putObj_heap_same hlt
      have hk2 : (W₁.putObj (w.heap.size + 1) (.loop { rec .ready none with state := .busy })).heap[w.heap.size]? = some (.deferred (some [])) := (World.putObj_heap_other (by omega)).trans hk₁
      refine wpIn_mono (hbody H _ _ pre x vs a₁ _ hH (by simp [World.putObj]; omega) hpx (hI _ _ _ _ hH (hI _ _ _ _ hH hi (RKeep.of_below hbw)) (hrp W₁ _)) (hE _ _ _ _ _ hx1 ⟨_, hl₁⟩) (hAx _ _ _ _ _ _ hax1 ⟨_, hl₁⟩)) ?_
      have fin : ∀ (jump : Option Code) (W3 : World), RKeep (fun k => ¬ S k ∧ k < H) (W₁.putObj (w.heap.size + 1) (.loop { rec .ready none with state := .busy })) W3 →
          (Instr.endRound (w.heap.size + 1) jump).run Tryz.prog W3 = .ok (.bool jump.isNone) (W3.putObj (w.heap.size + 1) (.loop (rec (if jump.isNone then .ready else .done) jump))) ∧
          (W3.putObj (w.heap.size + 1) (.loop (rec (if jump.isNone then .ready else .done) jump))).heap[w.heap.size + 1]? = some (.loop (rec (if jump.isNone then .ready else .done) jump)) ∧
          (W3.putObj (w.heap.size + 1) (.loop (rec (if jump.isNone then .ready else .done) jump))).heap[w.heap.size]? = some (.deferred (some [])) ∧
          RKeep (fun k => ¬ S k ∧ k ≠ w.heap.size + 1 ∧ k < H) W (W3.putObj (w.heap.size + 1) (.loop (rec (if jump.isNone then .ready else .done) jump))) := fun jump W3 hk3 => by
        have hSl : ¬ S (w.heap.size + 1) := fun h => by have := hS _ h; omega
        have hSd : ¬ S w.heap.size := fun h => by have := hS _ h; omega
        have hsp : (W₁.putObj (w.heap.size + 1) (.loop { rec .ready none with state := .busy })).heap.size = W₁.heap.size := by simp [World.putObj]
        have hl3 := (hk3.same _ (by rw [hsp]; omega) ⟨hSl, by omega⟩).trans hl2
        have hs3 := hk3.size
        have := run_endRound (P := Tryz.prog) jump hl3
        rw [hrec] at this ⊢
        refine ⟨this, World.putObj_heap_same (Array.getElem?_eq_some_iff.1 hl3).1, (World.putObj_heap_other (by omega)).trans ((hk3.same _ (by rw [hsp]; omega) ⟨hSd, by omega⟩).trans hk2), ⟨?_, fun k hk hK => ?_, (Env.below hbw).trans ((Env.put _ _ _).trans (hk3.env.trans (Env.put _ _ _)))⟩⟩
        · simp [World.putObj] at hs3 ⊢; omega
        · exact (World.putObj_heap_other (fun e => hK.2.1 (by omega))).trans ((hk3.same k (by rw [hsp]; omega) ⟨hK.1, hK.2.2⟩).trans ((World.putObj_heap_other (fun e => hK.2.1 (by omega))).trans (hbw.block k hk)))
      rintro e a3 W3 hp
      cases e with
      | normal =>
        obtain ⟨hk3, hi3⟩ := hp
        obtain ⟨hr, hl4, hk4, hrk⟩ := fin none W3 hk3
        exact ⟨_, _, hr, true, rfl, hrk, (fun _ => ⟨hH, hI _ _ _ _ hH hi3 (hrp W3 _), hl4, hk4⟩), (fun h => by cases h)⟩
      | ret =>
        obtain ⟨hk3, hi3⟩ := hp
        obtain ⟨hr, hl4, hk4, hrk⟩ := fin (some .ret) W3 hk3
        exact ⟨_, _, hr, false, rfl, hrk, (fun h => by cases h), (fun _ => ⟨hH, .ret, hIx _ _ _ _ _ hH hi3 (hrp W3 _), hl4, hk4⟩)⟩
      | exit id =>
        obtain ⟨hk3, hi3⟩ := hp
        obtain ⟨hr, hl4, hk4, hrk⟩ := fin (some (.exit id)) W3 hk3
        exact ⟨_, _, hr, false, rfl, hrk, (fun h => by cases h), (fun _ => ⟨hH, .exit id, hIx _ _ _ _ _ hH hi3 (hrp W3 _), hl4, hk4⟩)⟩
      | goto t =>
        obtain ⟨hk3, hi3⟩ := hp
        obtain ⟨hr, hl4, hk4, hrk⟩ := fin (some (.goto t)) W3 hk3
        exact ⟨_, _, hr, false, rfl, hrk, (fun h => by cases h), (fun _ => ⟨hH, .goto t, hIx _ _ _ _ _ hH hi3 (hrp W3 _), hl4, hk4⟩)⟩
      | panic ch => exact hp.elim
      | outgrown => exact hp.elim
    · rintro e W2 ⟨⟨v, rfl⟩, H, (⟨hH, hi, hl, hk⟩ | ⟨pre, hSp, hH, c, hi, hl, hk⟩)⟩
      · exact ⟨none, _, by have := run_endLoop (P := Tryz.prog) hl (by rw [hrec]; simp); rw [hrec] at this; exact this, hdone H _ _ hH rfl (hI _ _ _ _ hH hi (hrp W2 _)) ((World.putObj_heap_other (by omega)).trans hk)⟩
      · exact ⟨some c, _, by have := run_endLoop (P := Tryz.prog) hl (by rw [hrec]; simp); rw [hrec] at this; exact this, hstop H _ c pre _ hH rfl hSp (hIx _ _ _ _ _ hH hi (hrp W2 _)) ((World.putObj_heap_other (by omega)).trans hk)⟩

/-- An iterator that panics ahead of its first round. -/
theorem wp_range_panic {g : Operand} {ps : Array Tmp} {assign body : Code} {Q : Exit → Act → World → Prop} {a : Act} {w : World} {n gf : Nat} {lb : Array Value}
    (hg : a.eval g = .func (.func gf) #[] lb) (eg : ∀ args w, (callFunc gf args).run Tryz.prog w = .ok (.enter gf args) w) (chain : List PanicEntry)
    (hseq : ∀ (l : Nat) (W : World), Below w.heap.size w W → Calls Tryz.prog gf (#[.func (.yield l) #[] #[]] ++ lb) W fun e W' => e = .panicked chain ∧ Below W.heap.size W W')
    (hpanic : ∀ (D : Nat) (W : World), w.heap.size ≤ D → Below w.heap.size w W → W.heap[D]? = some (.deferred (some [])) → Q (.panic chain) { a with defers := { target := .collected D, args := #[] } :: a.defers } W) :
    (Code.rangeFunc g ps assign body).wpIn Fence.wide n Tryz.prog Q a w := by
  refine wpIn_rangeFunc ?_
  intro fn hfn
  rw [show Fence.wide.round = none from rfl]
  obtain ⟨rec, hrec⟩ : ∃ rec : LoopState → Option Code → Loop, rec = fun st pe => { state := st, pending := pe, fn, tmps := a.tmps, params := ps, assign, body, defers := w.heap.size } := ⟨_, rfl⟩
  obtain ⟨W1, hW1⟩ : ∃ W1, (w.alloc (.deferred (some []))).alloc (.loop (rec .ready none)) = W1 := ⟨_, rfl⟩
  have hs1 : W1.heap.size = w.heap.size + 1 + 1 := by rw [← hW1]; simp
  have hb1 : Below w.heap.size w W1 := by
    rw [← hW1]; exact ((Below.refl _ w).alloc (Nat.le_refl _) _).alloc (by simp) _
  have hK1 : W1.heap[w.heap.size]? = some (.deferred (some [])) := by
    rw [← hW1]; exact (Below.heap_alloc _ _ _ (by simp)).trans (heap_new w _)
  refine ⟨w.heap.size + 1, [{ target := .collected w.heap.size, args := #[] }], W1, { target := .fn (.func gf) lb, args := #[.func (.yield (w.heap.size + 1)) #[] #[]] }, W1, gf,
    #[.func (.yield (w.heap.size + 1)) #[] #[]] ++ lb, W1, ?_, ?_, ?_, ?_, fun h => (by cases h), ?_⟩
  · rw [← hW1, hrec]; exact run_enterLoop_outer _ _ _ _ _
  · simp only [resolve, hg]
    simp [go_sem]
  · intro f' _; trivial
  · simp [invoke, go_sem, eg]
  · refine callsIn_wide.2 ?_
    refine (hseq (w.heap.size + 1) W1 hb1).mono ?_
    rintro e W2 ⟨rfl, hb2⟩
    exact hpanic _ W2 (Nat.le_refl _) (hb1.trans (hb2.mono (by omega))) ((hb2.block _ (by omega)).trans hK1)
end Go.Proofs.YtemoepcfmpapoaaGreatDoor

/-
  A loop over an iterator that itself goes through an iterator: what lies between what was there and what rounds make is the iterator's own, and may change. Own law.
-/
namespace Go.Proofs.YtemoepcfmpapoaaGreatDoor
open Go.RowKit Go.Proofs Go.Shelf
variable {α : Type}

/-- The rounds, as the iterator meets them, told how much memory there was ahead of the first. -/
def YOK2 (l : Nat) (K : Nat → Nat → Prop) (Bn : Nat) (outs : List α) (E : Nat → α → World → Array Value → Prop) (J Jx : Nat → List α → World → Prop) : Prop :=
  ∀ (H m : Nat) (pre : List α) (x : α) (vs : Array Value) (W : World), J H pre W → E H x W vs → pre ++ [x] <+: outs → Bn ≤ H → H ≤ W.heap.size →
    YieldAt Fence.wide m Tryz.prog l vs W fun e W' => ∃ bv, e = .returned (.bool bv) ∧ RKeep (K H) W W' ∧ (bv = true → J H (pre ++ [x]) W') ∧ (bv = false → Jx H (pre ++ [x]) W')
/-- The contract of an iterator that may write what it made itself ahead of the first round. -/
def GenOK2 (gf : Nat) (lb : Array Value) (E : Nat → α → World → Array Value → Prop) (outs : List α) (S : Nat → Prop) (w : World) : Prop :=
  ∀ (l : Nat) (K : Nat → Nat → Prop) (W : World) (J Jx : Nat → List α → World → Prop), (∀ H k, W.heap.size ≤ H → k < w.heap.size → ¬ S k → K H k) → (∀ H k, W.heap.size ≤ k → k < H → K H k) → Below w.heap.size w W →
    (∀ H s A B, J H s A → RKeep (fun k => k < W.heap.size ∨ H ≤ k) A B → J H s B) → (∀ H s A B, Jx H s A → RKeep (fun k => k < W.heap.size ∨ H ≤ k) A B → Jx H s B) →
    YOK2 l K W.heap.size outs E J Jx → (∀ H, W.heap.size ≤ H → J H [] W) → Calls Tryz.prog gf (#[.func (.yield l) #[] #[]] ++ lb) W (GPost J Jx outs)
theorem GenOK.two {gf : Nat} {lb : Array Value} {E : α → World → Array Value → Prop} {outs : List α} {S : Nat → Prop} {w : World} (h : GenOK gf lb E outs S w) : GenOK2 gf lb (fun _ => E) outs S w :=
  fun l K W J Jx h1 h2 h3 h4 h5 => h l K W J Jx h1 h2 h3 (fun H s A B a b => h4 H s A B a (b.mono fun _ _ _ => trivial)) (fun H s A B a b => h5 H s A B a (b.mono fun _ _ _ => trivial))

theorem wp_range_gen2 {g : Operand} {ps : Array Tmp} {assign body : Code} {Q : Exit → Act → World → Prop} {a : Act} {w : World} {n gf : Nat} {lb : Array Value}
    (hg : a.eval g = .func (.func gf) #[] lb) (eg : ∀ args w, (callFunc gf args).run Tryz.prog w = .ok (.enter gf args) w)
    {E : Nat → α → World → Array Value → Prop} {outs : List α} {S : Nat → Prop} (hS : ∀ k, S k → k < w.heap.size) (hseq : GenOK2 gf lb E outs S w)
    (hE : ∀ H x W vs l o, E H x W vs → (∃ r, W.heap[l]? = some (.loop r)) → E H x (W.putObj l o) vs) (hps : ∀ H x W vs, E H x W vs → vs.size = ps.size)
    (I : Nat → List α → World → Prop) (Ix : Nat → Code → List α → World → Prop) (hI' : ∀ H s A B, w.heap.size + 2 ≤ H → I H s A → RKeep (fun j => j ≠ w.heap.size + 1 ∧ (j < w.heap.size + 2 ∨ H ≤ j)) A B → I H s B) (hIx' : ∀ H c s A B, w.heap.size + 2 ≤ H → Ix H c s A → RKeep (fun j => j ≠ w.heap.size + 1 ∧ (j < w.heap.size + 2 ∨ H ≤ j)) A B → Ix H c s B)
    (h0 : ∀ H, w.heap.size + 2 ≤ H → I H [] w) (Ax : α → Array Value → Act → World → Prop) (hAx : ∀ x vs a₁ W l o, Ax x vs a₁ W → (∃ r, W.heap[l]? = some (.loop r)) → Ax x vs a₁ (W.putObj l o))
    (hassign : ∀ (H l m : Nat) (pre : List α) (x : α) (vs : Array Value) (W : World) (K : Act → World → Prop), w.heap.size + 2 ≤ H → H ≤ W.heap.size → pre ++ [x] <+: outs → I H pre W → E H x W vs →
      (∀ a₁ W₁, Below W.heap.size W W₁ → E H x W₁ vs → Ax x vs a₁ W₁ → K a₁ W₁) →
      assign.wpIn (Fence.wide.inRound l) m Tryz.prog (Exit.then K (fun _ _ _ => False)) { tmps := (ps.zip vs).foldl (fun t (p, v) => t.setIfInBounds p v) a.tmps, defers := [] } W)
    (hbody : ∀ (H l m : Nat) (pre : List α) (x : α) (vs : Array Value) (a₁ : Act) (W : World), w.heap.size + 2 ≤ H → H ≤ W.heap.size → pre ++ [x] <+: outs → I H pre W → E H x W vs → Ax x vs a₁ W → body.wpIn (Fence.wide.inRound l) m Tryz.prog (gPost S H (I H) (Ix H) (pre ++ [x]) W) a₁ W)
    (hdone : ∀ (H D : Nat) (W : World), w.heap.size + 2 ≤ H → D = w.heap.size → I H outs W → W.heap[D]? = some (.deferred (some [])) → Q .normal { a with defers := { target := .collected D, args := #[] } :: a.defers } W)
    (hstop : ∀ (H D : Nat) (c : Code) (pre : List α) (W : World), w.heap.size + 2 ≤ H → D = w.heap.size → pre <+: outs → Ix H c pre W → W.heap[D]? = some (.deferred (some [])) → c.wpIn Fence.wide n Tryz.prog Q { a with defers := { target := .collected D, args := #[] } :: a.defers } W) :
    (Code.rangeFunc g ps assign body).wpIn Fence.wide n Tryz.prog Q a w := by
  have hI : ∀ H s A B, w.heap.size + 2 ≤ H → I H s A → RKeep (fun j => j ≠ w.heap.size + 1) A B → I H s B := fun H s A B h1 h2 h3 => hI' H s A B h1 h2 (h3.mono fun _ _ h => h.1)
  have hIx : ∀ H c s A B, w.heap.size + 2 ≤ H → Ix H c s A → RKeep (fun j => j ≠ w.heap.size + 1) A B → Ix H c s B := fun H c s A B h1 h2 h3 => hIx' H c s A B h1 h2 (h3.mono fun _ _ h => h.1)
  refine wpIn_rangeFunc ?_
  intro fn hfn
  rw [show Fence.wide.round = none from rfl]
  obtain ⟨rec, hrec⟩ : ∃ rec : LoopState → Option Code → Loop, rec = fun st pe => { state := st, pending := pe, fn, tmps := a.tmps, params := ps, assign, body, defers := w.heap.size } := ⟨_, rfl⟩
  obtain ⟨W1, hW1⟩ : ∃ W1, (w.alloc (.deferred (some []))).alloc (.loop (rec .ready none)) = W1 := ⟨_, rfl⟩
  have hs1 : W1.heap.size = w.heap.size + 1 + 1 := by rw [← hW1]; simp
  have hb1 : Below w.heap.size w W1 := by
    rw [← hW1]; exact ((Below.refl _ w).alloc (Nat.le_refl _) _).alloc (by simp) _
  have hL1 : W1.heap[w.heap.size + 1]? = some (.loop (rec .ready none)) := by
    rw [← hW1]; have := heap_new (w.alloc (.deferred (some []))) (.loop (rec .ready none)); rwa [World.size_alloc] at this
  have hK1 : W1.heap[w.heap.size]? = some (.deferred (some [])) := by
    rw [← hW1]; exact (Below.heap_alloc _ _ _ (by simp)).trans (heap_new w _)
  have hput : ∀ (W : World) (o : Obj), w.heap.size + 1 < W.heap.size → Below w.heap.size W (W.putObj (w.heap.size + 1) o) := fun W o hl =>
    (Below.refl _ W).grown (grownBy_putObj' W _ o) (by omega) (fun k e => by cases e; omega)
  refine ⟨w.heap.size + 1, [{ target := .collected w.heap.size, args := #[] }], W1, { target := .fn (.func gf) lb, args := #[.func (.yield (w.heap.size + 1)) #[] #[]] }, W1, gf,
    #[.func (.yield (w.heap.size + 1)) #[] #[]] ++ lb, W1, ?_, ?_, ?_, ?_, fun h => (by cases h), ?_⟩
  · rw [← hW1, hrec]; exact run_enterLoop_outer _ _ _ _ _
  · simp only [resolve, hg]
    simp [go_sem]
  · intro f' _; trivial
  · simp [invoke, go_sem, eg]
  · refine callsIn_wide.2 ?_
    have hR1 : RKeep (fun j => j ≠ w.heap.size + 1) w W1 := RKeep.of_below hb1
    have hrp : ∀ (W : World) (o : Obj), RKeep (fun j => j ≠ w.heap.size + 1) W (W.putObj (w.heap.size + 1) o) := fun W o =>
      ⟨by simp [World.putObj], fun j _ hne => World.putObj_heap_other hne, Env.put _ _ _⟩
    refine (hseq (w.heap.size + 1) (fun H k => ¬ S k ∧ k ≠ w.heap.size + 1 ∧ k < H) W1
      (fun H pre W => w.heap.size + 2 ≤ H ∧ I H pre W ∧ W.heap[w.heap.size + 1]? = some (.loop (rec .ready none)) ∧ W.heap[w.heap.size]? = some (.deferred (some [])))
      (fun H pre W => w.heap.size + 2 ≤ H ∧ ∃ c, Ix H c pre W ∧ W.heap[w.heap.size + 1]? = some (.loop (rec .done (some c))) ∧ W.heap[w.heap.size]? = some (.deferred (some [])))
      (fun H k hH hk hs => ⟨hs, by omega, by omega⟩) (fun H k hk hkH => ⟨fun h => by have := hS k h; omega, by omega, hkH⟩) hb1 ?_ ?_ ?_ (fun H hH => ⟨by omega, hI _ _ _ _ (by omega) (h0 H (by omega)) hR1, hL1, hK1⟩)).mono ?_
    · rintro H s A B ⟨h0, h1, h2, h3⟩ hb
      rw [hs1] at hb
      exact ⟨h0, hI' _ _ _ _ h0 h1 (hb.mono fun _ _ h => h.2), hb.heap (.inl (by omega)) h2, hb.heap (.inl (by omega)) h3⟩
    · rintro H s A B ⟨h0, c, h1, h2, h3⟩ hb
      rw [hs1] at hb
      exact ⟨h0, c, hIx' _ _ _ _ _ h0 h1 (hb.mono fun _ _ h => h.2), hb.heap (.inl (by omega)) h2, hb.heap (.inl (by omega)) h3⟩
    · rintro H m pre x vs W ⟨hH, hi, hl, hk⟩ hx hpx hsz hHW
      have hy := run_yield (P := Tryz.prog) (args := vs) hl (by rw [hrec]; exact hps _ _ _ _ hx)
      rw [hrec] at hy
      refine ⟨fn, _, assign, body, hy, roundIn_of_wpIn hfn (hassign H _ _ pre x vs W _ hH hHW hpx hi hx fun a₁ W₁ hbw hx1 hax1 => ?_)⟩
      clear hy
      have hl₁ : W₁.heap[w.heap.size + 1]? = some (.loop (rec .ready none)) := (hbw.block _ (by omega)).trans hl
      have hk₁ : W₁.heap[w.heap.size]? = some (.deferred (some [])) := (hbw.block _ (by omega)).trans hk
      have hsz₁ := hbw.size
      have hlt : w.heap.size + 1 < W₁.heap.size := by omega
      refine ⟨_, run_beginRound hl₁ (by rw [hrec]), ?_⟩
      have hl2 : (W₁.putObj (w.heap.size + 1) (.loop { rec .ready none with state := .busy })).heap[w.heap.size + 1]? = some (.loop { rec .ready none with state := .busy }) := World.putObj_heap_same hlt
      have hk2 : (W₁.putObj (w.heap.size + 1) (.loop { rec .ready none with state := .busy })).heap[w.heap.size]? = some (.deferred (some [])) := (World.putObj_heap_other (by omega)).trans hk₁
      refine wpIn_mono (hbody H _ _ pre x vs a₁ _ hH (by simp [World.putObj]; omega) hpx (hI _ _ _ _ hH (hI _ _ _ _ hH hi (RKeep.of_below hbw)) (hrp W₁ _)) (hE _ _ _ _ _ _ hx1 ⟨_, hl₁⟩) (hAx _ _ _ _ _ _ hax1 ⟨_, hl₁⟩)) ?_
      have fin : ∀ (jump : Option Code) (W3 : World), RKeep (fun k => ¬ S k ∧ k < H) (W₁.putObj (w.heap.size + 1) (.loop { rec .ready none with state := .busy })) W3 →
          (Instr.endRound (w.heap.size + 1) jump).run Tryz.prog W3 = .ok (.bool jump.isNone) (W3.putObj (w.heap.size + 1) (.loop (rec (if jump.isNone then .ready else .done) jump))) ∧
          (W3.putObj (w.heap.size + 1) (.loop (rec (if jump.isNone then .ready else .done) jump))).heap[w.heap.size + 1]? = some (.loop (rec (if jump.isNone then .ready else .done) jump)) ∧
          (W3.putObj (w.heap.size + 1) (.loop (rec (if jump.isNone then .ready else .done) jump))).heap[w.heap.size]? = some (.deferred (some [])) ∧
          RKeep (fun k => ¬ S k ∧ k ≠ w.heap.size + 1 ∧ k < H) W (W3.putObj (w.heap.size + 1) (.loop (rec (if jump.isNone then .ready else .done) jump))) := fun jump W3 hk3 => by
        have hSl : ¬ S (w.heap.size + 1) := fun h => by have := hS _ h; omega
        have hSd : ¬ S w.heap.size := fun h => by have := hS _ h; omega
        have hsp : (W₁.putObj (w.heap.size + 1) (.loop { rec .ready none with state := .busy })).heap.size = W₁.heap.size := by simp [World.putObj]
        have hl3 := (hk3.same _ (by rw [hsp]; omega) ⟨hSl, by omega⟩).trans hl2
        have hs3 := hk3.size
        have := run_endRound (P := Tryz.prog) jump hl3
        rw [hrec] at this ⊢
        refine ⟨this, World.putObj_heap_same (Array.getElem?_eq_some_iff.1 hl3).1, (World.putObj_heap_other (by omega)).trans ((hk3.same _ (by rw [hsp]; omega) ⟨hSd, by omega⟩).trans hk2), ⟨?_, fun k hk hK => ?_, (Env.below hbw).trans ((Env.put _ _ _).trans (hk3.env.trans (Env.put _ _ _)))⟩⟩
        · simp [World.putObj] at hs3 ⊢; omega
        · exact (World.putObj_heap_other (fun e => hK.2.1 (by omega))).trans ((hk3.same k (by rw [hsp]; omega) ⟨hK.1, hK.2.2⟩).trans ((World.putObj_heap_other (fun e => hK.2.1 (by omega))).trans (hbw.block k hk)))
      rintro e a3 W3 hp
      cases e with
      | normal =>
        obtain ⟨hk3, hi3⟩ := hp
        obtain ⟨hr, hl4, hk4, hrk⟩ := fin none W3 hk3
        exact ⟨_, _, hr, true, rfl, hrk, (fun _ => ⟨hH, hI _ _ _ _ hH hi3 (hrp W3 _), hl4, hk4⟩), (fun h => by cases h)⟩
      | ret =>
        obtain ⟨hk3, hi3⟩ := hp
        obtain ⟨hr, hl4, hk4, hrk⟩ := fin (some .ret) W3 hk3
        exact ⟨_, _, hr, false, rfl, hrk, (fun h => by cases h), (fun _ => ⟨hH, .ret, hIx _ _ _ _ _ hH hi3 (hrp W3 _), hl4, hk4⟩)⟩
      | exit id =>
        obtain ⟨hk3, hi3⟩ := hp
        obtain ⟨hr, hl4, hk4, hrk⟩ := fin (some (.exit id)) W3 hk3
        exact ⟨_, _, hr, false, rfl, hrk, (fun h => by cases h), (fun _ => ⟨hH, .exit id, hIx _ _ _ _ _ hH hi3 (hrp W3 _), hl4, hk4⟩)⟩
      | goto t =>
        obtain ⟨hk3, hi3⟩ := hp
        obtain ⟨hr, hl4, hk4, hrk⟩ := fin (some (.goto t)) W3 hk3
        exact ⟨_, _, hr, false, rfl, hrk, (fun h => by cases h), (fun _ => ⟨hH, .goto t, hIx _ _ _ _ _ hH hi3 (hrp W3 _), hl4, hk4⟩)⟩
      | panic ch => exact hp.elim
      | outgrown => exact hp.elim
    · rintro e W2 ⟨⟨v, rfl⟩, H, (⟨hH, hi, hl, hk⟩ | ⟨pre, hSp, hH, c, hi, hl, hk⟩)⟩
      · exact ⟨none, _, by have := run_endLoop (P := Tryz.prog) hl (by rw [hrec]; simp); rw [hrec] at this; exact this, hdone H _ _ hH rfl (hI _ _ _ _ hH hi (hrp W2 _)) ((World.putObj_heap_other (by omega)).trans hk)⟩
      · exact ⟨some c, _, by have := run_endLoop (P := Tryz.prog) hl (by rw [hrec]; simp); rw [hrec] at this; exact this, hstop H _ c pre _ hH rfl hSp (hIx _ _ _ _ _ hH hi (hrp W2 _)) ((World.putObj_heap_other (by omega)).trans hk)⟩

end Go.Proofs.YtemoepcfmpapoaaGreatDoor
