/-
  resold: the bag's methods by contract, and small lemmas on worlds.
-/
import Derived.Test.YtemoepcfmpapoaaGreatDoorMBag
import Derived.Deep.AppendLies
import Derived.RangeFuncNested
import Derived.RangeFuncLeaves
import Derived.TacticsInMore
import Derived.OwnWalkIn
import Derived.OwnWalk
import Derived.Carry
import Derived.Shelf.Abstract
import Derived.Shelf.RegionOpen
import Derived.LoopNIn
import Derived.Deep.MidRow
import Derived.Deep.RegionHeld3
import Derived.Deep.CutRange
import Derived.Deep.CutBlock
import Derived.WalkMore
import Derived.ArgAppend
import Derived.Maps.AppendAt
import Derived.Laws.IdiomCopy
import Derived.LoopIn
import Derived.Defers
namespace Go.Proofs.YtemoepcfmpapoaaGreatDoor
open Go.RowKit Go.Proofs Go.Shelf

theorem below_cell {w w' : World} (h : Below w.heap.size w w') {a : Addr} {v : Value} (hc : w.cell? a = some v) : w'.cell? a = some v := (h.cell (World.block_lt_of_cell? w _ hc)).trans hc
theorem below_frozen {w w' : World} (h : Below w.heap.size w w') {a : Addr} {v : Value} (hc : w.cell? a = some v) : w'.frozen? a = w.frozen? a := h.frozen (World.block_lt_of_cell? w _ hc)
theorem below_heap {w w' : World} (h : Below w.heap.size w w') {k : Nat} {o : Obj} (hc : w.heap[k]? = some o) : w'.heap[k]? = some o := (h.block k (Array.getElem?_eq_some_iff.1 hc).1).trans hc
theorem below_alloc (w : World) (o : Obj) : Below w.heap.size w (w.alloc o) := (Below.refl _ w).alloc (Nat.le_refl _) o
theorem cell_of_one {W : World} {b : Nat} {v : Value} {T : TypeId} {f : Nat × Nat} (h : W.heap[b]? = some (.cells #[v] T f)) : W.cell? ⟨b, 0, none⟩ = some v := by simp [World.cell?, h]
theorem slice_of_owns {w : World} {base n : Nat} {e : TypeId} {v : Value} {xs : List Value} (h : w.ownsRow base e 1 v n xs) : ∃ a cap, v = .slice a n cap ∧ n ≤ cap ∧ (0 < n → ∃ g, a = some ⟨g, 0, none⟩ ∧ base ≤ g ∧ g < w.heap.size ∧ ∀ j, j < n → w.cell? ⟨g, j, none⟩ = xs[j]?) := by
  obtain ⟨h1, h2⟩ := h
  rcases h2 with ⟨rfl, rfl⟩ | ⟨g, cap, cur, rfl, hg, hh, hn, hm, hs, ht⟩
  · exact ⟨none, 0, rfl, Nat.le_refl _, fun h => absurd h (Nat.lt_irrefl 0)⟩
  · refine ⟨_, cap, rfl, hn, fun _ => ⟨g, rfl, hg, (Array.getElem?_eq_some_iff.1 hh).1, fun j hj => ?_⟩⟩
    rw [← ht, List.getElem?_take, if_pos (by omega)]
    simp [World.cell?, hh]
def BoolEnd (b : Bool) (w : World) (e : Ending) (w' : World) : Prop := e = .returned (.bool b) ∧ Below w.heap.size w w'
def IntEnd (x : Int) (w : World) (e : Ending) (w' : World) : Prop := e = .returned (.int .i64 x) ∧ Below w.heap.size w w'
def ValEnd (v : Value) (w : World) (e : Ending) (w' : World) : Prop := e = .returned v ∧ Below w.heap.size w w'
theorem heap_new (w : World) (o : Obj) : (w.alloc o).heap[w.heap.size]? = some o := by
  show (w.heap.push o)[w.heap.size]? = some o
  simp

theorem heap2_1 (w : World) (o1 o2 : Obj) : ((w.alloc o1).alloc o2).heap[w.heap.size + 1]? = some o2 := by
  have := heap_new (w.alloc o1) o2
  rwa [World.size_alloc] at this
theorem heap2_0 (w : World) (o1 o2 : Obj) : ((w.alloc o1).alloc o2).heap[w.heap.size]? = some o1 := (Below.heap_alloc _ _ _ (by simp)).trans (heap_new w o1)
theorem heap3_2 (w : World) (o1 o2 o3 : Obj) : (((w.alloc o1).alloc o2).alloc o3).heap[w.heap.size + 1 + 1]? = some o3 := by
  have := heap2_1 (w.alloc o1) o2 o3
  rwa [World.size_alloc] at this
theorem heap3_1 (w : World) (o1 o2 o3 : Obj) : (((w.alloc o1).alloc o2).alloc o3).heap[w.heap.size + 1]? = some o2 := (Below.heap_alloc _ _ _ (by simp)).trans (heap2_1 w o1 o2)
theorem heap3_0 (w : World) (o1 o2 o3 : Obj) : (((w.alloc o1).alloc o2).alloc o3).heap[w.heap.size]? = some o1 := (Below.heap_alloc _ _ _ (by simp; omega)).trans (heap2_0 w o1 o2)
theorem known_there {w : World} {b : Nat} {C : Array Value} {T : TypeId} (h : w.heap[b]? = some (.cells C T (0, 0))) {o n : Nat} (hn : o + n ≤ C.size) : w.there b o n := fun j hj => by
  simp only [World.cell?, World.frozen?, h]
  simp
  omega
/-- An array with values laid in from a place on. -/
def putAll (C : Array Value) (o : Nat) : List Value → Array Value
  | [] => C
  | v :: r => putAll (C.setIfInBounds o v) (o + 1) r
theorem heap_setCell_cells {w : World} {b i : Nat} {C : Array Value} {T : TypeId} {f : Nat × Nat} (h : w.heap[b]? = some (.cells C T f)) (v : Value) : (w.setCell ⟨b, i, none⟩ v).heap[b]? = some (.cells (C.setIfInBounds i v) T f) := by
  simp [World.setCell, Array.getElem?_modify, h]
theorem heap_setCells {b : Nat} : ∀ (vs : List Value) (o : Nat) {w : World} {C : Array Value} {T : TypeId} {f : Nat × Nat}, w.heap[b]? = some (.cells C T f) → (w.setCells b o vs).heap[b]? = some (.cells (putAll C o vs) T f)
  | [], _, _, _, _, _, h => h
  | v :: r, o, _, _, _, _, h => heap_setCells r (o + 1) (heap_setCell_cells h v)
theorem below_setCells {n b : Nat} (hb : n ≤ b) : ∀ (vs : List Value) (o : Nat) {w w' : World}, Below n w w' → Below n w (w'.setCells b o vs)
  | [], _, _, _, h => h
  | v :: r, o, _, _, h => below_setCells hb r (o + 1) (h.setCell (p := ⟨b, o, none⟩) hb v)
theorem owns_any {w : World} {base n : Nat} {e : TypeId} {size : Nat} {v : Value} {xs : List Value} (h : w.ownsRow base e size v n xs) : ∃ a m cap, v = .slice a m cap := by
  obtain ⟨_, h2⟩ := h
  rcases h2 with ⟨hv, h0⟩ | ⟨g, cap, cur, hv, _⟩
  · exact ⟨_, _, _, hv⟩
  · exact ⟨_, _, _, hv⟩
theorem owns_succ {w : World} {base n : Nat} {e : TypeId} {size : Nat} {v : Value} {xs : List Value} (h : w.ownsRow base e size v (n + 1) xs) : ∃ g cap, v = .slice (some ⟨g, 0, none⟩) (n + 1) cap := by
  obtain ⟨_, h2⟩ := h
  rcases h2 with ⟨_, h0⟩ | ⟨g, cap, cur, hv, _⟩
  · omega
  · exact ⟨g, cap, hv⟩

theorem Below.toGrown {w w' : World} (h : Below w.heap.size w w') : w.grownBy w' none := ⟨h.os, h.tape, h.output, h.size, fun k hk _ => h.block k hk⟩
theorem owns_below {w w' : World} {base n size : Nat} {e : TypeId} {v : Value} {xs : List Value} (h : w.ownsRow base e size v n xs) (hb : Below w.heap.size w w') : w'.ownsRow base e size v n xs :=
  h.kept (Below.toGrown hb) (by cases v.ownBlock <;> simp)
theorem owns_mono {w : World} {base base' n size : Nat} {e : TypeId} {v : Value} {xs : List Value} (h : w.ownsRow base e size v n xs) (hb : base' ≤ base) : w.ownsRow base' e size v n xs := by
  obtain ⟨h1, h2⟩ := h
  refine ⟨h1, ?_⟩
  rcases h2 with h2 | ⟨g, cap, cur, hv, hg, r⟩
  · exact .inl h2
  · exact .inr ⟨g, cap, cur, hv, Nat.le_trans hb hg, r⟩
theorem below_drewN (w : World) (n : Nat) : Below w.heap.size w (w.drewN n) := ⟨rfl, rfl, rfl, Nat.le_refl _, fun _ _ => rfl⟩
theorem World.cell?_setCells_any (b : Nat) : ∀ (vs : List Value) (i : Nat) (w : World) (j : Nat), (w.cell? ⟨b, j, none⟩).isSome = true → ((w.setCells b i vs).cell? ⟨b, j, none⟩).isSome = true
  | [], _, _, _, h => h
  | v :: r, i, w, j, h => by
    refine World.cell?_setCells_any b r (i + 1) _ j ?_
    by_cases e : j = i
    · subst e
      obtain ⟨u, hu⟩ := Option.isSome_iff_exists.1 h
      rw [World.cell?_setCell_same _ _ _ hu]; rfl
    · rw [World.cell?_setCell_other _ _ _ _ (fun e' => e (by cases e'; rfl))]; exact h
theorem below_there {w w' : World} {b o n : Nat} (h : Below w.heap.size w w') (ht : w.there b o n) : w'.there b o n := fun j hj => by
  obtain ⟨h1, h2⟩ := ht j hj
  obtain ⟨v, hv⟩ := Option.isSome_iff_exists.1 h1
  exact ⟨by rw [below_cell h hv]; rfl, by rw [below_frozen h hv]; exact h2⟩
theorem there_set {b o n : Nat} : ∀ (vs : List Value) (i : Nat) {w : World}, w.there b o n → (w.setCells b i vs).there b o n := fun vs i w h j hj => by
  obtain ⟨h1, h2⟩ := h j hj
  refine ⟨?_, by rw [World.frozen?_setCells]; exact h2⟩
  exact World.cell?_setCells_any b vs i w (o + j) h1
theorem below_trans {x y z : World} (h : Below x.heap.size x y) (k : Below y.heap.size y z) : Below x.heap.size x z := h.trans (k.mono h.size)
theorem Kept.setCells {b : Nat} {x : World} : ∀ (vs : List Value) (o : Nat) {y : World}, Kept b x y → Kept b x (y.setCells b o vs)
  | [], _, _, h => h
  | v :: r, o, _, h => Kept.setCells r (o + 1) (h.setCell (p := ⟨b, o, none⟩) (.inl rfl) v)
theorem below_of_kept {b : Nat} {w x y : World} (hb : w.heap.size ≤ b) (h : Below w.heap.size w x) (k : Kept b x y) : Below w.heap.size w y :=
  ⟨k.os.trans h.os, k.tape.trans h.tape, k.output.trans h.output, Nat.le_trans h.size k.size, fun i hi => (k.block i (Nat.lt_of_lt_of_le hi h.size) (by omega)).trans (h.block i hi)⟩
theorem cell_setCells_there {w : World} {b o : Nat} {vs : List Value} (h : w.there b o vs.length) {j : Nat} (hj : j < vs.length) : (w.setCells b o vs).cell? ⟨b, o + j, none⟩ = some vs[j] :=
  World.cell?_setCells_in b vs o w (fun i hi => (h i hi).1) j hj
/-- A slice of integers that reads as l. -/
def Ints (w : World) (v : Value) (l : List Int) : Prop :=
  ∃ a cap, v = .slice a l.length cap ∧ (0 < l.length → ∃ b off, a = some ⟨b, off, none⟩ ∧ ∀ j, j < l.length → w.cell? ⟨b, off + j, none⟩ = some (.int .i64 (l[j]?.getD 0)))

theorem Ints.same {w w' : World} {v : Value} {l : List Int} (h : Ints w v l) (hs : ∀ a u, w.cell? a = some u → w'.cell? a = some u) : Ints w' v l := by
  obtain ⟨a, cap, rfl, hc⟩ := h
  refine ⟨a, cap, rfl, fun hl => ?_⟩
  obtain ⟨b, off, rfl, hd⟩ := hc hl
  exact ⟨b, off, rfl, fun j hj => hs _ _ (hd j hj)⟩

theorem ints_of_owns {w : World} {base : Nat} {v : Value} {l : List Int} {T : TypeId} (h : w.ownsRow base T 1 v l.length (l.map (Value.int .i64))) : Ints w v l := by
  obtain ⟨h1, h2⟩ := h
  rcases h2 with ⟨rfl, h0⟩ | ⟨g, cap, cur, rfl, hg, hh, hn, hm, hs, ht⟩
  · exact ⟨none, 0, by rw [h0], fun h => by omega⟩
  · refine ⟨_, cap, rfl, fun _ => ⟨g, 0, rfl, fun j hj => ?_⟩⟩
    have hj2 : (cur.toList.take (l.length * 1))[j]? = (l.map (Value.int .i64))[j]? := by rw [ht]
    rw [List.getElem?_take, if_pos (by omega)] at hj2
    simp only [World.cell?, hh, Nat.zero_add]
    simp only [Array.getElem?_toList, List.getElem?_map, List.getElem?_eq_getElem hj, Option.map_some] at hj2
    simp [hj2, hj]

def UpToEnd (b t : Nat) (n : Int) (w : World) (e : Ending) (w' : World) : Prop :=
  ∃ r : Int, 0 ≤ r ∧ (r ≤ n ∨ r = 0) ∧ e = .returned (.int .i64 r) ∧ Bag w' b (t + 1) ∧ Kept b w w'

theorem upTo_r (x n : Int) (hn : 1 ≤ n) : 0 ≤ x % (n + 1) ∧ x % (n + 1) ≤ n :=
  ⟨Int.emod_nonneg _ (by omega), by have := Int.emod_lt_of_pos x (show 0 < n + 1 by omega); omega⟩

theorem ret_wrap64 {x : Int} (h1 : -9223372036854775808 ≤ x) (h2 : x ≤ 9223372036854775807) : Ending.returned (.int .i64 (wrap64 x)) = .returned (.int .i64 x) := by
  rw [show wrap64 x = x from IntWalk.wrap64_in x ⟨h1, h2⟩]

set_option maxRecDepth 100000 in
theorem upTo_any (b t : Nat) (n : Int) (w : World) (hB : Bag w b t) (ht : t ≤ 1000000000) (hn : n ≤ 1000000000) (hn0 : -1000000000 ≤ n) :
    Calls Tryz.prog 14 #[.pointer (some ⟨b, 0, none⟩), .int .i64 n] w (UpToEnd b t n w) := by
  have HD := fun w (h : Bag w b t) => draw_any b t w h ht
  by_cases h : n < 1
  · go_enter Tryz.func14, Tryz.ntmps14
    go_wp2_with (go_at_call 30; refine (HD _ hB).mono ?_; rintro e w' ⟨x, hx0, hx, rfl, hB', hk⟩)
    go_ret
    exact ⟨0, by omega, .inr rfl, rfl, hB', hk⟩
  · have h1 : 1 ≤ n := by omega
    go_enter Tryz.func14, Tryz.ntmps14
    go_wp2_with (go_at_call 30; refine (HD _ hB).mono ?_; rintro e w' ⟨x, hx0, hx, rfl, hB', hk⟩)
    go_ret
    have hr := upTo_r x n h1
    exact ⟨x % (n + 1), hr.1, .inl hr.2, ret_wrap64 (by omega) (by omega), hB', hk⟩

def AmongEnd (b t : Nat) (lo hi : Int) (w : World) (e : Ending) (w' : World) : Prop :=
  ∃ r : Int, lo ≤ r ∧ (r ≤ hi ∨ r = lo) ∧ e = .returned (.int .i64 r) ∧ Bag w' b (t + 1) ∧ Kept b w w'

set_option maxRecDepth 100000 in
theorem among_any (b t : Nat) (lo hi : Int) (w : World) (hB : Bag w b t) (ht : t ≤ 1000000000) (h1 : lo ≤ 100000000) (h2 : -100000000 ≤ lo) (h3 : hi ≤ 100000000) (h4 : -100000000 ≤ hi) :
    Calls Tryz.prog 5 #[.pointer (some ⟨b, 0, none⟩), .int .i64 lo, .int .i64 hi] w (AmongEnd b t lo hi w) := by
  have HD := fun w (h : Bag w b t) => upTo_any b t (hi - lo) w h ht (by omega) (by omega)
  go_enter Tryz.func5, Tryz.ntmps5
  go_wp2_with (go_at_call 14; refine (HD _ hB).mono ?_; rintro e w' ⟨r, hr0, hr1, rfl, hB', hk⟩)
  go_ret
  exact ⟨lo + r, by omega, by omega, by first | rfl | exact ret_wrap64 (by omega) (by omega), hB', hk⟩

def PickEnd (b t : Nat) (l : List Int) (w : World) (e : Ending) (w' : World) : Prop :=
  ∃ r : Int, r ∈ l ∧ e = .returned (.int .i64 r) ∧ Bag w' b (t + 1) ∧ Kept b w w'

theorem getD_mem {l : List Int} {j : Nat} (h : j < l.length) : l[j]?.getD 0 ∈ l := by
  rw [List.getElem?_eq_getElem h]; exact List.getElem_mem h

set_option maxRecDepth 100000 in
theorem pick_any (b t lb off cap : Nat) (l : List Int) (w : World) (hB : Bag w b t) (ht : t ≤ 1000000000) (hl : 0 < l.length) (hm : l.length ≤ 1000000) (hne : lb ≠ b)
    (hc : ∀ j, j < l.length → w.cell? ⟨lb, off + j, none⟩ = some (.int .i64 (l[j]?.getD 0))) :
    Calls Tryz.prog 34 #[.pointer (some ⟨b, 0, none⟩), .slice (some ⟨lb, off, none⟩) l.length cap] w (PickEnd b t l w) := by
  have HD := fun w (h : Bag w b t) => upTo_any b t ((l.length : Int) - 1) w h ht (by omega) (by omega)
  go_enter Tryz.func34, Tryz.ntmps34
  go_wp2_with (go_at_call 14; (refine (HD _ hB).mono ?_; rintro e w' ⟨r, hr0, hr1, rfl, hB', hk⟩; obtain ⟨k, rfl⟩ := Int.eq_ofNat_of_zero_le hr0; have hk1 : k < l.length := (by omega); have hk2 : (k : Int) < (l.length : Int) := (by omega); have hck := (hk.cell (p := ⟨lb, off + k, none⟩) (World.block_lt_of_cell? w _ (hc k hk1)) hne).trans (hc k hk1); have HK := Lib.hid hk; clear hk))
  go_ret
  exact ⟨_, List.getElem_mem (by assumption), rfl, hB', HK.out⟩

theorem pick_new (b t : Nat) (l : List Int) (T : TypeId) (cap : Nat) (w : World) (hB : Bag w b t) (ht : t ≤ 1000000000) (hl : 0 < l.length) (hm : l.length ≤ 1000000) :
    Calls Tryz.prog 34 #[.pointer (some ⟨b, 0, none⟩), .slice (some ⟨w.heap.size, 0, none⟩) l.length cap] (w.alloc (.cells (l.map (Value.int .i64)).toArray T))
      (PickEnd b t l (w.alloc (.cells (l.map (Value.int .i64)).toArray T))) := by
  have hlt := hB.lt
  refine pick_any b t w.heap.size 0 cap l _ (hB.alloc _) ht hl hm (by omega) fun j hj => ?_
  rw [Nat.zero_add, World.cell?_alloc_new]
  simp [hj]

theorem Kept.grownBy {b : Nat} {w w' : World} (h : Kept b w w') : w.grownBy w' (some b) := ⟨h.os, h.tape, h.output, h.size, fun k hk hb => h.block k hk (fun e => hb (by rw [e]))⟩
theorem Kept.grown {b : Nat} {x y z : World} {row : Option Nat} (h : Kept b x y) (hg : y.grownBy z row) (hr : ∀ k, row = some k → x.heap.size ≤ k) : Kept b x z :=
  ⟨hg.os.trans h.os, hg.tape.trans h.tape, hg.output.trans h.output, Nat.le_trans h.size hg.size, fun k hk hb => (hg.block k (Nat.lt_of_lt_of_le hk h.size) (fun e => by have := hr k e.symm; omega)).trans (h.block k hk hb)⟩
theorem Tryz.infoInt : (Tryz.prog.info? 3).map (fun i => (i.zero, i.size, i.bytes)) = some (some (.int .i64 0), 1, 8) := by kernel_rfl
def NewBagEnd (w : World) (e : Ending) (w' : World) : Prop := e = .returned (.pointer (some ⟨w.heap.size, 0, none⟩)) ∧ Bag w' w.heap.size 0 ∧ Below w.heap.size w w'

set_option maxRecDepth 100000 in
theorem newBag_any (a : Option Addr) (len cap : Nat) (w : World) (h : ∀ j, j < len → ∃ nb off x, a = some ⟨nb, off, none⟩ ∧ nb < w.heap.size ∧ w.cell? ⟨nb, off + j, none⟩ = some (.int .i64 x)) :
    Calls Tryz.prog 4 #[.slice a len cap] w (NewBagEnd w) := by
  have H := Lib.hid h
  clear h
  go_enter Tryz.func4, Tryz.ntmps4
  go_wp2_with fail
  go_ret
  refine ⟨rfl, ⟨a, len, cap, _, _, heap_new w _, fun j hj => ?_⟩, (Below.refl _ w).alloc (Nat.le_refl _) _⟩
  obtain ⟨nb, off, x, ha, hl, hc⟩ := H.out j hj
  exact ⟨nb, off, x, ha, hl, by rw [World.cell?_alloc_lt _ _ _ (by exact hl)]; exact hc⟩


end Go.Proofs.YtemoepcfmpapoaaGreatDoor

/-
  bargain: a place in the game and its two sides, by contract.
-/
namespace Go.Proofs.YtemoepcfmpapoaaGreatDoor
open Go.RowKit Go.Proofs Go.Shelf

/-- A place, as a value. -/
def plV (a b t s c d e f : Int) : Value := .agg #[.int .i64 a, .int .i64 b, .int .i64 t, .int .i64 s, .int .i64 c, .int .i64 d, .int .i64 e, .int .i64 f]
def rgV (x y : Int) : Value := .agg #[.int .i64 x, .int .i64 y]
/-- A side: the seller's, or the buyer's. -/
def sdT : Bool → TypeId
  | true => 117
  | false => 118
def sdV (s : Bool) : Value := .iface (sdT s) (.agg #[])

theorem Tryz.infoPl : (Tryz.prog.info? 90).map (·.size) = some 8 := by kernel_rfl
theorem Tryz.infoRg : (Tryz.prog.info? 51).map (·.size) = some 2 := by kernel_rfl
/-- A place laid into a variable, as one step. -/
theorem store_pl {w : World} {N : Nat} {C : Array Value} {T : TypeId} (h : w.heap[N]? = some (.cells C T (0, 0))) (hc : C.size = 8) (a b t s c d e f : Int) :
    (Instr.storeAt 90 (.pointer (some ⟨N, 0, none⟩)) (.agg #[.int .i64 a, .int .i64 b, .int .i64 t, .int .i64 s, .int .i64 c, .int .i64 d, .int .i64 e, .int .i64 f])).run Tryz.prog w =
      .ok () (w.setCells N 0 [.int .i64 a, .int .i64 b, .int .i64 t, .int .i64 s, .int .i64 c, .int .i64 d, .int .i64 e, .int .i64 f]) :=
  run_storeAt_mid w N 0 90 #[.int .i64 a, .int .i64 b, .int .i64 t, .int .i64 s, .int .i64 c, .int .i64 d, .int .i64 e, .int .i64 f] (known_there h (by simp [hc])) Tryz.infoPl (by simp [Value.oneCell'])

theorem boutside_any (n lo hi : Int) (w : World) : Calls Tryz.prog 75 #[.int .i64 n, .int .i64 lo, .int .i64 hi] w (BoolEnd (decide (n < lo) || decide (hi < n)) w) := by
  by_cases h1 : n < lo
  · go_enter Tryz.func75, Tryz.ntmps75
    go_wp2
    go_ret
    exact ⟨by simp [h1], Below.refl _ _⟩
  · by_cases h2 : hi < n
    · go_enter Tryz.func75, Tryz.ntmps75
      go_wp2
      go_ret
      exact ⟨by simp [h1, h2], Below.refl _ _⟩
    · go_enter Tryz.func75, Tryz.ntmps75
      go_wp2
      go_ret
      exact ⟨by simp [h1, h2], Below.refl _ _⟩

theorem sideOf_any (t : Int) (w : World) : Calls Tryz.prog 81 #[.int .i64 t] w (ValEnd (sdV (t == 0)) w) := by
  by_cases h : t = 0
  · have hb : (t == 0) = true := by simpa using h
    go_enter Tryz.func81, Tryz.ntmps81
    go_wp2
    go_ret
    exact ⟨by simp [sdV, sdT, h], Below.refl _ _⟩
  · have hb : (t == 0) = false := by simpa using h
    go_enter Tryz.func81, Tryz.ntmps81
    go_wp2
    go_ret
    exact ⟨by simp [sdV, sdT, hb], Below.refl _ _⟩

theorem side_any (a b t s c d e f : Int) (w : World) : Calls Tryz.prog 56 #[plV a b t s c d e f] w (ValEnd (sdV (t == 0)) w) := by
  have HS := fun w => sideOf_any t w
  unfold plV
  go_enter Tryz.func56, Tryz.ntmps56
  go_wp2_with (go_at_call 81; refine (HS _).mono ?_; rintro r w' ⟨rfl, hb⟩)
  go_ret
  exact ⟨rfl, (below_alloc w _).trans (hb.mono (by simp))⟩

theorem over_any (a b t s c d e f : Int) (w : World) : Calls Tryz.prog 105 #[plV a b t s c d e f] w (BoolEnd (a == b || s == 2) w) := by
  unfold plV
  by_cases h1 : a = b
  · have hb : (a == b) = true := by simpa using h1
    go_enter Tryz.func105, Tryz.ntmps105
    go_wp2
    go_ret
    exact ⟨by simp [hb], below_alloc w _⟩
  · have hb : (a == b) = false := by simpa using h1
    go_enter Tryz.func105, Tryz.ntmps105
    go_wp2
    go_ret
    exact ⟨by simp [hb], below_alloc w _⟩

theorem price_any (a b t s c d e f : Int) (w : World) : Calls Tryz.prog 128 #[plV a b t s c d e f] w (IntEnd (if a = b then a else -1) w) := by
  unfold plV
  by_cases h1 : a = b
  · have hb : (a == b) = true := by simpa using h1
    go_enter Tryz.func128, Tryz.ntmps128
    go_wp2
    go_ret
    exact ⟨by simp [h1], below_alloc w _⟩
  · have hb : (a == b) = false := by simpa using h1
    go_enter Tryz.func128, Tryz.ntmps128
    go_wp2
    go_ret
    exact ⟨by simp [h1], below_alloc w _⟩

theorem assert_s (w : World) : (Instr.typeAssert (.iface 117 (.agg #[])) 123 117 true).run Tryz.prog w = .ok (.tuple #[.agg #[], .bool true]) w := by kernel_rfl
theorem assert_b (w : World) : (Instr.typeAssert (.iface 118 (.agg #[])) 123 117 true).run Tryz.prog w = .ok (.tuple #[.agg #[], .bool false]) w := by kernel_rfl

set_option maxRecDepth 100000 in
theorem left_any (sd : Bool) (a b t s c d e f : Int) (w : World) : Calls Tryz.prog 74 #[plV a b t s c d e f, sdV sd] w (ValEnd (if sd then rgV c d else rgV e f) w) := by
  have hs := assert_s
  have hb := assert_b
  unfold plV
  cases sd with
  | true =>
    simp only [sdV, sdT, if_true]
    go_enter Tryz.func74, Tryz.ntmps74
    go_wp2
    refine bodyPost_ret (v := rgV c d) (by simp [results, Tryz.results74, go_sem, rgV]) rfl ⟨rfl, ?_⟩
    repeat' (first | exact Below.refl _ _ | refine Below.setCell ?_ (by first | (simp; done) | (simp; omega)) _ | refine Below.alloc ?_ (by first | (simp; done) | (simp; omega)) _)
  | false =>
    simp only [sdV, sdT, Bool.false_eq_true, if_false]
    go_enter Tryz.func74, Tryz.ntmps74
    go_wp2
    refine bodyPost_ret (v := rgV e f) (by simp [results, Tryz.results74, go_sem, rgV]) rfl ⟨rfl, ?_⟩
    repeat' (first | exact Below.refl _ _ | refine Below.setCell ?_ (by first | (simp; done) | (simp; omega)) _ | refine Below.alloc ?_ (by first | (simp; done) | (simp; omega)) _)
end Go.Proofs.YtemoepcfmpapoaaGreatDoor
