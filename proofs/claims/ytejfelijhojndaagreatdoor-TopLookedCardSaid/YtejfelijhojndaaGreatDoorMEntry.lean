/-
  The bag of the statements' numbers: what its methods return, whatever numbers it holds: 'draw' some number, 'UpTo' some number up to n, 'Among' one between two, 'Once' some bool, 'Pick' one of the numbers. The bag's own block alone is written.
-/
import Derived.Test.YtejfelijhojndaaGreatDoorProg
import Derived.WalkKit
import Derived.RegionTactic
import Derived.ChangeAlike
import Derived.Deep.QuietTactic
import Derived.BigQuiet
import Derived.StillTailTactics
import Derived.Lib.Hide
import Derived.Laws.Closers25b
namespace Go.Proofs.YtejfelijhojndaaGreatDoor
open Go.RowKit Go.Proofs

/-- All that was there lies as it lay, but for block b. -/
structure Kept (b : Nat) (w w' : World) : Prop where
  os : w'.os = w.os
  tape : w'.tape = w.tape
  output : w'.output = w.output
  size : w.heap.size ≤ w'.heap.size
  block : ∀ k, k < w.heap.size → k ≠ b → w'.heap[k]? = w.heap[k]?

theorem Kept.refl (b : Nat) (w : World) : Kept b w w := ⟨rfl, rfl, rfl, Nat.le_refl _, fun _ _ _ => rfl⟩
theorem Kept.trans {b : Nat} {x y z : World} (h : Kept b x y) (k : Kept b y z) : Kept b x z :=
  ⟨k.os.trans h.os, k.tape.trans h.tape, k.output.trans h.output, Nat.le_trans h.size k.size, fun i hi hb => (k.block i (Nat.lt_of_lt_of_le hi h.size) hb).trans (h.block i hi hb)⟩
theorem Kept.drew {b : Nat} {x y : World} (h : Kept b x y) : Kept b x y.drew := ⟨h.os, h.tape, h.output, h.size, h.block⟩
theorem Kept.drewN {b : Nat} {x y : World} (h : Kept b x y) (n : Nat) : Kept b x (y.drewN n) := ⟨h.os, h.tape, h.output, h.size, h.block⟩
theorem Kept.alloc {b : Nat} {x y : World} (h : Kept b x y) (o : Obj) : Kept b x (y.alloc o) :=
  h.trans ⟨rfl, rfl, rfl, by simp, fun k hk _ => Below.heap_alloc _ _ _ hk⟩
theorem Kept.setCell {b : Nat} {x y : World} (h : Kept b x y) {p : Addr} (hp : p.block = b ∨ x.heap.size ≤ p.block) (v : Value) : Kept b x (y.setCell p v) :=
  ⟨h.os, h.tape, h.output, by simpa using h.size, fun k hk hb => (Below.heap_setCell _ _ _ _ (by omega)).trans (h.block k hk hb)⟩
theorem Kept.of_below {b : Nat} {x y z : World} (h : Kept b x y) (k : Below x.heap.size y z) : Kept b x z :=
  ⟨k.os.trans h.os, k.tape.trans h.tape, k.output.trans h.output, Nat.le_trans h.size k.size, fun i hi hb => (k.block i hi).trans (h.block i hi hb)⟩
theorem Kept.cell {b : Nat} {w w' : World} (h : Kept b w w') {p : Addr} (hp : p.block < w.heap.size) (hb : p.block ≠ b) : w'.cell? p = w.cell? p := World.cell?_of_block (w := w) (h.block p.block hp hb)
theorem Kept.frozen {b : Nat} {w w' : World} (h : Kept b w w') {p : Addr} (hp : p.block < w.heap.size) (hb : p.block ≠ b) : w'.frozen? p = w.frozen? p := World.frozen?_of_block (w := w) (h.block p.block hp hb)

/-- Block b is a bag from which t numbers were taken. -/
def Bag (w : World) (b t : Nat) : Prop :=
  ∃ (a : Option Addr) (len cap : Nat) (m : Int) (T : TypeId), w.heap[b]? = some (.cells #[.slice a len cap, .int .i64 t, .int .u64 m] T (0, 0)) ∧
    ∀ j, j < len → ∃ nb off x, a = some ⟨nb, off, none⟩ ∧ nb < b ∧ w.cell? ⟨nb, off + j, none⟩ = some (.int .i64 x)

theorem Bag.lt {w : World} {b t : Nat} (h : Bag w b t) : b < w.heap.size := by
  obtain ⟨a, len, cap, m, T, hh, _⟩ := h
  exact (Array.getElem?_eq_some_iff.1 hh).1

/-- A bag stays one while other blocks are written. -/
theorem Bag.same {w w' : World} {b t : Nat} (h : Bag w b t) (hs : ∀ k, k ≤ b → w'.heap[k]? = w.heap[k]?) : Bag w' b t := by
  obtain ⟨a, len, cap, m, T, hh, hn⟩ := h
  refine ⟨a, len, cap, m, T, (hs b (Nat.le_refl b)).trans hh, fun j hj => ?_⟩
  obtain ⟨nb, off, x, ha, hb, hc⟩ := hn j hj
  exact ⟨nb, off, x, ha, hb, (World.cell?_of_block (w := w) (hs nb (Nat.le_of_lt hb))).trans hc⟩
theorem Bag.below {w w' : World} {b t B : Nat} (h : Bag w b t) (k : Below B w w') (hB : b < B) : Bag w' b t := h.same fun i hi => k.block i (by omega)
theorem Bag.alloc {w : World} {b t : Nat} (h : Bag w b t) (o : Obj) : Bag (w.alloc o) b t := h.same fun k hk => Below.heap_alloc _ _ _ (by have := h.lt; omega)
theorem Bag.drew {w : World} {b t : Nat} (h : Bag w b t) : Bag w.drew b t := h
theorem Bag.drewN {w : World} {b t : Nat} (h : Bag w b t) (n : Nat) : Bag (w.drewN n) b t := h.same (w' := w.drewN n) fun _ _ => rfl

/-- What a draw leaves. -/
theorem Bag.drawn {w w' : World} {b : Nat} {t : Nat} {a : Option Addr} {len cap : Nat} {m' : Int} {T : TypeId}
    (hn : ∀ j, j < len → ∃ nb off x, a = some ⟨nb, off, none⟩ ∧ nb < b ∧ w.cell? ⟨nb, off + j, none⟩ = some (.int .i64 x))
    (hk : Kept b w w') (hw : w'.heap[b]? = some (.cells #[.slice a len cap, .int .i64 ((t : Int) + 1), .int .u64 m'] T (0, 0))) : Bag w' b (t + 1) := by
  refine ⟨a, len, cap, m', T, by rw [hw]; rfl, fun j hj => ?_⟩
  obtain ⟨nb, off, x, ha, hb, hc⟩ := hn j hj
  exact ⟨nb, off, x, ha, hb, (hk.cell (World.block_lt_of_cell? w _ hc) (Nat.ne_of_lt hb)).trans hc⟩

theorem Bag.setCell {w : World} {b t : Nat} (h : Bag w b t) {a : Addr} (ha : b < a.block) (v : Value) : Bag (w.setCell a v) b t := h.same fun k hk => Below.heap_setCell _ _ _ _ (by omega)
theorem Bag.grown {w w' : World} {b t : Nat} {row : Option Nat} (h : Bag w b t) (hg : w.grownBy w' row) (hr : ∀ k, row = some k → b < k) : Bag w' b t :=
  h.same fun k hk => hg.block k (by have := h.lt; omega) (fun e => by have := hr k e.symm; omega)

theorem three_setCell {w : World} {b i : Nat} {x y z v : Value} {T : TypeId} {f : Nat × Nat} (h : w.heap[b]? = some (.cells #[x, y, z] T f)) :
    (w.setCell ⟨b, i, none⟩ v).heap[b]? = some (.cells (#[x, y, z].setIfInBounds i v) T f) := by
  simp [World.setCell, Array.getElem?_modify, h]

/-- The walk's end: what it stored, in a form that the walk does not look into. -/
def DrawEnd (b t : Nat) (w : World) (e : Ending) (w' : World) : Prop :=
  ∃ x : Int, 0 ≤ x ∧ x < 18446744073709551616 ∧ e = .returned (.int .u64 x) ∧ Bag w' b (t + 1) ∧ Kept b w w'

theorem drawEnd_of {b t : Nat} {w W W1 : World} {a : Option Addr} {len cap : Nat} {m m1 m2 x : Int} {T : TypeId} (n k : Nat)
    (hh : w.heap[b]? = some (.cells #[.slice a len cap, .int .i64 t, .int .u64 m] T (0, 0)))
    (hn : ∀ j, j < len → ∃ nb off x, a = some ⟨nb, off, none⟩ ∧ nb < b ∧ w.cell? ⟨nb, off + j, none⟩ = some (.int .i64 x))
    (hW : ((w.setCell ⟨b, 1, none⟩ (.int .i64 ((t : Int) + 1))).drewN n).setCell ⟨b, 2, none⟩ (.int .u64 m1) = W) (hW1 : W.drewN k = W1) (hx0 : 0 ≤ x) (hx : x < 18446744073709551616) :
    DrawEnd b t w (.returned (.int .u64 x)) (W1.setCell ⟨b, 2, none⟩ (.int .u64 m2)) := by
  subst hW1; subst hW
  have hk : Kept b w (((((w.setCell ⟨b, 1, none⟩ (.int .i64 ((t : Int) + 1))).drewN n).setCell ⟨b, 2, none⟩ (.int .u64 m1)).drewN k).setCell ⟨b, 2, none⟩ (.int .u64 m2)) :=
    (((((Kept.refl b w).setCell (.inl rfl) _).drewN n).setCell (.inl rfl) _).drewN k).setCell (.inl rfl) _
  refine ⟨x, hx0, hx, rfl, Bag.drawn (m' := m2) (cap := cap) (T := T) hn hk ?_, hk⟩
  have h1 := three_setCell (i := 1) (v := .int .i64 ((t : Int) + 1)) hh
  have h2 := three_setCell (w := (w.setCell ⟨b, 1, none⟩ (.int .i64 ((t : Int) + 1))).drewN n) (i := 2) (v := .int .u64 m1) (by simpa using h1)
  have h3 := three_setCell (w := (((w.setCell ⟨b, 1, none⟩ (.int .i64 ((t : Int) + 1))).drewN n).setCell ⟨b, 2, none⟩ (.int .u64 m1)).drewN k) (i := 2) (v := .int .u64 m2) (by simpa using h2)
  simpa using h3
theorem draw_x (a b : Int) : 0 ≤ bits .xor .u64 a b / 2048 ∧ bits .xor .u64 a b / 2048 < 18446744073709551616 := by
  have h := bits_within .xor .u64 a b
  have h1 : IntKind.u64.min = 0 := by decide
  have h2 : IntKind.u64.max = 18446744073709551615 := by decide
  rw [h1, h2] at h
  omega

set_option maxRecDepth 100000 in
set_option maxHeartbeats 800000 in
theorem draw_no (b t : Nat) (a : Option Addr) (len cap : Nat) (m : Int) (T : TypeId) (w : World) (ht : t ≤ 1000000000) (hlen : len ≤ t)
    (hh : w.heap[b]? = some (.cells #[.slice a len cap, .int .i64 t, .int .u64 m] T (0, 0)))
    (hn : ∀ j, j < len → ∃ nb off x, a = some ⟨nb, off, none⟩ ∧ nb < b ∧ w.cell? ⟨nb, off + j, none⟩ = some (.int .i64 x)) :
    Calls Tryz.prog 21 #[.pointer (some ⟨b, 0, none⟩)] w (DrawEnd b t w) := by
  have h0 : w.cell? ⟨b, 0, none⟩ = some (.slice a len cap) := by simp [World.cell?, hh]
  have h1 : w.cell? ⟨b, 1, none⟩ = some (.int .i64 t) := by simp [World.cell?, hh]
  have h2 : w.cell? ⟨b, 2, none⟩ = some (.int .u64 m) := by simp [World.cell?, hh]
  have hf1 : w.frozen? ⟨b, 1, none⟩ = false := by simp [World.frozen?, hh]
  have hf2 : w.frozen? ⟨b, 2, none⟩ = false := by simp [World.frozen?, hh]
  have HH := Lib.hid hh
  have HN := Lib.hid hn
  clear hh hn
  go_enter Tryz.func21, Tryz.ntmps21
  go_wp2
  go_quiet (fail)
  go_wp2
  generalize hm1 : IntKind.u64.wrap (bits BinOp.xor IntKind.u64 m _ * 18397679294719823053) = m1
  generalize hW : World.setCell _ _ _ = W
  have c2 : W.cell? ⟨b, 2, none⟩ = some (.int .u64 m1) := by
    rw [← hW]; exact World.cell?_setCell_same _ _ _ (u := .int .u64 m) (by simp [World.cell?_setCell_other, h2])
  have f2 : W.frozen? ⟨b, 2, none⟩ = false := by
    rw [← hW]; simp [hf2]
  have HW := Lib.hid hW
  clear hW h0 h1 h2 hf1 hf2 hlen hm1
  refine wp_region_still_tail 13 (by kernel_rfl) (by kernel_rfl) ?_
  simp only [List.take_succ_cons, List.take_zero, List.drop_succ_cons, List.drop_zero]
  repeat still_step
  refine wpStill_nil ?_
  generalize bits BinOp.xor IntKind.u64 m1 (m1 / 8589934592) = m2
  rw [World.drew_eq]
  generalize hW1 : W.drew = W1
  have c2' : W1.cell? ⟨b, 2, none⟩ = some (.int .u64 m1) := by rw [← hW1]; exact c2
  have f2' : W1.frozen? ⟨b, 2, none⟩ = false := by rw [← hW1]; exact f2
  have HW1 := Lib.hid hW1
  clear hW1 c2 f2
  go_wp2
  go_ret
  exact drawEnd_of _ 1 HH.out HN.out HW.out HW1.out (draw_x _ _).1 (draw_x _ _).2

theorem drawEnd_of0 {b t : Nat} {w W0 W W1 : World} {a : Option Addr} {len cap : Nat} {m m1 m2 x : Int} {T : TypeId} (n k : Nat)
    (hh : w.heap[b]? = some (.cells #[.slice a len cap, .int .i64 t, .int .u64 m] T (0, 0)))
    (hn : ∀ j, j < len → ∃ nb off x, a = some ⟨nb, off, none⟩ ∧ nb < b ∧ w.cell? ⟨nb, off + j, none⟩ = some (.int .i64 x))
    (hW0 : w.setCell ⟨b, 1, none⟩ (.int .i64 ((t : Int) + 1)) = W0) (hW : (W0.drewN n).setCell ⟨b, 2, none⟩ (.int .u64 m1) = W) (hW1 : W.drewN k = W1) (hx0 : 0 ≤ x) (hx : x < 18446744073709551616) :
    DrawEnd b t w (.returned (.int .u64 x)) (W1.setCell ⟨b, 2, none⟩ (.int .u64 m2)) := by
  subst hW0
  exact drawEnd_of n k hh hn hW hW1 hx0 hx

set_option maxRecDepth 100000 in
set_option maxHeartbeats 800000 in
theorem draw_yes (b t : Nat) (nb off : Nat) (len cap : Nat) (m y : Int) (T : TypeId) (w : World) (ht : t ≤ 1000000000) (hlen : t < len) (hb : nb < b)
    (hh : w.heap[b]? = some (.cells #[.slice (some ⟨nb, off, none⟩) len cap, .int .i64 t, .int .u64 m] T (0, 0)))
    (hn : ∀ j, j < len → ∃ nb' off' x, (some ⟨nb, off, none⟩ : Option Addr) = some ⟨nb', off', none⟩ ∧ nb' < b ∧ w.cell? ⟨nb', off' + j, none⟩ = some (.int .i64 x))
    (hy : w.cell? ⟨nb, off + t, none⟩ = some (.int .i64 y)) :
    Calls Tryz.prog 21 #[.pointer (some ⟨b, 0, none⟩)] w (DrawEnd b t w) := by
  have h0 : w.cell? ⟨b, 0, none⟩ = some (.slice (some ⟨nb, off, none⟩) len cap) := by simp [World.cell?, hh]
  have h1 : w.cell? ⟨b, 1, none⟩ = some (.int .i64 t) := by simp [World.cell?, hh]
  have h2 : w.cell? ⟨b, 2, none⟩ = some (.int .u64 m) := by simp [World.cell?, hh]
  have hf1 : w.frozen? ⟨b, 1, none⟩ = false := by simp [World.frozen?, hh]
  have hf2 : w.frozen? ⟨b, 2, none⟩ = false := by simp [World.frozen?, hh]
  have HH := Lib.hid hh
  have HN := Lib.hid hn
  clear hh hn
  go_enter Tryz.func21, Tryz.ntmps21
  go_wp2
  generalize hW0 : World.setCell _ _ _ = W0
  have d0 : W0.cell? ⟨b, 0, none⟩ = some (.slice (some ⟨nb, off, none⟩) len cap) := by
    rw [← hW0]; exact (World.cell?_setCell_other _ _ _ _ (by simp)).trans h0
  have d1 : W0.cell? ⟨b, 1, none⟩ = some (.int .i64 ((t : Int) + 1)) := by
    rw [← hW0]; exact World.cell?_setCell_same _ _ _ h1
  have d2 : W0.cell? ⟨b, 2, none⟩ = some (.int .u64 m) := by
    rw [← hW0]; exact (World.cell?_setCell_other _ _ _ _ (by simp)).trans h2
  have d3 : W0.cell? ⟨nb, off + t, none⟩ = some (.int .i64 y) := by
    rw [← hW0]; exact (World.cell?_setCell_other _ _ _ _ (by intro e; have he := congrArg Addr.block e; simp at he; omega)).trans hy
  have g2 : W0.frozen? ⟨b, 2, none⟩ = false := by
    rw [← hW0]; simp [hf2]
  have HW0 := Lib.hid hW0
  clear hW0 h0 h1 h2 hf1 hf2 hy
  go_quiet (fail)
  go_wp2
  have hi1 : (0 : Int) ≤ (t : Int) := by omega
  have hi2 : (t : Int) < (len : Int) := by omega
  go_quiet (fail)
  go_wp2
  generalize hm1 : IntKind.u64.wrap (bits BinOp.xor IntKind.u64 m _ * 18397679294719823053) = m1
  generalize hW : World.setCell _ _ _ = W
  have c2 : W.cell? ⟨b, 2, none⟩ = some (.int .u64 m1) := by
    rw [← hW]; exact World.cell?_setCell_same _ _ _ (u := .int .u64 m) (by simp [d2])
  have f2 : W.frozen? ⟨b, 2, none⟩ = false := by
    rw [← hW]; simp [g2]
  have HW := Lib.hid hW
  clear hW d0 d1 d2 d3 g2 hlen hm1 hi1 hi2
  refine wp_region_still_tail 13 (by kernel_rfl) (by kernel_rfl) ?_
  simp only [List.take_succ_cons, List.take_zero, List.drop_succ_cons, List.drop_zero]
  repeat still_step
  refine wpStill_nil ?_
  generalize bits BinOp.xor IntKind.u64 m1 (m1 / 8589934592) = m2
  rw [World.drew_eq]
  generalize hW1 : W.drew = W1
  have c2' : W1.cell? ⟨b, 2, none⟩ = some (.int .u64 m1) := by rw [← hW1]; exact c2
  have f2' : W1.frozen? ⟨b, 2, none⟩ = false := by rw [← hW1]; exact f2
  have HW1 := Lib.hid hW1
  clear hW1 c2 f2
  go_wp2
  go_ret
  exact drawEnd_of0 _ 1 HH.out HN.out HW0.out HW.out HW1.out (draw_x _ _).1 (draw_x _ _).2

theorem draw_any (b t : Nat) (w : World) (hB : Bag w b t) (ht : t ≤ 1000000000) :
    Calls Tryz.prog 21 #[.pointer (some ⟨b, 0, none⟩)] w (DrawEnd b t w) := by
  obtain ⟨a, len, cap, m, T, hh, hn⟩ := hB
  rcases Nat.lt_or_ge t len with h | h
  · obtain ⟨nb, off, y, rfl, hb, hy⟩ := hn t h
    exact draw_yes b t nb off len cap m y T w ht h hb hh hn hy
  · exact draw_no b t a len cap m T w ht h hh hn
end Go.Proofs.YtejfelijhojndaaGreatDoor

/-
  The bag's other methods by contracts: UpTo, Among, Once, Pick, NewBag.
-/
namespace Go.Proofs.YtejfelijhojndaaGreatDoor
open Go.RowKit Go.Proofs

def UpToEnd (b t : Nat) (n : Int) (w : World) (e : Ending) (w' : World) : Prop :=
  ∃ r : Int, 0 ≤ r ∧ (r ≤ n ∨ r = 0) ∧ e = .returned (.int .i64 r) ∧ Bag w' b (t + 1) ∧ Kept b w w'

theorem upTo_r (x n : Int) (hn : 1 ≤ n) : 0 ≤ x % (n + 1) ∧ x % (n + 1) ≤ n :=
  ⟨Int.emod_nonneg _ (by omega), by have := Int.emod_lt_of_pos x (show 0 < n + 1 by omega); omega⟩

theorem ret_wrap64 {x : Int} (h1 : -9223372036854775808 ≤ x) (h2 : x ≤ 9223372036854775807) : Ending.returned (.int .i64 (wrap64 x)) = .returned (.int .i64 x) := by
  rw [show wrap64 x = x from IntWalk.wrap64_in x ⟨h1, h2⟩]

set_option maxRecDepth 100000 in
theorem upTo_any (b t : Nat) (n : Int) (w : World) (hB : Bag w b t) (ht : t ≤ 1000000000) (hn : n ≤ 1000000000) (hn0 : -1000000000 ≤ n) :
    Calls Tryz.prog 8 #[.pointer (some ⟨b, 0, none⟩), .int .i64 n] w (UpToEnd b t n w) := by
  have HD := fun w (h : Bag w b t) => draw_any b t w h ht
  by_cases h : n < 1
  · go_enter Tryz.func8, Tryz.ntmps8
    go_wp2_with (go_at_call 21; refine (HD _ hB).mono ?_; rintro e w' ⟨x, hx0, hx, rfl, hB', hk⟩)
    go_ret
    exact ⟨0, by omega, .inr rfl, rfl, hB', hk⟩
  · have h1 : 1 ≤ n := by omega
    go_enter Tryz.func8, Tryz.ntmps8
    go_wp2_with (go_at_call 21; refine (HD _ hB).mono ?_; rintro e w' ⟨x, hx0, hx, rfl, hB', hk⟩)
    go_ret
    have hr := upTo_r x n h1
    exact ⟨x % (n + 1), hr.1, .inl hr.2, ret_wrap64 (by omega) (by omega), hB', hk⟩

def AmongEnd (b t : Nat) (lo hi : Int) (w : World) (e : Ending) (w' : World) : Prop :=
  ∃ r : Int, lo ≤ r ∧ (r ≤ hi ∨ r = lo) ∧ e = .returned (.int .i64 r) ∧ Bag w' b (t + 1) ∧ Kept b w w'

set_option maxRecDepth 100000 in
theorem among_any (b t : Nat) (lo hi : Int) (w : World) (hB : Bag w b t) (ht : t ≤ 1000000000) (h1 : lo ≤ 100000000) (h2 : -100000000 ≤ lo) (h3 : hi ≤ 100000000) (h4 : -100000000 ≤ hi) :
    Calls Tryz.prog 14 #[.pointer (some ⟨b, 0, none⟩), .int .i64 lo, .int .i64 hi] w (AmongEnd b t lo hi w) := by
  have HD := fun w (h : Bag w b t) => upTo_any b t (hi - lo) w h ht (by omega) (by omega)
  go_enter Tryz.func14, Tryz.ntmps14
  go_wp2_with (go_at_call 8; refine (HD _ hB).mono ?_; rintro e w' ⟨r, hr0, hr1, rfl, hB', hk⟩)
  go_ret
  exact ⟨lo + r, by omega, by omega, by first | rfl | exact ret_wrap64 (by omega) (by omega), hB', hk⟩

def OnceEnd (b t : Nat) (w : World) (e : Ending) (w' : World) : Prop :=
  ∃ r : Bool, e = .returned (.bool r) ∧ Bag w' b (t + 1) ∧ Kept b w w'

set_option maxRecDepth 100000 in
theorem once_any (b t : Nat) (n : Int) (w : World) (hB : Bag w b t) (ht : t ≤ 1000000000) (h1 : n ≤ 100000000) (h2 : -100000000 ≤ n) :
    Calls Tryz.prog 16 #[.pointer (some ⟨b, 0, none⟩), .int .i64 n] w (OnceEnd b t w) := by
  have HD := fun w (h : Bag w b t) => upTo_any b t (n - 1) w h ht (by omega) (by omega)
  go_enter Tryz.func16, Tryz.ntmps16
  go_wp2_with (go_at_call 8; refine (HD _ hB).mono ?_; rintro e w' ⟨r, hr0, hr1, rfl, hB', hk⟩)
  go_ret
  exact ⟨_, rfl, hB', hk⟩

/-- A slice of integers that reads as l. -/
def Ints (w : World) (v : Value) (l : List Int) : Prop :=
  ∃ a cap, v = .slice a l.length cap ∧ (0 < l.length → ∃ b off, a = some ⟨b, off, none⟩ ∧ ∀ j, j < l.length → w.cell? ⟨b, off + j, none⟩ = some (.int .i64 (l[j]?.getD 0)))

theorem Ints.same {w w' : World} {v : Value} {l : List Int} (h : Ints w v l) (hs : ∀ a u, w.cell? a = some u → w'.cell? a = some u) : Ints w' v l := by
  obtain ⟨a, cap, rfl, hc⟩ := h
  refine ⟨a, cap, rfl, fun hl => ?_⟩
  obtain ⟨b, off, rfl, hd⟩ := hc hl
  exact ⟨b, off, rfl, fun j hj => hs _ _ (hd j hj)⟩

def PickEnd (b t : Nat) (l : List Int) (w : World) (e : Ending) (w' : World) : Prop :=
  ∃ r : Int, r ∈ l ∧ e = .returned (.int .i64 r) ∧ Bag w' b (t + 1) ∧ Kept b w w'

theorem getD_mem {l : List Int} {j : Nat} (h : j < l.length) : l[j]?.getD 0 ∈ l := by
  rw [List.getElem?_eq_getElem h]; exact List.getElem_mem h

set_option maxRecDepth 100000 in
theorem pick_any (b t lb off cap : Nat) (l : List Int) (w : World) (hB : Bag w b t) (ht : t ≤ 1000000000) (hl : 0 < l.length) (hm : l.length ≤ 1000000) (hne : lb ≠ b)
    (hc : ∀ j, j < l.length → w.cell? ⟨lb, off + j, none⟩ = some (.int .i64 (l[j]?.getD 0))) :
    Calls Tryz.prog 19 #[.pointer (some ⟨b, 0, none⟩), .slice (some ⟨lb, off, none⟩) l.length cap] w (PickEnd b t l w) := by
  have HD := fun w (h : Bag w b t) => upTo_any b t ((l.length : Int) - 1) w h ht (by omega) (by omega)
  go_enter Tryz.func19, Tryz.ntmps19
  go_wp2_with (go_at_call 8; (refine (HD _ hB).mono ?_; rintro e w' ⟨r, hr0, hr1, rfl, hB', hk⟩; obtain ⟨k, rfl⟩ := Int.eq_ofNat_of_zero_le hr0; have hk1 : k < l.length := (by omega); have hk2 : (k : Int) < (l.length : Int) := (by omega); have hck := (hk.cell (p := ⟨lb, off + k, none⟩) (World.block_lt_of_cell? w _ (hc k hk1)) hne).trans (hc k hk1); have HK := Lib.hid hk; clear hk))
  go_ret
  exact ⟨_, List.getElem_mem (by assumption), rfl, hB', HK.out⟩

/-- 'Where': not below 0 just if the number is there. -/
def WhereEnd (l : List Int) (n : Int) (w : World) (e : Ending) (w' : World) : Prop :=
  ∃ r : Int, -1 ≤ r ∧ r < l.length ∧ (0 ≤ r ↔ n ∈ l) ∧ e = .returned (.int .i64 r) ∧ w = w'

theorem where_no {l : List Int} {n : Int} (h : ∀ j, j < l.length → (l[j]?.getD 0) ≠ n) : n ∉ l := by
  intro hm
  obtain ⟨j, hj, rfl⟩ := List.getElem_of_mem hm
  exact h j hj (by simp [hj])

set_option maxRecDepth 100000 in
theorem where_any (v : Value) (l : List Int) (n : Int) (w : World) (hv : Ints w v l) (hm : l.length ≤ 1000000) :
    Calls Tryz.prog 17 #[v, .int .i64 n] w (WhereEnd l n w) := by
  obtain ⟨a, cap, rfl, hc⟩ := hv
  have HC := Lib.hid hc
  clear hc
  go_enter Tryz.func17, Tryz.ntmps17
  go_wp2
  go_loop [5] (fun i => ∃ k : Nat, k ≤ l.length ∧ i = .int .i64 k ∧ ∀ j, j < k → (l[j]?.getD 0) ≠ n) (fun i => l.length - (intOf i).toNat)
  case atStart => exact ⟨0, Nat.zero_le _, rfl, fun j hj => absurd hj (Nat.not_lt_zero j)⟩
  case round =>
    obtain ⟨k, hk, rfl, hno⟩ := hrel
    have HNO := Lib.hid hno
    clear hno
    by_cases hlt : k < l.length
    · obtain ⟨b, off, rfl, hcc⟩ := HC.out (by omega)
      have hck := hcc k hlt
      have hgd : l[k]?.getD 0 = l[k] := by simp [hlt]
      rw [hgd] at hck
      have HG := Lib.hid hgd
      clear hcc hgd
      by_cases heq : l[k] = n
      · have HE := Lib.hid heq
        have heb : (l[k] == n) = true := by simpa using heq
        clear heq
        go_wp2
        go_ret
        refine ⟨k, by omega, by omega, ⟨fun _ => ?_, fun _ => by omega⟩, rfl, rfl⟩
        have := HE.out
        rw [← this]; exact List.getElem_mem hlt
      · have heb : (l[k] == n) = false := by simpa using heq
        have HE := Lib.hid heq
        clear heq
        go_wp2
        go_round
        case rel => exact ⟨k + 1, by omega, by go_num, fun j hj => by rcases Nat.lt_succ_iff_lt_or_eq.1 hj with h | rfl; exact HNO.out j h; rw [HG.out]; exact HE.out⟩
        case measure => simp [intOf]; omega
    · have HKL := Lib.hid (show k = l.length by omega)
      go_wp2
      go_ret
      exact ⟨-1, by omega, by omega, ⟨fun h => by omega, fun h => absurd h (where_no fun j hj => HNO.out j (by omega))⟩, rfl, rfl⟩
end Go.Proofs.YtejfelijhojndaaGreatDoor

/-
  'Changed' of two lists of numbers, by contract.
-/
namespace Go.Proofs.YtejfelijhojndaaGreatDoor
open Go.RowKit Go.Proofs

/-- How many of the first k of l are not in m. -/
def notIn (l m : List Int) (k : Nat) : Nat := ((l.take k).filter (fun x => decide (x ∉ m))).length
theorem notIn_zero (l m : List Int) : notIn l m 0 = 0 := by simp [notIn]
theorem notIn_le (l m : List Int) (k : Nat) : notIn l m k ≤ k := Nat.le_trans (List.length_filter_le _ _) (List.length_take_le _ _)
theorem notIn_in {l m : List Int} {k : Nat} (hk : k < l.length) (h : l[k] ∈ m) : notIn l m (k + 1) = notIn l m k := by
  unfold notIn; rw [List.take_succ_eq_append_getElem hk, List.filter_append]; simp [h]
theorem notIn_out {l m : List Int} {k : Nat} (hk : k < l.length) (h : l[k] ∉ m) : notIn l m (k + 1) = notIn l m k + 1 := by
  unfold notIn; rw [List.take_succ_eq_append_getElem hk, List.filter_append]; simp [h]
/-- How many numbers just one of two lists has. -/
def changed (a b : List Int) : Nat := notIn a b a.length + notIn b a b.length

theorem ret_i64 {a b : Int} (h : a = b) : Ending.returned (.int .i64 a) = .returned (.int .i64 b) := by rw [h]

theorem ints_at {w : World} {v : Value} {l : List Int} {k : Nat} (h : Ints w v l) (hk : k < l.length) :
    ∃ b off cap, v = .slice (some ⟨b, off, none⟩) l.length cap ∧ w.cell? ⟨b, off + k, none⟩ = some (.int .i64 l[k]) := by
  obtain ⟨a, cap, rfl, hc⟩ := h
  obtain ⟨b, off, rfl, hd⟩ := hc (by omega)
  exact ⟨b, off, cap, rfl, by rw [hd k hk]; simp [hk]⟩

set_option maxRecDepth 100000 in
set_option maxHeartbeats 800000 in
theorem changed_any (va vb : Value) (la lb : List Int) (w : World) (ha : Ints w va la) (hb : Ints w vb lb) (hma : la.length ≤ 1000000) (hmb : lb.length ≤ 1000000) :
    Calls Tryz.prog 18 #[va, vb] w fun e w' => e = .returned (.int .i64 (changed la lb : Nat)) ∧ w = w' := by
  have HA := Lib.hid ha
  have HB := Lib.hid hb
  have WA := fun n => where_any va la n w ha hma
  have WB := fun n => where_any vb lb n w hb hmb
  obtain ⟨aa, ca, rfl, _⟩ := ha
  obtain ⟨ab, cb, rfl, _⟩ := hb
  go_enter Tryz.func18, Tryz.ntmps18
  go_wp2_with fail
  go_loop [5, 6] (fun c i => ∃ k : Nat, k ≤ la.length ∧ i = .int .i64 k ∧ c = .int .i64 (notIn la lb k : Nat)) (fun _ i => la.length - (intOf i).toNat)
  case atStart => exact ⟨0, Nat.zero_le _, rfl, by rw [notIn_zero]; rfl⟩
  case round =>
    obtain ⟨k, hk, rfl, rfl⟩ := hrel
    have hle := notIn_le la lb k
    by_cases hlt : k < la.length
    · obtain ⟨b, off, cap, hv, hck⟩ := ints_at HA.out hlt
      obtain ⟨rfl, rfl⟩ : aa = some ⟨b, off, none⟩ ∧ ca = cap := by simpa using hv
      clear hv
      go_wp2_with (go_at_call 17; refine (WB _).mono ?_; rintro e w' ⟨r, hr1, hr2, hr3, rfl, rfl⟩; have HR := Lib.hid hr3; clear hr3)
      · go_round
        case rel => exact ⟨k + 1, by omega, by go_num, by rw [notIn_out hlt (fun h => by have := HR.out.2 h; omega)]; go_num⟩
        case measure => simp [intOf]; omega
      · go_round
        case rel => exact ⟨k + 1, by omega, by go_num, by rw [notIn_in hlt (HR.out.1 (by omega))]⟩
        case measure => simp [intOf]; omega
    · obtain rfl : k = la.length := by omega
      go_wp2_with fail
      go_loop [5, 7] (fun c i => ∃ k : Nat, k ≤ lb.length ∧ i = .int .i64 k ∧ c = .int .i64 ((notIn la lb la.length : Int) + (notIn lb la k : Int))) (fun _ i => lb.length - (intOf i).toNat)
      case atStart => exact ⟨0, Nat.zero_le _, rfl, by rw [notIn_zero]; go_num⟩
      case round =>
        obtain ⟨k, hk', rfl, rfl⟩ := hrel
        have hle' := notIn_le lb la k
        by_cases hlt' : k < lb.length
        · obtain ⟨b, off, cap, hv, hck⟩ := ints_at HB.out hlt'
          obtain ⟨rfl, rfl⟩ : ab = some ⟨b, off, none⟩ ∧ cb = cap := by simpa using hv
          clear hv
          go_wp2_with (go_at_call 17; refine (WA _).mono ?_; rintro e w' ⟨r, hr1, hr2, hr3, rfl, rfl⟩; have HR := Lib.hid hr3; clear hr3)
          · go_round
            case rel => exact ⟨k + 1, by omega, by go_num, by rw [notIn_out hlt' (fun h => by have := HR.out.2 h; omega)]; go_num⟩
            case measure => simp [intOf]; omega
          · go_round
            case rel => exact ⟨k + 1, by omega, by go_num, by rw [notIn_in hlt' (HR.out.1 (by omega))]⟩
            case measure => simp [intOf]; omega
        · obtain rfl : k = lb.length := by omega
          go_wp2_with fail
          go_ret
          exact ⟨ret_i64 (by unfold changed; omega), rfl⟩
end Go.Proofs.YtejfelijhojndaaGreatDoor

/-
  'EntryOf': an entry that is valid, by contract.
-/
namespace Go.Proofs.YtejfelijhojndaaGreatDoor
open Go.RowKit Go.Proofs

theorem pick_new (b t : Nat) (l : List Int) (T : TypeId) (cap : Nat) (w : World) (hB : Bag w b t) (ht : t ≤ 1000000000) (hl : 0 < l.length) (hm : l.length ≤ 1000000) :
    Calls Tryz.prog 19 #[.pointer (some ⟨b, 0, none⟩), .slice (some ⟨w.heap.size, 0, none⟩) l.length cap] (w.alloc (.cells (l.map (Value.int .i64)).toArray T))
      (PickEnd b t l (w.alloc (.cells (l.map (Value.int .i64)).toArray T))) := by
  have hlt := hB.lt
  refine pick_any b t w.heap.size 0 cap l _ (hB.alloc _) ht hl hm (by omega) fun j hj => ?_
  rw [Nat.zero_add, World.cell?_alloc_new]
  simp [hj]

theorem Kept.grownBy {b : Nat} {w w' : World} (h : Kept b w w') : w.grownBy w' (some b) := ⟨h.os, h.tape, h.output, h.size, fun k hk hb => h.block k hk (fun e => hb (by rw [e]))⟩
theorem Kept.grown {b : Nat} {x y z : World} {row : Option Nat} (h : Kept b x y) (hg : y.grownBy z row) (hr : ∀ k, row = some k → x.heap.size ≤ k) : Kept b x z :=
  ⟨hg.os.trans h.os, hg.tape.trans h.tape, hg.output.trans h.output, Nat.le_trans h.size hg.size, fun k hk hb => (hg.block k (Nat.lt_of_lt_of_le hk h.size) (fun e => by have := hr k e.symm; omega)).trans (h.block k hk hb)⟩
theorem Tryz.infoInt : (Tryz.prog.info? 3).map (fun i => (i.zero, i.size, i.bytes)) = some (some (.int .i64 0), 1, 8) := by kernel_rfl
/-- The entry in the making: block N, with marks below k. -/
structure EntryRel (b t N : Nat) (w : World) (h p c ht s : Int) (k : Nat) (wr : World) (l : List Int) (v : Value) : Prop where
  bag : Bag wr b (t + k)
  kept : Kept b w wr
  zero : wr.heap[w.heap.size]? = some (.cells #[.int .i64 0, .int .i64 0, .int .i64 0, .slice none 0 0, .int .i64 0, .int .i64 0] 57 (0, 0))
  blk : wr.heap[N]? = some (.cells #[.int .i64 h, .int .i64 p, .int .i64 c, v, .int .i64 ht, .int .i64 s] 57 (0, 0))
  own : wr.ownsRow (N + 1) 3 1 v l.length (l.map (Value.int .i64))
  asc : l.Pairwise (· < ·)
  lt : ∀ x ∈ l, 0 ≤ x ∧ x < k
  le : l.length ≤ k

theorem EntryRel.sz {b t N : Nat} {w wr : World} {h p c ht s : Int} {k : Nat} {l : List Int} {v : Value} (R : EntryRel b t N w h p c ht s k wr l v) : N < wr.heap.size := (Array.getElem?_eq_some_iff.1 R.blk).1

/-- Behind the draw of a round. -/
theorem EntryRel.once {b t N : Nat} {w wr w' : World} {h p c ht s : Int} {k : Nat} {l : List Int} {v : Value} (R : EntryRel b t N w h p c ht s k wr l v) (hN : w.heap.size < N) (hbw : b < w.heap.size)
    (hB : Bag w' b (t + k + 1)) (hk : Kept b wr w') : EntryRel b t N w h p c ht s (k + 1) w' l v := by
  have hs := R.sz
  exact ⟨hB, R.kept.trans hk, (hk.block _ (by omega) (by omega)).trans R.zero, (hk.block _ hs (by omega)).trans R.blk, R.own.kept hk.grownBy (by
    cases hv : v.ownBlock with
    | none => exact .inl rfl
    | some g => right; intro e; cases e; have := R.own.lt _ hv; omega), R.asc, fun x hx => ⟨(R.lt x hx).1, by have := (R.lt x hx).2; omega⟩, by have := R.le; omega⟩

theorem entry_store {w : World} {N : Nat} {x0 x1 x2 x3 x4 x5 v : Value} {T : TypeId} {f : Nat × Nat} (h : w.heap[N]? = some (.cells #[x0, x1, x2, x3, x4, x5] T f)) :
    (w.setCell ⟨N, 3, none⟩ v).heap[N]? = some (.cells #[x0, x1, x2, v, x4, x5] T f) := by
  simp [World.setCell, Array.getElem?_modify, h]

/-- Behind the append of a round. -/
theorem EntryRel.put {b t N : Nat} {w wr w' w1 : World} {h p c ht s : Int} {k : Nat} {l : List Int} {v v' : Value} {o : Obj} (R : EntryRel b t N w h p c ht s k wr l v) (hN : w.heap.size < N) (hbw : b < w.heap.size)
    (hB : Bag w' b (t + k + 1)) (hk : Kept b wr w') (hown : w1.ownsRow (N + 1) 3 1 v' (l.length + 1) (l.map (Value.int .i64) ++ [.int .i64 k])) (hg : (w'.alloc o).grownBy w1 v.ownBlock) :
    EntryRel b t N w h p c ht s (k + 1) (w1.setCell ⟨N, 3, none⟩ v') (l ++ [(k : Int)]) v' := by
  have R' := R.once hN hbw hB hk
  have hs := R'.sz
  have hrow : ∀ g, v.ownBlock = some g → N + 1 ≤ g := fun g e => (R'.own.lt g e).1
  have hblk : ∀ i, i ≤ N → w1.heap[i]? = w'.heap[i]? := fun i hi =>
    (hg.block i (by simp; omega) (fun e => by have := hrow i e.symm; omega)).trans (Below.heap_alloc _ _ _ (by omega))
  refine ⟨(R'.bag.same fun i hi => hblk i (by omega : i ≤ N)).setCell (by show b < N; omega) _, ?_, ?_, ?_, ?_, ?_, ?_, ?_⟩
  · exact ((R'.kept.alloc o).grown hg (fun i e => by have := hrow i e; omega)).setCell (.inr (by show _ ≤ N; omega)) _
  · exact (Below.heap_setCell _ _ _ _ (by show _ ≠ N; omega)).trans ((hblk _ (by omega)).trans R'.zero)
  · exact entry_store ((hblk N (Nat.le_refl N)).trans R'.blk)
  · have := ownsRow_setCell_below hown (a := ⟨N, 3, none⟩) (by show N < N + 1; omega) v'
    simpa using this
  · rw [List.pairwise_append]
    exact ⟨R.asc, List.pairwise_singleton _ _, fun x hx y hy => by have := (R.lt x hx).2; simp at hy; omega⟩
  · intro x hx
    rcases List.mem_append.1 hx with h | h
    · have := R.lt x h; omega
    · simp at h; omega
  · have := R.le; simp; omega

theorem EntryRel.cell {b t N : Nat} {w wr : World} {h p c ht s : Int} {k : Nat} {l : List Int} {v : Value} (R : EntryRel b t N w h p c ht s k wr l v) : wr.cell? ⟨N, 3, none⟩ = some v := by simp [World.cell?, R.blk]
theorem EntryRel.free {b t N : Nat} {w wr : World} {h p c ht s : Int} {k : Nat} {l : List Int} {v : Value} (R : EntryRel b t N w h p c ht s k wr l v) : wr.frozen? ⟨N, 3, none⟩ = false := by simp [World.frozen?, R.blk]

theorem heap_new (w : World) (o : Obj) : (w.alloc o).heap[w.heap.size]? = some o := by
  show (w.heap.push o)[w.heap.size]? = some o
  simp

theorem owns_any {w : World} {base n : Nat} {e : TypeId} {size : Nat} {v : Value} {xs : List Value} (h : w.ownsRow base e size v n xs) : ∃ a m cap, v = .slice a m cap := by
  obtain ⟨_, h2⟩ := h
  rcases h2 with ⟨hv, h0⟩ | ⟨g, cap, cur, hv, _⟩
  · exact ⟨_, _, _, hv⟩
  · exact ⟨_, _, _, hv⟩
theorem owns_succ {w : World} {base n : Nat} {e : TypeId} {size : Nat} {v : Value} {xs : List Value} (h : w.ownsRow base e size v (n + 1) xs) : ∃ g cap, v = .slice (some ⟨g, 0, none⟩) (n + 1) cap := by
  obtain ⟨_, h2⟩ := h
  rcases h2 with ⟨_, h0⟩ | ⟨g, cap, cur, hv, _⟩
  · omega
  · exact ⟨g, cap, hv⟩

theorem ints_of_owns {w : World} {base : Nat} {v : Value} {l : List Int} {T : TypeId} (h : w.ownsRow base T 1 v l.length (l.map (Value.int .i64))) : Ints w v l := by
  obtain ⟨h1, h2⟩ := h
  rcases h2 with ⟨rfl, h0⟩ | ⟨g, cap, cur, rfl, hg, hh, hn, hm, hs, ht⟩
  · exact ⟨none, 0, by rw [h0], fun h => by omega⟩
  · refine ⟨_, cap, rfl, fun _ => ⟨g, 0, rfl, fun j hj => ?_⟩⟩
    have hj2 : (cur.toList.take (l.length * 1))[j]? = (l.map (Value.int .i64))[j]? := by rw [ht]
    rw [List.getElem?_take, if_pos (by omega)] at hj2
    simp only [World.cell?, hh, Nat.zero_add]
    simp only [Array.getElem?_toList, List.getElem?_map, List.getElem?_eq_getElem hj, Option.map_some] at hj2
    simp [hj2, hj]

def EntryEnd (b t : Nat) (spots : Int) (w : World) (e : Ending) (w' : World) : Prop :=
  ∃ (h p c ht s : Int) (l : List Int) (v : Value), e = .returned (.agg #[.int .i64 h, .int .i64 p, .int .i64 c, v, .int .i64 ht, .int .i64 s]) ∧
    (0 ≤ h ∧ h ≤ 40) ∧ (0 ≤ p ∧ p < spots) ∧ (0 ≤ c ∧ c ≤ 1) ∧ (14 ≤ ht ∧ ht ≤ 16) ∧ (0 ≤ s ∧ s ≤ 2) ∧
    Ints w' v l ∧ (∀ k, v.ownBlock = some k → w.heap.size ≤ k) ∧ l.Pairwise (· < ·) ∧ (∀ x ∈ l, 0 ≤ x ∧ x < 3) ∧ l.length ≤ 3 ∧ Bag w' b (t + 11) ∧ Kept b w w'

theorem six_cells {w : World} {N : Nat} {x0 x1 x2 x3 x4 x5 : Value} {T : TypeId} (h : w.heap[N]? = some (.cells #[x0, x1, x2, x3, x4, x5] T (0, 0))) :
    w.cell? ⟨N, 0, none⟩ = some x0 ∧ w.cell? ⟨N, 1, none⟩ = some x1 ∧ w.cell? ⟨N, 2, none⟩ = some x2 ∧ w.cell? ⟨N, 3, none⟩ = some x3 ∧ w.cell? ⟨N, 4, none⟩ = some x4 ∧ w.cell? ⟨N, 5, none⟩ = some x5 := by
  simp [World.cell?, h]
theorem six_free {w : World} {N : Nat} {x0 x1 x2 x3 x4 x5 : Value} {T : TypeId} (h : w.heap[N]? = some (.cells #[x0, x1, x2, x3, x4, x5] T (0, 0))) (i : Nat) : w.frozen? ⟨N, i, none⟩ = false := by
  simp [World.frozen?, h]

set_option maxRecDepth 100000 in
set_option maxHeartbeats 1600000 in
theorem entry_any (b t : Nat) (spots : Int) (w : World) (hB : Bag w b t) (ht : t ≤ 1000000) (hs1 : 1 ≤ spots) (hs2 : spots ≤ 1000) :
    Calls Tryz.prog 15 #[.pointer (some ⟨b, 0, none⟩), .int .i64 spots] w (EntryEnd b t spots w) := by
  obtain ⟨i0, hi, hz0, hz1, hz2⟩ := info_parts Tryz.infoInt
  go_enter Tryz.func15, Tryz.ntmps15
  go_wp2_with fail
  generalize hW0 : w.alloc _ = W0
  have hB0 : Bag W0 b t := by rw [← hW0]; exact hB.alloc _
  have HW0 := Lib.hid hW0
  clear hW0
  refine (upTo_any b t 9 _ hB0 (by omega) (by omega) (by omega)).mono ?_
  rintro e w1 ⟨r1, hr1, hs1, rfl, hB1, k1⟩
  go_wp2_with fail
  refine (upTo_any b (t + 1) 24 _ hB1 (by omega) (by omega) (by omega)).mono ?_
  rintro e w2 ⟨r2, hr2, hs2, rfl, hB2, k2⟩
  go_wp2_with fail
  refine (upTo_any b (t + 1 + 1) 40 _ hB2 (by omega) (by omega) (by omega)).mono ?_
  rintro e w3 ⟨r3, hr3, hs3, rfl, hB3, k3⟩
  go_wp2_with fail
  refine (pick_new b (t + 1 + 1 + 1) [r1, r2, r3] _ _ w3 hB3 (by omega) (by simp) (by simp)).mono ?_
  rintro e w4 ⟨hour, hm4, rfl, hB4, k4⟩
  go_wp2_with fail
  refine (upTo_any b (t + 1 + 1 + 1 + 1) _ _ hB4 (by omega) (by omega) (by omega)).mono ?_
  rintro e w5 ⟨place, hr5, hs5, rfl, hB5, k5⟩
  go_wp2_with fail
  refine (pick_new b (t + 1 + 1 + 1 + 1 + 1) [0, 0, 0, 1] _ _ w5 hB5 (by omega) (by simp) (by simp)).mono ?_
  rintro e w6 ⟨coat, hm6, rfl, hB6, k6⟩
  go_wp2_with fail
  refine (pick_new b (t + 1 + 1 + 1 + 1 + 1 + 1) [14, 14, 15, 15, 16] _ _ w6 hB6 (by omega) (by simp) (by simp)).mono ?_
  rintro e w7 ⟨height, hm7, rfl, hB7, k7⟩
  go_wp2_with fail
  refine (pick_new b (t + 1 + 1 + 1 + 1 + 1 + 1 + 1) [0, 0, 1, 2] _ _ w7 hB7 (by omega) (by simp) (by simp)).mono ?_
  rintro e w8 ⟨shod, hm8, rfl, hB8, k8⟩
  go_wp2_with fail
  obtain ⟨N, hN⟩ : ∃ N, N = w8.heap.size := ⟨_, rfl⟩
  have hbw := hB.lt
  have K8 : Kept b w w8 := by
    have K0 : Kept b w W0 := by rw [← HW0.out]; exact (Kept.refl b w).alloc _
    exact (((((((K0.trans k1).trans k2).trans k3).alloc _).trans k4).trans k5).alloc _ |>.trans k6).alloc _ |>.trans k7 |>.alloc _ |>.trans k8
  have HE : Hid ((0 ≤ hour ∧ hour ≤ 40) ∧ (0 ≤ place ∧ place < spots) ∧ (0 ≤ coat ∧ coat ≤ 1) ∧ (14 ≤ height ∧ height ≤ 16) ∧ (0 ≤ shod ∧ shod ≤ 2)) := by
    simp only [List.mem_cons, List.not_mem_nil, or_false] at hm4 hm6 hm7 hm8
    unfold Hid
    omega
  have hN8 : w.heap.size < w8.heap.size := by
    have h0 : W0.heap.size = w.heap.size + 1 := by rw [← HW0.out]; simp
    have := k1.size; have := k2.size; have := k3.size
    have := k4.size; have := k5.size; have := k6.size; have := k7.size; have := k8.size
    simp only [World.size_alloc] at *
    omega
  have hz8 : w8.heap[w.heap.size]? = some (.cells #[.int .i64 0, .int .i64 0, .int .i64 0, .slice none 0 0, .int .i64 0, .int .i64 0] 57 (0, 0)) := by
    have h0 : W0.heap[w.heap.size]? = some (.cells #[.int .i64 0, .int .i64 0, .int .i64 0, .slice none 0 0, .int .i64 0, .int .i64 0] 57 (0, 0)) := by rw [← HW0.out]; exact heap_new w _
    have h0s : W0.heap.size = w.heap.size + 1 := by rw [← HW0.out]; simp
    have K : Kept b W0 w8 := (((((((k1.trans k2).trans k3).alloc _).trans k4).trans k5).alloc _ |>.trans k6).alloc _ |>.trans k7 |>.alloc _ |>.trans k8)
    exact (K.block _ (by omega) (by omega)).trans h0
  clear hm4 hm6 hm7 hm8 hr1 hr2 hr3 hr5 hs5 k1 k2 k3 k4 k5 k6 k7 k8 hB0 hB1 hB2 hB3 hB4 hB5 hB6 hB7 HW0 hB
  have R0 : EntryRel b (t + 8) w8.heap.size w hour place coat height shod 0 (w8.alloc (.cells #[.int .i64 hour, .int .i64 place, .int .i64 coat, .slice none 0 0, .int .i64 height, .int .i64 shod] 57)) [] (.slice none 0 0) :=
    ⟨hB8.alloc _, K8.alloc _, (Below.heap_alloc _ _ _ hN8).trans hz8, heap_new _ _, World.ownsRow_nil _ _ _ _, List.Pairwise.nil, by simp, by simp⟩
  rw [← hN] at R0 ⊢
  rw [← hN] at hN8
  have HN := Lib.hid hN
  clear hz8 hB8 K8 hN
  go_loopw [6] (fun i wr => ∃ k : Nat, k ≤ 3 ∧ i = .int .i64 k ∧ ∃ l v, EntryRel b (t + 8) N w hour place coat height shod k wr l v) (fun i _ => 3 - (intOf i).toNat)
  case atStart => exact ⟨0, by omega, rfl, _, _, R0⟩
  case round =>
    clear R0
    obtain ⟨k, hk3, rfl, l, v, R⟩ := hrel
    by_cases hlt : k < 3
    · go_wp2_with fail
      refine (once_any b (t + 8 + k) 3 _ R.bag (by omega) (by omega) (by omega)).mono ?_
      rintro e w' ⟨r, rfl, hB', hk'⟩
      have R1 := R.once hN8 hbw hB' hk'
      have hcv := R1.cell
      have hfv := R1.free
      cases r with
      | false =>
        go_wp2_with fail
        go_roundw
        case rel => exact ⟨k + 1, by omega, by go_num, l, v, R1⟩
        case measure => simp [intOf]; omega
      | true =>
        have hown := R1.own
        have hle := R1.le
        have hsz := R1.sz
        go_wp2_with (first
          | (at_builtin; refine wpList_append_own _ rfl _ _ 22 rfl (N + 1) 3 i0 (.int .i64 0) 1 8 Tryz.underlying22 hi hz0 hz1 hz2 rfl (by decide) _ _ _ rfl (hown.alloc _) ⟨w'.heap.size, 0, none⟩ 1 1 [.int .i64 k] rfl rfl ?c1 ?c2 ?c3 ?c4 ?c5 ?_))
        case c1 =>
          intro j u hj
          match j, hj with
          | 0, hj => simp at hj; subst hj; simp [Addr.add]
        case c2 => intro u hu; simp at hu; subst hu; rfl
        case c3 => unfold maxLen; omega
        case c4 => omega
        case c5 => simp; omega
        intro v' w1 hown' hgrow _
        obtain ⟨g', cap', rfl⟩ := owns_succ hown'
        have R2 := R.put hN8 hbw hB' hk' hown' hgrow
        have hcv1 : w1.cell? ⟨N, 3, none⟩ = some v := by
          have hrow : ∀ g, v.ownBlock = some g → N + 1 ≤ g := fun g e => (hown.lt g e).1
          refine (World.cell?_of_block (w := w'.alloc _) (hgrow.block N (by simp; omega) (fun e => by have := hrow N e.symm; omega))).trans ?_
          rw [World.cell?_alloc_lt _ _ _ hsz]; exact hcv
        have hfv1 : w1.frozen? ⟨N, 3, none⟩ = false := by
          have hrow : ∀ g, v.ownBlock = some g → N + 1 ≤ g := fun g e => (hown.lt g e).1
          refine (World.frozen?_of_block (w := w'.alloc _) (hgrow.block N (by simp; omega) (fun e => by have := hrow N e.symm; omega))).trans ?_
          rw [World.frozen?_alloc_old _ _ _ (Nat.ne_of_lt hsz)]; exact hfv
        clear hown' hgrow hown R R1 hcv hfv hB' hk'
        go_wp2_with fail
        go_roundw
        case rel => exact ⟨k + 1, by omega, by go_num, _, _, R2⟩
        case measure => simp [intOf]; omega
    · obtain rfl : k = 3 := by omega
      obtain ⟨c0, c1, c2, c3, c4, c5⟩ := six_cells R.blk
      obtain ⟨z0, z1, z2, z3, z4, z5⟩ := six_cells R.zero
      have fz := six_free R.zero
      have HR := Lib.hid R
      obtain ⟨av, nv, capv, rfl⟩ := owns_any R.own
      clear R
      go_wp2_with fail
      refine bodyPost_ret (v := .agg #[.int .i64 hour, .int .i64 place, .int .i64 coat, .slice av nv capv, .int .i64 height, .int .i64 shod]) ?_ rfl ?_
      · simp [results, Tryz.results15, go_sem, z0, z1, z2, z3, z4, z5]
      · have R := HR.out
        obtain ⟨e1, e2, e3, e4, e5⟩ := HE.out
        have o6 := ownsRow_setCell_below (ownsRow_setCell_below (ownsRow_setCell_below (ownsRow_setCell_below (ownsRow_setCell_below (ownsRow_setCell_below R.own (a := ⟨w.heap.size, 0, none⟩) (by show w.heap.size < N + 1; omega) (.int .i64 hour))
          (a := ⟨w.heap.size, 1, none⟩) (by show w.heap.size < N + 1; omega) (.int .i64 place)) (a := ⟨w.heap.size, 2, none⟩) (by show w.heap.size < N + 1; omega) (.int .i64 coat)) (a := ⟨w.heap.size, 3, none⟩) (by show w.heap.size < N + 1; omega) (.slice av nv capv))
          (a := ⟨w.heap.size, 4, none⟩) (by show w.heap.size < N + 1; omega) (.int .i64 height)) (a := ⟨w.heap.size, 5, none⟩) (by show w.heap.size < N + 1; omega) (.int .i64 shod)
        refine ⟨hour, place, coat, height, shod, l, .slice av nv capv, rfl, e1, e2, e3, e4, e5, ints_of_owns o6, fun k hk => ?_, R.asc, R.lt, R.le, ?_, ?_⟩
        · have := (R.own.lt k hk).1; omega
        · exact (((((R.bag.setCell (by exact hbw) _).setCell (by exact hbw) _).setCell (by exact hbw) _).setCell (by exact hbw) _).setCell (by exact hbw) _).setCell (by exact hbw) _
        · exact (((((R.kept.setCell (.inr (Nat.le_refl _)) _).setCell (.inr (Nat.le_refl _)) _).setCell (.inr (Nat.le_refl _)) _).setCell (.inr (Nat.le_refl _)) _).setCell (.inr (Nat.le_refl _)) _).setCell (.inr (Nat.le_refl _)) _
end Go.Proofs.YtejfelijhojndaaGreatDoor
