/-
  The bag of the statements' numbers: what its methods return, whatever numbers it holds: 'draw' some number, 'UpTo' some number up to n, 'Among' one between two, 'Once' some bool, 'Pick' one of the numbers. The bag's own block alone is written.
-/
import Derived.Test.YtemoepcfmpapoaaGreatDoorProg
import Derived.WalkKit
import Derived.RegionTactic
import Derived.ChangeAlike
import Derived.Deep.QuietTactic
import Derived.BigQuiet
import Derived.StillTailTactics
import Derived.Lib.Hide
import Derived.Laws.Closers25b
namespace Go.Proofs.YtemoepcfmpapoaaGreatDoor
open Go.RowKit Go.Proofs

/-- All that was there lies as it lay, but for block b. -/
structure Kept (b : Nat) (w w' : World) : Prop where
  os : w'.os = w.os
  tape : w'.tape = w.tape
  output : w'.output = w.output
  size : w.heap.size ≤ w'.heap.size
  block : ∀ k, k < w.heap.size → k ≠ b → w'.heap[k]? = w.heap[k]?

theorem Kept.refl (b : Nat) (w : World) : Kept b w w := ⟨rfl, rfl, rfl, Nat.le_refl _, fun _ _ _ => rfl⟩
theorem Kept.trans {b : Nat} {x y z : World} (h : Kept b x y) (k : Kept b y z) : Kept b x z :=
  ⟨k.os.trans h.os, k.tape.trans h.tape, k.output.trans h.output, Nat.le_trans h.size k.size, fun i hi hb => (k.block i (Nat.lt_of_lt_of_le hi h.size) hb).trans (h.block i hi hb)⟩
theorem Kept.drew {b : Nat} {x y : World} (h : Kept b x y) : Kept b x y.drew := ⟨h.os, h.tape, h.output, h.size, h.block⟩
theorem Kept.drewN {b : Nat} {x y : World} (h : Kept b x y) (n : Nat) : Kept b x (y.drewN n) := ⟨h.os, h.tape, h.output, h.size, h.block⟩
theorem Kept.alloc {b : Nat} {x y : World} (h : Kept b x y) (o : Obj) : Kept b x (y.alloc o) :=
  h.trans ⟨rfl, rfl, rfl, by simp, fun k hk _ => Below.heap_alloc _ _ _ hk⟩
theorem Kept.setCell {b : Nat} {x y : World} (h : Kept b x y) {p : Addr} (hp : p.block = b ∨ x.heap.size ≤ p.block) (v : Value) : Kept b x (y.setCell p v) :=
  ⟨h.os, h.tape, h.output, by simpa using h.size, fun k hk hb => (Below.heap_setCell _ _ _ _ (by omega)).trans (h.block k hk hb)⟩
theorem Kept.of_below {b : Nat} {x y z : World} (h : Kept b x y) (k : Below x.heap.size y z) : Kept b x z :=
  ⟨k.os.trans h.os, k.tape.trans h.tape, k.output.trans h.output, Nat.le_trans h.size k.size, fun i hi hb => (k.block i hi).trans (h.block i hi hb)⟩
theorem Kept.cell {b : Nat} {w w' : World} (h : Kept b w w') {p : Addr} (hp : p.block < w.heap.size) (hb : p.block ≠ b) : w'.cell? p = w.cell? p := World.cell?_of_block (w := w) (h.block p.block hp hb)
theorem Kept.frozen {b : Nat} {w w' : World} (h : Kept b w w') {p : Addr} (hp : p.block < w.heap.size) (hb : p.block ≠ b) : w'.frozen? p = w.frozen? p := World.frozen?_of_block (w := w) (h.block p.block hp hb)

/-- Block b is a bag from which t numbers were taken. -/
def Bag (w : World) (b t : Nat) : Prop :=
  ∃ (a : Option Addr) (len cap : Nat) (m : Int) (T : TypeId), w.heap[b]? = some (.cells #[.slice a len cap, .int .i64 t, .int .u64 m] T (0, 0)) ∧
    ∀ j, j < len → ∃ nb off x, a = some ⟨nb, off, none⟩ ∧ nb < b ∧ w.cell? ⟨nb, off + j, none⟩ = some (.int .i64 x)

theorem Bag.lt {w : World} {b t : Nat} (h : Bag w b t) : b < w.heap.size := by
  obtain ⟨a, len, cap, m, T, hh, _⟩ := h
  exact (Array.getElem?_eq_some_iff.1 hh).1

/-- A bag stays one while other blocks are written. -/
theorem Bag.same {w w' : World} {b t : Nat} (h : Bag w b t) (hs : ∀ k, k ≤ b → w'.heap[k]? = w.heap[k]?) : Bag w' b t := by
  obtain ⟨a, len, cap, m, T, hh, hn⟩ := h
  refine ⟨a, len, cap, m, T, (hs b (Nat.le_refl b)).trans hh, fun j hj => ?_⟩
  obtain ⟨nb, off, x, ha, hb, hc⟩ := hn j hj
  exact ⟨nb, off, x, ha, hb, (World.cell?_of_block (w := w) (hs nb (Nat.le_of_lt hb))).trans hc⟩
theorem Bag.below {w w' : World} {b t B : Nat} (h : Bag w b t) (k : Below B w w') (hB : b < B) : Bag w' b t := h.same fun i hi => k.block i (by omega)
theorem Bag.alloc {w : World} {b t : Nat} (h : Bag w b t) (o : Obj) : Bag (w.alloc o) b t := h.same fun k hk => Below.heap_alloc _ _ _ (by have := h.lt; omega)
theorem Bag.drew {w : World} {b t : Nat} (h : Bag w b t) : Bag w.drew b t := h
theorem Bag.drewN {w : World} {b t : Nat} (h : Bag w b t) (n : Nat) : Bag (w.drewN n) b t := h.same (w' := w.drewN n) fun _ _ => rfl

/-- What a draw leaves. -/
theorem Bag.drawn {w w' : World} {b : Nat} {t : Nat} {a : Option Addr} {len cap : Nat} {m' : Int} {T : TypeId}
    (hn : ∀ j, j < len → ∃ nb off x, a = some ⟨nb, off, none⟩ ∧ nb < b ∧ w.cell? ⟨nb, off + j, none⟩ = some (.int .i64 x))
    (hk : Kept b w w') (hw : w'.heap[b]? = some (.cells #[.slice a len cap, .int .i64 ((t : Int) + 1), .int .u64 m'] T (0, 0))) : Bag w' b (t + 1) := by
  refine ⟨a, len, cap, m', T, by rw [hw]; rfl, fun j hj => ?_⟩
  obtain ⟨nb, off, x, ha, hb, hc⟩ := hn j hj
  exact ⟨nb, off, x, ha, hb, (hk.cell (World.block_lt_of_cell? w _ hc) (Nat.ne_of_lt hb)).trans hc⟩

theorem Bag.setCell {w : World} {b t : Nat} (h : Bag w b t) {a : Addr} (ha : b < a.block) (v : Value) : Bag (w.setCell a v) b t := h.same fun k hk => Below.heap_setCell _ _ _ _ (by omega)
theorem Bag.grown {w w' : World} {b t : Nat} {row : Option Nat} (h : Bag w b t) (hg : w.grownBy w' row) (hr : ∀ k, row = some k → b < k) : Bag w' b t :=
  h.same fun k hk => hg.block k (by have := h.lt; omega) (fun e => by have := hr k e.symm; omega)

theorem three_setCell {w : World} {b i : Nat} {x y z v : Value} {T : TypeId} {f : Nat × Nat} (h : w.heap[b]? = some (.cells #[x, y, z] T f)) :
    (w.setCell ⟨b, i, none⟩ v).heap[b]? = some (.cells (#[x, y, z].setIfInBounds i v) T f) := by
  simp [World.setCell, Array.getElem?_modify, h]

/-- The walk's end: what it stored, in a form that the walk does not look into. -/
def DrawEnd (b t : Nat) (w : World) (e : Ending) (w' : World) : Prop :=
  ∃ x : Int, 0 ≤ x ∧ x < 18446744073709551616 ∧ e = .returned (.int .u64 x) ∧ Bag w' b (t + 1) ∧ Kept b w w'

theorem drawEnd_of {b t : Nat} {w W W1 : World} {a : Option Addr} {len cap : Nat} {m m1 m2 x : Int} {T : TypeId} (n k : Nat)
    (hh : w.heap[b]? = some (.cells #[.slice a len cap, .int .i64 t, .int .u64 m] T (0, 0)))
    (hn : ∀ j, j < len → ∃ nb off x, a = some ⟨nb, off, none⟩ ∧ nb < b ∧ w.cell? ⟨nb, off + j, none⟩ = some (.int .i64 x))
    (hW : ((w.setCell ⟨b, 1, none⟩ (.int .i64 ((t : Int) + 1))).drewN n).setCell ⟨b, 2, none⟩ (.int .u64 m1) = W) (hW1 : W.drewN k = W1) (hx0 : 0 ≤ x) (hx : x < 18446744073709551616) :
    DrawEnd b t w (.returned (.int .u64 x)) (W1.setCell ⟨b, 2, none⟩ (.int .u64 m2)) := by
  subst hW1; subst hW
  have hk : Kept b w (((((w.setCell ⟨b, 1, none⟩ (.int .i64 ((t : Int) + 1))).drewN n).setCell ⟨b, 2, none⟩ (.int .u64 m1)).drewN k).setCell ⟨b, 2, none⟩ (.int .u64 m2)) :=
    (((((Kept.refl b w).setCell (.inl rfl) _).drewN n).setCell (.inl rfl) _).drewN k).setCell (.inl rfl) _
  refine ⟨x, hx0, hx, rfl, Bag.drawn (m' := m2) (cap := cap) (T := T) hn hk ?_, hk⟩
  have h1 := three_setCell (i := 1) (v := .int .i64 ((t : Int) + 1)) hh
  have h2 := three_setCell (w := (w.setCell ⟨b, 1, none⟩ (.int .i64 ((t : Int) + 1))).drewN n) (i := 2) (v := .int .u64 m1) (by simpa using h1)
  have h3 := three_setCell (w := (((w.setCell ⟨b, 1, none⟩ (.int .i64 ((t : Int) + 1))).drewN n).setCell ⟨b, 2, none⟩ (.int .u64 m1)).drewN k) (i := 2) (v := .int .u64 m2) (by simpa using h2)
  simpa using h3
theorem draw_x (a b : Int) : 0 ≤ bits .xor .u64 a b / 2048 ∧ bits .xor .u64 a b / 2048 < 18446744073709551616 := by
  have h := bits_within .xor .u64 a b
  have h1 : IntKind.u64.min = 0 := by decide
  have h2 : IntKind.u64.max = 18446744073709551615 := by decide
  rw [h1, h2] at h
  omega

set_option maxRecDepth 100000 in
set_option maxHeartbeats 800000 in
theorem draw_no (b t : Nat) (a : Option Addr) (len cap : Nat) (m : Int) (T : TypeId) (w : World) (ht : t ≤ 1000000000) (hlen : len ≤ t)
    (hh : w.heap[b]? = some (.cells #[.slice a len cap, .int .i64 t, .int .u64 m] T (0, 0)))
    (hn : ∀ j, j < len → ∃ nb off x, a = some ⟨nb, off, none⟩ ∧ nb < b ∧ w.cell? ⟨nb, off + j, none⟩ = some (.int .i64 x)) :
    Calls Tryz.prog 30 #[.pointer (some ⟨b, 0, none⟩)] w (DrawEnd b t w) := by
  have h0 : w.cell? ⟨b, 0, none⟩ = some (.slice a len cap) := by simp [World.cell?, hh]
  have h1 : w.cell? ⟨b, 1, none⟩ = some (.int .i64 t) := by simp [World.cell?, hh]
  have h2 : w.cell? ⟨b, 2, none⟩ = some (.int .u64 m) := by simp [World.cell?, hh]
  have hf1 : w.frozen? ⟨b, 1, none⟩ = false := by simp [World.frozen?, hh]
  have hf2 : w.frozen? ⟨b, 2, none⟩ = false := by simp [World.frozen?, hh]
  have HH := Lib.hid hh
  have HN := Lib.hid hn
  clear hh hn
  go_enter Tryz.func30, Tryz.ntmps30
  go_wp2
  go_quiet (fail)
  go_wp2
  generalize hm1 : IntKind.u64.wrap (bits BinOp.xor IntKind.u64 m _ * 18397679294719823053) = m1
  generalize hW : World.setCell _ _ _ = W
  have c2 : W.cell? ⟨b, 2, none⟩ = some (.int .u64 m1) := by
    rw [← hW]; exact World.cell?_setCell_same _ _ _ (u := .int .u64 m) (by simp [World.cell?_setCell_other, h2])
  have f2 : W.frozen? ⟨b, 2, none⟩ = false := by
    rw [← hW]; simp [hf2]
  have HW := Lib.hid hW
  clear hW h0 h1 h2 hf1 hf2 hlen hm1
  refine wp_region_still_tail 13 (by kernel_rfl) (by kernel_rfl) ?_
  simp only [List.take_succ_cons, List.take_zero, List.drop_succ_cons, List.drop_zero]
  repeat still_step
  refine wpStill_nil ?_
  generalize bits BinOp.xor IntKind.u64 m1 (m1 / 8589934592) = m2
  rw [World.drew_eq]
  generalize hW1 : W.drew = W1
  have c2' : W1.cell? ⟨b, 2, none⟩ = some (.int .u64 m1) := by rw [← hW1]; exact c2
  have f2' : W1.frozen? ⟨b, 2, none⟩ = false := by rw [← hW1]; exact f2
  have HW1 := Lib.hid hW1
  clear hW1 c2 f2
  go_wp2
  go_ret
  exact drawEnd_of _ 1 HH.out HN.out HW.out HW1.out (draw_x _ _).1 (draw_x _ _).2

theorem drawEnd_of0 {b t : Nat} {w W0 W W1 : World} {a : Option Addr} {len cap : Nat} {m m1 m2 x : Int} {T : TypeId} (n k : Nat)
    (hh : w.heap[b]? = some (.cells #[.slice a len cap, .int .i64 t, .int .u64 m] T (0, 0)))
    (hn : ∀ j, j < len → ∃ nb off x, a = some ⟨nb, off, none⟩ ∧ nb < b ∧ w.cell? ⟨nb, off + j, none⟩ = some (.int .i64 x))
    (hW0 : w.setCell ⟨b, 1, none⟩ (.int .i64 ((t : Int) + 1)) = W0) (hW : (W0.drewN n).setCell ⟨b, 2, none⟩ (.int .u64 m1) = W) (hW1 : W.drewN k = W1) (hx0 : 0 ≤ x) (hx : x < 18446744073709551616) :
    DrawEnd b t w (.returned (.int .u64 x)) (W1.setCell ⟨b, 2, none⟩ (.int .u64 m2)) := by
  subst hW0
  exact drawEnd_of n k hh hn hW hW1 hx0 hx

set_option maxRecDepth 100000 in
set_option maxHeartbeats 800000 in
theorem draw_yes (b t : Nat) (nb off : Nat) (len cap : Nat) (m y : Int) (T : TypeId) (w : World) (ht : t ≤ 1000000000) (hlen : t < len) (hb : nb < b)
    (hh : w.heap[b]? = some (.cells #[.slice (some ⟨nb, off, none⟩) len cap, .int .i64 t, .int .u64 m] T (0, 0)))
    (hn : ∀ j, j < len → ∃ nb' off' x, (some ⟨nb, off, none⟩ : Option Addr) = some ⟨nb', off', none⟩ ∧ nb' < b ∧ w.cell? ⟨nb', off' + j, none⟩ = some (.int .i64 x))
    (hy : w.cell? ⟨nb, off + t, none⟩ = some (.int .i64 y)) :
    Calls Tryz.prog 30 #[.pointer (some ⟨b, 0, none⟩)] w (DrawEnd b t w) := by
  have h0 : w.cell? ⟨b, 0, none⟩ = some (.slice (some ⟨nb, off, none⟩) len cap) := by simp [World.cell?, hh]
  have h1 : w.cell? ⟨b, 1, none⟩ = some (.int .i64 t) := by simp [World.cell?, hh]
  have h2 : w.cell? ⟨b, 2, none⟩ = some (.int .u64 m) := by simp [World.cell?, hh]
  have hf1 : w.frozen? ⟨b, 1, none⟩ = false := by simp [World.frozen?, hh]
  have hf2 : w.frozen? ⟨b, 2, none⟩ = false := by simp [World.frozen?, hh]
  have HH := Lib.hid hh
  have HN := Lib.hid hn
  clear hh hn
  go_enter Tryz.func30, Tryz.ntmps30
  go_wp2
  generalize hW0 : World.setCell _ _ _ = W0
  have d0 : W0.cell? ⟨b, 0, none⟩ = some (.slice (some ⟨nb, off, none⟩) len cap) := by
    rw [← hW0]; exact (World.cell?_setCell_other _ _ _ _ (by simp)).trans h0
  have d1 : W0.cell? ⟨b, 1, none⟩ = some (.int .i64 ((t : Int) + 1)) := by
    rw [← hW0]; exact World.cell?_setCell_same _ _ _ h1
  have d2 : W0.cell? ⟨b, 2, none⟩ = some (.int .u64 m) := by
    rw [← hW0]; exact (World.cell?_setCell_other _ _ _ _ (by simp)).trans h2
  have d3 : W0.cell? ⟨nb, off + t, none⟩ = some (.int .i64 y) := by
    rw [← hW0]; exact (World.cell?_setCell_other _ _ _ _ (by intro e; have he := congrArg Addr.block e; simp at he; omega)).trans hy
  have g2 : W0.frozen? ⟨b, 2, none⟩ = false := by
    rw [← hW0]; simp [hf2]
  have HW0 := Lib.hid hW0
  clear hW0 h0 h1 h2 hf1 hf2 hy
  go_quiet (fail)
  go_wp2
  have hi1 : (0 : Int) ≤ (t : Int) := by omega
  have hi2 : (t : Int) < (len : Int) := by omega
  go_quiet (fail)
  go_wp2
  generalize hm1 : IntKind.u64.wrap (bits BinOp.xor IntKind.u64 m _ * 18397679294719823053) = m1
  generalize hW : World.setCell _ _ _ = W
  have c2 : W.cell? ⟨b, 2, none⟩ = some (.int .u64 m1) := by
    rw [← hW]; exact World.cell?_setCell_same _ _ _ (u := .int .u64 m) (by simp [d2])
  have f2 : W.frozen? ⟨b, 2, none⟩ = false := by
    rw [← hW]; simp [g2]
  have HW := Lib.hid hW
  clear hW d0 d1 d2 d3 g2 hlen hm1 hi1 hi2
  refine wp_region_still_tail 13 (by kernel_rfl) (by kernel_rfl) ?_
  simp only [List.take_succ_cons, List.take_zero, List.drop_succ_cons, List.drop_zero]
  repeat still_step
  refine wpStill_nil ?_
  generalize bits BinOp.xor IntKind.u64 m1 (m1 / 8589934592) = m2
  rw [World.drew_eq]
  generalize hW1 : W.drew = W1
  have c2' : W1.cell? ⟨b, 2, none⟩ = some (.int .u64 m1) := by rw [← hW1]; exact c2
  have f2' : W1.frozen? ⟨b, 2, none⟩ = false := by rw [← hW1]; exact f2
  have HW1 := Lib.hid hW1
  clear hW1 c2 f2
  go_wp2
  go_ret
  exact drawEnd_of0 _ 1 HH.out HN.out HW0.out HW.out HW1.out (draw_x _ _).1 (draw_x _ _).2

theorem draw_any (b t : Nat) (w : World) (hB : Bag w b t) (ht : t ≤ 1000000000) :
    Calls Tryz.prog 30 #[.pointer (some ⟨b, 0, none⟩)] w (DrawEnd b t w) := by
  obtain ⟨a, len, cap, m, T, hh, hn⟩ := hB
  rcases Nat.lt_or_ge t len with h | h
  · obtain ⟨nb, off, y, rfl, hb, hy⟩ := hn t h
    exact draw_yes b t nb off len cap m y T w ht h hb hh hn hy
  · exact draw_no b t a len cap m T w ht h hh hn
end Go.Proofs.YtemoepcfmpapoaaGreatDoor
