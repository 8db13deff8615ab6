/-
  A horse is a set of entries, as bits: 'with', 'has', by contracts.
-/
import Derived.Test.YtejfelijhojndaaGreatDoorMEntry
import Derived.Deep.RegionHeld3
import Derived.WalkSpells
namespace Go.Proofs.YtejfelijhojndaaGreatDoor
open Go.RowKit Go.Proofs

theorem or_bit (h r : Nat) (hh : h < 256) (hr : r < 8) : bits .or .u8 (h : Int) (2 ^ ((r : Int)).toNat % 256) = ((h ||| 2 ^ r : Nat) : Int) := by
  have h2 : (2 : Nat) ^ r < 256 := by
    calc (2 : Nat) ^ r < 2 ^ 8 := Nat.pow_lt_pow_right (by omega) hr
      _ = 256 := rfl
  have h3 : ((2 : Int) ^ ((r : Int)).toNat % 256) = ((2 ^ r : Nat) : Int) := by
    rw [Int.toNat_natCast, Int.emod_eq_of_lt]
    · push_cast; rfl
    · exact Int.le_of_lt (Int.pow_pos (by decide))
    · have : ((2 ^ r : Nat) : Int) < 256 := by omega
      push_cast at this; exact this
  rw [h3, u8_or_nat _ _ hh h2]

theorem or_lt {h r : Nat} (hh : h < 256) (hr : r < 8) : h ||| 2 ^ r < 256 := by
  have h2 : (2 : Nat) ^ r < 2 ^ 8 := Nat.pow_lt_pow_right (by omega) hr
  exact Nat.or_lt_two_pow (n := 8) hh h2

set_option maxRecDepth 100000 in
theorem with_any (h r : Nat) (w : World) (hh : h < 256) (hr : r < 8) :
    Calls Tryz.prog 73 #[.agg #[.int .u8 h], .int .i64 r] w fun e w' => e = .returned (.agg #[.int .u8 ((h ||| 2 ^ r : Nat) : Int)]) ∧ Below w.heap.size w w' := by
  have hb := Lib.hid (or_bit h r hh hr)
  go_enter Tryz.func73, Tryz.ntmps73
  go_wp2_with fail
  go_region
  go_wp2
  refine bodyPost_ret (v := .agg #[.int .u8 (bits BinOp.or IntKind.u8 h (2 ^ ((r : Int)).toNat % 256))]) ?_ rfl ?_
  · simp [results, Tryz.results73, go_sem]
  · rw [hb.out]
    exact ⟨rfl, (((Below.refl _ w).alloc (Nat.le_refl _) _).alloc (by simp) _).drew⟩

/-- 'has' as a Bool. -/
def hasB (h n : Nat) : Bool := h.testBit n
end Go.Proofs.YtejfelijhojndaaGreatDoor
