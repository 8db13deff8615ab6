/-
  debt: the small functions, by contract.
-/
import Derived.Test.YtemoepcfmpapoaaGreatDoorMRPl
import Derived.Test.YtemoepcfmpapoaaGreatDoorMRDMath
namespace Go.Proofs.YtemoepcfmpapoaaGreatDoor
open Go.RowKit Go.Proofs Go.Shelf

theorem doutside_any (n lo hi : Int) (w : World) : Calls Tryz.prog 68 #[.int .i64 n, .int .i64 lo, .int .i64 hi] w (BoolEnd (decide (n < lo) || decide (hi < n)) w) := by
  by_cases h1 : n < lo
  · go_enter Tryz.func68, Tryz.ntmps68
    go_wp2
    go_ret
    exact ⟨by simp [h1], Below.refl _ _⟩
  · by_cases h2 : hi < n
    · go_enter Tryz.func68, Tryz.ntmps68
      go_wp2
      go_ret
      exact ⟨by simp [h1, h2], Below.refl _ _⟩
    · go_enter Tryz.func68, Tryz.ntmps68
      go_wp2
      go_ret
      exact ⟨by simp [h1, h2], Below.refl _ _⟩

/-- Two persons who are two persons. -/
theorem dcheckTwo_any (x y n : Nat) (w : World) (hx : x < n) (hy : y < n) (hn : n ≤ 100) (hxy : x ≠ y) :
    Calls Tryz.prog 46 #[.int .i64 x, .int .i64 y, .int .i64 n] w (ValEnd .nilIface w) := by
  have HO := fun v w => doutside_any v 0 ((n : Int) - 1) w
  have hw : IntKind.i64.wrap ((n : Int) - 1) = (n : Int) - 1 := IntWalk.i64_in _ (by omega)
  have h1 : decide ((x : Int) < 0) = false := by simp
  have h2 : decide ((n : Int) - 1 < (x : Int)) = false := by simp; omega
  have h3 : decide ((y : Int) < 0) = false := by simp
  have h4 : decide ((n : Int) - 1 < (y : Int)) = false := by simp; omega
  have h5 : ¬ ((x : Int) = (y : Int)) := by omega
  have h6 : ((x : Int) == (y : Int)) = false := by simpa using h5
  have H1 := Lib.hid (fun w => HO x w)
  have H2 := Lib.hid (fun w => HO y w)
  simp only [h1, h2, h3, h4, Bool.or_false] at H1 H2
  clear HO h1 h2 h3 h4
  go_enter Tryz.func46, Tryz.ntmps46
  go_wp2_with (first
    | (go_at_call 68; ((with_reducible refine (H1.out _).mono ?_); rintro e w2 ⟨rfl, hb2⟩))
    | (go_at_call 68; ((with_reducible refine (H2.out _).mono ?_); rintro e w3 ⟨rfl, hb3⟩)))
  go_ret
  exact ⟨rfl, hb2.trans (hb3.mono hb2.size)⟩

theorem need_yes (w : World) : Calls Tryz.prog 90 #[.bool true] w (ValEnd (.tuple #[]) w) := by
  go_enter Tryz.func90, Tryz.ntmps90
  go_wp2
  go_end0
  exact ⟨rfl, Below.refl _ _⟩
/-- What a set of pairs that is not the one of a settlement is left with. -/
def unsV : List PanicEntry := [{ v := .iface 173 (.agg #[]), recovered := false }]
theorem need_no (w : World) : Calls Tryz.prog 90 #[.bool false] w fun e w' => e = .panicked unsV ∧ Below w.heap.size w w' := by
  go_enter Tryz.func90, Tryz.ntmps90
  go_wp2
  exact ⟨rfl, rfl, Below.refl _ _⟩

def payV (p : Pay) : Value := .agg #[.int .i64 p.1, .int .i64 p.2.1, .int .i64 p.2.2]
theorem payment_any (x y : Nat) (v : Int) (w : World) (h1 : -1000000000 ≤ v) (h2 : v ≤ 1000000000) :
    Calls Tryz.prog 92 #[.int .i64 x, .int .i64 y, .int .i64 v] w (ValEnd (payV (payF x y v)) w) := by
  by_cases h : v < 0
  · have hw : IntKind.i64.wrap (-v) = -v := IntWalk.i64_in _ (by omega)
    go_enter Tryz.func92, Tryz.ntmps92
    go_wp2
    refine bodyPost_ret (v := payV (payF x y v)) (by simp [results, Tryz.results92, go_sem, payV, payF, h]) rfl ⟨rfl, below_alloc w _⟩
  · have h' : decide (v < 0) = false := by simpa using h
    have HV := Lib.hid (show payF x y v = ((x : Int), (y : Int), v) by simp [payF, h])
    clear h
    go_enter Tryz.func92, Tryz.ntmps92
    go_wp2
    rw [HV.out]
    refine bodyPost_ret (v := payV ((x : Int), (y : Int), v)) (by simp [results, Tryz.results92, go_sem, payV]) rfl ⟨rfl, below_alloc w _⟩
end Go.Proofs.YtemoepcfmpapoaaGreatDoor
