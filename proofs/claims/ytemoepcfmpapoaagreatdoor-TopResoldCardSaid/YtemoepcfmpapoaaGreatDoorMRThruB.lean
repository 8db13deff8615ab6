/-
  bargain: all games gone through, by contract.
-/
import Derived.Test.YtemoepcfmpapoaaGreatDoorMRThru
import Derived.Laws.EntriesVeiled
namespace Go.Proofs.YtemoepcfmpapoaaGreatDoor
open Go.RowKit Go.Proofs Go.Shelf Go.Maps
attribute [local go_sem] Oper.semAt_some

set_option maxRecDepth 100000
set_option maxHeartbeats 6400000 in
/-- What goes through all games from a place on hands back its price in the end. -/
theorem through_any (Wk tb : Nat) (lo hi : Int) (p : Pl) (w : World) (hW : WkB Wk lo hi w) (ht : TopFn tb w) (hl1 : 1 ≤ lo) (hl2 : lo ≤ hi) (hl3 : hi ≤ 3) (hp : PV p) :
    Calls Tryz.prog 78 #[.pointer (some ⟨Wk, 0, none⟩), p.v, .func (.func 77) #[] #[], topFn tb] w (IntEnd (p.val lo (hi - lo + 1).toNat) w) := by
  have hmf : ∀ (fn : Fn) (first cap : Array Value) (w : World), (Instr.makeFunc fn first cap).run Tryz.prog w = .ok (.func fn first cap) w := fun _ _ _ _ => rfl
  have hmm := @run_makeMap Tryz.prog
  have HWK := Lib.hid hW
  have HTP := Lib.hid ht
  have HP := Lib.hid hp
  have HL := Lib.hid (And.intro hl1 (And.intro hl2 hl3))
  clear hW ht hp hl1 hl2 hl3
  obtain ⟨hV, hM, hpl, hbw⟩ := thru_made w Wk lo hi p tb HWK.out HTP.out
  have k4 := hV.vs
  obtain ⟨c0, c1, c2, c3, c4, c5, c6, c7⟩ := hpl.cell
  have hmost : most 26 ≤ 2 ^ 62 := by simp [most]
  have h26 : p.left ≤ ((26 : Nat) : Int) := by
    have := HP.out.ba; have := HP.out.b0; have := HP.out.a12; have := HP.out.s
    unfold Pl.left
    omega
  have HVI := Lib.hid (visit_all _ _ _ _ _ _ _ _ lo hi HL.out.1 HL.out.2.1 HL.out.2.2 26 0 (.map []) p _ HP.out h26 hV hM (knows_none _ _) (by omega))
  have HBW := Lib.hid hbw
  clear hV hM hpl hbw hmost h26
  simp only [thruW, thruF, visA, plC] at k4 c0 c1 c2 c3 c4 c5 c6 c7
  simp only [Pl.v, plV, thruW, thruF, visA, plC] at HVI
  simp only [thruW, thruF, visA, plC] at HBW
  unfold Pl.v plV topFn
  go_enter Tryz.func78, Tryz.ntmps78
  go_wp2_with (first
    | (go_at_call 109; refine HVI.out.mono ?_; rintro q w4 ⟨rfl, _, hk4⟩))
  go_ret
  exact ⟨rfl, ⟨hk4.env.os.trans HBW.out.os, hk4.env.tape.trans HBW.out.tape, hk4.env.output.trans HBW.out.output, Nat.le_trans HBW.out.size hk4.size, fun j hj => (hk4.same j (Nat.lt_of_lt_of_le hj HBW.out.size) (by omega)).trans (HBW.out.block j hj)⟩⟩
end Go.Proofs.YtemoepcfmpapoaaGreatDoor
