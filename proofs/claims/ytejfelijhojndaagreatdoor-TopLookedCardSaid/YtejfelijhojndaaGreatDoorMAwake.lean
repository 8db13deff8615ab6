/-
  palfreytop: lookedAwake: what its literals come to.
-/
import Derived.Test.YtejfelijhojndaaGreatDoorMMMath3
import Derived.Test.YtejfelijhojndaaGreatDoorMTMath
namespace Go.Proofs.YtejfelijhojndaaGreatDoor
open Go.RowKit Go.Proofs Go.Shelf

def awF : Fair := ⟨[⟨0, 0, 0, 15, 0, []⟩, ⟨2, 0, 0, 15, 0, []⟩], [[0]], 0, 0, 1, 1⟩
theorem awSame : sameV awF 0 1 = 1 := by kernel_rfl
theorem awFill : fillL (canN awF awF.ents.length) awF.most.toNat (List.range awF.ents.length) [] ≠ [] := fun h => by
  have : (fillL (canN awF awF.ents.length) awF.most.toNat (List.range awF.ents.length) []).length = 1 := by kernel_rfl
  rw [h] at this
  cases this
def awN : List (List Int) := [[1], [1]]
def awD : List (List Int) := [[], [0]]
def awL : List (Nat × Nat) := [(0, 1), (1, 0)]
theorem awWork : workS awN awD awL = ((workS awN awD awL).1, 1) := by
  have : (workS awN awD awL).2 = 1 := by kernel_rfl
  rw [← this]
theorem awPos : 0 < (workS awN awD awL).1.length := by
  have : decide (0 < (workS awN awD awL).1.length) = true := by kernel_rfl
  exact of_decide_eq_true this
theorem awJaw : JawOK awN awD := by
  refine ⟨by decide, by decide, by decide, fun i h => ?_, fun i h => ?_⟩
  · match i, h with
    | 0, _ => exact ⟨⟨fun i h => by match i, h with | 0, _ => simp [awN], fun i h => by simp [awN] at h, by simp [awN]⟩, by simp [awN]⟩
    | 1, _ => exact ⟨⟨fun i h => by match i, h with | 0, _ => simp [awN], fun i h => by simp [awN] at h, by simp [awN]⟩, by simp [awN]⟩
  · match i, h with
    | 0, _ => exact ⟨fun i h => by simp [awD] at h, fun i h => by simp [awD] at h, by simp [awD]⟩
    | 1, _ => exact ⟨fun i h => by match i, h with | 0, _ => simp [awD, awN], fun i h => by simp [awD] at h, by simp [awD]⟩
theorem awLooks : LooksOK awL awN.length := by
  refine ⟨by decide, fun i h => ?_, fun i h => ?_, fun i h => ?_⟩
  · match i, h with
    | 0, _ => simp [awL]
    | 1, _ => simp [awL]
  · match i, h with
    | 0, _ => simp [awL, awN]
    | 1, _ => simp [awL, awN]
  · match i, h with
    | 0, _ => simp [awL]
theorem awRoads : RoadsOK awF.roads := by
  have e : awF.roads = matL 1 (fun _ _ => 0) := by simp [awF, matL]
  rw [e]
  exact roads_mat (least := 0) (by omega) (by omega) (by omega) (by omega) (fun _ _ => rfl) (fun a c ha hc hne => by omega)
theorem awFair : FairOK awF := by
  refine ⟨awRoads, by simp [awF], by simp [awF], by simp [awF], by simp [awF], fun i h => ?_⟩
  have mk : MarksOK ([] : List Int) := ⟨fun i h => by simp at h, fun i h => by simp at h, by simp⟩
  match i, h with
  | 0, _ => exact ⟨by simp [awF], by simp [awF], by simp [awF], mk, by simp [awF], by simp [awF]⟩
  | 1, _ => exact ⟨by simp [awF], by simp [awF], by simp [awF], mk, by simp [awF], by simp [awF]⟩

theorem h1of {w : World} {A : Obj} : (w.alloc A).heap[w.heap.size]? = some A := heap_new w A
theorem hup {w : World} {A o : Obj} {g : Nat} (h : w.heap[g]? = some o) : (w.alloc A).heap[g]? = some o := (Below.heap_alloc _ _ _ (Array.getElem?_eq_some_iff.1 h).1).trans h

set_option maxRecDepth 100000 in
set_option maxHeartbeats 1600000 in
theorem awake_any (w : World) : Calls Tryz.prog 12 #[] w (fun e w' => e = .returned (.bool true) ∧ Below w.heap.size w w') := by
  go_enter Tryz.func12, Tryz.ntmps12
  go_wp2_with fail
  obtain ⟨u1, hu1⟩ : ∃ u, u = w.alloc (.cells #[.int .i64 0, .int .i64 0, .int .i64 0, .slice none 0 0, .int .i64 15, .int .i64 0, .int .i64 2, .int .i64 0, .int .i64 0, .slice none 0 0, .int .i64 15, .int .i64 0] 57) := ⟨_, rfl⟩
  obtain ⟨u2, hu2⟩ : ∃ u, u = u1.alloc (.cells #[.int .i64 0] 3) := ⟨_, rfl⟩
  obtain ⟨u3, hu3⟩ : ∃ u, u = u2.alloc (.cells #[.slice (some ⟨w.heap.size + 1, 0, none⟩) 1 1] 22) := ⟨_, rfl⟩
  obtain ⟨u4, hu4⟩ : ∃ u, u = u3.alloc (.cells #[.slice (some ⟨w.heap.size, 0, none⟩) 2 2, .slice (some ⟨w.heap.size + 1 + 1, 0, none⟩) 1 1, .int .i64 0, .int .i64 0, .int .i64 1, .int .i64 1] 30) := ⟨_, rfl⟩
  have s1 : u1.heap.size = w.heap.size + 1 := by rw [hu1]; simp
  have s2 : u2.heap.size = w.heap.size + 1 + 1 := by rw [hu2]; simp [s1]
  have s3 : u3.heap.size = w.heap.size + 1 + 1 + 1 := by rw [hu3]; simp [s2]
  have a1 : u4.heap[w.heap.size]? = some (.cells #[.int .i64 0, .int .i64 0, .int .i64 0, .slice none 0 0, .int .i64 15, .int .i64 0, .int .i64 2, .int .i64 0, .int .i64 0, .slice none 0 0, .int .i64 15, .int .i64 0] 57 (0, 0)) := by
    rw [hu4]; apply hup; rw [hu3]; apply hup; rw [hu2]; apply hup; rw [hu1]; exact h1of
  have a2 : u4.heap[w.heap.size + 1]? = some (.cells #[.int .i64 0] 3 (0, 0)) := by
    rw [hu4]; apply hup; rw [hu3]; apply hup; rw [hu2, ← s1]; exact h1of
  have a3 : u4.heap[w.heap.size + 1 + 1]? = some (.cells #[.slice (some ⟨w.heap.size + 1, 0, none⟩) 1 1] 22 (0, 0)) := by
    rw [hu4]; apply hup; rw [hu3, ← s2]; exact h1of
  have a4 : u4.heap[w.heap.size + 1 + 1 + 1]? = some (.cells #[.slice (some ⟨w.heap.size, 0, none⟩) 2 2, .slice (some ⟨w.heap.size + 1 + 1, 0, none⟩) 1 1, .int .i64 0, .int .i64 0, .int .i64 1, .int .i64 1] 30 (0, 0)) := by
    rw [hu4, ← s3]; exact h1of
  have hb4 : Below w.heap.size w u4 := by
    rw [hu4, hu3, hu2, hu1]
    exact ((((Below.refl _ w).alloc (Nat.le_refl _) _).alloc (by simp) _).alloc (by simp; omega) _).alloc (by simp; omega) _
  have hE : EntsAt u4 (.slice (some ⟨w.heap.size, 0, none⟩) 2 2) awF.ents := by
    refine ⟨_, 2, rfl, fun _ => ⟨_, 0, rfl, fun i hi => ?_⟩⟩
    match i, hi with
    | 0, _ => exact ⟨.slice none 0 0, by simp [World.cell?, a1, awF], by simp [World.cell?, a1, awF], by simp [World.cell?, a1, awF], by simp [World.cell?, a1], by simp [World.cell?, a1, awF], by simp [World.cell?, a1, awF], ⟨none, 0, rfl, fun h => by simp [awF] at h⟩⟩
    | 1, _ => exact ⟨.slice none 0 0, by simp [World.cell?, a1, awF], by simp [World.cell?, a1, awF], by simp [World.cell?, a1, awF], by simp [World.cell?, a1], by simp [World.cell?, a1, awF], by simp [World.cell?, a1, awF], ⟨none, 0, rfl, fun h => by simp [awF] at h⟩⟩
  have hR : RowsAt u4 (.slice (some ⟨w.heap.size + 1 + 1, 0, none⟩) 1 1) awF.roads := by
    refine ⟨_, 0, 1, rfl, fun i hi => ?_⟩
    match i, hi with
    | 0, _ => exact ⟨.slice (some ⟨w.heap.size + 1, 0, none⟩) 1 1, by simp [World.cell?, a3], ⟨_, 1, rfl, fun _ => ⟨_, 0, rfl, fun j hj => by match j, hj with | 0, _ => simp [World.cell?, a2, awF]⟩⟩⟩
  have C1 := Lib.hid (same_any _ _ awF 0 1 u4 awFair hE hR (by decide) (by decide) awFill)
  have HB4 := Lib.hid hb4
  rw [← hu1, ← hu2, ← hu3, ← hu4]
  clear hu1 hu2 hu3 hu4 s1 s2 s3 a1 a2 a3 a4 hE hR hb4
  refine C1.out.mono ?_
  rintro e w2 ⟨rfl, hb2⟩
  rw [awSame]
  have HB5 := Lib.hid (HB4.out.trans (hb2.mono HB4.out.size))
  clear hb2
  go_wp2_with fail
  obtain ⟨z, hz⟩ : ∃ z, z = w2.heap.size := ⟨_, rfl⟩
  obtain ⟨u1, hu1⟩ : ∃ u, u = w2.alloc (.cells #[.int .i64 1] 3) := ⟨_, rfl⟩
  obtain ⟨u2, hu2⟩ : ∃ u, u = u1.alloc (.cells #[.int .i64 1] 3) := ⟨_, rfl⟩
  obtain ⟨u3, hu3⟩ : ∃ u, u = u2.alloc (.cells #[.slice (some ⟨w2.heap.size, 0, none⟩) 1 1, .slice (some ⟨w2.heap.size + 1, 0, none⟩) 1 1] 22) := ⟨_, rfl⟩
  obtain ⟨u4, hu4⟩ : ∃ u, u = u3.alloc (.cells #[.int .i64 0] 3) := ⟨_, rfl⟩
  obtain ⟨u5, hu5⟩ : ∃ u, u = u4.alloc (.cells #[.slice none 0 0, .slice (some ⟨w2.heap.size + 1 + 1 + 1, 0, none⟩) 1 1] 22) := ⟨_, rfl⟩
  obtain ⟨u6, hu6⟩ : ∃ u, u = u5.alloc (.cells #[.int .i64 0, .int .i64 1, .int .i64 1, .int .i64 0] 41) := ⟨_, rfl⟩
  have s1 : u1.heap.size = w2.heap.size + 1 := by rw [hu1]; simp
  have s2 : u2.heap.size = w2.heap.size + 1 + 1 := by rw [hu2]; simp [s1]
  have s3 : u3.heap.size = w2.heap.size + 1 + 1 + 1 := by rw [hu3]; simp [s2]
  have s4 : u4.heap.size = w2.heap.size + 1 + 1 + 1 + 1 := by rw [hu4]; simp [s3]
  have s5 : u5.heap.size = w2.heap.size + 1 + 1 + 1 + 1 + 1 := by rw [hu5]; simp [s4]
  have a1 : u6.heap[w2.heap.size]? = some (.cells #[.int .i64 1] 3 (0, 0)) := by
    rw [hu6]; apply hup; rw [hu5]; apply hup; rw [hu4]; apply hup; rw [hu3]; apply hup; rw [hu2]; apply hup; rw [hu1]; exact h1of
  have a2 : u6.heap[w2.heap.size + 1]? = some (.cells #[.int .i64 1] 3 (0, 0)) := by
    rw [hu6]; apply hup; rw [hu5]; apply hup; rw [hu4]; apply hup; rw [hu3]; apply hup; rw [hu2, ← s1]; exact h1of
  have a3 : u6.heap[w2.heap.size + 1 + 1]? = some (.cells #[.slice (some ⟨w2.heap.size, 0, none⟩) 1 1, .slice (some ⟨w2.heap.size + 1, 0, none⟩) 1 1] 22 (0, 0)) := by
    rw [hu6]; apply hup; rw [hu5]; apply hup; rw [hu4]; apply hup; rw [hu3, ← s2]; exact h1of
  have a4 : u6.heap[w2.heap.size + 1 + 1 + 1]? = some (.cells #[.int .i64 0] 3 (0, 0)) := by
    rw [hu6]; apply hup; rw [hu5]; apply hup; rw [hu4, ← s3]; exact h1of
  have a5 : u6.heap[w2.heap.size + 1 + 1 + 1 + 1]? = some (.cells #[.slice none 0 0, .slice (some ⟨w2.heap.size + 1 + 1 + 1, 0, none⟩) 1 1] 22 (0, 0)) := by
    rw [hu6]; apply hup; rw [hu5, ← s4]; exact h1of
  have a6 : u6.heap[w2.heap.size + 1 + 1 + 1 + 1 + 1]? = some (.cells #[.int .i64 0, .int .i64 1, .int .i64 1, .int .i64 0] 41 (0, 0)) := by
    rw [hu6, ← s5]; exact h1of
  have hb6 : Below w2.heap.size w2 u6 := by
    rw [hu6, hu5, hu4, hu3, hu2, hu1]
    exact ((((((Below.refl _ w2).alloc (Nat.le_refl _) _).alloc (by simp) _).alloc (by simp; omega) _).alloc (by simp; omega) _).alloc (by simp; omega) _).alloc (by simp; omega) _
  have hN : RowsAt u6 (.slice (some ⟨w2.heap.size + 1 + 1, 0, none⟩) 2 2) awN := by
    refine ⟨_, 0, 2, rfl, fun i hi => ?_⟩
    match i, hi with
    | 0, _ => exact ⟨.slice (some ⟨w2.heap.size, 0, none⟩) 1 1, by simp [World.cell?, a3], ⟨_, 1, rfl, fun _ => ⟨_, 0, rfl, fun j hj => by match j, hj with | 0, _ => simp [World.cell?, a1, awN]⟩⟩⟩
    | 1, _ => exact ⟨.slice (some ⟨w2.heap.size + 1, 0, none⟩) 1 1, by simp [World.cell?, a3], ⟨_, 1, rfl, fun _ => ⟨_, 0, rfl, fun j hj => by match j, hj with | 0, _ => simp [World.cell?, a2, awN]⟩⟩⟩
  have hD : RowsAt u6 (.slice (some ⟨w2.heap.size + 1 + 1 + 1 + 1, 0, none⟩) 2 2) awD := by
    refine ⟨_, 0, 2, rfl, fun i hi => ?_⟩
    match i, hi with
    | 0, _ => exact ⟨.slice none 0 0, by simp [World.cell?, a5], ⟨none, 0, rfl, fun h => by simp [awD] at h⟩⟩
    | 1, _ => exact ⟨.slice (some ⟨w2.heap.size + 1 + 1 + 1, 0, none⟩) 1 1, by simp [World.cell?, a5], ⟨_, 1, rfl, fun _ => ⟨_, 0, rfl, fun j hj => by match j, hj with | 0, _ => simp [World.cell?, a4, awD]⟩⟩⟩
  have hL : LooksAt u6 (.slice (some ⟨w2.heap.size + 1 + 1 + 1 + 1 + 1, 0, none⟩) 2 2) awL := by
    refine ⟨_, 0, 2, rfl, fun i hi => ?_⟩
    match i, hi with
    | 0, _ => simp [World.cell?, a6, awL]
    | 1, _ => simp [World.cell?, a6, awL]
  have C2 := Lib.hid (filings_any _ _ _ awN awD awL u6 ⟨hN, hD, hL, awJaw⟩ awLooks awPos)
  have HB6 := Lib.hid (HB5.out.trans (hb6.mono HB5.out.size))
  rw [← hu1, ← hu2, ← hu3, ← hu4, ← hu5, ← hu6]
  clear hu1 hu2 hu3 hu4 hu5 hu6 s1 s2 s3 s4 s5 a1 a2 a3 a4 a5 a6 hN hD hL hb6 hz
  refine C2.out.mono ?_
  rintro e w3 ⟨rfl, hb3⟩
  rw [show (workS awN awD awL).2 = 1 from by rw [awWork]]
  have HB7 := Lib.hid (HB6.out.trans (hb3.mono HB6.out.size))
  clear hb3
  go_wp2_with fail
  go_ret
  exact ⟨rfl, HB7.out⟩
end Go.Proofs.YtejfelijhojndaaGreatDoor
