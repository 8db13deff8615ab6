/-
  tooth: CheckLooks of what is valid, by contract.
-/
import Derived.Test.YtejfelijhojndaaGreatDoorMTLook
import Derived.Deep.RegionHeld3
namespace Go.Proofs.YtejfelijhojndaaGreatDoor
open Go.RowKit Go.Proofs Go.Shelf

theorem zeros_new (W : World) (T : TypeId) (n : Nat) : Ints (W.alloc (.cells (List.replicate n (Value.int .i64 0)).toArray T)) (.slice (some ⟨W.heap.size, 0, none⟩) n n) (List.replicate n 0) := by
  refine ⟨_, n, by rw [List.length_replicate], fun _ => ⟨W.heap.size, 0, rfl, fun j hj => ?_⟩⟩
  rw [List.length_replicate] at hj
  rw [Nat.zero_add, World.cell?_alloc_new]
  simp [hj]

set_option maxRecDepth 100000 in
set_option maxHeartbeats 1600000 in
theorem tcheckLooks_ok (nv dv lv : Value) (N D : List (List Int)) (L : List (Nat × Nat)) (w : World) (hN : RowsAt w nv N) (hD : RowsAt w dv D) (hJ : JawOK N D) (hL : LooksAt w lv L) (hO : LooksOK L N.length) :
    Calls Tryz.prog 37 #[jawV nv dv, lv] w (OkB w) := by
  obtain ⟨W1, hW1⟩ : ∃ W1, w.alloc (.cells #[nv, dv] 34) = W1 := ⟨_, rfl⟩
  have hb1 : Below w.heap.size w W1 := by rw [← hW1]; exact (Below.refl _ w).alloc (Nat.le_refl _) _
  have hblk : W1.heap[w.heap.size]? = some (.cells #[nv, dv] 34 (0, 0)) := by rw [← hW1]; exact heap_new w _
  have q0 : W1.cell? ⟨w.heap.size, 0, none⟩ = some nv := by simp [World.cell?, hblk]
  have q1 : W1.cell? ⟨w.heap.size, 1, none⟩ = some dv := by simp [World.cell?, hblk]
  have hbd : Below w.heap.size w W1.drew := hb1.drew
  have C1 := Lib.hid (tcheck_ok nv dv N D W1.drew (hN.below hbd) (hD.below hbd) hJ)
  have C2 := Lib.hid (fun W' (hb : Below w.heap.size w W') => tlooks_ok nv dv lv N L W' (hN.below hb) (by obtain ⟨b, off, cap, h, _⟩ := hD; exact ⟨_, _, _, h⟩) hJ.le (hL.below hb) hO)
  have C3 := Lib.hid (fun W' => first_ok (.slice (some ⟨W'.heap.size, 0, none⟩) 2 2) 2 _ (zeros_new W' 43 2) (by omega))
  have HB1 := Lib.hid hbd
  have HQ := Lib.hid (fun W' (hb : Below W1.drew.heap.size W1.drew W') => And.intro (below_cell hb (show W1.drew.cell? _ = _ from q0)) (below_cell hb (show W1.drew.cell? _ = _ from q1)))
  obtain ⟨nb, noff, ncap, rfl, _⟩ := hN
  obtain ⟨db, doff, dcap, rfl, _⟩ := hD
  obtain ⟨lb, loff, lcap, rfl, _⟩ := hL
  clear hblk hb1 hbd hJ hO
  unfold jawV at *
  go_enter Tryz.func37, Tryz.ntmps37
  go_wp2_with fail
  go_region_held3 (fun w' => w'.cell? ⟨w.heap.size, 0, none⟩ = some (.slice (some ⟨nb, noff, none⟩) N.length ncap) ∧ w'.cell? ⟨w.heap.size, 1, none⟩ = some (.slice (some ⟨db, doff, none⟩) D.length dcap))
    (first | go_keep | exact HQ.out _ hb2 | exact HQ.out _ hb3 | exact HQ.out _ hb4)
    (first
      | (go_at_call 49; refine (C1.out).mono ?_; rintro e w2 ⟨rfl, hb2⟩)
      | (go_at_call 27; refine (C2.out _ (HB1.out.trans (hb2.mono HB1.out.size))).mono ?_; rintro e w3 ⟨rfl, hb3'⟩; have hb3 := hb2.trans (hb3'.mono hb2.size))
      | (go_at_call 36; refine (C3.out w3).mono ?_; rintro e w4 ⟨rfl, hb4'⟩; have hb4 := hb3.trans (((Below.refl _ w3).alloc (Nat.le_refl _) _ |>.trans (hb4'.mono (by simp))).mono hb3.size)))
  go_wp2_with fail
  go_ret
  exact ⟨rfl, HB1.out.trans (hb4.mono HB1.out.size)⟩
end Go.Proofs.YtejfelijhojndaaGreatDoor
