/-
  debt: pairs of persons as bits, by contract.
-/
import Derived.Test.YtemoepcfmpapoaaGreatDoorMRDe
import Derived.Test.YtemoepcfmpapoaaGreatDoorMRDMath
import Derived.Laws.Bits64
namespace Go.Proofs.YtemoepcfmpapoaaGreatDoor
open Go.RowKit Go.Proofs Go.Shelf
attribute [local go_sem] Oper.semAt_some

set_option maxRecDepth 100000
def pairA : Array Value := #[.int .u64 0, .int .u64 1, .int .u64 2, .int .u64 8, .int .u64 64, .int .u64 1, .int .u64 0, .int .u64 4, .int .u64 16, .int .u64 128, .int .u64 2, .int .u64 4, .int .u64 0, .int .u64 32, .int .u64 256, .int .u64 8, .int .u64 16, .int .u64 32, .int .u64 0, .int .u64 512, .int .u64 64, .int .u64 128, .int .u64 256, .int .u64 512, .int .u64 0]
def pairZ : Array Value := #[.int .u64 0, .int .u64 0, .int .u64 0, .int .u64 0, .int .u64 0, .int .u64 0, .int .u64 0, .int .u64 0, .int .u64 0, .int .u64 0, .int .u64 0, .int .u64 0, .int .u64 0, .int .u64 0, .int .u64 0, .int .u64 0, .int .u64 0, .int .u64 0, .int .u64 0, .int .u64 0, .int .u64 0, .int .u64 0, .int .u64 0, .int .u64 0, .int .u64 0]
theorem pairA_at {x y : Nat} (hx : x < 5) (hy : y < 5) : pairA[x * 5 + y]? = some (.int .u64 (pbit x y : Nat)) := by
  rcases (by omega : x = 0 ∨ x = 1 ∨ x = 2 ∨ x = 3 ∨ x = 4) with rfl | rfl | rfl | rfl | rfl <;>
  rcases (by omega : y = 0 ∨ y = 1 ∨ y = 2 ∨ y = 3 ∨ y = 4) with rfl | rfl | rfl | rfl | rfl <;> rfl
theorem pair_put : putAll pairZ 0 pairA.toList = pairA := by simp [putAll, pairZ, pairA]
theorem Tryz.infoPairs : (Tryz.prog.info? 228).map (·.size) = some 25 := by kernel_rfl
set_option maxHeartbeats 3200000 in
theorem pairOf_any (x y : Nat) (w : World) (hx : x < 5) (hy : y < 5) : Calls Tryz.prog 117 #[.int .i64 x, .int .i64 y] w (ValEnd (.int .u64 (pbit x y : Nat)) w) := by
  have hx1 : (0 : Int) ≤ (x : Int) := by omega
  have hx2 : (x : Int) < 5 := by omega
  have hy1 : (0 : Int) ≤ (y : Int) := by omega
  have hy2 : (y : Int) < 5 := by omega
  obtain ⟨W1, hW1⟩ : ∃ W1, w.alloc (.cells pairZ 228) = W1 := ⟨_, rfl⟩
  have hh : W1.heap[w.heap.size]? = some (.cells pairZ 228 (0, 0)) := by rw [← hW1]; exact heap_new w _
  have HB := Lib.hid (show Below w.heap.size w W1 by rw [← hW1]; exact below_alloc _ _)
  have HT := Lib.hid (known_there (o := 0) (n := 25) hh (by simp [pairZ]))
  have HI := Lib.hid Tryz.infoPairs
  have h2 := heap_setCells pairA.toList 0 hh
  rw [pair_put] at h2
  have hc : (W1.setCells w.heap.size 0 pairA.toList).cell? ⟨w.heap.size, x * 5 + y, none⟩ = some (.int .u64 (pbit x y : Nat)) := by
    simp only [World.cell?, h2]
    exact pairA_at hx hy
  have HC := Lib.hid hc
  generalize pbit x y = r at *
  clear hh h2 hc
  unfold pairZ at hW1
  go_enter Tryz.func117, Tryz.ntmps117
  go_upto_region 2 with (refine wpList_store_mid rfl 228 (.tmp 5) (.tmp 11) rfl w.heap.size 0 pairA rfl rfl HT.out HI.out (by simp [Value.oneCell', pairA]) ?_)
  have hc := HC.out
  have HB2 := Lib.hid (below_setCells (Nat.le_refl _) pairA.toList 0 HB.out)
  generalize W1.setCells _ _ _ = W2 at *
  clear hW1
  try simp only [Act.put]
  go_wp2
  go_ret
  exact ⟨rfl, HB2.out⟩

theorem has_any (s x y : Nat) (w : World) (hx : x < 5) (hy : y < 5) (hs : s < 1024) : Calls Tryz.prog 91 #[.int .u64 s, .int .i64 x, .int .i64 y] w (BoolEnd (hasB s x y) w) := by
  have HP := Lib.hid (fun w => pairOf_any x y w hx hy)
  have hrl : pbit x y < 1024 := by
    rcases (by omega : x = 0 ∨ x = 1 ∨ x = 2 ∨ x = 3 ∨ x = 4) with rfl | rfl | rfl | rfl | rfl <;>
    rcases (by omega : y = 0 ∨ y = 1 ∨ y = 2 ∨ y = 3 ∨ y = 4) with rfl | rfl | rfl | rfl | rfl <;> decide
  obtain ⟨r, hr⟩ : ∃ r, pbit x y = r := ⟨_, rfl⟩
  unfold hasB
  simp only [hr] at HP hrl ⊢
  clear hr
  go_enter Tryz.func91, Tryz.ntmps91
  go_wp2_with (first
    | (go_at_call 117; refine (HP.out _).mono ?_; rintro q w2 ⟨rfl, hb2⟩))
  refine bodyPost_ret (v := .bool (s &&& r != 0)) ?_ rfl ⟨rfl, hb2⟩
  have e : (bits BinOp.and IntKind.u64 (s : Int) (r : Int) != 0) = (s &&& r != 0) := by
    rw [bits_and_u64_nat s r (by omega) (by omega)]
    by_cases h : s &&& r = 0
    · simp [h]
    · rw [bne_iff_ne.2 h, bne_iff_ne.2 (by omega)]
  simp [results, Tryz.results91, go_sem, e]

def oc1 (s : Int) : Int := IntKind.u64.wrap (bits BinOp.and IntKind.u64 (s / 2) 6148914691236517205 + bits BinOp.and IntKind.u64 s 6148914691236517205)
def oc2 (u : Int) : Int := IntKind.u64.wrap (bits BinOp.and IntKind.u64 (u / 4) 3689348814741910323 + bits BinOp.and IntKind.u64 u 3689348814741910323)
def oc3 (u : Int) : Int := bits BinOp.and IntKind.u64 (IntKind.u64.wrap (u / 16 + u)) 1085102592571150095
def oc4 (u : Int) : Int := IntKind.u64.wrap (u + u / 256)
def oc5 (u : Int) : Int := IntKind.u64.wrap (u + u / 65536)
def oc6 (u : Int) : Int := IntKind.u64.wrap (u + u / 4294967296)
def oc7 (u : Int) : Int := bits BinOp.and IntKind.i64 (wrap64 u) 127
def ocAll : Bool := (List.range 1024).all fun s => oc7 (oc6 (oc5 (oc4 (oc3 (oc2 (oc1 (s : Nat))))))) == ((popc s : Nat) : Int)
theorem ocAll_true : ocAll = true := by kernel_rfl
theorem oc_eq {s : Nat} (hs : s < 1024) : oc7 (oc6 (oc5 (oc4 (oc3 (oc2 (oc1 (s : Nat))))))) = ((popc s : Nat) : Int) := by
  have h := ocAll_true
  unfold ocAll at h
  rw [List.all_eq_true] at h
  exact eq_of_beq (h s (List.mem_range.2 hs))
theorem ones64_any (s : Nat) (w : World) (hs : s < 1024) : Calls Tryz.prog 130 #[.int .u64 s] w (IntEnd (popc s : Nat) w) := by
  rw [← oc_eq hs]
  clear hs
  go_enter Tryz.func130, Tryz.ntmps130
  go_upto_region 2 with fail
  obtain ⟨u1, e1⟩ : ∃ u, oc1 ((s : Nat) : Int) = u := ⟨_, rfl⟩
  have H1 := Lib.hid e1
  unfold oc1 at e1
  rw [e1]
  clear e1
  go_upto_region 3 with fail
  obtain ⟨u2, e2⟩ : ∃ u, oc2 u1 = u := ⟨_, rfl⟩
  have H2 := Lib.hid e2
  unfold oc2 at e2
  rw [e2]
  clear e2
  go_upto_region 4 with fail
  obtain ⟨u3, e3⟩ : ∃ u, oc3 u2 = u := ⟨_, rfl⟩
  have H3 := Lib.hid e3
  unfold oc3 at e3
  rw [e3]
  clear e3
  go_upto_region 5 with fail
  obtain ⟨u4, e4⟩ : ∃ u, oc4 u3 = u := ⟨_, rfl⟩
  have H4 := Lib.hid e4
  unfold oc4 at e4
  rw [e4]
  clear e4
  go_upto_region 6 with fail
  obtain ⟨u5, e5⟩ : ∃ u, oc5 u4 = u := ⟨_, rfl⟩
  have H5 := Lib.hid e5
  unfold oc5 at e5
  rw [e5]
  clear e5
  go_upto_region 7 with fail
  obtain ⟨u6, e6⟩ : ∃ u, oc6 u5 = u := ⟨_, rfl⟩
  have H6 := Lib.hid e6
  unfold oc6 at e6
  rw [e6]
  clear e6
  go_wp2
  refine bodyPost_ret (v := .int .i64 (oc7 u6)) (by simp [results, Tryz.results130, go_sem, oc7]) rfl ⟨?_, Below.refl _ _⟩
  rw [H1.out, H2.out, H3.out, H4.out, H5.out, H6.out]

theorem ones_any (s : Nat) (w : World) (hs : s < 1024) : Calls Tryz.prog 116 #[.int .u64 s] w (IntEnd (popc s : Nat) w) := by
  have H := Lib.hid (fun w => ones64_any s w hs)
  generalize popc s = r at *
  go_enter Tryz.func116, Tryz.ntmps116
  go_wp2_with (go_at_call 130; refine (H.out _).mono ?_; rintro q w2 ⟨rfl, hb2⟩)
  go_ret
  exact ⟨rfl, hb2⟩
theorem count_any (s : Nat) (w : World) (hs : s < 1024) : Calls Tryz.prog 87 #[.int .u64 s] w (IntEnd (popc s : Nat) w) := by
  have H := Lib.hid (fun w => ones_any s w hs)
  generalize popc s = r at *
  go_enter Tryz.func87, Tryz.ntmps87
  go_wp2_with (go_at_call 116; refine (H.out _).mono ?_; rintro q w2 ⟨rfl, hb2⟩)
  go_ret
  exact ⟨rfl, hb2⟩
end Go.Proofs.YtemoepcfmpapoaaGreatDoor
