/-
  The ways: 'put' and 'fill' inside 'ways', by contracts: each way is yielded once, in order, whatever the loop's body does.
-/
import Derived.Test.YtejfelijhojndaaGreatDoorMHorse
import Derived.RangeFuncNested
import Derived.RangeFuncLeaves
import Derived.TacticsInMore
import Derived.OwnWalkIn
import Derived.Shelf.Abstract
import Derived.Shelf.RegionOpen
import Derived.LoopNIn
import Derived.LoopIn
import Derived.Defers
namespace Go.Proofs.YtejfelijhojndaaGreatDoor
open Go.RowKit Go.Proofs

/-- A list of horses, as cells. -/
def hcells (L : List Nat) : Array Value := (L.map fun h => Value.int .u8 (h : Nat)).toArray
theorem hcells_get {L : List Nat} {i : Nat} (h : i < L.length) : (hcells L)[i]? = some (.int .u8 (L[i] : Nat)) := by simp [hcells, h]
theorem hcells_set (L : List Nat) (i x : Nat) : (hcells L).setIfInBounds i (.int .u8 (x : Nat)) = hcells (L.set i x) := by
  simp [hcells, List.map_set]

/-- The block H holds the horses L. -/
def HS (H : Nat) (W : World) (L : List Nat) : Prop := W.heap[H]? = some (.cells (hcells L) 95 (0, 0))
theorem HS.cell {H : Nat} {W : World} {L : List Nat} (h : HS H W L) {i : Nat} (hi : i < L.length) : W.cell? ⟨H, i, none⟩ = some (.int .u8 (L[i] : Nat)) := by
  have := hcells_get hi
  simp only [HS] at h
  simp [World.cell?, h, this]
theorem HS.free {H : Nat} {W : World} {L : List Nat} (h : HS H W L) (i : Nat) : W.frozen? ⟨H, i, none⟩ = false := by
  simp only [HS] at h
  simp [World.frozen?, h]
theorem HS.set {H : Nat} {W : World} {L : List Nat} (h : HS H W L) (i x : Nat) : HS H (W.setCell ⟨H, i, none⟩ (.int .u8 (x : Nat))) (L.set i x) := by
  simp only [HS] at h ⊢
  rw [← hcells_set]
  simp [World.setCell, Array.getElem?_modify, h]

set_option maxRecDepth 100000 in
theorem restore_any (bb bh bi H i n : Nat) (h : Nat) (L : List Nat) (u : FrameMode) (w : World) (hL : L.length = n) (hi : i < n) (hn : n ≤ 100)
    (h0 : w.cell? ⟨bb, 0, none⟩ = some (.int .u8 h)) (h1 : w.cell? ⟨bh, 0, none⟩ = some (.slice (some ⟨H, 0, none⟩) n n)) (h2 : w.cell? ⟨bi, 0, none⟩ = some (.int .i64 i)) (hs : HS H w L) :
    CallsD Tryz.prog 77 #[.pointer (some ⟨bb, 0, none⟩), .pointer (some ⟨bh, 0, none⟩), .pointer (some ⟨bi, 0, none⟩)] u w
      fun e u' w' => u' = u ∧ (e = .returned (.tuple #[]) ∧ w' = w.setCell ⟨H, i, none⟩ (.int .u8 h)) := by
  have hc := hs.cell (i := i) (by omega)
  have hf := hs.free i
  have hi1 : (i : Int) < (n : Int) := by omega
  clear hs
  go_enter_d Tryz.func77, Tryz.ntmps77
  go_wp2
  go_end0
  exact ⟨rfl, rfl⟩

/-- The blocks that an iterator over ways stands on, and what rounds keep. -/
structure WC where
  (Bh H Bw Bf Bp By Wk M Rb l n most Bn : Nat)
  mo : Obj
  K : Nat → Prop
  can : Nat → Bool

structure WC.Ok (c : WC) : Prop where
  bh : c.K c.Bh ∧ c.Bh ≠ c.H
  bw : c.K c.Bw ∧ c.Bw ≠ c.H
  bf : c.K c.Bf ∧ c.Bf ≠ c.H
  bp : c.K c.Bp ∧ c.Bp ≠ c.H
  by' : c.K c.By ∧ c.By ≠ c.H
  wk : c.K c.Wk ∧ c.Wk ≠ c.H
  m : c.K c.M ∧ c.M ≠ c.H
  rb : c.K c.Rb ∧ c.Rb ≠ c.H
  h : c.K c.H
  kb : ∀ k, c.Bn ≤ k → c.K k
  n8 : c.n ≤ 8
  bn : c.Bn ≤ c.H
  look : ∀ (W : World) (h : Nat), W.heap[c.M]? = some c.mo → h < 256 → (Instr.lookup 118 (.map (some c.M)) (.agg #[.int .u8 h]) false).run Tryz.prog W = .ok (.bool (c.can h)) W

structure It (c : WC) (W : World) : Prop where
  bh : W.heap[c.Bh]? = some (.cells #[.slice (some ⟨c.H, 0, none⟩) c.n c.n] 70 (0, 0))
  bw : W.heap[c.Bw]? = some (.cells #[.pointer (some ⟨c.Wk, 0, none⟩)] 65 (0, 0))
  bf : W.heap[c.Bf]? = some (.cells #[.func (.func 78) #[] #[.pointer (some ⟨c.By, 0, none⟩), .pointer (some ⟨c.Bh, 0, none⟩), .pointer (some ⟨c.Bw, 0, none⟩), .pointer (some ⟨c.Bp, 0, none⟩)]] 152 (0, 0))
  bp : W.heap[c.Bp]? = some (.cells #[.func (.func 76) #[] #[.pointer (some ⟨c.Bh, 0, none⟩), .pointer (some ⟨c.Bw, 0, none⟩), .pointer (some ⟨c.Bf, 0, none⟩)]] 153 (0, 0))
  by' : W.heap[c.By]? = some (.cells #[.func (.yield c.l) #[] #[]] 72 (0, 0))
  most : W.cell? ⟨c.Wk, 5, none⟩ = some (.int .i64 c.most)
  canp : W.cell? ⟨c.Wk, 6, none⟩ = some (.map (some c.M))
  map : W.heap[c.M]? = some c.mo

/-- Of what rounds keep only the horses' block may have turned. -/
structure KeptK (c : WC) (W W' : World) : Prop where
  size : W.heap.size ≤ W'.heap.size
  same : ∀ k, k < W.heap.size → c.K k → k ≠ c.H → W'.heap[k]? = W.heap[k]?

theorem KeptK.refl (c : WC) (W : World) : KeptK c W W := ⟨Nat.le_refl _, fun _ _ _ _ => rfl⟩
theorem KeptK.trans {c : WC} {X Y Z : World} (h : KeptK c X Y) (k : KeptK c Y Z) : KeptK c X Z :=
  ⟨Nat.le_trans h.size k.size, fun i hi hk hH => (k.same i (Nat.lt_of_lt_of_le hi h.size) hk hH).trans (h.same i hi hk hH)⟩
theorem KeptK.of_below {c : WC} {X Y : World} (h : Below X.heap.size X Y) : KeptK c X Y := ⟨h.size, fun i hi _ _ => h.block i hi⟩
theorem KeptK.setH {c : WC} {X : World} (i : Nat) (v : Value) : KeptK c X (X.setCell ⟨c.H, i, none⟩ v) := ⟨by simp, fun _ _ _ hH => Below.heap_setCell _ _ _ _ (by exact hH)⟩
theorem KeptK.alloc {c : WC} {X : World} (o : Obj) : KeptK c X (X.alloc o) := .of_below ((Below.refl _ X).alloc (Nat.le_refl _) o)
theorem KeptK.cell {c : WC} {X Y : World} (h : KeptK c X Y) {a : Addr} {v : Value} (hk : c.K a.block ∧ a.block ≠ c.H) (hc : X.cell? a = some v) : Y.cell? a = some v :=
  (World.cell?_of_block (w := X) (h.same _ (World.block_lt_of_cell? X _ hc) hk.1 hk.2)).trans hc
theorem KeptK.heap {c : WC} {X Y : World} (h : KeptK c X Y) {k : Nat} {o : Obj} (hk : c.K k ∧ k ≠ c.H) (hc : X.heap[k]? = some o) : Y.heap[k]? = some o :=
  (h.same _ (Array.getElem?_eq_some_iff.1 hc).1 hk.1 hk.2).trans hc
theorem It.kept {c : WC} (ok : c.Ok) {X Y : World} (h : It c X) (k : KeptK c X Y) : It c Y :=
  ⟨k.heap ok.bh h.bh, k.heap ok.bw h.bw, k.heap ok.bf h.bf, k.heap ok.bp h.bp, k.heap ok.by' h.by', k.cell ok.wk h.most, k.cell ok.wk h.canp, k.heap ok.m h.map⟩

theorem It.drewN {c : WC} {W : World} (h : It c W) (n : Nat) : It c (W.drewN n) := ⟨h.bh, h.bw, h.bf, h.bp, h.by', h.most, h.canp, h.map⟩

/-- A slice of entries in block Rb. -/
def RL (Rb : Nat) (W : World) (v : Value) (rs : List Nat) : Prop :=
  ∃ a cap, v = .slice a rs.length cap ∧ rs.length ≤ cap ∧ (0 < rs.length → ∃ ro, a = some ⟨Rb, ro, none⟩ ∧ ∀ j, j < rs.length → W.cell? ⟨Rb, ro + j, none⟩ = some (.int .i64 (rs[j]?.getD 0 : Nat)))
theorem RL.kept {c : WC} (ok : c.Ok) {X Y : World} {v : Value} {rs : List Nat} (h : RL c.Rb X v rs) (k : KeptK c X Y) : RL c.Rb Y v rs := by
  obtain ⟨a, cap, hv, hcap, hc⟩ := h
  refine ⟨a, cap, hv, hcap, fun hl => ?_⟩
  obtain ⟨ro, ha, hd⟩ := hc hl
  exact ⟨ro, ha, fun j hj => k.cell (by exact ok.rb) (hd j hj)⟩

theorem slice_from_one (Rb ro m cap : Nat) (hcap : m + 1 ≤ cap) :
    ∃ a', (0 < m → a' = some ⟨Rb, ro + 1, none⟩) ∧ ∀ W, (Instr.slice 22 (.slice (some ⟨Rb, ro, none⟩) (m + 1) cap) (some (.int .i64 1)) none none).run Tryz.prog W = .ok (.slice a' m (cap - 1)) W := by
  by_cases h : 1 = cap
  · subst h
    obtain rfl : m = 0 := by omega
    exact ⟨some ⟨Rb, ro, none⟩, fun h => by omega, fun W => by simp [go_sem, Tryz.underlying22]⟩
  · refine ⟨some ⟨Rb, ro + 1, none⟩, fun _ => rfl, fun W => ?_⟩
    simp [go_sem, Tryz.underlying22]
    rw [if_pos (by omega), if_neg (by omega)]

def fillL (can : Nat → Bool) (most : Nat) : List Nat → List Nat → List (List Nat)
  | [], cur => [cur]
  | r :: rs, cur => (List.range (min (cur.length + 1) most)).flatMap fun i =>
      if can (cur.getD i 0 ||| 2 ^ r) then fillL can most rs (if i < cur.length then cur.set i (cur.getD i 0 ||| 2 ^ r) else cur ++ [cur.getD i 0 ||| 2 ^ r]) else []

/-- What put and fill come to. -/
def WPost (c : WC) (J Jx : List (List Nat) → World → Prop) (pre outs : List (List Nat)) (L : List Nat) (W : World) (e : Ending) (W' : World) : Prop :=
  ∃ bv, e = .returned (.bool bv) ∧ KeptK c W W' ∧ HS c.H W' L ∧ (bv = true → J (pre ++ outs) W') ∧ (bv = false → ∃ q, q <+: outs ∧ Jx (pre ++ q) W')

def FillOK (c : WC) (J Jx : List (List Nat) → World → Prop) (rs : List Nat) : Prop :=
  ∀ (W : World) (pre : List (List Nat)) (L : List Nat) (used : Nat) (v : Value), It c W → HS c.H W L → c.H < W.heap.size → L.length = c.n → (∀ x ∈ L, x < 256) → used + rs.length ≤ c.n → (∀ j, used ≤ j → j < c.n → L[j]?.getD 0 = 0) → RL c.Rb W v rs → J pre W →
    Calls Tryz.prog 78 #[.int .i64 used, v, .pointer (some ⟨c.By, 0, none⟩), .pointer (some ⟨c.Bh, 0, none⟩), .pointer (some ⟨c.Bw, 0, none⟩), .pointer (some ⟨c.Bp, 0, none⟩)] W
      (WPost c J Jx pre (fillL c.can c.most rs (L.take used)) L W)

set_option maxRecDepth 100000 in
set_option maxHeartbeats 1600000 in
theorem put_any (c : WC) (ok : c.Ok) (J Jx : List (List Nat) → World → Prop) (hJ : ∀ s A B, J s A → Below c.Bn A B → J s B) (hJx : ∀ s A B, Jx s A → Below c.Bn A B → Jx s B)
    (r : Nat) (rs : List Nat) (hfill : FillOK c J Jx rs) (W : World) (pre : List (List Nat)) (L : List Nat) (i used : Nat) (v : Value)
    (hI : It c W) (hH : HS c.H W L) (hsz : c.H < W.heap.size) (hL : L.length = c.n) (h256 : ∀ x ∈ L, x < 256) (hu : used + (r :: rs).length ≤ c.n) (hi : i ≤ used) (hz : ∀ j, used ≤ j → j < c.n → L[j]?.getD 0 = 0) (hr : r < 8)
    (hv : RL c.Rb W v (r :: rs)) (hj : J pre W) (outs : List (List Nat))
    (ho : outs = if c.can (L[i]?.getD 0 ||| 2 ^ r) then fillL c.can c.most rs ((L.set i (L[i]?.getD 0 ||| 2 ^ r)).take (max used (i + 1))) else []) :
    Calls Tryz.prog 76 #[.int .i64 i, .int .i64 used, v, .pointer (some ⟨c.Bh, 0, none⟩), .pointer (some ⟨c.Bw, 0, none⟩), .pointer (some ⟨c.Bf, 0, none⟩)] W
      (WPost c J Jx pre outs L W) := by
  have HO := Lib.hid ho
  clear ho
  have hmf : ∀ (fn : Fn) (first cap : Array Value) (w : World), (Instr.makeFunc fn first cap).run Tryz.prog w = .ok (.func fn first cap) w := fun _ _ _ _ => rfl
  simp only [List.length_cons] at hu
  have hin : i < L.length := by omega
  obtain ⟨x, hx⟩ : ∃ x, L[i] = x := ⟨_, rfl⟩
  have hx256 : x < 256 := by rw [← hx]; exact h256 _ (List.getElem_mem hin)
  have hxg : L[i]?.getD 0 = x := by simp [hin, hx]
  have n8 := ok.n8
  have cBh : W.cell? ⟨c.Bh, 0, none⟩ = some (.slice (some ⟨c.H, 0, none⟩) c.n c.n) := cell_of_one hI.bh
  have cH : W.cell? ⟨c.H, i, none⟩ = some (.int .u8 (x : Nat)) := by rw [hH.cell hin, hx]
  have hi1 : (i : Int) < (c.n : Int) := by omega
  obtain ⟨av, capv, hvv, hcapv, hvc⟩ := hv
  obtain ⟨ro, rfl, hrd⟩ := hvc (by simp)
  have hv' := Lib.hid (show RL c.Rb W v (r :: rs) from ⟨_, capv, hvv, hcapv, fun _ => ⟨ro, rfl, hrd⟩⟩)
  subst hvv
  have HX := Lib.hid hx
  have HXG := Lib.hid hxg
  have HHS := Lib.hid hH
  have HI := Lib.hid hI
  have HZ := Lib.hid hz
  have H256 := Lib.hid h256
  have HJ := Lib.hid hj
  have HRD := Lib.hid hrd
  have HL := Lib.hid hL
  clear hx hxg hH hI hz h256 hj hvc hrd hL
  have lBh := World.block_lt_of_cell? W _ cBh
  have cBh1 : (W.alloc (.cells #[.int .i64 i] 3)).cell? ⟨c.Bh, 0, none⟩ = some (.slice (some ⟨c.H, 0, none⟩) c.n c.n) := by rw [World.cell?_alloc_lt _ _ _ lBh]; exact cBh
  have cH1 : (W.alloc (.cells #[.int .i64 i] 3)).cell? ⟨c.H, i, none⟩ = some (.int .u8 (x : Nat)) := by rw [World.cell?_alloc_lt _ _ _ hsz]; exact cH
  clear cBh cH
  go_enter_defers Tryz.func76, Tryz.ntmps76
  go_wp2_with fail
  generalize hW2 : (W.alloc (.cells #[.int .i64 i] 3)).alloc (.cells #[.int .u8 x] 95) = W2
  have hs2 : W2.heap.size = W.heap.size + 1 + 1 := by rw [← hW2]; simp
  have k2 : KeptK c W W2 := by rw [← hW2]; exact (KeptK.alloc _).trans (KeptK.alloc _)
  have b2 : Below c.Bn W W2 := by
    have := ok.bn
    rw [← hW2]; exact ((Below.refl _ W).alloc (by omega) _).alloc (by simp; omega) _
  have I2 := HI.out.kept ok k2
  have hb2 : Below W.heap.size W W2 := by rw [← hW2]; exact ((Below.refl _ W).alloc (Nat.le_refl _) _).alloc (by simp) _
  have H2 : HS c.H W2 L := (hb2.block _ hsz).trans HHS.out
  have c1 : W2.cell? ⟨c.Bh, 0, none⟩ = some (.slice (some ⟨c.H, 0, none⟩) c.n c.n) := cell_of_one I2.bh
  have c2 : W2.cell? ⟨W.heap.size, 0, none⟩ = some (.int .i64 i) := by
    rw [← hW2, World.cell?_alloc_lt _ _ _ (by simp)]; exact World.cell?_alloc_new _ _ _ _
  have c3 : W2.cell? ⟨W.heap.size + 1, 0, none⟩ = some (.int .u8 (x : Nat)) := by
    rw [← hW2]
    have := World.cell?_alloc_new (W.alloc (.cells #[.int .i64 i] 3)) #[.int .u8 x] 95 0
    rw [World.size_alloc] at this
    exact this
  have c4 : W2.cell? ⟨c.Rb, ro, none⟩ = some (.int .i64 (r : Nat)) := by
    have := HRD.out 0 (by simp)
    exact k2.cell (by exact ok.rb) (by simpa using this)
  have c5 : W2.cell? ⟨c.H, i, none⟩ = some (.int .u8 (x : Nat)) := by rw [H2.cell hin, HX.out]
  have c6 : W2.frozen? ⟨c.H, i, none⟩ = false := H2.free i
  have HW2 := Lib.hid hW2
  have HS2 := Lib.hid hs2
  have HI2 := Lib.hid I2
  have HH2 := Lib.hid H2
  have HB2 := Lib.hid b2
  clear hW2 hs2 I2 H2 cBh1 cH1 b2 hb2
  have ne1 : (⟨c.H, i, none⟩ : Addr) ≠ ⟨c.Bh, 0, none⟩ := fun e => ok.bh.2 (by have := congrArg Addr.block e; simp at this; exact this.symm)
  have ne2 : (⟨c.H, i, none⟩ : Addr) ≠ ⟨W.heap.size, 0, none⟩ := fun e => by have := congrArg Addr.block e; simp at this; omega
  have ne3 : (⟨c.H, i, none⟩ : Addr) ≠ ⟨W.heap.size + 1, 0, none⟩ := fun e => by have := congrArg Addr.block e; simp at this; omega
  have ne4 : (⟨c.H, i, none⟩ : Addr) ≠ ⟨c.Rb, ro, none⟩ := fun e => ok.rb.2 (by have := congrArg Addr.block e; simp at this; exact this.symm)
  go_region_held3 (fun w' => w'.cell? ⟨c.Bh, 0, none⟩ = some (.slice (some ⟨c.H, 0, none⟩) c.n c.n) ∧ w'.cell? ⟨W.heap.size, 0, none⟩ = some (.int .i64 i) ∧ w'.cell? ⟨W.heap.size + 1, 0, none⟩ = some (.int .u8 (x : Nat)) ∧ w'.cell? ⟨c.Rb, ro, none⟩ = some (.int .i64 (r : Nat))) (first | exact ⟨d1, d2, d3, d4⟩ | exact ⟨(World.cell?_setCell_other _ _ _ _ ne1).trans d1, (World.cell?_setCell_other _ _ _ _ ne2).trans d2, (World.cell?_setCell_other _ _ _ _ ne3).trans d3, (World.cell?_setCell_other _ _ _ _ ne4).trans d4⟩ | go_keep)
    (first | (go_at_call 73; refine (with_any x r _ hx256 hr).mono ?_; rintro e w3 ⟨rfl, hb3⟩; have d1 := (hb3.cell (p := ⟨c.Bh, 0, none⟩) (World.block_lt_of_cell? _ _ c1)).trans c1; have d2 := (hb3.cell (p := ⟨W.heap.size, 0, none⟩) (World.block_lt_of_cell? _ _ c2)).trans c2; have d3 := (hb3.cell (p := ⟨W.heap.size + 1, 0, none⟩) (World.block_lt_of_cell? _ _ c3)).trans c3; have d4 := (hb3.cell (p := ⟨c.Rb, ro, none⟩) (World.block_lt_of_cell? _ _ c4)).trans c4; have d5 := (hb3.cell (p := ⟨c.H, i, none⟩) (World.block_lt_of_cell? _ _ c5)).trans c5; have d6 := (hb3.frozen (p := ⟨c.H, i, none⟩) (World.block_lt_of_cell? _ _ c5)).trans c6))
  clear ne1 ne2 ne3 ne4 c1 c2 c3 c4 c5 c6
  generalize hy : x ||| 2 ^ r = y
  have hy256 : y < 256 := by rw [← hy]; exact or_lt hx256 hr
  go_wp2_with fail
  generalize hW4 : w3.setCell ⟨c.H, i, none⟩ (.int .u8 y) = W4
  have k23 : KeptK c W2 w3 := ⟨hb3.size, fun k hk _ _ => hb3.block k hk⟩
  have k4 : KeptK c W W4 := by rw [← hW4]; exact (k2.trans k23).trans (KeptK.setH _ _)
  have b4 : Below c.Bn W W4 := by
    have hbn := ok.bn
    have := HS2.out
    rw [← hW4]
    exact (HB2.out.trans ⟨hb3.os, hb3.tape, hb3.output, hb3.size, fun k hk => hb3.block k (by show k < W2.heap.size; omega)⟩).setCell (by exact hbn) _
  have I4 := HI.out.kept ok k4
  have H3 : HS c.H w3 L := (hb3.block _ (by show c.H < W2.heap.size; have := HS2.out; omega)).trans HH2.out
  have H4 : HS c.H W4 (L.set i y) := by rw [← hW4]; exact H3.set i y
  have hs4 : W.heap.size + 1 + 1 ≤ W4.heap.size := by rw [← hW4]; have := hb3.size; have := HS2.out; simp only [World.size_setCell]; simp only [World.size_drew] at *; omega
  have c1 : W4.cell? ⟨c.Bh, 0, none⟩ = some (.slice (some ⟨c.H, 0, none⟩) c.n c.n) := cell_of_one I4.bh
  have c2 : W4.cell? ⟨W.heap.size, 0, none⟩ = some (.int .i64 i) := by rw [← hW4]; exact (World.cell?_setCell_other _ _ _ _ (fun e => by have := congrArg Addr.block e; simp at this; omega)).trans d2
  have c3 : W4.cell? ⟨W.heap.size + 1, 0, none⟩ = some (.int .u8 (x : Nat)) := by rw [← hW4]; exact (World.cell?_setCell_other _ _ _ _ (fun e => by have := congrArg Addr.block e; simp at this; omega)).trans d3
  have c5 : W4.cell? ⟨c.H, i, none⟩ = some (.int .u8 (y : Nat)) := by rw [H4.cell (i := i) (by simpa using hin)]; simp
  have c6 : W4.cell? ⟨c.Bw, 0, none⟩ = some (.pointer (some ⟨c.Wk, 0, none⟩)) := cell_of_one I4.bw
  have c7 := I4.canp
  have lk := fun n => ok.look (W4.drewN n) y I4.map hy256
  have HC3 := Lib.hid c3
  have HW4 := Lib.hid hW4
  have HI4 := Lib.hid I4
  have HH4 := Lib.hid H4
  have HB4 := Lib.hid b4
  have HY := Lib.hid hy
  clear hW4 I4 H4 H3 b4 hy c3 d1 d2 d3 d4 d5 d6 hb3
  cases hcan : c.can y with
  | false =>
    rw [hcan] at lk
    go_quiet (fail)
    go_wp2_with fail
    all_goals
      refine leaves_cons (f := 77) (args := #[.pointer (some ⟨W.heap.size + 1, 0, none⟩), .pointer (some ⟨c.Bh, 0, none⟩), .pointer (some ⟨W.heap.size, 0, none⟩)]) (by simp) (by simp [go_sem]) ?_
      refine (restore_any (W.heap.size + 1) c.Bh W.heap.size c.H i c.n x (L.set i y) .returning (W4.drewN nq) (by rw [List.length_set]; exact HL.out) (by omega) (by omega) HC3.out c1 c2 HH4.out).mono ?_
      rintro e u' w'' ⟨rfl, rfl, rfl⟩
      refine ⟨_, results_tmp rfl _ _ _, ?_⟩
      have hback : (L.set i y).set i x = L := by rw [List.set_set, ← HX.out]; exact List.set_getElem_self hin
      have ho : outs = [] := by rw [HO.out, HXG.out, HY.out, hcan]; rfl
      have kf : KeptK c W ((W4.drewN nq).setCell ⟨c.H, i, none⟩ (.int .u8 x)) := (show KeptK c W (W4.drewN nq) from ⟨k4.size, k4.same⟩).trans (KeptK.setH _ _)
      have bf : Below c.Bn W ((W4.drewN nq).setCell ⟨c.H, i, none⟩ (.int .u8 x)) := (show Below c.Bn W (W4.drewN nq) from ⟨HB4.out.os, HB4.out.tape, HB4.out.output, HB4.out.size, HB4.out.block⟩).setCell (by exact ok.bn) _
      have hf : HS c.H ((W4.drewN nq).setCell ⟨c.H, i, none⟩ (.int .u8 x)) L := by
        have := HS.set (show HS c.H (W4.drewN nq) (L.set i y) from HH4.out) i x
        rwa [hback] at this
      exact ⟨true, rfl, kf, hf, fun _ => by rw [ho, List.append_nil]; exact hJ _ _ _ HJ.out bf, fun h => by cases h⟩
  | true =>
    rw [hcan] at lk
    obtain ⟨a', ha', hsl⟩ := slice_from_one c.Rb ro rs.length capv (by simpa using hcapv)
    have c8 : W4.cell? ⟨c.Bf, 0, none⟩ = some (.func (.func 78) #[] #[.pointer (some ⟨c.By, 0, none⟩), .pointer (some ⟨c.Bh, 0, none⟩), .pointer (some ⟨c.Bw, 0, none⟩), .pointer (some ⟨c.Bp, 0, none⟩)]) := cell_of_one HI4.out.bf
    have hRL : Hid (RL c.Rb W4 (.slice a' rs.length (capv - 1)) rs) := by
      refine ⟨a', capv - 1, rfl, by simp at hcapv; omega, fun hl => ⟨ro + 1, ha' hl, fun j hj => ?_⟩⟩
      have := HRD.out (j + 1) (by simpa using hj)
      have hq := k4.cell (a := ⟨c.Rb, ro + (j + 1), none⟩) (by exact ok.rb) this
      rw [show ro + 1 + j = ro + (j + 1) by omega, hq]
      simp
    have hpost : Hid (Calls Tryz.prog 78 #[.int .i64 ((max used (i + 1) : Nat) : Int), .slice a' rs.length (capv - 1), .pointer (some ⟨c.By, 0, none⟩), .pointer (some ⟨c.Bh, 0, none⟩), .pointer (some ⟨c.Bw, 0, none⟩), .pointer (some ⟨c.Bp, 0, none⟩)] W4.drew
        (WPost c J Jx pre outs (L.set i y) W4.drew)) := by
      have ho : outs = fillL c.can c.most rs ((L.set i y).take (max used (i + 1))) := by rw [HO.out, HXG.out, HY.out, hcan]; rfl
      rw [ho]
      refine hfill W4.drew pre (L.set i y) (max used (i + 1)) _ (HI4.out.drewN 1) HH4.out (by show c.H < W4.heap.size; omega) (by rw [List.length_set]; exact HL.out) ?_ (by omega) ?_ hRL.out (hJ _ _ _ HJ.out ⟨HB4.out.os, HB4.out.tape, HB4.out.output, HB4.out.size, HB4.out.block⟩)
      · intro z hz
        rcases List.mem_or_eq_of_mem_set hz with h | h
        · exact H256.out z h
        · omega
      · intro j h1 h2
        rw [List.getElem?_set_ne (by omega)]
        exact HZ.out j (by omega) h2
    have lk1 : (Instr.lookup 118 (.map (some c.M)) (.agg #[.int .u8 y]) false).run Tryz.prog W4.drew = .ok (.bool true) W4.drew := lk 1
    clear lk
    have hval : ((max used (i + 1) : Nat) : Int) = if (used : Int) < (i : Int) + 1 then (i : Int) + 1 else (used : Int) := by
      split <;> omega
    rw [hval] at hpost
    clear hval
    have hwr : IntKind.i64.wrap ((i : Int) + 1) = (i : Int) + 1 := IntWalk.i64_in _ (by omega)
    have hKN : c.K W.heap.size ∧ W.heap.size ≠ c.H := ⟨ok.kb _ (by have := ok.bn; omega), by omega⟩
    have hmap : W4.drew.heap[c.M]? = some c.mo := HI4.out.map
    have qH : ∀ w5 : World, HS c.H w5 (L.set i y) → w5.cell? ⟨c.H, i, none⟩ = some (.int .u8 (y : Nat)) := fun w5 h5 => by rw [h5.cell (i := i) (by simpa using hin)]; simp
    by_cases hcmp : (used : Int) < (i : Int) + 1
    · rw [if_pos hcmp] at hpost
      go_region_held3 (fun w' => w'.cell? ⟨c.Bw, 0, none⟩ = some (.pointer (some ⟨c.Wk, 0, none⟩)) ∧ w'.cell? ⟨c.Wk, 6, none⟩ = some (.map (some c.M)) ∧ w'.cell? ⟨c.Bh, 0, none⟩ = some (.slice (some ⟨c.H, 0, none⟩) c.n c.n) ∧ w'.cell? ⟨W.heap.size, 0, none⟩ = some (.int .i64 i) ∧ w'.cell? ⟨c.H, i, none⟩ = some (.int .u8 (y : Nat)) ∧
          w'.cell? ⟨c.Bf, 0, none⟩ = some (.func (.func 78) #[] #[.pointer (some ⟨c.By, 0, none⟩), .pointer (some ⟨c.Bh, 0, none⟩), .pointer (some ⟨c.Bw, 0, none⟩), .pointer (some ⟨c.Bp, 0, none⟩)]) ∧
          (Instr.lookup 118 (.map (some c.M)) (.agg #[.int .u8 y]) false).run Tryz.prog w' = .ok (.bool true) w')
        (first | exact ⟨c6, c7, c1, c2, c5, c8, lk1⟩ | exact ⟨q6, q7, q1, q2, q5, q8, qlk⟩ | go_keep)
        (first | (go_at_call 78; refine (hpost.out).mono ?_; rintro e w5 ⟨bv, rfl, k5, h5, ht5, hf5⟩; have q6 := k5.cell (a := ⟨c.Bw, 0, none⟩) ok.bw c6; have q7 := k5.cell (a := ⟨c.Wk, 6, none⟩) ok.wk c7; have q1 := k5.cell (a := ⟨c.Bh, 0, none⟩) ok.bh c1; have q2 := k5.cell (a := ⟨W.heap.size, 0, none⟩) hKN c2; have q8 := k5.cell (a := ⟨c.Bf, 0, none⟩) ok.bf c8; have q5 := qH w5 h5; have qlk := ok.look w5 y (k5.heap ok.m hmap) hy256; rw [hcan] at qlk; have HK5 := Lib.hid k5; have HH5 := Lib.hid h5; have HT5 := Lib.hid ht5; have HF5 := Lib.hid hf5; clear k5 h5 ht5 hf5))
      go_wp2_with fail
      all_goals
        refine leaves_cons (f := 77) (args := #[.pointer (some ⟨W.heap.size + 1, 0, none⟩), .pointer (some ⟨c.Bh, 0, none⟩), .pointer (some ⟨W.heap.size, 0, none⟩)]) (by simp) (by simp [go_sem]) ?_
        have q3 := HK5.out.cell (a := ⟨W.heap.size + 1, 0, none⟩) ⟨ok.kb _ (by have := ok.bn; show c.Bn ≤ W.heap.size + 1; omega), by show W.heap.size + 1 ≠ c.H; omega⟩ HC3.out
        refine (restore_any (W.heap.size + 1) c.Bh W.heap.size c.H i c.n x (L.set i y) .returning w5 (by rw [List.length_set]; exact HL.out) (by omega) (by omega) q3 q1 q2 HH5.out).mono ?_
        rintro e u' w'' ⟨rfl, rfl, rfl⟩
        refine ⟨_, results_tmp rfl _ _ _, ?_⟩
        have hback : (L.set i y).set i x = L := by rw [List.set_set, ← HX.out]; exact List.set_getElem_self hin
        have kf : KeptK c W (w5.setCell ⟨c.H, i, none⟩ (.int .u8 x)) := (k4.trans (show KeptK c W4 w5 from ⟨HK5.out.size, HK5.out.same⟩)).trans (KeptK.setH _ _)
        have bf : Below c.Bn w5 (w5.setCell ⟨c.H, i, none⟩ (.int .u8 x)) := (Below.refl _ _).setCell (by exact ok.bn) _
        have hf : HS c.H (w5.setCell ⟨c.H, i, none⟩ (.int .u8 x)) L := by
          have := HS.set HH5.out i x
          rwa [hback] at this
        refine ⟨bv, rfl, kf, hf, fun h => hJ _ _ _ (HT5.out h) bf, fun h => ?_⟩
        obtain ⟨q, hq, hx⟩ := HF5.out h
        exact ⟨q, hq, hJx _ _ _ hx bf⟩
    · rw [if_neg hcmp] at hpost
      go_region_held3 (fun w' => w'.cell? ⟨c.Bw, 0, none⟩ = some (.pointer (some ⟨c.Wk, 0, none⟩)) ∧ w'.cell? ⟨c.Wk, 6, none⟩ = some (.map (some c.M)) ∧ w'.cell? ⟨c.Bh, 0, none⟩ = some (.slice (some ⟨c.H, 0, none⟩) c.n c.n) ∧ w'.cell? ⟨W.heap.size, 0, none⟩ = some (.int .i64 i) ∧ w'.cell? ⟨c.H, i, none⟩ = some (.int .u8 (y : Nat)) ∧
          w'.cell? ⟨c.Bf, 0, none⟩ = some (.func (.func 78) #[] #[.pointer (some ⟨c.By, 0, none⟩), .pointer (some ⟨c.Bh, 0, none⟩), .pointer (some ⟨c.Bw, 0, none⟩), .pointer (some ⟨c.Bp, 0, none⟩)]) ∧
          (Instr.lookup 118 (.map (some c.M)) (.agg #[.int .u8 y]) false).run Tryz.prog w' = .ok (.bool true) w')
        (first | exact ⟨c6, c7, c1, c2, c5, c8, lk1⟩ | exact ⟨q6, q7, q1, q2, q5, q8, qlk⟩ | go_keep)
        (first | (go_at_call 78; refine (hpost.out).mono ?_; rintro e w5 ⟨bv, rfl, k5, h5, ht5, hf5⟩; have q6 := k5.cell (a := ⟨c.Bw, 0, none⟩) ok.bw c6; have q7 := k5.cell (a := ⟨c.Wk, 6, none⟩) ok.wk c7; have q1 := k5.cell (a := ⟨c.Bh, 0, none⟩) ok.bh c1; have q2 := k5.cell (a := ⟨W.heap.size, 0, none⟩) hKN c2; have q8 := k5.cell (a := ⟨c.Bf, 0, none⟩) ok.bf c8; have q5 := qH w5 h5; have qlk := ok.look w5 y (k5.heap ok.m hmap) hy256; rw [hcan] at qlk; have HK5 := Lib.hid k5; have HH5 := Lib.hid h5; have HT5 := Lib.hid ht5; have HF5 := Lib.hid hf5; clear k5 h5 ht5 hf5))
      go_wp2_with fail
      all_goals
        refine leaves_cons (f := 77) (args := #[.pointer (some ⟨W.heap.size + 1, 0, none⟩), .pointer (some ⟨c.Bh, 0, none⟩), .pointer (some ⟨W.heap.size, 0, none⟩)]) (by simp) (by simp [go_sem]) ?_
        have q3 := HK5.out.cell (a := ⟨W.heap.size + 1, 0, none⟩) ⟨ok.kb _ (by have := ok.bn; show c.Bn ≤ W.heap.size + 1; omega), by show W.heap.size + 1 ≠ c.H; omega⟩ HC3.out
        refine (restore_any (W.heap.size + 1) c.Bh W.heap.size c.H i c.n x (L.set i y) .returning w5 (by rw [List.length_set]; exact HL.out) (by omega) (by omega) q3 q1 q2 HH5.out).mono ?_
        rintro e u' w'' ⟨rfl, rfl, rfl⟩
        refine ⟨_, results_tmp rfl _ _ _, ?_⟩
        have hback : (L.set i y).set i x = L := by rw [List.set_set, ← HX.out]; exact List.set_getElem_self hin
        have kf : KeptK c W (w5.setCell ⟨c.H, i, none⟩ (.int .u8 x)) := (k4.trans (show KeptK c W4 w5 from ⟨HK5.out.size, HK5.out.same⟩)).trans (KeptK.setH _ _)
        have bf : Below c.Bn w5 (w5.setCell ⟨c.H, i, none⟩ (.int .u8 x)) := (Below.refl _ _).setCell (by exact ok.bn) _
        have hf : HS c.H (w5.setCell ⟨c.H, i, none⟩ (.int .u8 x)) L := by
          have := HS.set HH5.out i x
          rwa [hback] at this
        refine ⟨bv, rfl, kf, hf, fun h => hJ _ _ _ (HT5.out h) bf, fun h => ?_⟩
        obtain ⟨q, hq, hx⟩ := HF5.out h
        exact ⟨q, hq, hJx _ _ _ hx bf⟩
end Go.Proofs.YtejfelijhojndaaGreatDoor

/-
  'slices.Clone' of a parting, by contract.
-/
namespace Go.Proofs.YtejfelijhojndaaGreatDoor
open Go.RowKit Go.Proofs

/-- A slice of horses that reads as P, in one block. -/
def PL (W : World) (v : Value) (P : List Nat) : Prop :=
  ∃ g cap, v = .slice (some ⟨g, 0, none⟩) P.length cap ∧ ∀ j, j < P.length → W.cell? ⟨g, j, none⟩ = some (.int .u8 (P[j]?.getD 0 : Nat))

theorem Tryz.infoHorse : (Tryz.prog.info? 95).map (fun i => (i.zero, i.size, i.bytes)) = some (some (.agg #[.int .u8 0]), 1, 1) := by kernel_rfl

theorem addr_add (b o j : Nat) : (⟨b, o, none⟩ : Addr).add j = ⟨b, o + j, none⟩ := by
  cases j <;> simp [Addr.add]

def CloneEnd (P : List Nat) (w : World) (e : Ending) (w' : World) : Prop := ∃ v, e = .returned v ∧ PL w' v P ∧ (∀ g, v.ownBlock = some g → w.heap.size ≤ g) ∧ Below w.heap.size w w'

theorem pl_of_owns {w : World} {base n : Nat} {v : Value} {P : List Nat} (hn : n = P.length) (h : w.ownsRow base 95 1 v n (P.map fun h => Value.int .u8 (h : Nat))) (hnn : v ≠ .slice none 0 0) : PL w v P ∧ ∀ g, v.ownBlock = some g → base ≤ g := by
  refine ⟨?_, fun g hg => (h.lt g hg).1⟩
  subst hn
  obtain ⟨h1, h2⟩ := h
  rcases h2 with ⟨rfl, h0⟩ | ⟨g, cap, cur, rfl, hg, hh, hn, hm, hs, ht⟩
  · exact absurd rfl hnn
  · refine ⟨g, cap, rfl, fun j hj => ?_⟩
    have hj2 : (cur.toList.take (P.length * 1))[j]? = (P.map fun h => Value.int .u8 (h : Nat))[j]? := by rw [ht]
    rw [List.getElem?_take, if_pos (by omega)] at hj2
    simp only [World.cell?, hh]
    simp only [Array.getElem?_toList, List.getElem?_map, List.getElem?_eq_getElem hj, Option.map_some] at hj2
    simp [hj2, hj]

set_option maxRecDepth 100000 in
set_option maxHeartbeats 800000 in
theorem clone_any (H n used : Nat) (L : List Nat) (w : World) (hH : HS H w L) (hL : L.length = n) (hu : used ≤ n) (hn : n ≤ 100) :
    Calls Tryz.prog 79 #[.slice (some ⟨H, 0, none⟩) used n] w (CloneEnd (L.take used) w) := by
  obtain ⟨i0, hi, hz0, hz1, hz2⟩ := info_parts Tryz.infoHorse
  have hnil := fun w => Lib.run_eql_slice_nil (P := Tryz.prog) (w := w)
  have hown := World.ownsRow_lit (base := w.heap.size) (e := 95) (size := 1) w #[] 0 (Nat.le_refl _) (by unfold maxLen; omega) (by rfl)
  have hlen : ((L.take used).map fun h => Value.int .u8 (h : Nat)).length = used * 1 := by simp; omega
  have hlt : H < w.heap.size := (Array.getElem?_eq_some_iff.1 hH).1
  have hnews : ∀ j u, ((L.take used).map fun h => Value.int .u8 (h : Nat))[j]? = some u → (w.alloc (.cells #[] 95)).cell? ((⟨H, 0, none⟩ : Addr).add j) = some u := by
    intro j u hj
    have hjl : j < used := by
      have := (List.getElem?_eq_some_iff.1 hj).1
      rw [hlen] at this; omega
    rw [addr_add, Nat.zero_add, World.cell?_alloc_lt _ _ _ (by exact hlt)]
    have hc := hH.cell (i := j) (by omega)
    simp only [List.getElem?_map, List.getElem?_take, if_pos hjl, List.getElem?_eq_getElem (show j < L.length by omega), Option.map_some, Option.some.injEq] at hj
    subst hj
    exact hc
  have hcells : ∀ u ∈ ((L.take used).map fun h => Value.int .u8 (h : Nat)), u.oneCell' = true := by
    intro u hu
    obtain ⟨z, _, rfl⟩ := List.mem_map.1 hu
    rfl
  have HN := Lib.hid hnews
  have HC := Lib.hid hcells
  have HO := Lib.hid hown
  clear hnews hcells hown hH
  go_enter Tryz.func79, Tryz.ntmps79
  go_wp2_with (at_builtin; refine wpList_append_own _ rfl _ _ 70 rfl w.heap.size 95 i0 (.agg #[.int .u8 0]) 1 1 Tryz.underlying70 hi hz0 hz1 hz2 rfl (by decide) _ _ _ rfl HO.out ⟨H, 0, none⟩ used n _ rfl hlen HN.out HC.out ?c3 ?c4 ?c5 ?_)
  case c3 => unfold maxLen; omega
  case c4 => omega
  intro v' w1 hown' hgrow hiff
  have HOW := Lib.hid hown'
  have HG := Lib.hid hgrow
  have HI := Lib.hid hiff
  clear hown' hgrow hiff
  go_wp2
  go_ret
  have hnn : v' ≠ .slice none 0 0 := HI.out
  obtain ⟨hp, hb⟩ := pl_of_owns (n := used) (P := L.take used) (by simp; omega) (by have := HOW.out; rw [← List.map_take] at this; exact this) hnn
  exact ⟨v', rfl, hp, hb, ((Below.refl _ w).alloc (Nat.le_refl _) _).grown HG.out (by simp) (fun k hk => by cases hk; exact Nat.le_refl _)⟩
end Go.Proofs.YtejfelijhojndaaGreatDoor
