/-
  The iterator that 'ways' hands back, from no horses on: by contract.
-/
import Derived.Test.YtejfelijhojndaaGreatDoorMFill
import Derived.Laws.EntriesVeiled
namespace Go.Proofs.YtejfelijhojndaaGreatDoor
open Go.RowKit Go.Proofs Go.Shelf

theorem made_horses (n : Nat) : madeCells (Value.agg #[.int .u8 0]).cells (n * 1) = hcells (List.replicate n 0) := by
  have h : (Value.agg #[.int .u8 0]).cells = #[.int .u8 0] := by rfl
  rw [h, Nat.mul_one]
  apply Array.toList_inj.1
  rw [toList_madeCells_one]
  simp [hcells]

theorem make_horses (n : Nat) (hn : n ≤ 100) (w : World) :
    (Instr.makeSlice 70 (.int .i64 n) (.int .i64 n)).run Tryz.prog w = .ok (.slice (some ⟨w.heap.size, 0, none⟩) n n) (w.alloc (.cells (hcells (List.replicate n 0)) 95)) := by
  obtain ⟨i0, hi, hz0, hz1, hz2⟩ := info_parts Tryz.infoHorse
  have h := run_make (P := Tryz.prog) w 70 95 i0 _ Tryz.underlying70 hi hz0 .i64 .i64 n n (by omega) (Int.le_refl _) (by rw [hz2]; omega) (by omega)
  rw [Int.toNat_natCast, hz1, made_horses] at h
  exact h

/-- What the iterator stands on ahead of its call. -/
structure Ahead (Bs Br Bw Wk M Rb n most : Nat) (mo : Obj) (v : Value) (rs : List Nat) (W : World) : Prop where
  bs : W.heap[Bs]? = some (.cells #[.slice none 0 0] 70 (0, 0))
  br : W.heap[Br]? = some (.cells #[v] 22 (0, 0))
  bw : W.heap[Bw]? = some (.cells #[.pointer (some ⟨Wk, 0, none⟩)] 65 (0, 0))
  most : W.cell? ⟨Wk, 5, none⟩ = some (.int .i64 most)
  canp : W.cell? ⟨Wk, 6, none⟩ = some (.map (some M))
  map : W.heap[M]? = some mo
  rl : RL Rb W v rs
  len : rs.length = n

theorem five_heap (W : World) (o0 o1 o2 o3 o4 : Obj) :
    (∀ k, k < W.heap.size → (((((W.alloc o0).alloc o1).alloc o2).alloc o3).alloc o4).heap[k]? = W.heap[k]?) ∧
    (((((W.alloc o0).alloc o1).alloc o2).alloc o3).alloc o4).heap[W.heap.size]? = some o0 ∧
    (((((W.alloc o0).alloc o1).alloc o2).alloc o3).alloc o4).heap[W.heap.size + 1]? = some o1 ∧
    (((((W.alloc o0).alloc o1).alloc o2).alloc o3).alloc o4).heap[W.heap.size + 1 + 1]? = some o2 ∧
    (((((W.alloc o0).alloc o1).alloc o2).alloc o3).alloc o4).heap[W.heap.size + 1 + 1 + 1]? = some o3 ∧
    (((((W.alloc o0).alloc o1).alloc o2).alloc o3).alloc o4).heap[W.heap.size + 1 + 1 + 1 + 1]? = some o4 := by
  show (∀ k, k < W.heap.size → (((((W.heap.push o0).push o1).push o2).push o3).push o4)[k]? = W.heap[k]?) ∧
    (((((W.heap.push o0).push o1).push o2).push o3).push o4)[W.heap.size]? = some o0 ∧
    (((((W.heap.push o0).push o1).push o2).push o3).push o4)[W.heap.size + 1]? = some o1 ∧
    (((((W.heap.push o0).push o1).push o2).push o3).push o4)[W.heap.size + 1 + 1]? = some o2 ∧
    (((((W.heap.push o0).push o1).push o2).push o3).push o4)[W.heap.size + 1 + 1 + 1]? = some o3 ∧
    (((((W.heap.push o0).push o1).push o2).push o3).push o4)[W.heap.size + 1 + 1 + 1 + 1]? = some o4
  simp only [Array.getElem?_push, Array.size_push]
  refine ⟨fun k hk => ?_, ?_, ?_, ?_, ?_, ?_⟩
  · rw [if_neg (by omega), if_neg (by omega), if_neg (by omega), if_neg (by omega), if_neg (by omega)]
  · rw [if_neg (by omega), if_neg (by omega), if_neg (by omega), if_neg (by omega), if_pos trivial]
  · rw [if_neg (by omega), if_neg (by omega), if_neg (by omega), if_pos trivial]
  · rw [if_neg (by omega), if_neg (by omega), if_pos trivial]
  · rw [if_neg (by omega), if_pos trivial]
  · rw [if_pos trivial]

/-- The iterator's own blocks, beside what lies ahead. -/
def wcOf (Bw Wk M Rb most l n : Nat) (mo : Obj) (K : Nat → Prop) (can : Nat → Bool) (b : Nat) : WC :=
  { Bh := b + 1 + 1, H := b + 1, Bw := Bw, Bf := b + 1 + 1 + 1, Bp := b + 1 + 1 + 1 + 1, By := b, Wk := Wk, M := M, Rb := Rb, l := l, n := n, most := most, Bn := b, mo := mo, K := K, can := can }

/-- What an iterator over ways comes to. -/
def SPost (J Jx : List (List Nat) → World → Prop) (outs : List (List Nat)) (e : Ending) (W' : World) : Prop :=
  (∃ v, e = .returned v) ∧ (J outs W' ∨ ∃ q, q <+: outs ∧ Jx q W')

set_option maxRecDepth 100000 in
set_option maxHeartbeats 1600000 in
theorem seq_any (Bs Br Bw Wk M Rb n most l : Nat) (mo : Obj) (K : Nat → Prop) (can : Nat → Bool) (v : Value) (rs : List Nat) (W : World) (hA : Ahead Bs Br Bw Wk M Rb n most mo v rs W) (hn : n ≤ 8) (hr8 : ∀ r ∈ rs, r < 8)
    (hK : K Bw ∧ K Wk ∧ K M ∧ K Rb) (hKb : ∀ k, W.heap.size ≤ k → K k) (hRb : Rb < W.heap.size)
    (hlook : ∀ (W : World) (h : Nat), W.heap[M]? = some mo → h < 256 → (Instr.lookup 118 (.map (some M)) (.agg #[.int .u8 h]) false).run Tryz.prog W = .ok (.bool (can h)) W)
    (J Jx : List (List Nat) → World → Prop) (hJ : ∀ s A B, J s A → Below W.heap.size A B → J s B) (hJx : ∀ s A B, Jx s A → Below W.heap.size A B → Jx s B)
    (hY : YieldOK (wcOf Bw Wk M Rb most l n mo K can W.heap.size) J Jx) (hj : J [] W) :
    Calls Tryz.prog 75 #[.func (.yield l) #[] #[], .pointer (some ⟨Bs, 0, none⟩), .pointer (some ⟨Br, 0, none⟩), .pointer (some ⟨Bw, 0, none⟩)] W (SPost J Jx (fillL can most rs [])) := by
  have hmk := make_horses n (by omega)
  have hmf : ∀ (fn : Fn) (first cap : Array Value) (w : World), (Instr.makeFunc fn first cap).run Tryz.prog w = .ok (.func fn first cap) w := fun _ _ _ _ => rfl
  obtain ⟨av, capv, rfl, hcap, hrd⟩ := hA.rl
  have hlen := hA.len
  subst hlen
  have lBs := World.block_lt_of_cell? W _ (cell_of_one hA.bs)
  have lBr := World.block_lt_of_cell? W _ (cell_of_one hA.br)
  have lBw := World.block_lt_of_cell? W _ (cell_of_one hA.bw)
  have lWk := World.block_lt_of_cell? W _ hA.most
  have lM := (Array.getElem?_eq_some_iff.1 hA.map).1
  have c1 : (W.alloc (.cells #[.func (.yield l) #[] #[]] 72)).cell? ⟨Bs, 0, none⟩ = some (.slice none 0 0) := by
    rw [World.cell?_alloc_lt _ _ _ lBs]; exact cell_of_one hA.bs
  have c2 : (W.alloc (.cells #[.func (.yield l) #[] #[]] 72)).cell? ⟨Br, 0, none⟩ = some (.slice av rs.length capv) := by
    rw [World.cell?_alloc_lt _ _ _ lBr]; exact cell_of_one hA.br
  have c3 : (((W.alloc (.cells #[.func (.yield l) #[] #[]] 72)).alloc (.cells (hcells (List.replicate rs.length 0)) 95)).alloc (.cells #[.slice (some ⟨W.heap.size + 1, 0, none⟩) rs.length rs.length] 70)).cell? ⟨Bs, 0, none⟩ = some (.slice none 0 0) := by
    rw [World.cell?_alloc_lt _ _ _ (by simp at lBs ⊢; omega), World.cell?_alloc_lt _ _ _ (by simp at lBs ⊢; omega)]; exact c1
  have c4 : (((W.alloc (.cells #[.func (.yield l) #[] #[]] 72)).alloc (.cells (hcells (List.replicate rs.length 0)) 95)).alloc (.cells #[.slice (some ⟨W.heap.size + 1, 0, none⟩) rs.length rs.length] 70)).cell? ⟨W.heap.size + 1 + 1, 0, none⟩ = some (.slice (some ⟨W.heap.size + 1, 0, none⟩) rs.length rs.length) := by
    rw [World.cell?_alloc_at _ _ _ _ (by simp)]; rfl
  have hcp := fun w => run_copy_none (P := Tryz.prog) w 70 70 3 95 (some ⟨W.heap.size + 1, 0, none⟩) none rs.length rs.length 0 0 Tryz.underlying70 (by kernel_rfl) (by simp)
  obtain ⟨g0, g1, g2, g3, g4, g5⟩ := five_heap W (.cells #[.func (.yield l) #[] #[]] 72) (.cells (hcells (List.replicate rs.length 0)) 95) (.cells #[.slice (some ⟨W.heap.size + 1, 0, none⟩) rs.length rs.length] 70)
    (.cells #[.func (.func 78) #[] #[.pointer (some ⟨W.heap.size, 0, none⟩), .pointer (some ⟨W.heap.size + 1 + 1, 0, none⟩), .pointer (some ⟨Bw, 0, none⟩), .pointer (some ⟨W.heap.size + 1 + 1 + 1 + 1, 0, none⟩)]] 152)
    (.cells #[.func (.func 76) #[] #[.pointer (some ⟨W.heap.size + 1 + 1, 0, none⟩), .pointer (some ⟨Bw, 0, none⟩), .pointer (some ⟨W.heap.size + 1 + 1 + 1, 0, none⟩)]] 153)
  have bl5 : Below W.heap.size W (((((W.alloc (.cells #[.func (.yield l) #[] #[]] 72)).alloc (.cells (hcells (List.replicate rs.length 0)) 95)).alloc (.cells #[.slice (some ⟨W.heap.size + 1, 0, none⟩) rs.length rs.length] 70)).alloc
    (.cells #[.func (.func 78) #[] #[.pointer (some ⟨W.heap.size, 0, none⟩), .pointer (some ⟨W.heap.size + 1 + 1, 0, none⟩), .pointer (some ⟨Bw, 0, none⟩), .pointer (some ⟨W.heap.size + 1 + 1 + 1 + 1, 0, none⟩)]] 152)).alloc
    (.cells #[.func (.func 76) #[] #[.pointer (some ⟨W.heap.size + 1 + 1, 0, none⟩), .pointer (some ⟨Bw, 0, none⟩), .pointer (some ⟨W.heap.size + 1 + 1 + 1, 0, none⟩)]] 153)) := ⟨rfl, rfl, rfl, by simp; omega, g0⟩
  have c5 := (bl5.cell (p := ⟨Bs, 0, none⟩) lBs).trans (cell_of_one hA.bs)
  have c6 := (bl5.cell (p := ⟨Br, 0, none⟩) lBr).trans (cell_of_one hA.br)
  have ok : (wcOf Bw Wk M Rb most l rs.length mo K can W.heap.size).Ok := by
    refine ⟨⟨hKb _ ?_, ?_⟩, ⟨hK.1, ?_⟩, ⟨hKb _ ?_, ?_⟩, ⟨hKb _ ?_, ?_⟩, ⟨hKb _ ?_, ?_⟩, ⟨hK.2.1, ?_⟩, ⟨hK.2.2.1, ?_⟩, ⟨hK.2.2.2, ?_⟩, hKb _ ?_, hKb, hn, ?_, hlook⟩ <;> simp only [wcOf] at * <;> omega
  have hfill := fill_all _ ok J Jx hJ hJx hY rs hr8
  have hA5 : ∀ W5 : World, Below W.heap.size W W5 → RL Rb W5 (.slice av rs.length capv) rs ∧ W5.cell? ⟨Wk, 5, none⟩ = some (.int .i64 most) ∧ W5.cell? ⟨Wk, 6, none⟩ = some (.map (some M)) ∧ W5.heap[M]? = some mo ∧ W5.heap[Bw]? = some (.cells #[.pointer (some ⟨Wk, 0, none⟩)] 65 (0, 0)) := fun W5 hb =>
    ⟨⟨av, capv, rfl, hcap, fun hl => by
        obtain ⟨ro, ha, hd⟩ := hrd hl
        exact ⟨ro, ha, fun j hj => (hb.cell (p := ⟨Rb, ro + j, none⟩) hRb).trans (hd j hj)⟩⟩,
      (hb.cell (p := ⟨Wk, 5, none⟩) lWk).trans hA.most, (hb.cell (p := ⟨Wk, 6, none⟩) lWk).trans hA.canp, (hb.block M lM).trans hA.map, (hb.block Bw lBw).trans hA.bw⟩
  obtain ⟨a1, a2, a3, a4, a5⟩ := hA5 _ bl5
  have hF := hfill _ [] (List.replicate rs.length 0) 0 _ ⟨g3, a5, g4, g5, g1, a2, a3, a4⟩ g2 (by simp [wcOf]) (by simp [wcOf]) (by intro x hx; rw [List.eq_of_mem_replicate hx]; omega) (by simp [wcOf]) (by intro j _ hj; simp only [wcOf] at hj; simp [hj]) a1 (hJ _ _ _ hj bl5)
  have HF := Lib.hid hF
  clear hF hfill a1 a2 a3 a4 a5 g0 g1 g2 g3 g4 g5 hA5 bl5 hA hrd hY hJ hJx hj ok hlook hr8 hKb hK
  go_enter Tryz.func75, Tryz.ntmps75
  go_wp2_with fail
  refine HF.out.mono ?_
  rintro e w2 ⟨bv, rfl, _, _, ht, hf⟩
  have HT := Lib.hid ht
  have HFF := Lib.hid hf
  clear ht hf
  go_wp2_with fail
  go_end0
  refine ⟨⟨_, rfl⟩, ?_⟩
  cases bv with
  | true => exact .inl (HT.out (by trivial))
  | false => exact .inr (HFF.out (by trivial))
end Go.Proofs.YtejfelijhojndaaGreatDoor

/-
  A loop over the iterator of ways, whose body writes boxes of the caller's alone.
-/
namespace Go.Proofs.YtejfelijhojndaaGreatDoor
open Go.RowKit Go.Proofs Go.Shelf

/-- What a round of the caller's keeps: all but the caller's boxes S. -/
structure RoundS (S : Nat → Prop) (W W' : World) : Prop where
  size : W.heap.size ≤ W'.heap.size
  same : ∀ k, k < W.heap.size → ¬ S k → W'.heap[k]? = W.heap[k]?
theorem RoundS.refl (S : Nat → Prop) (W : World) : RoundS S W W := ⟨Nat.le_refl _, fun _ _ _ => rfl⟩
theorem RoundS.trans {S : Nat → Prop} {X Y Z : World} (h : RoundS S X Y) (k : RoundS S Y Z) : RoundS S X Z :=
  ⟨Nat.le_trans h.size k.size, fun i hi hs => (k.same i (Nat.lt_of_lt_of_le hi h.size) hs).trans (h.same i hi hs)⟩
theorem RoundS.of_below {S : Nat → Prop} {X Y : World} (h : Below X.heap.size X Y) : RoundS S X Y := ⟨h.size, fun i hi _ => h.block i hi⟩
theorem RoundS.setCell {S : Nat → Prop} {X : World} (b i : Nat) (hb : S b) (v : Value) : RoundS S X (X.setCell ⟨b, i, none⟩ v) :=
  ⟨by simp, fun _ _ hs => Below.heap_setCell _ _ _ _ (fun e => hs (by cases e; exact hb))⟩

def bPost (S : Nat → Prop) (I : List (List Nat) → World → Prop) (Ix : Code → List (List Nat) → World → Prop) (xs : List (List Nat)) (W : World) : Exit → Act → World → Prop
  | .normal, _, W' => RoundS S W W' ∧ I xs W'
  | .ret, _, W' => RoundS S W W' ∧ Ix .ret xs W'
  | .exit id, _, W' => RoundS S W W' ∧ Ix (.exit id) xs W'
  | .goto t, _, W' => RoundS S W W' ∧ Ix (.goto t) xs W'
  | .panic _, _, _ => False
  | .outgrown, _, _ => False

/-- The contract of an iterator over ways, as its callers use it. -/
def SeqOK (gf : Nat) (lb : Array Value) (outs : List (List Nat)) (S : Nat → Prop) (w : World) : Prop :=
  ∀ (l : Nat) (K : Nat → Prop) (W : World) (J Jx : List (List Nat) → World → Prop), (∀ k, k < w.heap.size → ¬ S k → K k) → (∀ k, W.heap.size ≤ k → K k) → Below w.heap.size w W →
    (∀ s A B, J s A → Below W.heap.size A B → J s B) → (∀ s A B, Jx s A → Below W.heap.size A B → Jx s B) →
    (∀ (c : WC), c.l = l → c.K = K → c.Bn = W.heap.size → YieldOK c J Jx) → J [] W →
    Calls Tryz.prog gf (#[.func (.yield l) #[] #[]] ++ lb) W (SPost J Jx outs)

theorem wp_range_ways {g : Operand} {ps : Array Tmp} {assign body : Code} {Q : Exit → Act → World → Prop} {a : Act} {w : World} {n gf : Nat} {lb : Array Value}
    (hg : a.eval g = .func (.func gf) #[] lb) (eg : ∀ args w, (callFunc gf args).run Tryz.prog w = .ok (.enter gf args) w)
    {outs : List (List Nat)} {S : Nat → Prop} (hS : ∀ k, S k → k < w.heap.size) (hseq : SeqOK gf lb outs S w) (hps : ps.size = 1)
    (I : List (List Nat) → World → Prop) (Ix : Code → List (List Nat) → World → Prop) (hI : ∀ s A B, I s A → Below w.heap.size A B → I s B) (hIx : ∀ c s A B, Ix c s A → Below w.heap.size A B → Ix c s B)
    (h0 : I [] w) (a₁ : Value → Act)
    (hassign : ∀ (l m : Nat) (v : Value) (W : World) (K : Act → World → Prop), K (a₁ v) W →
      assign.wpIn (Fence.wide.inRound l) m Tryz.prog (Exit.then K (fun _ _ _ => False)) { tmps := (ps.zip #[v]).foldl (fun t (p, v) => t.setIfInBounds p v) a.tmps, defers := [] } W)
    (hbody : ∀ (l m : Nat) (pre : List (List Nat)) (x : List Nat) (v : Value) (W : World), I pre W → PL W v x → (∀ h ∈ x, h < 256) → x.length ≤ 8 → w.heap.size ≤ W.heap.size → body.wpIn (Fence.wide.inRound l) m Tryz.prog (bPost S I Ix (pre ++ [x]) W) (a₁ v) W)
    (hdone : ∀ (D : Nat) (W : World), w.heap.size ≤ D → I outs W → W.heap[D]? = some (.deferred (some [])) → Q .normal { a with defers := { target := .collected D, args := #[] } :: a.defers } W)
    (hstop : ∀ (D : Nat) (c : Code) (pre : List (List Nat)) (W : World), w.heap.size ≤ D → pre <+: outs → Ix c pre W → W.heap[D]? = some (.deferred (some [])) → c.wpIn Fence.wide n Tryz.prog Q { a with defers := { target := .collected D, args := #[] } :: a.defers } W) :
    (Code.rangeFunc g ps assign body).wpIn Fence.wide n Tryz.prog Q a w := by
  refine wpIn_rangeFunc ?_
  intro fn hfn
  rw [show Fence.wide.round = none from rfl]
  obtain ⟨rec, hrec⟩ : ∃ rec : LoopState → Option Code → Loop, rec = fun st pe => { state := st, pending := pe, fn, tmps := a.tmps, params := ps, assign, body, defers := w.heap.size } := ⟨_, rfl⟩
  obtain ⟨W1, hW1⟩ : ∃ W1, (w.alloc (.deferred (some []))).alloc (.loop (rec .ready none)) = W1 := ⟨_, rfl⟩
  have hs1 : W1.heap.size = w.heap.size + 1 + 1 := by rw [← hW1]; simp
  have hb1 : Below w.heap.size w W1 := by
    rw [← hW1]; exact ((Below.refl _ w).alloc (Nat.le_refl _) _).alloc (by simp) _
  have hL1 : W1.heap[w.heap.size + 1]? = some (.loop (rec .ready none)) := by
    rw [← hW1]; have := heap_new (w.alloc (.deferred (some []))) (.loop (rec .ready none)); rwa [World.size_alloc] at this
  have hK1 : W1.heap[w.heap.size]? = some (.deferred (some [])) := by
    rw [← hW1]; exact (Below.heap_alloc _ _ _ (by simp)).trans (heap_new w _)
  have hput : ∀ (W : World) (o : Obj), w.heap.size + 1 < W.heap.size → Below w.heap.size W (W.putObj (w.heap.size + 1) o) := fun W o hl =>
    (Below.refl _ W).grown (grownBy_putObj' W _ o) (by omega) (fun k e => by cases e; omega)
  refine ⟨w.heap.size + 1, [{ target := .collected w.heap.size, args := #[] }], W1, { target := .fn (.func gf) lb, args := #[.func (.yield (w.heap.size + 1)) #[] #[]] }, W1, gf,
    #[.func (.yield (w.heap.size + 1)) #[] #[]] ++ lb, W1, ?_, ?_, ?_, ?_, fun h => (by cases h), ?_⟩
  · rw [← hW1, hrec]; exact run_enterLoop_outer _ _ _ _ _
  · simp only [resolve, hg]
    simp [go_sem]
  · intro f' _; trivial
  · simp [invoke, go_sem, eg]
  · refine callsIn_wide.2 ?_
    refine (hseq (w.heap.size + 1) (fun k => ¬ S k ∧ k ≠ w.heap.size + 1) W1
      (fun pre W => I pre W ∧ W.heap[w.heap.size + 1]? = some (.loop (rec .ready none)) ∧ W.heap[w.heap.size]? = some (.deferred (some [])))
      (fun pre W => ∃ c, Ix c pre W ∧ W.heap[w.heap.size + 1]? = some (.loop (rec .done (some c))) ∧ W.heap[w.heap.size]? = some (.deferred (some [])))
      (fun k hk hs => ⟨hs, by omega⟩) (fun k hk => ⟨fun h => by have := hS k h; omega, by omega⟩) hb1 ?_ ?_ ?_ ⟨hI _ _ _ h0 hb1, hL1, hK1⟩).mono ?_
    · rintro s A B ⟨h1, h2, h3⟩ hb
      exact ⟨hI _ _ _ h1 (hb.mono (by omega)), (hb.block _ (by omega)).trans h2, (hb.block _ (by omega)).trans h3⟩
    · rintro s A B ⟨c, h1, h2, h3⟩ hb
      exact ⟨c, hIx _ _ _ _ h1 (hb.mono (by omega)), (hb.block _ (by omega)).trans h2, (hb.block _ (by omega)).trans h3⟩
    · rintro c hcl hcK hcB m pre x v W ⟨hi, hl, hk⟩ hpl hp256 hp8 _ hsz
      rw [hcl]
      rw [hcB] at hsz
      have hlt : w.heap.size + 1 < W.heap.size := by omega
      have hy := run_yield (P := Tryz.prog) (args := #[v]) hl (by rw [hrec]; simpa using hps.symm)
      rw [hrec] at hy
      refine ⟨fn, _, assign, body, hy, roundIn_of_wpIn hfn (hassign _ _ v W _ ?_)⟩
      clear hy
      refine ⟨_, run_beginRound hl (by rw [hrec]), ?_⟩
      have hl2 : (W.putObj (w.heap.size + 1) (.loop { rec .ready none with state := .busy })).heap[w.heap.size + 1]? = some (.loop { rec .ready none with state := .busy }) := World.putObj_heap_same hlt
      have hk2 : (W.putObj (w.heap.size + 1) (.loop { rec .ready none with state := .busy })).heap[w.heap.size]? = some (.deferred (some [])) := (World.putObj_heap_other (by omega)).trans hk
      have hpl2 : PL (W.putObj (w.heap.size + 1) (.loop { rec .ready none with state := .busy })) v x := by
        obtain ⟨gg, cap, hv, hc⟩ := hpl
        refine ⟨gg, cap, hv, fun j hj => ?_⟩
        have hcj := hc j hj
        have hne : gg ≠ w.heap.size + 1 := fun e => by
          subst e
          simp [World.cell?, hl] at hcj
        exact (World.cell?_of_block (w := W) (World.putObj_heap_other hne)).trans hcj
      refine wpIn_mono (hbody _ _ pre x v _ (hI _ _ _ hi (hput W _ hlt)) hpl2 hp256 hp8 (by simp [World.putObj]; omega)) ?_
      have fin : ∀ (jump : Option Code) (W3 : World), RoundS S (W.putObj (w.heap.size + 1) (.loop { rec .ready none with state := .busy })) W3 →
          (Instr.endRound (w.heap.size + 1) jump).run Tryz.prog W3 = .ok (.bool jump.isNone) (W3.putObj (w.heap.size + 1) (.loop (rec (if jump.isNone then .ready else .done) jump))) ∧
          (W3.putObj (w.heap.size + 1) (.loop (rec (if jump.isNone then .ready else .done) jump))).heap[w.heap.size + 1]? = some (.loop (rec (if jump.isNone then .ready else .done) jump)) ∧
          (W3.putObj (w.heap.size + 1) (.loop (rec (if jump.isNone then .ready else .done) jump))).heap[w.heap.size]? = some (.deferred (some [])) ∧
          RoundK c W (W3.putObj (w.heap.size + 1) (.loop (rec (if jump.isNone then .ready else .done) jump))) ∧ Below w.heap.size W3 (W3.putObj (w.heap.size + 1) (.loop (rec (if jump.isNone then .ready else .done) jump))) := fun jump W3 hk3 => by
        have hSl : ¬ S (w.heap.size + 1) := fun h => by have := hS _ h; omega
        have hSd : ¬ S w.heap.size := fun h => by have := hS _ h; omega
        have hsp : (W.putObj (w.heap.size + 1) (.loop { rec .ready none with state := .busy })).heap.size = W.heap.size := by simp [World.putObj]
        have hl3 := (hk3.same _ (by rw [hsp]; omega) hSl).trans hl2
        have hs3 := hk3.size
        have := run_endRound (P := Tryz.prog) jump hl3
        rw [hrec] at this ⊢
        refine ⟨this, World.putObj_heap_same (Array.getElem?_eq_some_iff.1 hl3).1, (World.putObj_heap_other (by omega)).trans ((hk3.same _ (by rw [hsp]; omega) hSd).trans hk2), ⟨?_, fun k hk hK => ?_⟩, hput W3 _ (Array.getElem?_eq_some_iff.1 hl3).1⟩
        · simp [World.putObj] at hs3 ⊢; omega
        · rw [hcK] at hK
          exact (World.putObj_heap_other (fun e => hK.2 (by omega))).trans ((hk3.same k (by rw [hsp]; exact hk) hK.1).trans (World.putObj_heap_other (fun e => hK.2 (by omega))))
      rintro e a3 W3 hp
      cases e with
      | normal =>
        obtain ⟨hk3, hi3⟩ := hp
        obtain ⟨hr, hl4, hk4, hrk, hbl⟩ := fin none W3 hk3
        exact ⟨_, _, hr, true, rfl, hrk, (fun _ => ⟨hI _ _ _ hi3 hbl, hl4, hk4⟩), (fun h => by cases h)⟩
      | ret =>
        obtain ⟨hk3, hi3⟩ := hp
        obtain ⟨hr, hl4, hk4, hrk, hbl⟩ := fin (some .ret) W3 hk3
        exact ⟨_, _, hr, false, rfl, hrk, (fun h => by cases h), (fun _ => ⟨.ret, hIx _ _ _ _ hi3 hbl, hl4, hk4⟩)⟩
      | exit id =>
        obtain ⟨hk3, hi3⟩ := hp
        obtain ⟨hr, hl4, hk4, hrk, hbl⟩ := fin (some (.exit id)) W3 hk3
        exact ⟨_, _, hr, false, rfl, hrk, (fun h => by cases h), (fun _ => ⟨.exit id, hIx _ _ _ _ hi3 hbl, hl4, hk4⟩)⟩
      | goto t =>
        obtain ⟨hk3, hi3⟩ := hp
        obtain ⟨hr, hl4, hk4, hrk, hbl⟩ := fin (some (.goto t)) W3 hk3
        exact ⟨_, _, hr, false, rfl, hrk, (fun h => by cases h), (fun _ => ⟨.goto t, hIx _ _ _ _ hi3 hbl, hl4, hk4⟩)⟩
      | panic ch => exact hp.elim
      | outgrown => exact hp.elim
    · rintro e W2 ⟨⟨v, rfl⟩, (⟨hi, hl, hk⟩ | ⟨pre, hSp, c, hi, hl, hk⟩)⟩
      · exact ⟨none, _, by have := run_endLoop (P := Tryz.prog) hl (by rw [hrec]; simp); rw [hrec] at this; exact this, hdone _ _ (Nat.le_refl _) (hI _ _ _ hi (hput _ _ (Array.getElem?_eq_some_iff.1 hl).1)) ((World.putObj_heap_other (by omega)).trans hk)⟩
      · exact ⟨some c, _, by have := run_endLoop (P := Tryz.prog) hl (by rw [hrec]; simp); rw [hrec] at this; exact this, hstop _ c pre _ (Nat.le_refl _) hSp (hIx _ _ _ _ hi (hput _ _ (Array.getElem?_eq_some_iff.1 hl).1)) ((World.putObj_heap_other (by omega)).trans hk)⟩
end Go.Proofs.YtejfelijhojndaaGreatDoor

/-
  'has', 'which', 'list' and 'entries' by contracts.
-/
namespace Go.Proofs.YtejfelijhojndaaGreatDoor
open Go.RowKit Go.Proofs

theorem bit_eq (h r : Nat) (hh : h < 256) : (bits .and .u8 ((h : Int) / 2 ^ r) 1 == 1) = h.testBit r := by
  have h1 : (h : Int) / 2 ^ r = ((h / 2 ^ r : Nat) : Int) := by push_cast; rfl
  have h2 : h / 2 ^ r < 256 := Nat.lt_of_le_of_lt (Nat.div_le_self _ _) hh
  rw [h1, show (1 : Int) = ((1 : Nat) : Int) from rfl, u8_and_nat _ _ h2 (by omega), Nat.and_one_is_mod, Nat.testBit_eq_decide_div_mod_eq]
  by_cases hq : h / 2 ^ r % 2 = 1
  · rw [hq]; rfl
  · have : h / 2 ^ r % 2 = 0 := by omega
    rw [this]; rfl

set_option maxRecDepth 100000 in
theorem has_any (h r : Nat) (w : World) (hh : h < 256) (hr : r < 8) :
    Calls Tryz.prog 46 #[.agg #[.int .u8 h], .int .i64 r] w fun e w' => e = .returned (.bool (h.testBit r)) ∧ Below w.heap.size w w' := by
  have HB := Lib.hid (bit_eq h r hh)
  go_enter Tryz.func46, Tryz.ntmps46
  go_wp2_with fail
  go_ret
  rw [← HB.out]
  exact ⟨rfl, (Below.refl _ w).alloc (Nat.le_refl _) _⟩

/-- The numbers below n that p takes. -/
def whichL (p : Nat → Bool) (n : Nat) : List Nat := (List.range n).filter p
theorem whichL_succ (p : Nat → Bool) (n : Nat) : whichL p (n + 1) = if p n then whichL p n ++ [n] else whichL p n := by
  simp only [whichL, List.range_succ, List.filter_append, List.filter_cons, List.filter_nil]
  split <;> simp
theorem whichL_le (p : Nat → Bool) (n : Nat) : (whichL p n).length ≤ n := by
  have := List.length_filter_le p (List.range n)
  simpa [whichL] using this

abbrev nvals (l : List Nat) : List Value := l.map fun x => Value.int .i64 (x : Nat)

def WhichEnd (l : List Nat) (w : World) (e : Ending) (w' : World) : Prop :=
  ∃ v, e = .returned v ∧ w'.ownsRow w.heap.size 3 1 v l.length (nvals l) ∧ Below w.heap.size w w'

set_option maxRecDepth 100000 in
set_option maxHeartbeats 800000 in
theorem which_any (kf limit : Nat) (first cap : Array Value) (p : Nat → Bool) (w : World) (hl : limit ≤ 100) (ek : ∀ args w, (callFunc kf args).run Tryz.prog w = .ok (.enter kf args) w)
    (hcall : ∀ i, i < limit → ∀ W', Below w.heap.size w W' → Calls Tryz.prog kf (first.push (.int .i64 (i : Nat)) ++ cap) W' fun e w'' => e = .returned (.bool (p i)) ∧ Below W'.heap.size W' w'') :
    Calls Tryz.prog 74 #[.int .i64 limit, .func (.func kf) first cap] w (WhichEnd (whichL p limit) w) := by
  obtain ⟨i0, hi, hz0, hz1, hz2⟩ := info_parts Tryz.infoInt
  have HC := Lib.hid hcall
  clear hcall
  go_enter Tryz.func74, Tryz.ntmps74
  go_wp2_with fail
  go_loopw [5, 8] (fun v i wr => ∃ k : Nat, k ≤ limit ∧ i = .int .i64 k ∧ wr.ownsRow w.heap.size 3 1 v (whichL p k).length (nvals (whichL p k)) ∧ Below w.heap.size w wr) (fun _ i _ => limit - (intOf i).toNat)
  case atStart => exact ⟨0, Nat.zero_le _, rfl, World.ownsRow_nil _ _ _ _, Below.refl _ _⟩
  case round =>
    obtain ⟨k, hk, rfl, hown, hbl⟩ := hrel
    have hle := whichL_le p k
    by_cases hlt : k < limit
    · have HO := Lib.hid hown
      have HB := Lib.hid hbl
      have HC1 := Lib.hid (HC.out k hlt wr hbl)
      clear hown hbl
      go_wp2_with fail
      refine HC1.out.mono ?_
      rintro e w2 ⟨rfl, hb2⟩
      have hO2 := HO.out.kept (show wr.grownBy w2 none from ⟨hb2.os, hb2.tape, hb2.output, hb2.size, fun k hk _ => hb2.block k hk⟩) (by cases u5.ownBlock <;> simp)
      have hB2 := HB.out.trans (hb2.mono HB.out.size)
      have hsz := hB2.size
      cases hp : p k with
      | false =>
        have HO2 := Lib.hid hO2
        have HB2 := Lib.hid hB2
        have HP := Lib.hid hp
        clear hO2 hB2 hb2 hp
        go_wp2_with fail
        go_roundw
        case rel => exact ⟨k + 1, by omega, by go_num, by rw [whichL_succ, HP.out, if_neg (by simp)]; exact HO2.out, HB2.out⟩
        case measure => simp [intOf]; omega
      | true =>
        have HO2 := Lib.hid hO2
        have HB2 := Lib.hid hB2
        have HP := Lib.hid hp
        clear hO2 hB2 hb2 hp
        go_wp2_with (first
          | (at_builtin; refine wpList_append_own _ rfl _ _ 22 rfl w.heap.size 3 i0 (.int .i64 0) 1 8 Tryz.underlying22 hi hz0 hz1 hz2 rfl (by decide) _ _ _ rfl (HO2.out.alloc _) ⟨w2.heap.size, 0, none⟩ 1 1 [.int .i64 (k : Nat)] rfl rfl ?c1 ?c2 ?c3 ?c4 ?c5 ?_))
        case c1 =>
          intro j u hj
          match j, hj with
          | 0, hj => simp at hj; subst hj; simp [Addr.add]
        case c2 => intro u hu; simp at hu; subst hu; rfl
        case c3 => unfold maxLen; omega
        case c4 => omega
        case c5 => simp; omega
        intro v' w3 hown' hgrow _
        have HO3 := Lib.hid hown'
        have hB3 := (HB2.out.alloc (by omega) _).grown hgrow (by simp; omega) (fun j hj => (HO2.out.lt j hj).1)
        have HB3 := Lib.hid hB3
        clear hown' hgrow hB3
        go_wp2_with fail
        go_roundw
        case rel => exact ⟨k + 1, by omega, by go_num, by rw [whichL_succ, HP.out, if_pos rfl]; simpa [nvals] using HO3.out, HB3.out⟩
        case measure => simp [intOf]; omega
    · obtain rfl : k = limit := by omega
      have HO := Lib.hid hown
      have HB := Lib.hid hbl
      clear hown hbl
      go_wp2_with fail
      go_ret
      exact ⟨_, rfl, HO.out, HB.out⟩

theorem owns_base {w : World} {base base' : Nat} {e : TypeId} {size : Nat} {v : Value} {n : Nat} {xs : List Value} (h : w.ownsRow base e size v n xs) (hb : base' ≤ base) : w.ownsRow base' e size v n xs := by
  obtain ⟨h1, h2⟩ := h
  rcases h2 with h2 | ⟨g, cap, cur, hv, hg, r⟩
  · exact ⟨h1, .inl h2⟩
  · exact ⟨h1, .inr ⟨g, cap, cur, hv, Nat.le_trans hb hg, r⟩⟩

set_option maxRecDepth 100000 in
theorem list_any (h : Nat) (w : World) (hh : h < 256) :
    Calls Tryz.prog 60 #[.agg #[.int .u8 h]] w (WhichEnd (whichL h.testBit 6) w) := by
  have hmf : ∀ (fn : Fn) (first cap : Array Value) (w : World), (Instr.makeFunc fn first cap).run Tryz.prog w = .ok (.func fn first cap) w := fun _ _ _ _ => rfl
  have HW := Lib.hid (which_any 46 6 #[.agg #[.int .u8 h]] #[] h.testBit (w.alloc (.cells #[.int .u8 h] 95)) (by omega) (fun args w => by simp [go_sem])
    (fun i hi W' _ => has_any h i W' hh (by omega)))
  go_enter Tryz.func60, Tryz.ntmps60
  go_wp2_with fail
  refine HW.out.mono ?_
  rintro e w2 ⟨v, rfl, ho, hb⟩
  have HO := Lib.hid ho
  have HB := Lib.hid hb
  clear ho hb
  go_wp2_with fail
  go_ret
  exact ⟨v, rfl, owns_base HO.out (by simp), ((Below.refl _ w).alloc (Nat.le_refl _) _).trans (HB.out.mono (by simp))⟩

theorem true_any (i : Nat) (w : World) : Calls Tryz.prog 80 #[.int .i64 (i : Nat)] w fun e w' => e = .returned (.bool true) ∧ Below w.heap.size w w' := by
  go_enter Tryz.func80, Tryz.ntmps80
  go_wp2_with fail
  go_ret
  exact ⟨rfl, Below.refl _ _⟩

set_option maxRecDepth 100000 in
theorem entries_any (Wk n : Nat) (ae : Option Addr) (cape : Nat) (w : World) (hn : n ≤ 100) (hc : w.cell? ⟨Wk, 0, none⟩ = some (.slice ae n cape)) :
    Calls Tryz.prog 62 #[.pointer (some ⟨Wk, 0, none⟩)] w (WhichEnd (List.range n) w) := by
  have HW := Lib.hid (which_any 80 n #[] #[] (fun _ => true) w hn (fun args w => by simp [go_sem]) (fun i hi W' _ => true_any i W'))
  have hall : whichL (fun _ => true) n = List.range n := by simp [whichL]
  rw [hall] at HW
  clear hall
  go_enter Tryz.func62, Tryz.ntmps62
  go_wp2_with fail
  refine HW.out.mono ?_
  rintro e w2 ⟨v, rfl, ho, hb⟩
  have HO := Lib.hid ho
  have HB := Lib.hid hb
  clear ho hb
  go_wp2_with fail
  go_ret
  exact ⟨v, rfl, HO.out, HB.out⟩
end Go.Proofs.YtejfelijhojndaaGreatDoor
