/-
  bargain: what is done when a visit ends: what a game that is over panicked with is caught, and the place is known.
-/
import Derived.Test.YtemoepcfmpapoaaGreatDoorMRGo
import Derived.RecoverIn
import Derived.Maps.OwnIn
namespace Go.Proofs.YtemoepcfmpapoaaGreatDoor
open Go.RowKit Go.Proofs Go.Shelf Go.Maps
attribute [local go_sem] Oper.semAt_some

set_option maxRecDepth 100000
abbrev DU := DataW Unit
def KnownM (M n : Nat) (D : DU) (w : World) : Prop := w.ownsMap Tryz.prog 90 (plainElem Tryz.prog 3) M n D
/-- What the closure sees: the end's function, the result, the map, the place. -/
structure CatchB (eB vB mB pB M : Nat) (p : Pl) (w : World) : Prop where
  en : w.cell? ⟨eB, 0, none⟩ = some (.func (.func 77) #[] #[])
  mp : w.cell? ⟨mB, 0, none⟩ = some (.map (some M))
  pl : PlB pB p w
def catchA (eB vB mB pB : Nat) : Array Value := #[.pointer (some ⟨eB, 0, none⟩), .pointer (some ⟨vB, 0, none⟩), .pointer (some ⟨mB, 0, none⟩), .pointer (some ⟨pB, 0, none⟩)]
def CatchEnd (M vB n : Nat) (D : DU) (p : Pl) (x : Int) (w : World) (u : FrameMode) (e : Ending) (u' : FrameMode) (w' : World) : Prop :=
  e = .returned (.tuple #[]) ∧ u' = u ∧ KnownM M (n + 1) (D.put (plKey p) (.lit (.int .i64 x))) w' ∧ w'.cell? ⟨vB, 0, none⟩ = some (.int .i64 x) ∧ RKeep (fun k => k ≠ M ∧ k ≠ vB) w w'

theorem wpSIn_rec {F : Fence} {n : Nat} {P : Program} {Q : Exit → Act → List Frame → World → Prop} {a : Act} {cs : List Frame} {w : World} {id : Nat} {d : Option Tmp} {t : TypeId} {ps : String}
    (hK : match recoverD cs with | some (v, cs') => Q .normal (a.put d v) cs' w | none => Q .normal (a.put d .nilIface) cs w) :
    (Code.region id #[{ dst := d, op := Op.call { callee := Callee.builtin Builtin.recover, args := #[], argTypes := #[] }, type := t, pos := ps, after := #[], guard := none }] false).wpSIn F n P Q a cs w := by
  refine wpSIn_region ?_
  simp [wpOpsSIn, go_sem]
  exact hK

set_option maxHeartbeats 3200000 in
theorem catch_idle (eB vB mB pB M n : Nat) (D : DU) (p : Pl) (x : Int) (w : World) (hC : CatchB eB vB mB pB M p w) (hM : KnownM M n D w) (hn : n < maxLen) (hp : PV p) (hv : w.cell? ⟨vB, 0, none⟩ = some (.int .i64 x)) (hx : -100 ≤ x ∧ x ≤ 100) :
    CallsDIn Fence.wide 5 Tryz.prog 110 (catchA eB vB mB pB) .returning w (CatchEnd M vB n D p x w .returning) := by
  unfold catchA
  refine callsDIn_of_wpSIn Tryz.func110 rfl trivial fun c₀ cs hu => ?_
  obtain ⟨ce, cm, hpl⟩ := hC
  obtain ⟨c0, c1, c2, c3, c4, c5, c6, c7⟩ := hpl.cell
  have HM := Lib.hid hM
  have HK := Lib.hid (keyOf_pl hp)
  have HX := Lib.hid (plainElem_int (H := Unit) Tryz.underlying3 (show (Lit.int .i64 x).wf = true from WalkArith.wf_i64 (by omega)))
  have hvM : vB ≠ M := fun e => by
    obtain ⟨es, clock, hb, _⟩ := hM
    subst e
    simp [World.cell?, hb] at hv
  clear hM hp hpl
  refine wpSIn_seq ?_
  refine wpSIn_seq ?_
  refine wpSIn_rec ?_
  simp only [recoverD, hu, Exit.thenS]
  simp only [Tryz.ntmps110, Act.put, List.size_toArray, List.length_cons, List.length_nil, Nat.reduceAdd, Nat.reduceSub, Array.replicate_succ, Array.replicate_zero, List.push_toArray, List.append_toArray, List.nil_append, List.cons_append, List.setIfInBounds_toArray, List.set_cons_succ, List.set_cons_zero]
  refine wpSIn_of_wpIn rfl ?_
  gi_wp2_with fail
  simp only [Exit.thenS]
  refine wpSIn_of_wpIn rfl ?_
  gi_wp2_with (first | (gi_at_mapUpdate; refine wpListIn_mapUpdate_own _ rfl _ _ _ _ rfl 90 3 lawPl Tryz.underlying192 _ M n D rfl HM.out hn _ _ (plKey p) rfl rfl HK.out (.lit (.int .i64 x)) [] HX.out ?_; intro w1 hown hgrow))
  refine ⟨rfl, .returning, (by cases c₀; simp_all), .tuple #[], results_none rfl _ _ _, rfl, rfl, hown, ?_, hgrow.size, fun k hk hne => hgrow.block k hk (fun e => hne.1 (by simpa using e)), Env.grown hgrow⟩
  rw [World.cell?_of_block (w := w) (hgrow.block vB (World.block_lt_of_cell? w _ hv) (fun e => hvM (by simpa using e)))]
  exact hv

set_option maxHeartbeats 3200000 in
theorem catch_ended (eB vB mB pB M n : Nat) (D : DU) (p : Pl) (x : Int) (v0 : Value) (older : List PanicEntry) (w : World) (hC : CatchB eB vB mB pB M p w) (hM : KnownM M n D w) (hn : n < maxLen) (hp : PV p) (hv : w.cell? ⟨vB, 0, none⟩ = some v0) (hf : w.frozen? ⟨vB, 0, none⟩ = false) (hx : -100 ≤ x ∧ x ≤ 100) (hd : vB ≠ mB ∧ vB ≠ pB) :
    CallsDIn Fence.wide 5 Tryz.prog 110 (catchA eB vB mB pB) (.panicking ({ v := .iface 194 (.agg #[.int .i64 x]), recovered := false } :: older)) w (CatchEnd M vB n D p x w (.panicking ({ v := .iface 194 (.agg #[.int .i64 x]), recovered := true } :: older))) := by
  unfold catchA
  refine callsDIn_of_wpSIn Tryz.func110 rfl trivial fun c₀ cs hu => ?_
  obtain ⟨ce, cm, hpl⟩ := hC
  obtain ⟨c0, c1, c2, c3, c4, c5, c6, c7⟩ := hpl.cell
  have HM := Lib.hid hM
  have HK := Lib.hid (keyOf_pl hp)
  have HX := Lib.hid (plainElem_int (H := Unit) Tryz.underlying3 (show (Lit.int .i64 x).wf = true from WalkArith.wf_i64 (by omega)))
  have hvM : vB ≠ M := fun e => by
    obtain ⟨es, clock, hb, _⟩ := hM
    subst e
    simp [World.cell?, hb] at hv
  clear hM hp
  refine wpSIn_seq ?_
  refine wpSIn_seq ?_
  refine wpSIn_rec ?_
  simp only [recoverD, hu, Exit.thenS]
  simp only [Tryz.ntmps110, Act.put, List.size_toArray, List.length_cons, List.length_nil, Nat.reduceAdd, Nat.reduceSub, Array.replicate_succ, Array.replicate_zero, List.push_toArray, List.append_toArray, List.nil_append, List.cons_append, List.setIfInBounds_toArray, List.set_cons_succ, List.set_cons_zero]
  have hta : ∀ w, (Instr.typeAssert (.iface 194 (.agg #[.int .i64 x])) 20 194 true).run Tryz.prog w = .ok (.tuple #[.agg #[.int .i64 x], .bool true]) w := fun _ => by kernel_rfl
  have HP1 := Lib.hid (fun w => play1_any x w)
  have ce1 := fun o => below_cell (below_alloc w o) ce
  have HV := Lib.hid hv
  have HF := Lib.hid hf
  have HPL := Lib.hid hpl
  have HCM := Lib.hid cm
  have HD := Lib.hid hd
  clear ce hv hf cm c0 c1 c2 c3 c4 c5 c6 c7 hpl hd
  refine wpSIn_of_wpIn rfl ?_
  gi_wp2_with (first
    | (refine ⟨trivial, ?_⟩; gi_at_call 77; refine (callsIn_wide.2 (HP1.out _)).mono ?_; rintro q w4 ⟨rfl, hb4⟩; have HB4 := Lib.hid (below_trans (below_alloc w _) hb4); have v4 := below_cell HB4.out HV.out; have z4 := (below_frozen HB4.out HV.out).trans HF.out; clear hb4 ce1))
  simp only [Exit.thenS]
  have hk5 := (RKeep.of_below (K := fun k => k ≠ M ∧ k ≠ vB) HB4.out).trans (RKeep.setCell vB 0 (fun h => h.2 rfl) (.int .i64 x))
  have hM5 : KnownM M n D (w4.setCell ⟨vB, 0, none⟩ (.int .i64 x)) := by
    have h4 : KnownM M n D w4 := by
      obtain ⟨es, clock, hb, r⟩ := HM.out
      exact ⟨es, clock, (HB4.out.block M (Array.getElem?_eq_some_iff.1 hb).1).trans hb, r⟩
    exact World.ownsMap.setCell h4 (fun e => hvM e.symm) _
  have v5 : (w4.setCell ⟨vB, 0, none⟩ (.int .i64 x)).cell? ⟨vB, 0, none⟩ = some (.int .i64 x) := by simp [go_sem, v4]
  have m5 : (w4.setCell ⟨vB, 0, none⟩ (.int .i64 x)).cell? ⟨mB, 0, none⟩ = some (.map (some M)) := (RKeep.setCell (K := fun k => k ≠ vB) vB 0 (fun h => h rfl) (.int .i64 x)).cell (Ne.symm HD.out.1) (below_cell HB4.out HCM.out)
  have p5 : PlB pB p (w4.setCell ⟨vB, 0, none⟩ (.int .i64 x)) := (RKeep.setCell (K := fun k => k ≠ vB) vB 0 (fun h => h rfl) (.int .i64 x)).heap (Ne.symm HD.out.2) (below_heap HB4.out HPL.out)
  obtain ⟨W5, hW5⟩ : ∃ W5, w4.setCell ⟨vB, 0, none⟩ (.int .i64 x) = W5 := ⟨_, rfl⟩
  rw [hW5] at hk5 hM5 v5 m5 p5 ⊢
  obtain ⟨c0, c1, c2, c3, c4, c5, c6, c7⟩ := p5.cell
  have HK5 := Lib.hid hk5
  have HM5 := Lib.hid hM5
  clear hk5 hM5 hW5 v4 z4 p5
  refine wpSIn_of_wpIn rfl ?_
  gi_wp2_with (first | (gi_at_mapUpdate; refine wpListIn_mapUpdate_own _ rfl _ _ _ _ rfl 90 3 lawPl Tryz.underlying192 _ M n D rfl HM5.out hn _ _ (plKey p) rfl rfl HK.out (.lit (.int .i64 x)) [] HX.out ?_; intro w1 hown hgrow))
  refine ⟨rfl, _, rfl, .tuple #[], results_none rfl _ _ _, rfl, rfl, hown, ?_, Nat.le_trans HK5.out.size hgrow.size, fun k hk hne => (hgrow.block k (Nat.lt_of_lt_of_le hk HK5.out.size) (fun e => hne.1 (by simpa using e))).trans (HK5.out.same k hk hne), HK5.out.env.trans (Env.grown hgrow)⟩
  rw [World.cell?_of_block (w := W5) (hgrow.block vB (World.block_lt_of_cell? W5 _ v5) (fun e => hvM (by simpa using e)))]
  exact v5
end Go.Proofs.YtemoepcfmpapoaaGreatDoor

/-
  bargain: a visit to a place: it is known; the game is over.
-/
namespace Go.Proofs.YtemoepcfmpapoaaGreatDoor
open Go.RowKit Go.Proofs Go.Shelf Go.Maps
attribute [local go_sem] Oper.semAt_some

set_option maxRecDepth 100000
def visA (mB eB wB vsB tB : Nat) : Array Value := #[.pointer (some ⟨mB, 0, none⟩), .pointer (some ⟨eB, 0, none⟩), .pointer (some ⟨wB, 0, none⟩), .pointer (some ⟨vsB, 0, none⟩), .pointer (some ⟨tB, 0, none⟩)]
/-- What a visit sees: the map, the end's function, the work, the visit itself, what comes of all plays. -/
structure VisB (mB eB wB vsB tB tb M Wk : Nat) (lo hi : Int) (w : World) : Prop where
  mp : w.cell? ⟨mB, 0, none⟩ = some (.map (some M))
  en : w.cell? ⟨eB, 0, none⟩ = some (.func (.func 77) #[] #[])
  wk : w.cell? ⟨wB, 0, none⟩ = some (.pointer (some ⟨Wk, 0, none⟩))
  vs : w.cell? ⟨vsB, 0, none⟩ = some (.func (.func 109) #[] (visA mB eB wB vsB tB))
  tg : w.cell? ⟨tB, 0, none⟩ = some (topFn tb)
  tp : TopFn tb w
  wb : WkB Wk lo hi w

theorem ne_map {M n : Nat} {D : DU} {w : World} (h : KnownM M n D w) {a : Addr} {v : Value} (hc : w.cell? a = some v) : a.block ≠ M := fun e => by
  obtain ⟨es, clock, hb, _⟩ := h
  subst e
  simp [World.cell?, hb] at hc
theorem VisB.keep {mB eB wB vsB tB tb M Wk n : Nat} {lo hi : Int} {D : DU} {w w' : World} (h : VisB mB eB wB vsB tB tb M Wk lo hi w) (hM : KnownM M n D w) (hk : RKeep (fun j => j ≠ M) w w') : VisB mB eB wB vsB tB tb M Wk lo hi w' :=
  ⟨hk.cell (ne_map hM h.mp) h.mp, hk.cell (ne_map hM h.en) h.en, hk.cell (ne_map hM h.wk) h.wk, hk.cell (ne_map hM h.vs) h.vs, hk.cell (ne_map hM h.tg) h.tg, hk.cell (ne_map hM h.tp) h.tp, ⟨hk.cell (ne_map hM h.wb.lo) h.wb.lo, hk.cell (ne_map hM h.wb.hi) h.wb.hi⟩⟩
theorem VisB.below {mB eB wB vsB tB tb M Wk : Nat} {lo hi : Int} {w w' : World} (h : VisB mB eB wB vsB tB tb M Wk lo hi w) (hb : Below w.heap.size w w') : VisB mB eB wB vsB tB tb M Wk lo hi w' :=
  ⟨below_cell hb h.mp, below_cell hb h.en, below_cell hb h.wk, below_cell hb h.vs, below_cell hb h.tg, below_cell hb h.tp, h.wb.below hb⟩
theorem KnownM.below {M n : Nat} {D : DU} {w w' : World} (h : KnownM M n D w) (hb : Below w.heap.size w w') : KnownM M n D w' := by
  obtain ⟨es, clock, hh, r⟩ := h
  exact ⟨es, clock, below_heap hb hh, r⟩
theorem KnownM.keep {K : Nat → Prop} {M n : Nat} {D : DU} {w w' : World} (h : KnownM M n D w) (hk : RKeep K w w') (hM : K M) : KnownM M n D w' := by
  obtain ⟨es, clock, hh, r⟩ := h
  exact ⟨es, clock, hk.heap hM hh, r⟩

def VisEnd (M m : Nat) (lo : Int) (k : Nat) (p : Pl) (w : World) (e : Ending) (w' : World) : Prop :=
  e = .returned (.int .i64 (p.val lo k)) ∧ (∃ D : DU, KnownM M m D w' ∧ Knows lo k D) ∧ RKeep (fun j => j ≠ M) w w'

theorem zero_int (w : World) : (zeroValue 3).run Tryz.prog w = .ok (.int .i64 0) w := by kernel_rfl

set_option maxHeartbeats 3200000 in
theorem visit_known (mB eB wB vsB tB tb M Wk n : Nat) (lo hi : Int) (k : Nat) (D : DU) (p : Pl) (w : World) (hV : VisB mB eB wB vsB tB tb M Wk lo hi w) (hM : KnownM M n D w) (hD : Knows lo k D) (hp : PV p) (hh : Maps.has D (plKey p) = true) :
    Calls Tryz.prog 109 (#[p.v] ++ visA mB eB wB vsB tB) w (VisEnd M n lo k p w) := by
  have HV := Lib.hid hV
  have HM := Lib.hid hM
  have HK := Lib.hid (keyOf_pl hp)
  have hat0 := hD.2 p hp hh
  have HD := Lib.hid hD
  have c0 := fun o o' => below_cell (below_trans (below_alloc w o) (below_alloc _ o')) hV.mp
  have HM2 := Lib.hid (fun o o' => hM.below (below_trans (below_alloc w o) (below_alloc _ o')))
  clear hV hM hp hD
  refine (callsIn_wide (n := 6)).1 ?_
  refine callsIn_of_wp_marks Tryz.func109 rfl trivial ?_ rfl
  unfold visA Pl.v plV
  unfold Pl.v plV at HK
  simp only [Tryz.ntmps109, List.size_toArray, List.length_cons, List.length_nil, Nat.reduceAdd, Nat.reduceSub, Array.replicate_succ, Array.replicate_zero, List.push_toArray, List.append_toArray, List.nil_append, List.cons_append]
  gi_wp2_with (first | (gi_at_lookup; refine wpListIn_lookup_own_ok_int _ rfl _ _ _ rfl 90 3 .i64 lawPl Tryz.underlying192 Tryz.underlying3 (zero_int _) M n D rfl (HM2.out _ _) _ (plKey p) rfl HK.out ?_; intro c hat hwc; rw [hh]))
  have hc : c = p.val lo k := by rw [hat0] at hat; simpa using hat.symm
  subst hc
  exact ⟨.int .i64 _, by simp [results, Tryz.results109, go_sem], rfl, ⟨D, HM2.out _ _, HD.out⟩, RKeep.of_below (below_trans (below_alloc w _) (below_alloc _ _))⟩

/-- What a visit makes at its start. -/
theorem visit_made (p : Pl) {w w1 : World} {o : Obj} (h : Below (((w.alloc (.cells (plC p) 90)).alloc (.cells #[.int .i64 0] 3)).alloc o).heap.size (((w.alloc (.cells (plC p) 90)).alloc (.cells #[.int .i64 0] 3)).alloc o) w1) :
    Below w.heap.size w w1 ∧ PlB w.heap.size p w1 ∧ w1.cell? ⟨w.heap.size + 1, 0, none⟩ = some (.int .i64 0) ∧ w1.frozen? ⟨w.heap.size + 1, 0, none⟩ = false := by
  have h1 := heap_new w (.cells (plC p) 90)
  have h2 := heap_new (w.alloc (.cells (plC p) 90)) (.cells #[.int .i64 0] 3)
  rw [World.size_alloc] at h2
  have h3 := below_heap h (below_heap (below_alloc _ o) h2)
  exact ⟨below_trans (below_trans (below_trans (below_alloc w _) (below_alloc _ _)) (below_alloc _ _)) h, below_heap h (below_heap (below_alloc _ o) (below_heap (below_alloc _ _) h1)), cell_of_one h3, by simp [World.frozen?, h3]⟩

set_option maxHeartbeats 3200000 in
theorem visit_over (mB eB wB vsB tB tb M Wk n : Nat) (lo hi : Int) (k : Nat) (D : DU) (p : Pl) (w : World) (hV : VisB mB eB wB vsB tB tb M Wk lo hi w) (hM : KnownM M n D w) (hn : n < maxLen) (hD : Knows lo k D) (hp : PV p) (hh : Maps.has D (plKey p) = false) (ho : p.over = true) :
    Calls Tryz.prog 109 (#[p.v] ++ visA mB eB wB vsB tB) w (VisEnd M (n + 1) lo k p w) := by
  have HV := Lib.hid hV
  have HM := Lib.hid hM
  have HP := Lib.hid hp
  have HK := Lib.hid (keyOf_pl hp)
  have HD := Lib.hid hD
  have HO := Lib.hid ho
  have hmf : ∀ (fn : Fn) (first cap : Array Value) (w : World), (Instr.makeFunc fn first cap).run Tryz.prog w = .ok (.func fn first cap) w := fun _ _ _ _ => rfl
  have c0 := fun o o' => below_cell (below_trans (below_alloc w o) (below_alloc _ o')) hV.mp
  have c1 := fun o o' o'' => below_cell (below_trans (below_trans (below_alloc w o) (below_alloc _ o')) (below_alloc _ o'')) hV.wk
  have HM2 := Lib.hid (fun o o' => hM.below (below_trans (below_alloc w o) (below_alloc _ o')))
  have HPL := Lib.hid (fun W => plays_any Wk p W)
  clear hV hM hp hD ho
  unfold Pl.v plV at HK HPL
  refine (callsIn_wide (n := 6)).1 ?_
  refine callsIn_of_wp_marks Tryz.func109 rfl trivial ?_ rfl
  unfold visA Pl.v plV
  simp only [Tryz.ntmps109, List.size_toArray, List.length_cons, List.length_nil, Nat.reduceAdd, Nat.reduceSub, Array.replicate_succ, Array.replicate_zero, List.push_toArray, List.append_toArray, List.nil_append, List.cons_append]
  gi_wp2_with (first
    | (gi_at_lookup; refine wpListIn_lookup_own_ok_int _ rfl _ _ _ rfl 90 3 .i64 lawPl Tryz.underlying192 Tryz.underlying3 (zero_int _) M n D rfl (HM2.out _ _) _ (plKey p) rfl HK.out ?_; intro c hat hwc; rw [hh])
    | (refine ⟨trivial, ?_⟩; gi_at_call 111; refine (callsIn_wide.2 (HPL.out _)).mono ?_; rintro q w1 ⟨Bp, Bw, rfl, hpb, hwb, hb1, hlp, hlw⟩; have HB1 := Lib.hid hb1; have HPB := Lib.hid hpb; have HWB := Lib.hid hwb; clear hb1 hpb hwb))
  have HA := Lib.hid (show Below (((w.alloc (.cells (plC p) 90)).alloc (.cells #[.int .i64 0] 3)).alloc (.cells #[.slice none 0 0] 22)).heap.size (((w.alloc (.cells (plC p) 90)).alloc (.cells #[.int .i64 0] 3)).alloc (.cells #[.slice none 0 0] 22)) w1 from HB1.out)
  obtain ⟨F1, F2, F3, F4⟩ := visit_made p HA.out
  have hw1 := F1.size
  refine wp_range_panic (gf := 127) (lb := #[.pointer (some ⟨Bp, 0, none⟩), .pointer (some ⟨Bw, 0, none⟩)]) rfl (fun args w => by simp [go_sem]) [{ v := .iface 194 (.agg #[.int .i64 p.price]), recovered := false }]
    (fun l W hb => plays1_over Bp Bw l p W (below_heap hb HPB.out) HO.out) ?_
  intro Dd W hDd hbW hK
  have hb2 : Below w1.heap.size w1 (W.putObj Dd (.deferred none)) := hbW.grown (grownBy_putObj' _ Dd _) hbW.size (fun k e => by cases e; omega)
  have hbw2 : Below w.heap.size w (W.putObj Dd (.deferred none)) := below_trans F1 hb2
  have hpr : p.price = p.val lo k := (val_over HO.out).symm
  have hbd : -100 ≤ p.price ∧ p.price ≤ 100 := by
    obtain ⟨b0, ba, a12, _⟩ := HP.out
    unfold Pl.price
    split <;> omega
  have hM2 : KnownM M n D (W.putObj Dd (.deferred none)) := HM.out.below hbw2
  refine ⟨by simp, .inl ⟨_, _, rfl, run_takeDeferred hK, by simp, .inr ⟨fun h => (by cases h), _, _, 110, catchA eB (w.heap.size + 1) mB w.heap.size, rfl, (by simp [invoke, go_sem, catchA]), fun _ _ => trivial, ?_⟩⟩⟩
  refine (catch_ended eB (w.heap.size + 1) mB w.heap.size M n D p p.price (.int .i64 0) [] _ ⟨below_cell hbw2 HV.out.en, below_cell hbw2 HV.out.mp, below_heap hb2 F2⟩ hM2 hn HP.out (below_cell hb2 F3) ((below_frozen hb2 F3).trans F4) hbd ⟨by have := World.block_lt_of_cell? w _ HV.out.mp; simp at this; omega, by omega⟩).mono ?_
  rintro e u' w3 ⟨rfl, rfl, h1, h2, h3⟩
  have hp2 := HD.out.put HP.out
  rw [← hpr] at hp2
  refine ⟨.int .i64 p.price, by simp [results, Tryz.results109, go_sem, h2], by rw [hpr], ⟨_, h1, hp2⟩, Nat.le_trans hbw2.size h3.size, fun j hj hne => (h3.same j (Nat.lt_of_lt_of_le hj hbw2.size) ⟨hne, by omega⟩).trans (hbw2.block j hj), (Env.below hbw2).trans h3.env⟩
end Go.Proofs.YtemoepcfmpapoaaGreatDoor

/-
  bargain: a visit to a place: the game goes on.
-/
namespace Go.Proofs.YtemoepcfmpapoaaGreatDoor
open Go.RowKit Go.Proofs Go.Shelf Go.Maps
attribute [local go_sem] Oper.semAt_some

set_option maxRecDepth 100000
def VisOK (mB eB wB vsB tB tb M Wk : Nat) (lo hi : Int) (k N : Nat) : Prop :=
  ∀ (n : Nat) (D : DU) (p : Pl) (w : World), PV p → p.left ≤ (N : Int) → VisB mB eB wB vsB tB tb M Wk lo hi w → KnownM M n D w → Knows lo k D → n + most N ≤ 2 ^ 62 →
    Calls Tryz.prog 109 (#[p.v] ++ visA mB eB wB vsB tB) w (VisEnd M (n + most N) lo k p w)

theorem owns_keep {w w' : World} {K : Nat → Prop} {base n : Nat} {e : TypeId} {v : Value} {xs : List Value} (h : w.ownsRow base e 1 v n xs) (hk : RKeep K w w') (hK : ∀ g c, w.heap[g]? = some c → (∃ cs t f, c = .cells cs t f) → base ≤ g → K g) : w'.ownsRow base e 1 v n xs := by
  obtain ⟨h1, h2⟩ := h
  refine ⟨h1, ?_⟩
  rcases h2 with h2 | ⟨g, cap, cur, rfl, hg, hh, r⟩
  · exact .inl h2
  · exact .inr ⟨g, cap, cur, rfl, hg, hk.heap (hK g _ hh ⟨_, _, _, rfl⟩ hg) hh, r⟩

theorem owns_keepM {M n base m : Nat} {D : DU} {w w' : World} {v : Value} {xs : List Value} (h : w.ownsRow base 3 1 v m xs) (hM : KnownM M n D w) (hk : RKeep (fun j => j ≠ M) w.drew w') : w'.ownsRow base 3 1 v m xs := by
  refine owns_keep (w := w.drew) h hk fun g cc hcc hct _ => ?_
  rintro rfl
  obtain ⟨es, clock, hb, _⟩ := hM
  obtain ⟨_, _, _, rfl⟩ := hct
  have : w.heap[g]? = _ := hcc
  rw [hb] at this
  cases this
theorem VisB.keep2 {mB eB wB vsB tB tb M Wk n : Nat} {lo hi : Int} {D : DU} {w0 w w' : World} {K : Nat → Prop} (h0 : VisB mB eB wB vsB tB tb M Wk lo hi w0) (hM : KnownM M n D w0) (h : VisB mB eB wB vsB tB tb M Wk lo hi w) (hk : RKeep K w w') (hK : ∀ j, j < w0.heap.size → j ≠ M → K j) : VisB mB eB wB vsB tB tb M Wk lo hi w' :=
  ⟨hk.cell (hK _ (World.block_lt_of_cell? w0 _ h0.mp) (ne_map hM h0.mp)) h.mp, hk.cell (hK _ (World.block_lt_of_cell? w0 _ h0.en) (ne_map hM h0.en)) h.en, hk.cell (hK _ (World.block_lt_of_cell? w0 _ h0.wk) (ne_map hM h0.wk)) h.wk, hk.cell (hK _ (World.block_lt_of_cell? w0 _ h0.vs) (ne_map hM h0.vs)) h.vs, hk.cell (hK _ (World.block_lt_of_cell? w0 _ h0.tg) (ne_map hM h0.tg)) h.tg, hk.cell (hK _ (World.block_lt_of_cell? w0 _ h0.tp) (ne_map hM h0.tp)) h.tp, ⟨hk.cell (hK _ (World.block_lt_of_cell? w0 _ h0.wb.lo) (ne_map hM h0.wb.lo)) h.wb.lo, hk.cell (hK _ (World.block_lt_of_cell? w0 _ h0.wb.hi) (ne_map hM h0.wb.hi)) h.wb.hi⟩⟩

theorem owns_block {w : World} {base n g : Nat} {e : TypeId} {v : Value} {xs : List Value} (h : w.ownsRow base e 1 v n xs) (hv : v.ownBlock = some g) : base ≤ g := by
  obtain ⟨_, h2⟩ := h
  rcases h2 with ⟨rfl, _⟩ | ⟨g', cap, cur, rfl, hg, _⟩
  · cases hv
  · simp [Value.ownBlock] at hv; omega

theorem step_append_in {F : Fence} {n : Nat} {P : Program} {w : World} {ops : Array Oper} {o : Oper} {a : Act} {K : Act → World → Prop} {Q : Exit → Act → World → Prop} {E : Prop}
    (hg : o.guard = none) (s x : Operand) (t : TypeId) (hop : o.op = Op.call { callee := Callee.builtin Builtin.append, args := #[s, x], argTypes := #[t, t] })
    (base : Nat) (e : TypeId) (i : TypeInfo) (z : Value) (size bytes : Nat) (h1 : P.underlying t = some (.slice e)) (h2 : P.info? e = some i) (h3 : i.zero = some z) (h4 : i.size = size) (h5 : i.bytes = bytes) (h6 : z.cells.size = size) (h7 : 0 < size)
    (v : Value) (k : Nat) (xs : List Value) (hs : a.eval s = v) (hown : w.ownsRow base e size v k xs) (ad : Addr) (m c : Nat) (news : List Value) (hx : a.eval x = .slice (some ad) m c) (hn : news.length = m * size)
    (hc : ∀ j u, news[j]? = some u → w.cell? (ad.add j) = some u) (h1c : ∀ u ∈ news, u.oneCell' = true) (b1 : k + m ≤ maxLen) (b2 : (k + m) * bytes ≤ 140737488355328) (b3 : base ≤ w.heap.size)
    (hK : ∀ v' w', w'.ownsRow base e size v' (k + m) (xs ++ news) → w.grownBy w' v.ownBlock → K (a.put o.dst v') w') :
    if Region.wanted o (yielded ops a.tmps) = true then Oper.wpIn F n P o a w K Q else E := by
  have hw : Region.wanted o (yielded ops a.tmps) = true := by simp [Region.wanted, hg]
  rw [if_pos hw]
  obtain ⟨v', w', hrun, r1, r2, r3⟩ := run_append_own (P := P) w base t o.type e i z size bytes h1 h2 h3 h4 h5 h6 h7 v k xs hown ad m c news hn hc h1c b1 b2 b3
  unfold Oper.wpIn
  refine ⟨?_, ?_⟩
  · simp [Oper.about, hop, resolve, Target.leads, Sem.run_pure]
  · rw [Oper.semAt_plain F _ _ (by rw [hop]; intro c hc'; cases hc')]
    simp [execOp, hop, resolve, invoke, builtin, hs, hx, hrun, Result.andThen]
    exact hK v' w' r1 r2

/-- The slots when a round begins. -/
def visT (p : Pl) (mB eB wB vsB tB z : Nat) (c : Int) (M Wk Bp Bw : Nat) (u12 u25 u26 : Value) : Array Value :=
  #[.agg (plC p), .pointer (some ⟨mB, 0, none⟩), .pointer (some ⟨eB, 0, none⟩), .pointer (some ⟨wB, 0, none⟩), .pointer (some ⟨vsB, 0, none⟩), .pointer (some ⟨tB, 0, none⟩), .pointer (some ⟨z, 0, none⟩), .pointer (some ⟨z + 1, 0, none⟩), .int .i64 c, .bool false,
    .pointer (some ⟨z + 1 + 1, 0, none⟩), undef, u12, .tuple #[.int .i64 c, .bool false], .map (some M), .agg (plC p), .tuple #[.int .i64 c, .bool false], .int .i64 c, .bool false, .bool false, undef,
    .func (.func 110) #[] (catchA eB (z + 1) mB z), .pointer (some ⟨Wk, 0, none⟩), .agg (plC p), .func (.func 127) #[] #[.pointer (some ⟨Bp, 0, none⟩), .pointer (some ⟨Bw, 0, none⟩)],
    u25, u26, undef, undef, undef, undef, undef, undef, undef, undef, undef, undef]

/-- What holds between two rounds: the first plays are valued. -/
structure RoundI (mB eB wB vsB tB tb M Wk : Nat) (lo hi : Int) (k n N aB : Nat) (w1 : World) (H : Nat) (pre : List (Int × Pl)) (W : World) : Prop where
  env : VisB mB eB wB vsB tB tb M Wk lo hi W
  kn : ∃ D : DU, KnownM M (n + pre.length * most N) D W ∧ Knows lo k D
  all : ∃ v, W.heap[aB]? = some (.cells #[v] 22 (0, 0)) ∧ W.ownsRow H 3 1 v pre.length (pre.map fun x => .int .i64 (x.2.val lo k))
  keep : RKeep (fun j => j ≠ M ∧ j ≠ aB) w1 W

theorem round_end {mB eB wB vsB tB tb M Wk n N aB H : Nat} {lo hi : Int} {k : Nat} {D D2 : DU} {w w1 W w3 w4 : World} {pre : List (Int × Pl)} {x : Int × Pl} {v v' : Value} {o : Obj}
    (hV : VisB mB eB wB vsB tB tb M Wk lo hi w) (hM : KnownM M n D w) (hI : RoundI mB eB wB vsB tB tb M Wk lo hi k n N aB w1 H pre W) (hml : M < w.heap.size) (hab : w.heap.size ≤ aB) (hw1 : aB < w1.heap.size) (hH : w1.heap.size + 2 ≤ H) (hHW : H ≤ W.heap.size)
    (g1 : KnownM M (n + (pre.length + 1) * most N) D2 w3) (g2 : Knows lo k D2) (g3 : RKeep (fun j => j ≠ M) W.drew w3) (ha : w3.heap[aB]? = some (.cells #[v] 22 (0, 0)))
    (hob : ∀ g, v.ownBlock = some g → H ≤ g) (hown : w4.ownsRow H 3 1 v' (pre.length + 1) (pre.map (fun x => .int .i64 (x.2.val lo k)) ++ [.int .i64 (x.2.val lo k)])) (hgr : (w3.alloc o).grownBy w4 v.ownBlock) :
    RKeep (fun j => ¬ (j = M ∨ j = aB) ∧ j < H) W (w4.setCell ⟨aB, 0, none⟩ v') ∧ RoundI mB eB wB vsB tB tb M Wk lo hi k n N aB w1 H (pre ++ [x]) (w4.setCell ⟨aB, 0, none⟩ v') := by
  have h34 : RKeep (fun j => j < H) w3 w4 := ⟨Nat.le_trans (by simp) hgr.size, fun j hj hjH => (hgr.block j (by simp; omega) (fun e => by have := hob j e.symm; omega)).trans ((below_alloc w3 o).block j hj), (Env.below (below_alloc w3 o)).trans (Env.grown hgr)⟩
  have h3W : RKeep (fun j => j ≠ aB ∧ j < H) w3 (w4.setCell ⟨aB, 0, none⟩ v') := (h34.mono fun _ _ h => h.2).trans (RKeep.setCell aB 0 (fun h => h.1 rfl) v')
  have hd : RKeep (fun j => j ≠ M) W w3 := ⟨g3.size, fun j hj hne => g3.same j hj hne, ⟨g3.env.os, g3.env.tape, g3.env.output⟩⟩
  have hW : RKeep (fun j => j ≠ M ∧ j ≠ aB ∧ j < H) W (w4.setCell ⟨aB, 0, none⟩ v') := (hd.mono fun _ _ h => h.1).trans (h3W.mono fun _ _ h => h.2)
  have h4 : w4.heap[aB]? = some (.cells #[v] 22 (0, 0)) := h34.heap (by omega) ha
  refine ⟨hW.mono fun j _ h => ⟨fun e => h.1 (.inl e), fun e => h.1 (.inr e), h.2⟩, ⟨hV.keep2 hM hI.env hW (fun j hj hne => ⟨hne, by omega, by omega⟩), ⟨D2, ?_, g2⟩, ⟨v', ?_, ?_⟩, Nat.le_trans hI.keep.size hW.size, fun j hj hne => (hW.same j (Nat.lt_of_lt_of_le hj hI.keep.size) ⟨hne.1, hne.2, by omega⟩).trans (hI.keep.same j hj hne), hI.keep.env.trans hW.env⟩⟩
  · rw [List.length_append]
    exact g1.keep h3W ⟨by omega, by omega⟩
  · have := heap_setCell_cells (i := 0) h4 v'
    simpa using this
  · have h5 := owns_keep hown (RKeep.setCell (K := fun j => j ≠ aB) aB 0 (fun h => h rfl) v') (fun g _ _ _ hg => by omega)
    simpa using h5

set_option maxHeartbeats 6400000 in
theorem visit_step (mB eB wB vsB tB tb M Wk : Nat) (lo hi : Int) (k N n : Nat) (D : DU) (p : Pl) (w : World) (ih : VisOK mB eB wB vsB tB tb M Wk lo hi k N) (hk : k = (hi - lo + 1).toNat) (hl1 : 1 ≤ lo) (hl2 : lo ≤ hi) (hl3 : hi ≤ 3)
    (hp : PV p) (hN : p.left ≤ ((N + 1 : Nat) : Int)) (hV : VisB mB eB wB vsB tB tb M Wk lo hi w) (hM : KnownM M n D w) (hD : Knows lo k D) (hn : n + most (N + 1) ≤ 2 ^ 62) (hh : Maps.has D (plKey p) = false) (ho : p.over = false) :
    Calls Tryz.prog 109 (#[p.v] ++ visA mB eB wB vsB tB) w (VisEnd M (n + most (N + 1)) lo k p w) := by
  have HIH := Lib.hid ih
  have HHI := Lib.hid (And.intro hk (And.intro hl1 (And.intro hl2 (And.intro hl3 (And.intro hN hn)))))
  have HV := Lib.hid hV
  have HM := Lib.hid hM
  have HP := Lib.hid hp
  have HK := Lib.hid (keyOf_pl hp)
  have HD := Lib.hid hD
  have HO := Lib.hid ho
  have hmf : ∀ (fn : Fn) (first cap : Array Value) (w : World), (Instr.makeFunc fn first cap).run Tryz.prog w = .ok (.func fn first cap) w := fun _ _ _ _ => rfl
  have c0 := fun o o' => below_cell (below_trans (below_alloc w o) (below_alloc _ o')) hV.mp
  have c1 := fun o o' o'' => below_cell (below_trans (below_trans (below_alloc w o) (below_alloc _ o')) (below_alloc _ o'')) hV.wk
  have HM2 := Lib.hid (fun o o' => hM.below (below_trans (below_alloc w o) (below_alloc _ o')))
  have HPL := Lib.hid (fun W => plays_any Wk p W)
  clear hV hM hp hD ho ih hk hl1 hl2 hl3 hN hn
  unfold Pl.v plV at HK HPL
  refine (callsIn_wide (n := 6)).1 ?_
  refine callsIn_of_wp_marks Tryz.func109 rfl trivial ?_ rfl
  unfold visA Pl.v plV
  simp only [Tryz.ntmps109, List.size_toArray, List.length_cons, List.length_nil, Nat.reduceAdd, Nat.reduceSub, Array.replicate_succ, Array.replicate_zero, List.push_toArray, List.append_toArray, List.nil_append, List.cons_append]
  gi_wp2_with (first
    | (gi_at_lookup; refine wpListIn_lookup_own_ok_int _ rfl _ _ _ rfl 90 3 .i64 lawPl Tryz.underlying192 Tryz.underlying3 (zero_int _) M n D rfl (HM2.out _ _) _ (plKey p) rfl HK.out ?_; intro c hat hwc; rw [hh])
    | (refine ⟨trivial, ?_⟩; gi_at_call 111; refine (callsIn_wide.2 (HPL.out _)).mono ?_; rintro q w1 ⟨Bp, Bw, rfl, hpb, hwb, hb1, hlp, hlw⟩; have HB1 := Lib.hid hb1; have HPB := Lib.hid hpb; have HWB := Lib.hid hwb; clear hb1 hpb hwb))
  have HA := Lib.hid (show Below (((w.alloc (.cells (plC p) 90)).alloc (.cells #[.int .i64 0] 3)).alloc (.cells #[.slice none 0 0] 22)).heap.size (((w.alloc (.cells (plC p) 90)).alloc (.cells #[.int .i64 0] 3)).alloc (.cells #[.slice none 0 0] 22)) w1 from HB1.out)
  have hlp' : w.heap.size + 1 + 1 + 1 ≤ Bp := by simpa using hlp
  have hlw' : w.heap.size + 1 + 1 + 1 ≤ Bw := by simpa using hlw
  clear hlp hlw
  have hal : w1.heap[w.heap.size + 1 + 1]? = some (.cells #[.slice none 0 0] 22 (0, 0)) := by
    have h2 := heap_new ((w.alloc (.cells (plC p) 90)).alloc (.cells #[.int .i64 0] 3)) (.cells #[.slice none 0 0] 22)
    rw [World.size_alloc, World.size_alloc] at h2
    exact below_heap HA.out h2
  obtain ⟨F1, F2, F3, F4⟩ := visit_made p HA.out
  have hMlt := World.ownsMap.lt HM.out
  have hw1 : w.heap.size + 1 + 1 < w1.heap.size := (Array.getElem?_eq_some_iff.1 hal).1
  have hV1 := HV.out.below F1
  have hM1 : KnownM M n D w1 := HM.out.below F1
  have HF1 := Lib.hid F1
  have HF2 := Lib.hid F2
  have HF3 := Lib.hid F3
  have HF4 := Lib.hid F4
  have HAL := Lib.hid hal
  have HV1 := Lib.hid hV1
  have HM1 := Lib.hid hM1
  have HHH := Lib.hid (And.intro hMlt (And.intro hw1 (And.intro hlp' hlw')))
  have hWk := World.block_lt_of_cell? w _ HV.out.wb.lo
  have hWkM := ne_map HM.out HV.out.wb.lo
  have hseq := plays1_gen Bp Bw Wk lo hi p w1 (fun j => j = M ∨ j = w.heap.size + 1 + 1) HPB.out HWB.out hV1.wb HHI.out.2.1 HHI.out.2.2.1 HHI.out.2.2.2.1 HP.out HO.out ⟨by omega, by omega, by simp at hWk hWkM; omega⟩
  rw [← HHI.out.1] at hseq
  clear F1 F2 F3 F4 hal hV1 hM1 hMlt hw1 hlp' hlw' hWk hWkM c0 c1
  refine wp_range_gen (gf := 127) (lb := #[.pointer (some ⟨Bp, 0, none⟩), .pointer (some ⟨Bw, 0, none⟩)]) rfl (fun args w => by simp [go_sem]) (E := PlayE) (outs := p.plays lo k) (S := fun j => j = M ∨ j = w.heap.size + 1 + 1)
    (fun j hj => by have := HHH.out.1; have := HHH.out.2.1; have := HF1.out.size; omega) hseq (fun _ _ _ _ _ h _ => h) (fun _ _ _ h => by rw [show _ = _ from h]; rfl)
    (RoundI mB eB wB vsB tB tb M Wk lo hi k n N (w.heap.size + 1 + 1) w1) (fun _ _ _ _ => False) ?hI (fun _ _ _ _ _ _ h _ => h) ?h0
    (fun x _ a₁ W => ∃ nb, a₁ = { tmps := visT p mB eB wB vsB tB w.heap.size c M Wk Bp Bw (.pointer (some ⟨nb, 0, none⟩)) (.int .i64 x.1) x.2.v, defers := [] } ∧ W.heap[nb]? = some (.cells (plC x.2) 90 (0, 0))) ?hAx ?hassign ?hbody ?hdone (fun _ _ _ _ _ _ _ _ h _ => h.elim)
  case hI =>
    rintro H s A B hH ⟨e1, ⟨D', e2, e3⟩, ⟨v, e4, e5⟩, e6⟩ hAB
    have hs := HF1.out.size
    have hM0 := HHH.out.1
    have h12 := HHH.out.2.1
    exact ⟨HV.out.keep2 HM.out e1 hAB (fun j hj _ => by omega), ⟨D', e2.keep hAB (by omega), e3⟩, ⟨v, hAB.heap (by omega) e4, owns_keep e5 hAB (fun g _ _ _ hg => by omega)⟩,
      Nat.le_trans e6.size hAB.size, fun j hj hne => (hAB.same j (Nat.lt_of_lt_of_le hj e6.size) (by omega)).trans (e6.same j hj hne), e6.env.trans hAB.env⟩
  case h0 => exact fun H _ => ⟨HV1.out, ⟨D, by simpa using HM1.out, HD.out⟩, ⟨_, HAL.out, by simp [World.ownsRow]⟩, RKeep.refl _ _⟩
  case hAx =>
    rintro x vs a₁ W l o ⟨nb, rfl, hc⟩ ⟨rr, hr⟩
    exact ⟨nb, rfl, (World.putObj_heap_other (fun e => by subst e; rw [hr] at hc; cases hc)).trans hc⟩
  case hassign =>
    intro H l m pre x vs W K hH hHW hpx hI hE hK'
    obtain rfl : vs = _ := hE
    obtain ⟨xn, a, b, t, s, c', d, e, f⟩ := x
    unfold Pl.v plV
    gi_wp2
    exact hK' _ _ (below_alloc W _) rfl ⟨W.heap.size, rfl, heap_new W _⟩
  case hbody =>
    rintro H l m pre x vs a₁ W hH hHW hpx ⟨e1, ⟨D', e2, e3⟩, ⟨v, e4, e5⟩, e6⟩ hE ⟨nb, rfl, hnb⟩
    have hx : x ∈ p.plays lo k := hpx.subset (by simp)
    obtain ⟨hpv, hlt⟩ := HP.out.play HHI.out.2.1 HO.out hx
    have hpl := plays_length (lo := lo) (k := k) (p := p) (by have := HHI.out.1; have := HHI.out.2.1; have := HHI.out.2.2.1; have := HHI.out.2.2.2.1; omega)
    have hl4 : pre.length + 1 ≤ 4 := by have := hpx.length_le; simp at this; omega
    have hmul : (pre.length + 1) * most N ≤ 4 * most N := Nat.mul_le_mul_right _ hl4
    have hmx : n + pre.length * most N + most N ≤ 2 ^ 62 := by
      have h1 : most (N + 1) = 1 + 4 * most N := rfl
      have h2 := HHI.out.2.2.2.2.2
      have h3 : (pre.length + 1) * most N = pre.length * most N + most N := Nat.succ_mul _ _
      omega
    have hne : n + pre.length * most N + most N = n + (pre.length + 1) * most N := by rw [Nat.succ_mul]; omega
    have HC := Lib.hid (HIH.out (n + pre.length * most N) D' x.2 W.drew hpv (by have := HHI.out.2.2.2.2.1; omega) (e1.keep e2 ⟨Nat.le_refl _, fun _ _ _ => rfl, ⟨rfl, rfl, rfl⟩⟩) e2 e3 hmx)
    rw [hne] at HC
    obtain ⟨i0, hi0, hz0, hz1, hz2⟩ := info_parts Tryz.infoInt
    obtain ⟨av, capv, hv, hvc⟩ := slice_of_owns e5
    subst hv
    obtain ⟨c0, c1, c2, c3, c4, c5, c6, c7⟩ := PlB.cell (B := nb) (p := x.2) (w := W) hnb
    have ca := cell_of_one e4
    have fa : W.frozen? ⟨w.heap.size + 1 + 1, 0, none⟩ = false := by simp [World.frozen?, e4]
    have cv := e1.vs
    have hneM : (w.heap.size + 1 + 1) ≠ M := by have := HHH.out.1; omega
    have HE1 := Lib.hid e1
    have HE2 := Lib.hid e2
    have HE3 := Lib.hid e3
    have HE4 := Lib.hid e4
    have HE5 := Lib.hid e5
    have HE6 := Lib.hid e6
    have HL4 := Lib.hid hl4
    have HHW := Lib.hid (And.intro hH hHW)
    clear e1 e2 e3 e4 e5 e6 hE hx hlt hpl hmul hmx hne hH hHW hpx hvc
    obtain ⟨xn, a, b, t, s, c', d, e, f⟩ := x
    unfold visA at cv
    unfold Pl.v plV visA at HC
    obtain ⟨vx, hvx⟩ : ∃ vx, (Pl.mk a b t s c' d e f).val lo k = vx := ⟨_, rfl⟩
    unfold VisEnd at HC
    rw [hvx] at HC
    have HVX := Lib.hid hvx
    clear hvx hpv hnb
    simp only at c0 c1 c2 c3 c4 c5 c6 c7
    unfold visT plC catchA Pl.v plV
    gi_wp2_with fail
    refine wpIn_region_any (by kernel_rfl) ?_
    try (change wpAnyIn _ _ _ _ _ _ _ _ _ (World.drew _))
    refine wpAnyIn_ready (rs := [0, 1, 2]) (by kernel_rfl) (by simp) ?_
    refine AllReadyIn.cons rfl (fun KK hKK => ?_) ?_
    · go_simp
      refine hKK _ _ ?_
      clear hKK KK
      refine wpAnyIn_ready (rs := [1, 2]) (by kernel_rfl) (by simp) ?_
      refine AllReadyIn.cons rfl (fun KK hKK => ?_) ?_
      · go_simp
        refine hKK _ _ ?_
        clear hKK KK
        refine wpAnyIn_ready (rs := [2]) (by kernel_rfl) (by simp) ?_
        refine AllReadyIn.cons rfl (fun KK hKK => ?_) ?_
        · go_simp
          refine hKK _ _ ?_
          clear hKK KK
          refine wpAnyIn_ready (rs := [3]) (by kernel_rfl) (by simp) ?_
          refine AllReadyIn.cons rfl (fun KK hKK => ?_) ?_
          · go_simp
            refine ⟨trivial, fun h => (by cases h), ?_⟩; refine (CallsIn.inRound l (callsIn_wide.2 HC.out)).mono ?_; rintro q w3 ⟨rfl, ⟨D2, g1, g2⟩, g3⟩; have ca3 := g3.cell (a := ⟨w.heap.size + 1 + 1, 0, none⟩) hneM ca; have ca3o := fun o => below_cell (below_alloc w3 o) ca3; have hA3 := g3.heap hneM HE4.out; have hO3 := owns_keepM HE5.out HE2.out g3; have HO3 := Lib.hid hO3; have HS3 := Lib.hid (show H ≤ w3.heap.size from Nat.le_trans HHW.out.2 g3.size); have HG := Lib.hid (And.intro g1 (And.intro g2 (And.intro g3 hA3))); clear g1 g2 g3 hO3 hA3; dsimp only
            refine hKK _ _ ?_
            clear hKK KK
            refine wpAnyIn_ready (rs := [4]) (by kernel_rfl) (by simp) ?_
            refine AllReadyIn.cons rfl (fun KK hKK => ?_) ?_
            · go_simp
              refine hKK _ _ ?_
              clear hKK KK
              refine wpAnyIn_ready (rs := [5]) (by kernel_rfl) (by simp) ?_
              refine AllReadyIn.cons rfl (fun KK hKK => ?_) ?_
              · refine step_append_in rfl _ _ 22 rfl H 3 i0 (.int .i64 0) 1 8 Tryz.underlying22 hi0 hz0 hz1 hz2 rfl (by decide) _ _ _ rfl (HO3.out.alloc _) ⟨w3.heap.size, 0, none⟩ 1 1 [.int .i64 vx] rfl rfl (cell_one_new _ _ _) (fun z hz => by simp at hz; subst hz; rfl) (by have := HL4.out; unfold maxLen; omega) (by have := HL4.out; omega) (by have := HS3.out; simp; omega) ?_; intro v' w4 hown' hgrow; obtain ⟨g9, cap9, rfl⟩ := owns_succ hown'; have hA4 := (hgrow.block (w.heap.size + 1 + 1) (by have := HS3.out; have := HHW.out.1; have := HHH.out.2.1; simp; omega) (fun e => by have := owns_block HE5.out e.symm; have := HHW.out.1; have := HHH.out.2.1; omega)).trans (below_heap (below_alloc w3 _) HG.out.2.2.2); have ca4 := cell_of_one hA4; have fa4 : w4.frozen? ⟨w.heap.size + 1 + 1, 0, none⟩ = false := by { simp [World.frozen?, hA4] }; have HO4 := Lib.hid hown'; have HGR := Lib.hid hgrow; clear hown' hgrow hA4
                refine hKK _ _ ?_
                clear hKK KK
                refine wpAnyIn_ready (rs := [6]) (by kernel_rfl) (by simp) ?_
                refine AllReadyIn.cons rfl (fun KK hKK => ?_) ?_
                · go_simp
                  refine hKK _ _ ?_
                  clear hKK KK
                  refine wpAnyIn_done (by kernel_rfl) ?_ _
                  exact round_end (x := (xn, ⟨a, b, t, s, c', d, e, f⟩)) HV.out HM.out ⟨HE1.out, ⟨_, HE2.out, HE3.out⟩, ⟨_, HE4.out, HE5.out⟩, HE6.out⟩ HHH.out.1 (by omega) HHH.out.2.1 HHW.out.1 HHW.out.2 HG.out.1 HG.out.2.1 HG.out.2.2.1 HG.out.2.2.2 (fun g hg => owns_block HE5.out hg) (by rw [HVX.out]; exact HO4.out) HGR.out
                exact AllReadyIn.nil
              exact AllReadyIn.nil
            exact AllReadyIn.nil
          exact AllReadyIn.nil
        exact AllReadyIn.nil
      refine AllReadyIn.cons rfl (fun KK hKK => ?_) ?_
      · go_simp
        refine hKK _ _ ?_
        clear hKK KK
        refine wpAnyIn_ready (rs := [1]) (by kernel_rfl) (by simp) ?_
        refine AllReadyIn.cons rfl (fun KK hKK => ?_) ?_
        · go_simp
          refine hKK _ _ ?_
          clear hKK KK
          refine wpAnyIn_ready (rs := [3]) (by kernel_rfl) (by simp) ?_
          refine AllReadyIn.cons rfl (fun KK hKK => ?_) ?_
          · go_simp
            refine ⟨trivial, fun h => (by cases h), ?_⟩; refine (CallsIn.inRound l (callsIn_wide.2 HC.out)).mono ?_; rintro q w3 ⟨rfl, ⟨D2, g1, g2⟩, g3⟩; have ca3 := g3.cell (a := ⟨w.heap.size + 1 + 1, 0, none⟩) hneM ca; have ca3o := fun o => below_cell (below_alloc w3 o) ca3; have hA3 := g3.heap hneM HE4.out; have hO3 := owns_keepM HE5.out HE2.out g3; have HO3 := Lib.hid hO3; have HS3 := Lib.hid (show H ≤ w3.heap.size from Nat.le_trans HHW.out.2 g3.size); have HG := Lib.hid (And.intro g1 (And.intro g2 (And.intro g3 hA3))); clear g1 g2 g3 hO3 hA3; dsimp only
            refine hKK _ _ ?_
            clear hKK KK
            refine wpAnyIn_ready (rs := [4]) (by kernel_rfl) (by simp) ?_
            refine AllReadyIn.cons rfl (fun KK hKK => ?_) ?_
            · go_simp
              refine hKK _ _ ?_
              clear hKK KK
              refine wpAnyIn_ready (rs := [5]) (by kernel_rfl) (by simp) ?_
              refine AllReadyIn.cons rfl (fun KK hKK => ?_) ?_
              · refine step_append_in rfl _ _ 22 rfl H 3 i0 (.int .i64 0) 1 8 Tryz.underlying22 hi0 hz0 hz1 hz2 rfl (by decide) _ _ _ rfl (HO3.out.alloc _) ⟨w3.heap.size, 0, none⟩ 1 1 [.int .i64 vx] rfl rfl (cell_one_new _ _ _) (fun z hz => by simp at hz; subst hz; rfl) (by have := HL4.out; unfold maxLen; omega) (by have := HL4.out; omega) (by have := HS3.out; simp; omega) ?_; intro v' w4 hown' hgrow; obtain ⟨g9, cap9, rfl⟩ := owns_succ hown'; have hA4 := (hgrow.block (w.heap.size + 1 + 1) (by have := HS3.out; have := HHW.out.1; have := HHH.out.2.1; simp; omega) (fun e => by have := owns_block HE5.out e.symm; have := HHW.out.1; have := HHH.out.2.1; omega)).trans (below_heap (below_alloc w3 _) HG.out.2.2.2); have ca4 := cell_of_one hA4; have fa4 : w4.frozen? ⟨w.heap.size + 1 + 1, 0, none⟩ = false := by { simp [World.frozen?, hA4] }; have HO4 := Lib.hid hown'; have HGR := Lib.hid hgrow; clear hown' hgrow hA4
                refine hKK _ _ ?_
                clear hKK KK
                refine wpAnyIn_ready (rs := [6]) (by kernel_rfl) (by simp) ?_
                refine AllReadyIn.cons rfl (fun KK hKK => ?_) ?_
                · go_simp
                  refine hKK _ _ ?_
                  clear hKK KK
                  refine wpAnyIn_done (by kernel_rfl) ?_ _
                  exact round_end (x := (xn, ⟨a, b, t, s, c', d, e, f⟩)) HV.out HM.out ⟨HE1.out, ⟨_, HE2.out, HE3.out⟩, ⟨_, HE4.out, HE5.out⟩, HE6.out⟩ HHH.out.1 (by omega) HHH.out.2.1 HHW.out.1 HHW.out.2 HG.out.1 HG.out.2.1 HG.out.2.2.1 HG.out.2.2.2 (fun g hg => owns_block HE5.out hg) (by rw [HVX.out]; exact HO4.out) HGR.out
                exact AllReadyIn.nil
              exact AllReadyIn.nil
            exact AllReadyIn.nil
          exact AllReadyIn.nil
        exact AllReadyIn.nil
      exact AllReadyIn.nil
    refine AllReadyIn.cons rfl (fun KK hKK => ?_) ?_
    · go_simp
      refine hKK _ _ ?_
      clear hKK KK
      refine wpAnyIn_ready (rs := [0, 2]) (by kernel_rfl) (by simp) ?_
      refine AllReadyIn.cons rfl (fun KK hKK => ?_) ?_
      · go_simp
        refine hKK _ _ ?_
        clear hKK KK
        refine wpAnyIn_ready (rs := [2]) (by kernel_rfl) (by simp) ?_
        refine AllReadyIn.cons rfl (fun KK hKK => ?_) ?_
        · go_simp
          refine hKK _ _ ?_
          clear hKK KK
          refine wpAnyIn_ready (rs := [3]) (by kernel_rfl) (by simp) ?_
          refine AllReadyIn.cons rfl (fun KK hKK => ?_) ?_
          · go_simp
            refine ⟨trivial, fun h => (by cases h), ?_⟩; refine (CallsIn.inRound l (callsIn_wide.2 HC.out)).mono ?_; rintro q w3 ⟨rfl, ⟨D2, g1, g2⟩, g3⟩; have ca3 := g3.cell (a := ⟨w.heap.size + 1 + 1, 0, none⟩) hneM ca; have ca3o := fun o => below_cell (below_alloc w3 o) ca3; have hA3 := g3.heap hneM HE4.out; have hO3 := owns_keepM HE5.out HE2.out g3; have HO3 := Lib.hid hO3; have HS3 := Lib.hid (show H ≤ w3.heap.size from Nat.le_trans HHW.out.2 g3.size); have HG := Lib.hid (And.intro g1 (And.intro g2 (And.intro g3 hA3))); clear g1 g2 g3 hO3 hA3; dsimp only
            refine hKK _ _ ?_
            clear hKK KK
            refine wpAnyIn_ready (rs := [4]) (by kernel_rfl) (by simp) ?_
            refine AllReadyIn.cons rfl (fun KK hKK => ?_) ?_
            · go_simp
              refine hKK _ _ ?_
              clear hKK KK
              refine wpAnyIn_ready (rs := [5]) (by kernel_rfl) (by simp) ?_
              refine AllReadyIn.cons rfl (fun KK hKK => ?_) ?_
              · refine step_append_in rfl _ _ 22 rfl H 3 i0 (.int .i64 0) 1 8 Tryz.underlying22 hi0 hz0 hz1 hz2 rfl (by decide) _ _ _ rfl (HO3.out.alloc _) ⟨w3.heap.size, 0, none⟩ 1 1 [.int .i64 vx] rfl rfl (cell_one_new _ _ _) (fun z hz => by simp at hz; subst hz; rfl) (by have := HL4.out; unfold maxLen; omega) (by have := HL4.out; omega) (by have := HS3.out; simp; omega) ?_; intro v' w4 hown' hgrow; obtain ⟨g9, cap9, rfl⟩ := owns_succ hown'; have hA4 := (hgrow.block (w.heap.size + 1 + 1) (by have := HS3.out; have := HHW.out.1; have := HHH.out.2.1; simp; omega) (fun e => by have := owns_block HE5.out e.symm; have := HHW.out.1; have := HHH.out.2.1; omega)).trans (below_heap (below_alloc w3 _) HG.out.2.2.2); have ca4 := cell_of_one hA4; have fa4 : w4.frozen? ⟨w.heap.size + 1 + 1, 0, none⟩ = false := by { simp [World.frozen?, hA4] }; have HO4 := Lib.hid hown'; have HGR := Lib.hid hgrow; clear hown' hgrow hA4
                refine hKK _ _ ?_
                clear hKK KK
                refine wpAnyIn_ready (rs := [6]) (by kernel_rfl) (by simp) ?_
                refine AllReadyIn.cons rfl (fun KK hKK => ?_) ?_
                · go_simp
                  refine hKK _ _ ?_
                  clear hKK KK
                  refine wpAnyIn_done (by kernel_rfl) ?_ _
                  exact round_end (x := (xn, ⟨a, b, t, s, c', d, e, f⟩)) HV.out HM.out ⟨HE1.out, ⟨_, HE2.out, HE3.out⟩, ⟨_, HE4.out, HE5.out⟩, HE6.out⟩ HHH.out.1 (by omega) HHH.out.2.1 HHW.out.1 HHW.out.2 HG.out.1 HG.out.2.1 HG.out.2.2.1 HG.out.2.2.2 (fun g hg => owns_block HE5.out hg) (by rw [HVX.out]; exact HO4.out) HGR.out
                exact AllReadyIn.nil
              exact AllReadyIn.nil
            exact AllReadyIn.nil
          exact AllReadyIn.nil
        exact AllReadyIn.nil
      refine AllReadyIn.cons rfl (fun KK hKK => ?_) ?_
      · go_simp
        refine hKK _ _ ?_
        clear hKK KK
        refine wpAnyIn_ready (rs := [0, 3]) (by kernel_rfl) (by simp) ?_
        refine AllReadyIn.cons rfl (fun KK hKK => ?_) ?_
        · go_simp
          refine hKK _ _ ?_
          clear hKK KK
          refine wpAnyIn_ready (rs := [3]) (by kernel_rfl) (by simp) ?_
          refine AllReadyIn.cons rfl (fun KK hKK => ?_) ?_
          · go_simp
            refine ⟨trivial, fun h => (by cases h), ?_⟩; refine (CallsIn.inRound l (callsIn_wide.2 HC.out)).mono ?_; rintro q w3 ⟨rfl, ⟨D2, g1, g2⟩, g3⟩; have ca3 := g3.cell (a := ⟨w.heap.size + 1 + 1, 0, none⟩) hneM ca; have ca3o := fun o => below_cell (below_alloc w3 o) ca3; have hA3 := g3.heap hneM HE4.out; have hO3 := owns_keepM HE5.out HE2.out g3; have HO3 := Lib.hid hO3; have HS3 := Lib.hid (show H ≤ w3.heap.size from Nat.le_trans HHW.out.2 g3.size); have HG := Lib.hid (And.intro g1 (And.intro g2 (And.intro g3 hA3))); clear g1 g2 g3 hO3 hA3; dsimp only
            refine hKK _ _ ?_
            clear hKK KK
            refine wpAnyIn_ready (rs := [4]) (by kernel_rfl) (by simp) ?_
            refine AllReadyIn.cons rfl (fun KK hKK => ?_) ?_
            · go_simp
              refine hKK _ _ ?_
              clear hKK KK
              refine wpAnyIn_ready (rs := [5]) (by kernel_rfl) (by simp) ?_
              refine AllReadyIn.cons rfl (fun KK hKK => ?_) ?_
              · refine step_append_in rfl _ _ 22 rfl H 3 i0 (.int .i64 0) 1 8 Tryz.underlying22 hi0 hz0 hz1 hz2 rfl (by decide) _ _ _ rfl (HO3.out.alloc _) ⟨w3.heap.size, 0, none⟩ 1 1 [.int .i64 vx] rfl rfl (cell_one_new _ _ _) (fun z hz => by simp at hz; subst hz; rfl) (by have := HL4.out; unfold maxLen; omega) (by have := HL4.out; omega) (by have := HS3.out; simp; omega) ?_; intro v' w4 hown' hgrow; obtain ⟨g9, cap9, rfl⟩ := owns_succ hown'; have hA4 := (hgrow.block (w.heap.size + 1 + 1) (by have := HS3.out; have := HHW.out.1; have := HHH.out.2.1; simp; omega) (fun e => by have := owns_block HE5.out e.symm; have := HHW.out.1; have := HHH.out.2.1; omega)).trans (below_heap (below_alloc w3 _) HG.out.2.2.2); have ca4 := cell_of_one hA4; have fa4 : w4.frozen? ⟨w.heap.size + 1 + 1, 0, none⟩ = false := by { simp [World.frozen?, hA4] }; have HO4 := Lib.hid hown'; have HGR := Lib.hid hgrow; clear hown' hgrow hA4
                refine hKK _ _ ?_
                clear hKK KK
                refine wpAnyIn_ready (rs := [6]) (by kernel_rfl) (by simp) ?_
                refine AllReadyIn.cons rfl (fun KK hKK => ?_) ?_
                · go_simp
                  refine hKK _ _ ?_
                  clear hKK KK
                  refine wpAnyIn_done (by kernel_rfl) ?_ _
                  exact round_end (x := (xn, ⟨a, b, t, s, c', d, e, f⟩)) HV.out HM.out ⟨HE1.out, ⟨_, HE2.out, HE3.out⟩, ⟨_, HE4.out, HE5.out⟩, HE6.out⟩ HHH.out.1 (by omega) HHH.out.2.1 HHW.out.1 HHW.out.2 HG.out.1 HG.out.2.1 HG.out.2.2.1 HG.out.2.2.2 (fun g hg => owns_block HE5.out hg) (by rw [HVX.out]; exact HO4.out) HGR.out
                exact AllReadyIn.nil
              exact AllReadyIn.nil
            exact AllReadyIn.nil
          exact AllReadyIn.nil
        refine AllReadyIn.cons rfl (fun KK hKK => ?_) ?_
        · go_simp
          refine ⟨trivial, fun h => (by cases h), ?_⟩; refine (CallsIn.inRound l (callsIn_wide.2 HC.out)).mono ?_; rintro q w3 ⟨rfl, ⟨D2, g1, g2⟩, g3⟩; have ca3 := g3.cell (a := ⟨w.heap.size + 1 + 1, 0, none⟩) hneM ca; have ca3o := fun o => below_cell (below_alloc w3 o) ca3; have hA3 := g3.heap hneM HE4.out; have hO3 := owns_keepM HE5.out HE2.out g3; have HO3 := Lib.hid hO3; have HS3 := Lib.hid (show H ≤ w3.heap.size from Nat.le_trans HHW.out.2 g3.size); have HG := Lib.hid (And.intro g1 (And.intro g2 (And.intro g3 hA3))); clear g1 g2 g3 hO3 hA3; dsimp only
          refine hKK _ _ ?_
          clear hKK KK
          refine wpAnyIn_ready (rs := [0, 4]) (by kernel_rfl) (by simp) ?_
          refine AllReadyIn.cons rfl (fun KK hKK => ?_) ?_
          · go_simp
            refine hKK _ _ ?_
            clear hKK KK
            refine wpAnyIn_ready (rs := [4]) (by kernel_rfl) (by simp) ?_
            refine AllReadyIn.cons rfl (fun KK hKK => ?_) ?_
            · go_simp
              refine hKK _ _ ?_
              clear hKK KK
              refine wpAnyIn_ready (rs := [5]) (by kernel_rfl) (by simp) ?_
              refine AllReadyIn.cons rfl (fun KK hKK => ?_) ?_
              · refine step_append_in rfl _ _ 22 rfl H 3 i0 (.int .i64 0) 1 8 Tryz.underlying22 hi0 hz0 hz1 hz2 rfl (by decide) _ _ _ rfl (HO3.out.alloc _) ⟨w3.heap.size, 0, none⟩ 1 1 [.int .i64 vx] rfl rfl (cell_one_new _ _ _) (fun z hz => by simp at hz; subst hz; rfl) (by have := HL4.out; unfold maxLen; omega) (by have := HL4.out; omega) (by have := HS3.out; simp; omega) ?_; intro v' w4 hown' hgrow; obtain ⟨g9, cap9, rfl⟩ := owns_succ hown'; have hA4 := (hgrow.block (w.heap.size + 1 + 1) (by have := HS3.out; have := HHW.out.1; have := HHH.out.2.1; simp; omega) (fun e => by have := owns_block HE5.out e.symm; have := HHW.out.1; have := HHH.out.2.1; omega)).trans (below_heap (below_alloc w3 _) HG.out.2.2.2); have ca4 := cell_of_one hA4; have fa4 : w4.frozen? ⟨w.heap.size + 1 + 1, 0, none⟩ = false := by { simp [World.frozen?, hA4] }; have HO4 := Lib.hid hown'; have HGR := Lib.hid hgrow; clear hown' hgrow hA4
                refine hKK _ _ ?_
                clear hKK KK
                refine wpAnyIn_ready (rs := [6]) (by kernel_rfl) (by simp) ?_
                refine AllReadyIn.cons rfl (fun KK hKK => ?_) ?_
                · go_simp
                  refine hKK _ _ ?_
                  clear hKK KK
                  refine wpAnyIn_done (by kernel_rfl) ?_ _
                  exact round_end (x := (xn, ⟨a, b, t, s, c', d, e, f⟩)) HV.out HM.out ⟨HE1.out, ⟨_, HE2.out, HE3.out⟩, ⟨_, HE4.out, HE5.out⟩, HE6.out⟩ HHH.out.1 (by omega) HHH.out.2.1 HHW.out.1 HHW.out.2 HG.out.1 HG.out.2.1 HG.out.2.2.1 HG.out.2.2.2 (fun g hg => owns_block HE5.out hg) (by rw [HVX.out]; exact HO4.out) HGR.out
                exact AllReadyIn.nil
              exact AllReadyIn.nil
            exact AllReadyIn.nil
          refine AllReadyIn.cons rfl (fun KK hKK => ?_) ?_
          · go_simp
            refine hKK _ _ ?_
            clear hKK KK
            refine wpAnyIn_ready (rs := [0]) (by kernel_rfl) (by simp) ?_
            refine AllReadyIn.cons rfl (fun KK hKK => ?_) ?_
            · go_simp
              refine hKK _ _ ?_
              clear hKK KK
              refine wpAnyIn_ready (rs := [5]) (by kernel_rfl) (by simp) ?_
              refine AllReadyIn.cons rfl (fun KK hKK => ?_) ?_
              · refine step_append_in rfl _ _ 22 rfl H 3 i0 (.int .i64 0) 1 8 Tryz.underlying22 hi0 hz0 hz1 hz2 rfl (by decide) _ _ _ rfl (HO3.out.alloc _) ⟨w3.heap.size, 0, none⟩ 1 1 [.int .i64 vx] rfl rfl (cell_one_new _ _ _) (fun z hz => by simp at hz; subst hz; rfl) (by have := HL4.out; unfold maxLen; omega) (by have := HL4.out; omega) (by have := HS3.out; simp; omega) ?_; intro v' w4 hown' hgrow; obtain ⟨g9, cap9, rfl⟩ := owns_succ hown'; have hA4 := (hgrow.block (w.heap.size + 1 + 1) (by have := HS3.out; have := HHW.out.1; have := HHH.out.2.1; simp; omega) (fun e => by have := owns_block HE5.out e.symm; have := HHW.out.1; have := HHH.out.2.1; omega)).trans (below_heap (below_alloc w3 _) HG.out.2.2.2); have ca4 := cell_of_one hA4; have fa4 : w4.frozen? ⟨w.heap.size + 1 + 1, 0, none⟩ = false := by { simp [World.frozen?, hA4] }; have HO4 := Lib.hid hown'; have HGR := Lib.hid hgrow; clear hown' hgrow hA4
                refine hKK _ _ ?_
                clear hKK KK
                refine wpAnyIn_ready (rs := [6]) (by kernel_rfl) (by simp) ?_
                refine AllReadyIn.cons rfl (fun KK hKK => ?_) ?_
                · go_simp
                  refine hKK _ _ ?_
                  clear hKK KK
                  refine wpAnyIn_done (by kernel_rfl) ?_ _
                  exact round_end (x := (xn, ⟨a, b, t, s, c', d, e, f⟩)) HV.out HM.out ⟨HE1.out, ⟨_, HE2.out, HE3.out⟩, ⟨_, HE4.out, HE5.out⟩, HE6.out⟩ HHH.out.1 (by omega) HHH.out.2.1 HHW.out.1 HHW.out.2 HG.out.1 HG.out.2.1 HG.out.2.2.1 HG.out.2.2.2 (fun g hg => owns_block HE5.out hg) (by rw [HVX.out]; exact HO4.out) HGR.out
                exact AllReadyIn.nil
              exact AllReadyIn.nil
            exact AllReadyIn.nil
          exact AllReadyIn.nil
        exact AllReadyIn.nil
      exact AllReadyIn.nil
    refine AllReadyIn.cons rfl (fun KK hKK => ?_) ?_
    · go_simp
      refine hKK _ _ ?_
      clear hKK KK
      refine wpAnyIn_ready (rs := [0, 1]) (by kernel_rfl) (by simp) ?_
      refine AllReadyIn.cons rfl (fun KK hKK => ?_) ?_
      · go_simp
        refine hKK _ _ ?_
        clear hKK KK
        refine wpAnyIn_ready (rs := [1]) (by kernel_rfl) (by simp) ?_
        refine AllReadyIn.cons rfl (fun KK hKK => ?_) ?_
        · go_simp
          refine hKK _ _ ?_
          clear hKK KK
          refine wpAnyIn_ready (rs := [3]) (by kernel_rfl) (by simp) ?_
          refine AllReadyIn.cons rfl (fun KK hKK => ?_) ?_
          · go_simp
            refine ⟨trivial, fun h => (by cases h), ?_⟩; refine (CallsIn.inRound l (callsIn_wide.2 HC.out)).mono ?_; rintro q w3 ⟨rfl, ⟨D2, g1, g2⟩, g3⟩; have ca3 := g3.cell (a := ⟨w.heap.size + 1 + 1, 0, none⟩) hneM ca; have ca3o := fun o => below_cell (below_alloc w3 o) ca3; have hA3 := g3.heap hneM HE4.out; have hO3 := owns_keepM HE5.out HE2.out g3; have HO3 := Lib.hid hO3; have HS3 := Lib.hid (show H ≤ w3.heap.size from Nat.le_trans HHW.out.2 g3.size); have HG := Lib.hid (And.intro g1 (And.intro g2 (And.intro g3 hA3))); clear g1 g2 g3 hO3 hA3; dsimp only
            refine hKK _ _ ?_
            clear hKK KK
            refine wpAnyIn_ready (rs := [4]) (by kernel_rfl) (by simp) ?_
            refine AllReadyIn.cons rfl (fun KK hKK => ?_) ?_
            · go_simp
              refine hKK _ _ ?_
              clear hKK KK
              refine wpAnyIn_ready (rs := [5]) (by kernel_rfl) (by simp) ?_
              refine AllReadyIn.cons rfl (fun KK hKK => ?_) ?_
              · refine step_append_in rfl _ _ 22 rfl H 3 i0 (.int .i64 0) 1 8 Tryz.underlying22 hi0 hz0 hz1 hz2 rfl (by decide) _ _ _ rfl (HO3.out.alloc _) ⟨w3.heap.size, 0, none⟩ 1 1 [.int .i64 vx] rfl rfl (cell_one_new _ _ _) (fun z hz => by simp at hz; subst hz; rfl) (by have := HL4.out; unfold maxLen; omega) (by have := HL4.out; omega) (by have := HS3.out; simp; omega) ?_; intro v' w4 hown' hgrow; obtain ⟨g9, cap9, rfl⟩ := owns_succ hown'; have hA4 := (hgrow.block (w.heap.size + 1 + 1) (by have := HS3.out; have := HHW.out.1; have := HHH.out.2.1; simp; omega) (fun e => by have := owns_block HE5.out e.symm; have := HHW.out.1; have := HHH.out.2.1; omega)).trans (below_heap (below_alloc w3 _) HG.out.2.2.2); have ca4 := cell_of_one hA4; have fa4 : w4.frozen? ⟨w.heap.size + 1 + 1, 0, none⟩ = false := by { simp [World.frozen?, hA4] }; have HO4 := Lib.hid hown'; have HGR := Lib.hid hgrow; clear hown' hgrow hA4
                refine hKK _ _ ?_
                clear hKK KK
                refine wpAnyIn_ready (rs := [6]) (by kernel_rfl) (by simp) ?_
                refine AllReadyIn.cons rfl (fun KK hKK => ?_) ?_
                · go_simp
                  refine hKK _ _ ?_
                  clear hKK KK
                  refine wpAnyIn_done (by kernel_rfl) ?_ _
                  exact round_end (x := (xn, ⟨a, b, t, s, c', d, e, f⟩)) HV.out HM.out ⟨HE1.out, ⟨_, HE2.out, HE3.out⟩, ⟨_, HE4.out, HE5.out⟩, HE6.out⟩ HHH.out.1 (by omega) HHH.out.2.1 HHW.out.1 HHW.out.2 HG.out.1 HG.out.2.1 HG.out.2.2.1 HG.out.2.2.2 (fun g hg => owns_block HE5.out hg) (by rw [HVX.out]; exact HO4.out) HGR.out
                exact AllReadyIn.nil
              exact AllReadyIn.nil
            exact AllReadyIn.nil
          exact AllReadyIn.nil
        exact AllReadyIn.nil
      refine AllReadyIn.cons rfl (fun KK hKK => ?_) ?_
      · go_simp
        refine hKK _ _ ?_
        clear hKK KK
        refine wpAnyIn_ready (rs := [0, 3]) (by kernel_rfl) (by simp) ?_
        refine AllReadyIn.cons rfl (fun KK hKK => ?_) ?_
        · go_simp
          refine hKK _ _ ?_
          clear hKK KK
          refine wpAnyIn_ready (rs := [3]) (by kernel_rfl) (by simp) ?_
          refine AllReadyIn.cons rfl (fun KK hKK => ?_) ?_
          · go_simp
            refine ⟨trivial, fun h => (by cases h), ?_⟩; refine (CallsIn.inRound l (callsIn_wide.2 HC.out)).mono ?_; rintro q w3 ⟨rfl, ⟨D2, g1, g2⟩, g3⟩; have ca3 := g3.cell (a := ⟨w.heap.size + 1 + 1, 0, none⟩) hneM ca; have ca3o := fun o => below_cell (below_alloc w3 o) ca3; have hA3 := g3.heap hneM HE4.out; have hO3 := owns_keepM HE5.out HE2.out g3; have HO3 := Lib.hid hO3; have HS3 := Lib.hid (show H ≤ w3.heap.size from Nat.le_trans HHW.out.2 g3.size); have HG := Lib.hid (And.intro g1 (And.intro g2 (And.intro g3 hA3))); clear g1 g2 g3 hO3 hA3; dsimp only
            refine hKK _ _ ?_
            clear hKK KK
            refine wpAnyIn_ready (rs := [4]) (by kernel_rfl) (by simp) ?_
            refine AllReadyIn.cons rfl (fun KK hKK => ?_) ?_
            · go_simp
              refine hKK _ _ ?_
              clear hKK KK
              refine wpAnyIn_ready (rs := [5]) (by kernel_rfl) (by simp) ?_
              refine AllReadyIn.cons rfl (fun KK hKK => ?_) ?_
              · refine step_append_in rfl _ _ 22 rfl H 3 i0 (.int .i64 0) 1 8 Tryz.underlying22 hi0 hz0 hz1 hz2 rfl (by decide) _ _ _ rfl (HO3.out.alloc _) ⟨w3.heap.size, 0, none⟩ 1 1 [.int .i64 vx] rfl rfl (cell_one_new _ _ _) (fun z hz => by simp at hz; subst hz; rfl) (by have := HL4.out; unfold maxLen; omega) (by have := HL4.out; omega) (by have := HS3.out; simp; omega) ?_; intro v' w4 hown' hgrow; obtain ⟨g9, cap9, rfl⟩ := owns_succ hown'; have hA4 := (hgrow.block (w.heap.size + 1 + 1) (by have := HS3.out; have := HHW.out.1; have := HHH.out.2.1; simp; omega) (fun e => by have := owns_block HE5.out e.symm; have := HHW.out.1; have := HHH.out.2.1; omega)).trans (below_heap (below_alloc w3 _) HG.out.2.2.2); have ca4 := cell_of_one hA4; have fa4 : w4.frozen? ⟨w.heap.size + 1 + 1, 0, none⟩ = false := by { simp [World.frozen?, hA4] }; have HO4 := Lib.hid hown'; have HGR := Lib.hid hgrow; clear hown' hgrow hA4
                refine hKK _ _ ?_
                clear hKK KK
                refine wpAnyIn_ready (rs := [6]) (by kernel_rfl) (by simp) ?_
                refine AllReadyIn.cons rfl (fun KK hKK => ?_) ?_
                · go_simp
                  refine hKK _ _ ?_
                  clear hKK KK
                  refine wpAnyIn_done (by kernel_rfl) ?_ _
                  exact round_end (x := (xn, ⟨a, b, t, s, c', d, e, f⟩)) HV.out HM.out ⟨HE1.out, ⟨_, HE2.out, HE3.out⟩, ⟨_, HE4.out, HE5.out⟩, HE6.out⟩ HHH.out.1 (by omega) HHH.out.2.1 HHW.out.1 HHW.out.2 HG.out.1 HG.out.2.1 HG.out.2.2.1 HG.out.2.2.2 (fun g hg => owns_block HE5.out hg) (by rw [HVX.out]; exact HO4.out) HGR.out
                exact AllReadyIn.nil
              exact AllReadyIn.nil
            exact AllReadyIn.nil
          exact AllReadyIn.nil
        refine AllReadyIn.cons rfl (fun KK hKK => ?_) ?_
        · go_simp
          refine ⟨trivial, fun h => (by cases h), ?_⟩; refine (CallsIn.inRound l (callsIn_wide.2 HC.out)).mono ?_; rintro q w3 ⟨rfl, ⟨D2, g1, g2⟩, g3⟩; have ca3 := g3.cell (a := ⟨w.heap.size + 1 + 1, 0, none⟩) hneM ca; have ca3o := fun o => below_cell (below_alloc w3 o) ca3; have hA3 := g3.heap hneM HE4.out; have hO3 := owns_keepM HE5.out HE2.out g3; have HO3 := Lib.hid hO3; have HS3 := Lib.hid (show H ≤ w3.heap.size from Nat.le_trans HHW.out.2 g3.size); have HG := Lib.hid (And.intro g1 (And.intro g2 (And.intro g3 hA3))); clear g1 g2 g3 hO3 hA3; dsimp only
          refine hKK _ _ ?_
          clear hKK KK
          refine wpAnyIn_ready (rs := [0, 4]) (by kernel_rfl) (by simp) ?_
          refine AllReadyIn.cons rfl (fun KK hKK => ?_) ?_
          · go_simp
            refine hKK _ _ ?_
            clear hKK KK
            refine wpAnyIn_ready (rs := [4]) (by kernel_rfl) (by simp) ?_
            refine AllReadyIn.cons rfl (fun KK hKK => ?_) ?_
            · go_simp
              refine hKK _ _ ?_
              clear hKK KK
              refine wpAnyIn_ready (rs := [5]) (by kernel_rfl) (by simp) ?_
              refine AllReadyIn.cons rfl (fun KK hKK => ?_) ?_
              · refine step_append_in rfl _ _ 22 rfl H 3 i0 (.int .i64 0) 1 8 Tryz.underlying22 hi0 hz0 hz1 hz2 rfl (by decide) _ _ _ rfl (HO3.out.alloc _) ⟨w3.heap.size, 0, none⟩ 1 1 [.int .i64 vx] rfl rfl (cell_one_new _ _ _) (fun z hz => by simp at hz; subst hz; rfl) (by have := HL4.out; unfold maxLen; omega) (by have := HL4.out; omega) (by have := HS3.out; simp; omega) ?_; intro v' w4 hown' hgrow; obtain ⟨g9, cap9, rfl⟩ := owns_succ hown'; have hA4 := (hgrow.block (w.heap.size + 1 + 1) (by have := HS3.out; have := HHW.out.1; have := HHH.out.2.1; simp; omega) (fun e => by have := owns_block HE5.out e.symm; have := HHW.out.1; have := HHH.out.2.1; omega)).trans (below_heap (below_alloc w3 _) HG.out.2.2.2); have ca4 := cell_of_one hA4; have fa4 : w4.frozen? ⟨w.heap.size + 1 + 1, 0, none⟩ = false := by { simp [World.frozen?, hA4] }; have HO4 := Lib.hid hown'; have HGR := Lib.hid hgrow; clear hown' hgrow hA4
                refine hKK _ _ ?_
                clear hKK KK
                refine wpAnyIn_ready (rs := [6]) (by kernel_rfl) (by simp) ?_
                refine AllReadyIn.cons rfl (fun KK hKK => ?_) ?_
                · go_simp
                  refine hKK _ _ ?_
                  clear hKK KK
                  refine wpAnyIn_done (by kernel_rfl) ?_ _
                  exact round_end (x := (xn, ⟨a, b, t, s, c', d, e, f⟩)) HV.out HM.out ⟨HE1.out, ⟨_, HE2.out, HE3.out⟩, ⟨_, HE4.out, HE5.out⟩, HE6.out⟩ HHH.out.1 (by omega) HHH.out.2.1 HHW.out.1 HHW.out.2 HG.out.1 HG.out.2.1 HG.out.2.2.1 HG.out.2.2.2 (fun g hg => owns_block HE5.out hg) (by rw [HVX.out]; exact HO4.out) HGR.out
                exact AllReadyIn.nil
              exact AllReadyIn.nil
            exact AllReadyIn.nil
          refine AllReadyIn.cons rfl (fun KK hKK => ?_) ?_
          · go_simp
            refine hKK _ _ ?_
            clear hKK KK
            refine wpAnyIn_ready (rs := [0]) (by kernel_rfl) (by simp) ?_
            refine AllReadyIn.cons rfl (fun KK hKK => ?_) ?_
            · go_simp
              refine hKK _ _ ?_
              clear hKK KK
              refine wpAnyIn_ready (rs := [5]) (by kernel_rfl) (by simp) ?_
              refine AllReadyIn.cons rfl (fun KK hKK => ?_) ?_
              · refine step_append_in rfl _ _ 22 rfl H 3 i0 (.int .i64 0) 1 8 Tryz.underlying22 hi0 hz0 hz1 hz2 rfl (by decide) _ _ _ rfl (HO3.out.alloc _) ⟨w3.heap.size, 0, none⟩ 1 1 [.int .i64 vx] rfl rfl (cell_one_new _ _ _) (fun z hz => by simp at hz; subst hz; rfl) (by have := HL4.out; unfold maxLen; omega) (by have := HL4.out; omega) (by have := HS3.out; simp; omega) ?_; intro v' w4 hown' hgrow; obtain ⟨g9, cap9, rfl⟩ := owns_succ hown'; have hA4 := (hgrow.block (w.heap.size + 1 + 1) (by have := HS3.out; have := HHW.out.1; have := HHH.out.2.1; simp; omega) (fun e => by have := owns_block HE5.out e.symm; have := HHW.out.1; have := HHH.out.2.1; omega)).trans (below_heap (below_alloc w3 _) HG.out.2.2.2); have ca4 := cell_of_one hA4; have fa4 : w4.frozen? ⟨w.heap.size + 1 + 1, 0, none⟩ = false := by { simp [World.frozen?, hA4] }; have HO4 := Lib.hid hown'; have HGR := Lib.hid hgrow; clear hown' hgrow hA4
                refine hKK _ _ ?_
                clear hKK KK
                refine wpAnyIn_ready (rs := [6]) (by kernel_rfl) (by simp) ?_
                refine AllReadyIn.cons rfl (fun KK hKK => ?_) ?_
                · go_simp
                  refine hKK _ _ ?_
                  clear hKK KK
                  refine wpAnyIn_done (by kernel_rfl) ?_ _
                  exact round_end (x := (xn, ⟨a, b, t, s, c', d, e, f⟩)) HV.out HM.out ⟨HE1.out, ⟨_, HE2.out, HE3.out⟩, ⟨_, HE4.out, HE5.out⟩, HE6.out⟩ HHH.out.1 (by omega) HHH.out.2.1 HHW.out.1 HHW.out.2 HG.out.1 HG.out.2.1 HG.out.2.2.1 HG.out.2.2.2 (fun g hg => owns_block HE5.out hg) (by rw [HVX.out]; exact HO4.out) HGR.out
                exact AllReadyIn.nil
              exact AllReadyIn.nil
            exact AllReadyIn.nil
          exact AllReadyIn.nil
        exact AllReadyIn.nil
      exact AllReadyIn.nil
    exact AllReadyIn.nil
  case hdone =>
    rintro H Dd W hH rfl ⟨e1, ⟨D', e2, e3⟩, ⟨v, e4, e5⟩, e6⟩ hKd
    have hM0 := HHH.out.1
    have h12 := HHH.out.2.1
    have hwv : W.heap[w.heap.size + 1]? = w1.heap[w.heap.size + 1]? := e6.same _ (by omega) (by omega)
    have hpW : PlB w.heap.size p W := e6.heap (by omega) HF2.out
    have hv0 : W.cell? ⟨w.heap.size + 1, 0, none⟩ = some (.int .i64 0) := (World.cell?_of_block (w := w1) hwv).trans HF3.out
    have hf0 : W.frozen? ⟨w.heap.size + 1, 0, none⟩ = false := by have := HF4.out; simp only [World.frozen?] at this ⊢; rw [hwv]; exact this
    have hl4 : (p.plays lo k).length ≤ 4 := plays_length (by have := HHI.out.1; have := HHI.out.2.1; have := HHI.out.2.2.1; have := HHI.out.2.2.2.1; omega)
    have hint : Ints W v ((p.plays lo k).map fun x => x.2.val lo k) := ints_of_owns (T := 3) (base := H) (by simpa [Function.comp_def] using e5)
    have HT := Lib.hid (fun w' (h : Below W.heap.size W w') => play2_any tb p v ((p.plays lo k).map fun x => x.2.val lo k) w' (below_cell h e1.tp) (hint.same fun a u h' => below_cell h h') (by simp; omega))
    rw [← val_step HHI.out.2.1 HP.out HO.out] at HT
    obtain ⟨av, capv, hv, _⟩ := slice_of_owns e5
    have ct := e1.tg
    have ca := cell_of_one e4
    obtain ⟨c0, c1, c2, c3, c4, c5, c6, c7⟩ := hpW.cell
    have HE1 := Lib.hid e1
    have HE2 := Lib.hid e2
    have HE3 := Lib.hid e3
    have HE6 := Lib.hid e6
    have HKD := Lib.hid hKd
    have HPW := Lib.hid hpW
    have HV0 := Lib.hid hv0
    have HF0 := Lib.hid hf0
    have HL4 := Lib.hid hl4
    subst hv
    unfold topFn at ct
    unfold Pl.v plV at HT
    obtain ⟨x, hx⟩ : ∃ x, p.val lo k = x := ⟨_, rfl⟩
    have HX := Lib.hid hx
    rw [hx] at HT
    have ln := Lib.hid (show (p.plays lo k).length = (p.plays lo k).length from rfl)
    obtain ⟨L, hL⟩ : ∃ L, (p.plays lo k).length = L := ⟨_, rfl⟩
    rw [hL] at ca HT HE2 HL4
    clear e1 e2 e3 e4 e5 e6 hKd hM0 h12 hwv hpW hv0 hf0 hl4 hint hx hL
    gi_wp2_with (first
      | (refine ⟨trivial, ?_⟩; gi_at_call 79; refine (callsIn_wide.2 (HT.out _ (Below.refl _ _))).mono ?_; rintro q w4 ⟨rfl, hb4⟩; have HB4 := Lib.hid hb4; have v4 := below_cell hb4 HV0.out; have z4 := (below_frozen hb4 HV0.out).trans HF0.out; clear hb4))
    have hM0 := HHH.out.1
    have h12 := HHH.out.2.1
    have hk0 : RKeep (fun j => j ≠ w.heap.size + 1 ∧ j ≠ w1.heap.size) W ((w4.setCell ⟨w.heap.size + 1, 0, none⟩ (.int .i64 x)).putObj w1.heap.size (.deferred none)) :=
      ((RKeep.of_below HB4.out).trans (RKeep.setCell (w.heap.size + 1) 0 (fun h => h.1 rfl) (.int .i64 x))).trans ⟨by simp [World.putObj], fun j _ hne => World.putObj_heap_other hne.2, Env.put _ _ _⟩
    have hk5 : (w4.setCell ⟨w.heap.size + 1, 0, none⟩ (.int .i64 x)).heap[w1.heap.size]? = some (.deferred (some [])) :=
      (RKeep.setCell (K := fun j => j ≠ w.heap.size + 1) (w.heap.size + 1) 0 (fun h => h rfl) (.int .i64 x)).heap (by omega) (below_heap HB4.out HKD.out)
    have hv6 : ((w4.setCell ⟨w.heap.size + 1, 0, none⟩ (.int .i64 x)).putObj w1.heap.size (.deferred none)).cell? ⟨w.heap.size + 1, 0, none⟩ = some (.int .i64 x) :=
      (World.cell?_of_block (w := w4.setCell ⟨w.heap.size + 1, 0, none⟩ (.int .i64 x)) (World.putObj_heap_other (by show w.heap.size + 1 ≠ w1.heap.size; omega))).trans (World.cell?_setCell_same _ _ _ v4)
    have hM6 := HE2.out.keep hk0 ⟨by omega, by omega⟩
    have hx2 := val_bounds HHI.out.2.1 HP.out (k := k)
    rw [HX.out] at hx2
    have hmul : L * most N ≤ 4 * most N := Nat.mul_le_mul_right _ HL4.out
    have hmx : n + L * most N + 1 ≤ n + most (N + 1) := by
      have : most (N + 1) = 1 + 4 * most N := rfl
      omega
    have hnn := HHI.out.2.2.2.2.2
    have hb1 := World.block_lt_of_cell? w _ HV.out.en
    have hb2 := World.block_lt_of_cell? w _ HV.out.mp
    simp only at hb1 hb2
    refine ⟨by simp, .inl ⟨_, _, rfl, run_takeDeferred hk5, by simp, .inr ⟨fun h => (by cases h), _, _, 110, catchA eB (w.heap.size + 1) mB w.heap.size, rfl, (by simp [invoke, go_sem, catchA]), fun _ _ => trivial, ?_⟩⟩⟩
    refine (catch_idle eB (w.heap.size + 1) mB w.heap.size M (n + L * most N) D' p x _ ⟨hk0.cell ⟨by show eB ≠ _; omega, by show eB ≠ _; omega⟩ HE1.out.en, hk0.cell ⟨by show mB ≠ _; omega, by show mB ≠ _; omega⟩ HE1.out.mp, hk0.heap ⟨by omega, by omega⟩ HPW.out⟩ hM6 (by unfold maxLen; omega) HP.out hv6 ⟨by omega, by omega⟩).mono ?_
    rintro e u' w7 ⟨rfl, rfl, h1, h2, h3⟩
    have hp2 := HE3.out.put HP.out
    rw [HX.out] at hp2
    refine ⟨.int .i64 x, by simp [results, Tryz.results109, go_sem, h2], by rw [HX.out], ⟨_, World.ownsMap.mono h1 hmx, hp2⟩, Nat.le_trans HF1.out.size (Nat.le_trans HE6.out.size (Nat.le_trans hk0.size h3.size)), fun j hj hne => ?_, (Env.below HF1.out).trans (HE6.out.env.trans (hk0.env.trans h3.env))⟩
    have hj1 := HF1.out.size
    exact (h3.same j (Nat.lt_of_lt_of_le hj (Nat.le_trans hj1 (Nat.le_trans HE6.out.size hk0.size))) ⟨hne, by omega⟩).trans ((hk0.same j (Nat.lt_of_lt_of_le hj (Nat.le_trans hj1 HE6.out.size)) ⟨by omega, by omega⟩).trans ((HE6.out.same j (Nat.lt_of_lt_of_le hj hj1) ⟨hne, by omega⟩).trans (HF1.out.block j hj)))
end Go.Proofs.YtemoepcfmpapoaaGreatDoor
