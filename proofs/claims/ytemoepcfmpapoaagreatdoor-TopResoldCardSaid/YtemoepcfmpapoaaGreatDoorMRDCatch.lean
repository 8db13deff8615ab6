/-
  debt: what is done when a settlement ends: what pairs that settle nothing panicked with is caught.
-/
import Derived.Test.YtemoepcfmpapoaaGreatDoorMRCmp
import Derived.Recover
namespace Go.Proofs.YtemoepcfmpapoaaGreatDoor
open Go.RowKit Go.Proofs Go.Shelf
attribute [local go_sem] Oper.semAt_some

set_option maxRecDepth 100000
theorem wpS_rec {P : Program} {Q : Exit → Act → List Frame → World → Prop} {a : Act} {cs : List Frame} {w : World} {id : Nat} {d : Option Tmp} {t : TypeId} {ps : String}
    (hK : match recoverD cs with | some (v, cs') => Q .normal (a.put d v) cs' w | none => Q .normal (a.put d .nilIface) cs w) :
    (Code.region id #[{ dst := d, op := Op.call { callee := Callee.builtin Builtin.recover, args := #[], argTypes := #[] }, type := t, pos := ps, after := #[], guard := none }] false).wpS P Q a cs w := by
  refine wpS_region ?_
  simp [wpOpsS, go_sem]
  exact hK

def DIdle (u : FrameMode) (w : World) (e : Ending) (u' : FrameMode) (w' : World) : Prop := e = .returned (.tuple #[]) ∧ u' = u ∧ Below w.heap.size w w'
theorem dcatch_idle (pb ob : Nat) (w : World) : CallsD Tryz.prog 88 #[.pointer (some ⟨pb, 0, none⟩), .pointer (some ⟨ob, 0, none⟩)] .returning w (DIdle .returning w) := by
  refine callsD_of_wpS Tryz.func88 rfl fun c₀ cs hu => ?_
  refine wpS_seq ?_
  refine wpS_rec ?_
  simp only [recoverD, hu, Exit.thenS]
  simp only [Tryz.ntmps88, Act.put, List.size_toArray, List.length_cons, List.length_nil, Nat.reduceAdd, Nat.reduceSub, Array.replicate_succ, Array.replicate_zero, List.push_toArray, List.append_toArray, List.nil_append, List.cons_append, List.setIfInBounds_toArray, List.set_cons_succ, List.set_cons_zero]
  refine wpS_of_wp ?_
  go_wp2_with fail
  exact ⟨rfl, .returning, (by cases c₀; simp_all), .tuple #[], results_none rfl _ _ _, rfl, rfl, Below.refl _ _⟩

def DCaught (pb ob : Nat) (u : FrameMode) (w : World) (e : Ending) (u' : FrameMode) (w' : World) : Prop :=
  e = .returned (.tuple #[]) ∧ u' = u ∧ w'.cell? ⟨pb, 0, none⟩ = some (.slice none 0 0) ∧ w'.cell? ⟨ob, 0, none⟩ = some (.bool false) ∧ RKeep (fun k => k ≠ pb ∧ k ≠ ob) w w'
theorem dcatch_uns (pb ob : Nat) (v0 v1 : Value) (older : List PanicEntry) (w : World) (hp : w.heap[pb]? = some (.cells #[v0] 69 (0, 0))) (ho : w.heap[ob]? = some (.cells #[v1] 4 (0, 0))) (hne : pb ≠ ob) :
    CallsD Tryz.prog 88 #[.pointer (some ⟨pb, 0, none⟩), .pointer (some ⟨ob, 0, none⟩)] (.panicking ({ v := .iface 173 (.agg #[]), recovered := false } :: older)) w (DCaught pb ob (.panicking ({ v := .iface 173 (.agg #[]), recovered := true } :: older)) w) := by
  refine callsD_of_wpS Tryz.func88 rfl fun c₀ cs hu => ?_
  have hta : ∀ w, (Instr.typeAssert (.iface 173 (.agg #[])) 20 173 true).run Tryz.prog w = .ok (.tuple #[.agg #[], .bool true]) w := fun _ => by kernel_rfl
  obtain ⟨W1, hW1⟩ : ∃ W1, w.alloc (.cells #[] 173) = W1 := ⟨_, rfl⟩
  have hbw : Below w.heap.size w W1 := by rw [← hW1]; exact below_alloc _ _
  have hp1 := below_heap hbw hp
  have ho1 := below_heap hbw ho
  have c0 := cell_of_one hp1
  have c1 := cell_of_one ho1
  have f0 : W1.frozen? ⟨pb, 0, none⟩ = false := by simp [World.frozen?, hp1]
  have f1 : W1.frozen? ⟨ob, 0, none⟩ = false := by simp [World.frozen?, ho1]
  have HB := Lib.hid hbw
  have HP1 := Lib.hid hp1
  have HO1 := Lib.hid ho1
  have HNE := Lib.hid hne
  clear hp ho hbw hp1 ho1
  refine wpS_seq ?_
  refine wpS_rec ?_
  simp only [recoverD, hu, Exit.thenS]
  simp only [Tryz.ntmps88, Act.put, List.size_toArray, List.length_cons, List.length_nil, Nat.reduceAdd, Nat.reduceSub, Array.replicate_succ, Array.replicate_zero, List.push_toArray, List.append_toArray, List.nil_append, List.cons_append, List.setIfInBounds_toArray, List.set_cons_succ, List.set_cons_zero]
  refine wpS_of_wp ?_
  go_wp2_with fail
  refine ⟨rfl, _, rfl, .tuple #[], results_none rfl _ _ _, rfl, rfl, ?_, ?_, ?_⟩
  · rw [World.cell?_setCell_other _ _ _ _ (fun e => HNE.out (by cases e; rfl))]
    exact World.cell?_setCell_same _ _ _ c0
  · exact World.cell?_setCell_same (w := W1.setCell ⟨pb, 0, none⟩ (.slice none 0 0)) ⟨ob, 0, none⟩ _ (u := v1) (by rw [World.cell?_setCell_other _ _ _ _ (fun e => HNE.out (by cases e; rfl))]; exact c1)
  · exact ((RKeep.of_below HB.out).trans (RKeep.setCell pb 0 (fun h => h.1 rfl) _)).trans (RKeep.setCell ob 0 (fun h => h.2 rfl) _)
end Go.Proofs.YtemoepcfmpapoaaGreatDoor
