/-
  'intersect', by contract.
-/
import Derived.Test.YtejfelijhojndaaGreatDoorMIndex
import Derived.WalkMore
import Derived.Maps.AppendAt
namespace Go.Proofs.YtejfelijhojndaaGreatDoor
open Go.RowKit Go.Proofs Go.Shelf

def ivals (L : List Int) : List Value := L.map (Value.int .i64)
def interL : List (List Int) → List Int
  | [] => []
  | l :: ls => l.filter fun v => ls.all fun m => decide (v ∈ m)
def InterEnd (L : List Int) (w : World) (e : Ending) (w' : World) : Prop := ∃ v, e = .returned v ∧ w'.ownsRow w.heap.size 3 1 v L.length (ivals L) ∧ Below w.heap.size w w'

theorem filter_take_succ (p : Int → Bool) (l : List Int) (k : Nat) (hk : k < l.length) : (l.take (k + 1)).filter p = (l.take k).filter p ++ if p l[k] then [l[k]] else [] := by
  rw [List.take_succ_eq_append_getElem hk, List.filter_append]
  congr 1
  by_cases h : p l[k] <;> simp [h]

set_option maxRecDepth 100000 in
set_option maxHeartbeats 1600000 in
theorem intersect_any (b n : Nat) (M : List (List Int)) (w : World) (hn0 : 0 < n) (hn : n ≤ 100) (hM : M.length = n) (hL : ∀ l ∈ M, l.length ≤ 1000) (hrow : ∀ i (h : i < M.length), ∃ u, w.cell? ⟨b, i, none⟩ = some u ∧ Ints w u M[i]) :
    Calls Tryz.prog 118 #[.slice (some ⟨b, 0, none⟩) n n] w (InterEnd (interL M) w) := by
  obtain ⟨i0, hi, hz0, hz1, hz2⟩ := info_parts Tryz.infoInt
  cases M with
  | nil => simp at hM; omega
  | cons l0 M =>
    obtain ⟨u0, c0, a, cap0, rfl, hc0⟩ := hrow 0 (by simp)
    have HR : Hid (∀ i, i < M.length → ∃ u, w.cell? ⟨b, 1 + i, none⟩ = some u ∧ Ints w u (M[i]?.getD [])) := fun i hi => by
      obtain ⟨u, h1, h2⟩ := hrow (i + 1) (by simp; omega)
      refine ⟨u, by rw [Nat.add_comm]; exact h1, ?_⟩
      simp only [List.getElem_cons_succ] at h2
      simpa [hi] using h2
    have hl0 := hL l0 (by simp)
    have HL := Lib.hid (fun i (hi : i < M.length) => hL (M[i]?.getD []) (by simp [hi]))
    have hM1 : M.length + 1 = n := by simpa using hM
    simp only [List.getElem_cons_zero] at c0 hc0
    have HC := Lib.hid hc0
    clear hrow hL hM hc0
    have hn1 : (1 : Int) ≤ (n : Int) := by omega
    have hn2 : ((n : Int) == 0) = false := beq_eq_false_iff_ne.2 (by omega)
    have hn3 : (0 : Int) < (n : Int) := by omega
    go_enter Tryz.func118, Tryz.ntmps118
    go_wp2_with fail
    go_step3
    go_wp2_with fail
    go_step3
    go_wp2_with fail
    go_loopw [3, 16] (fun v i wr => ∃ k : Nat, k ≤ l0.length ∧ i = .int .i64 k ∧ wr.ownsRow w.heap.size 3 1 v ((l0.take k).filter fun v => M.all fun m => decide (v ∈ m)).length (ivals ((l0.take k).filter fun v => M.all fun m => decide (v ∈ m))) ∧ Below w.heap.size w wr) (fun _ i _ => l0.length - (intOf i).toNat)
    case atStart => exact ⟨0, Nat.zero_le _, rfl, World.ownsRow_nil _ _ _ _, Below.refl _ w⟩
    case round =>
      obtain ⟨k, hk, rfl, hown, hbl⟩ := hrel
      by_cases hlt : k < l0.length
      · have hklt : (k : Int) < (l0.length : Int) := by omega
        obtain ⟨b0, off0, rfl, hd⟩ := HC.out (by omega)
        have c1 := below_cell hbl c0
        have c2 := below_cell hbl (hd k hlt)
        obtain ⟨x, hx⟩ : ∃ x, l0[k]?.getD 0 = x := ⟨_, rfl⟩
        rw [hx] at c2
        have HX := Lib.hid hx
        have HO := Lib.hid hown
        have HB := Lib.hid hbl
        clear hown hbl hx hd
        go_wp2_with fail
        all_goals
          try (have h1 : n = 1 := by assumption
               subst h1)
          go_loopw [23] (fun i wr2 => ∃ j : Nat, j ≤ M.length ∧ i = .int .i64 j ∧ (∀ i, i < j → x ∈ M[i]?.getD []) ∧ wr = wr2) (fun i _ => M.length - (intOf i).toNat)
          case atStart => exact ⟨0, Nat.zero_le _, rfl, fun i h => by omega, rfl⟩
          case round =>
            obtain ⟨j, hj, rfl, hin, rfl⟩ := hrel
            have HIN := Lib.hid hin
            clear hin
            by_cases hjl : j < M.length
            · first
                | (exfalso; omega)
                | (have hjn : (j : Int) < (n : Int) - 1 := by omega
                   have hjn2 : (1 : Int) + (j : Int) < (n : Int) := by omega
                   obtain ⟨u, d1, d2⟩ := HR.out j hjl
                   have d3 := below_cell HB.out d1
                   have HCO := Lib.hid (contains_any u x (M[j]?.getD []) wr (d2.below HB.out) (HL.out j hjl))
                   clear d1 d2
                   obtain ⟨q, hq⟩ : ∃ q, decide (x ∈ M[j]?.getD []) = q := ⟨_, rfl⟩
                   rw [hq] at HCO
                   cases q with
                   | true =>
                     have HXM := Lib.hid (of_decide_eq_true hq)
                     clear hq
                     go_wp2_with (go_at_call 87; refine HCO.out.mono ?_; rintro e w' ⟨rfl, rfl⟩)
                     go_roundw
                     case rel => exact ⟨j + 1, by omega, by go_num, fun i hi => by rcases Nat.lt_succ_iff_lt_or_eq.1 hi with h | rfl; exact HIN.out i h; exact HXM.out, (by trivial)⟩
                     case measure => simp only [intOf]; omega
                   | false =>
                     have hxm := of_decide_eq_false hq
                     clear hq
                     have HP : Hid ((M.all fun m => decide (x ∈ m)) = false) := by
                       apply List.all_eq_false.2
                       exact ⟨M[j], by simp, by simpa [hjl] using hxm⟩
                     clear hxm
                     go_wp2_with (go_at_call 87; refine HCO.out.mono ?_; rintro e w' ⟨rfl, rfl⟩)
                     go_roundw
                     case rel =>
                       refine ⟨k + 1, by omega, by go_num, ?_, HB.out⟩
                       have hxx : l0[k] = x := by have := HX.out; simpa [hlt] using this
                       rw [filter_take_succ _ _ _ hlt, hxx, if_neg (by rw [HP.out]; simp), List.append_nil]
                       exact HO.out
                     case measure => simp only [intOf]; omega)
            · try (have hjn : ¬ (j : Int) < (n : Int) - 1 := by omega)
              have HP : Hid ((M.all fun m => decide (x ∈ m)) = true) := by
                apply List.all_eq_true.2
                intro m hm
                obtain ⟨i, hi, rfl⟩ := List.mem_iff_getElem.1 hm
                have := HIN.out i (by omega)
                simpa [hi] using this
              have hfl : ((l0.take k).filter fun v => M.all fun m => decide (v ∈ m)).length ≤ 1000 := Nat.le_trans (List.length_filter_le _ _) (by rw [List.length_take]; omega)
              go_wp2_with (first
                | (at_builtin; refine wpList_append_own _ rfl _ _ 22 rfl w.heap.size 3 i0 (.int .i64 0) 1 8 Tryz.underlying22 hi hz0 hz1 hz2 rfl (by decide) _ _ _ rfl (HO.out.alloc _) ⟨wr.heap.size, 0, none⟩ 1 1 [.int .i64 x] rfl rfl (cell_one_new _ _ _) (fun z hz => by simp at hz; subst hz; rfl) (by unfold maxLen; omega) (by omega) (by have := HB.out.size; simp; omega) ?_; intro v' w3 hown' hgrow _))
              have HO3 := Lib.hid hown'
              have hB3 := (HB.out.alloc HB.out.size _).grown hgrow (by have := HB.out.size; simp; omega) (fun j hj => (HO.out.lt j hj).1)
              have HB3 := Lib.hid hB3
              clear hown' hgrow hB3
              go_wp2_with fail
              have HOK : Hid (w3.ownsRow w.heap.size 3 1 v' ((l0.take (k + 1)).filter fun v => M.all fun m => decide (v ∈ m)).length (ivals ((l0.take (k + 1)).filter fun v => M.all fun m => decide (v ∈ m)))) := by
                have hxx : l0[k] = x := by have := HX.out; simpa [hlt] using this
                show World.ownsRow _ _ _ _ _ _ _
                rw [filter_take_succ _ _ _ hlt, hxx, if_pos (by rw [HP.out])]
                simpa [ivals] using HO3.out
              first
                | (go_roundw
                   case rel => exact ⟨k + 1, by omega, by go_num, HOK.out, HB3.out⟩
                   case measure => simp only [intOf]; omega)
                | exact ⟨⟨_, _, _, _, ⟨k + 1, by omega, by go_num, HOK.out, HB3.out⟩, rfl, rfl, rfl, rfl⟩, by simp only [intOf]; omega⟩
      · obtain rfl : k = l0.length := by omega
        have HO := Lib.hid hown
        have HB := Lib.hid hbl
        clear hown hbl
        go_wp2_with fail
        go_ret
        exact ⟨_, rfl, by have := HO.out; rw [List.take_length] at this; exact this, HB.out⟩
end Go.Proofs.YtejfelijhojndaaGreatDoor
