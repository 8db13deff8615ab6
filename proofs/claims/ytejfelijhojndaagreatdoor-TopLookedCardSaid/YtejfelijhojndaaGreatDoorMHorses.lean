/-
  'append' of one value to a row of one's own: the old cells stay.
-/
import Derived.Test.YtejfelijhojndaaGreatDoorMNil
import Derived.ArgAppend
namespace Go.Proofs.YtejfelijhojndaaGreatDoor
open Go.RowKit Go.Proofs Go.Shelf

theorem run_append_keep {P : Program} (w : World) (base : Nat) (t ty e : TypeId) (i : TypeInfo) (z : Value) (bytes : Nat) (ht : P.underlying t = some (.slice e)) (hi : P.info? e = some i) (hz : i.zero = some z)
    (hsize : i.size = 1) (hby : i.bytes = bytes) (hzs : z.cells.size = 1) (g n cap : Nat) (xs : List Value) (hown : w.ownsRow base e 1 (.slice (some ⟨g, 0, none⟩) n cap) n xs)
    (a : Addr) (c : Nat) (x : Value) (hx : w.cell? a = some x) (h1 : x.oneCell' = true) (h63 : n + 1 ≤ maxLen) (hbytes : (n + 1) * bytes ≤ 140737488355328) (hbase : base ≤ w.heap.size) :
    ∃ v' w', (Builtin.append_ #[t, t] ty #[.slice (some ⟨g, 0, none⟩) n cap, .slice (some a) 1 c]).run P w = .ok v' w' ∧ w'.ownsRow base e 1 v' (n + 1) (xs ++ [x]) ∧ w.grownBy w' (some g) ∧ (v' ≠ .slice none 0 0) ∧ ∀ j, j < n → w'.cell? ⟨g, j, none⟩ = w.cell? ⟨g, j, none⟩ := by
  have hnews : ∀ j u, [x][j]? = some u → w.cell? (a.add j) = some u := by
    intro j u hj
    match j, hj with
    | 0, hj => simp at hj; subst hj; simpa [Addr.add] using hx
  have hone : ∀ u ∈ [x], u.oneCell' = true := by intro u hu; simp at hu; subst hu; exact h1
  obtain ⟨v', w', hr, ho, hg, hn⟩ := run_append_own (P := P) w base t ty e i z 1 bytes ht hi hz hsize hby hzs (by omega) _ n xs hown a 1 c [x] rfl hnews hone h63 hbytes hbase
  have hgw : g < w.heap.size := (hown.lt g rfl).2
  refine ⟨v', w', hr, ho, hg, fun h => by have := (hn.1 h).2; omega, fun j hj => ?_⟩
  have hxs : xs.length = n * 1 := hown.1
  rcases hown.2 with ⟨h0, _⟩ | ⟨g', cap', cur, hv, hb, hh, hnc, hm, hs, ht'⟩
  · cases h0
  · cases hv
    by_cases hroom : n + 1 ≤ cap
    · have hrun := run_append_room_cells (P := P) w t ty e i ht hi g 0 n cap a 1 c [x] (by rw [hsize]; rfl) hnews hone hroom
        (fun j hj => by
          have : j = 0 := by simpa using hj
          subst this
          rw [hsize]
          simp [World.cell?, hh, show n < cur.size by omega])
        (fun j hj => by
          have : j = 0 := by simpa using hj
          subst this
          simp [World.frozen?, hh])
      rw [hrun] at hr
      injection hr with _ hw
      rw [← hw, hsize]
      simp [World.setCells, World.setCell, World.cell?, Array.getElem?_modify, hh]
      rw [Array.getElem?_setIfInBounds_ne (by omega)]
    · obtain ⟨v2, w2, hrun, _, hg2⟩ := run_append_arg_grows (P := P) w t ty e i z 1 bytes ht hi hz hsize hby hzs (by omega) ⟨g, 0, none⟩ n cap xs hxs (fun j u hj => by
        rw [addr_add, Nat.zero_add]
        have hj2 : (cur.toList.take (n * 1))[j]? = some u := by rw [ht']; exact hj
        rw [List.getElem?_take] at hj2
        split at hj2
        · simpa [World.cell?, hh] using hj2
        · cases hj2) a 1 c [x] rfl hnews (by omega) h63 hbytes
      rw [hrun] at hr
      injection hr with _ hw
      subst hw
      exact World.cell?_of_block (w := w) (hg2.block g hgw (by simp))

theorem wpList_append_keep {P : Program} (w : World) {ops : Array Oper} {rest : List Oper} {o : Oper} {a : Act} {Q : Exit → Act → World → Prop} (hgd : o.guard = none) (s x : Operand) (t : TypeId)
    (ho : o.op = .call { callee := .builtin .append, args := #[s, x], argTypes := #[t, t] })
    (base : Nat) (e : TypeId) (i : TypeInfo) (z : Value) (bytes : Nat) (ht : P.underlying t = some (.slice e)) (hi : P.info? e = some i) (hz : i.zero = some z)
    (hsize : i.size = 1) (hby : i.bytes = bytes) (hzs : z.cells.size = 1) (g n cap : Nat) (xs : List Value) (hs : a.eval s = .slice (some ⟨g, 0, none⟩) n cap) (hown : w.ownsRow base e 1 (.slice (some ⟨g, 0, none⟩) n cap) n xs)
    (ad : Addr) (c : Nat) (u : Value) (hx : a.eval x = .slice (some ad) 1 c) (hu : w.cell? ad = some u) (h1 : u.oneCell' = true) (h63 : n + 1 ≤ maxLen) (hbytes : (n + 1) * bytes ≤ 140737488355328) (hbase : base ≤ w.heap.size)
    (h : ∀ v' w', w'.ownsRow base e 1 v' (n + 1) (xs ++ [u]) → w.grownBy w' (some g) → v' ≠ .slice none 0 0 → (∀ j, j < n → w'.cell? ⟨g, j, none⟩ = w.cell? ⟨g, j, none⟩) → wpList P ops Q rest (a.put o.dst v') w') :
    wpList P ops Q (o :: rest) a w := by
  refine wpList_plain hgd fun K hK => ?_
  obtain ⟨v', w', hr, h2, h3, h4, h5⟩ := run_append_keep (P := P) w base t o.type e i z bytes ht hi hz hsize hby hzs g n cap xs hown ad c u hu h1 h63 hbytes hbase
  unfold Oper.wp execOp
  simp only [ho, resolve, invoke, builtin, Sem.run_bind, Sem.run_pure, Result.andThen_ok, List.map_toArray, List.map_cons, List.map_nil, hs, hx, hr]
  exact hK _ _ (h v' w' h2 h3 h4 h5)
end Go.Proofs.YtejfelijhojndaaGreatDoor

/-
  'horses', by contract.
-/
namespace Go.Proofs.YtejfelijhojndaaGreatDoor
open Go.RowKit Go.Proofs Go.Shelf

def horsesL : Nat → List Nat
  | 0 => [0]
  | n + 1 => horsesL n ++ (horsesL n).map (· ||| 2 ^ n)
theorem horsesL_length : ∀ n, (horsesL n).length = 2 ^ n
  | 0 => rfl
  | n + 1 => by simp only [horsesL, List.length_append, List.length_map, horsesL_length n, Nat.pow_succ]; omega
theorem horsesL_lt : ∀ n, ∀ h ∈ horsesL n, h < 2 ^ n
  | 0, h, hh => by simp [horsesL] at hh; omega
  | n + 1, h, hh => by
    simp only [horsesL, List.mem_append, List.mem_map] at hh
    rcases hh with hh | ⟨x, hx, rfl⟩
    · have := horsesL_lt n h hh; rw [Nat.pow_succ]; omega
    · exact Nat.or_lt_two_pow (Nat.lt_of_lt_of_le (horsesL_lt n x hx) (Nat.pow_le_pow_right (by omega) (by omega))) (Nat.pow_lt_pow_right (by omega) (by omega))
def hvals (L : List Nat) : List Value := L.map fun h => Value.int .u8 (h : Nat)
/-- The rows of round n: the first j horses are doubled. -/
def horsesMid (n j : Nat) : List Nat := horsesL n ++ ((horsesL n).take j).map (· ||| 2 ^ n)
theorem horsesMid_succ {n j : Nat} (hj : j < (horsesL n).length) : horsesMid n (j + 1) = horsesMid n j ++ [(horsesL n)[j] ||| 2 ^ n] := by
  unfold horsesMid
  rw [List.take_succ_eq_append_getElem hj, List.map_append, List.append_assoc]
  rfl
def HorsesEnd (n : Nat) (w : World) (e : Ending) (w' : World) : Prop := ∃ v, e = .returned v ∧ w'.ownsRow w.heap.size 95 1 v (horsesL n).length (hvals (horsesL n)) ∧ v ≠ .slice none 0 0 ∧ Below w.heap.size w w'

theorem owns_form {w : World} {base n : Nat} {T : TypeId} {v : Value} {xs : List Value} (h : w.ownsRow base T 1 v n xs) (hn : v ≠ .slice none 0 0) : ∃ g cap, v = .slice (some ⟨g, 0, none⟩) n cap ∧ base ≤ g ∧ g < w.heap.size ∧ ∀ j u, xs[j]? = some u → w.cell? ⟨g, j, none⟩ = some u := by
  have hx := h.1
  rcases h.2 with ⟨rfl, h0⟩ | ⟨g, cap, cur, rfl, hb, hh, hnc, hm, hs, ht⟩
  · exact absurd rfl hn
  · refine ⟨g, cap, rfl, hb, (Array.getElem?_eq_some_iff.1 hh).1, fun j u hj => ?_⟩
    have hj2 : (cur.toList.take (n * 1))[j]? = some u := by rw [ht]; exact hj
    rw [List.getElem?_take] at hj2
    split at hj2
    · simpa [World.cell?, hh] using hj2
    · cases hj2

set_option maxRecDepth 100000 in
set_option maxHeartbeats 1600000 in
theorem horses_any (n : Nat) (w : World) (hn : n ≤ 6) : Calls Tryz.prog 58 #[.int .i64 n] w (HorsesEnd n w) := by
  obtain ⟨i0, hi, hz0, hz1, hz2⟩ := info_parts Tryz.infoHorse
  have hstart := World.ownsRow_lit (base := w.heap.size) (e := 95) (size := 1) w #[.int .u8 0] 1 (Nat.le_refl _) (by unfold maxLen; omega) (by rfl)
  have HST := Lib.hid hstart
  clear hstart
  go_enter Tryz.func58, Tryz.ntmps58
  go_wp2_with fail
  go_loopw [3, 10] (fun v i wr => ∃ k : Nat, k ≤ n ∧ i = .int .i64 k ∧ wr.ownsRow w.heap.size 95 1 v (horsesL k).length (hvals (horsesL k)) ∧ v ≠ .slice none 0 0 ∧ Below w.heap.size w wr) (fun _ i _ => n - (intOf i).toNat)
  case atStart => exact ⟨0, Nat.zero_le _, rfl, HST.out, by simp, (Below.refl _ w).alloc (Nat.le_refl _) _⟩
  case round =>
    obtain ⟨k, hk, rfl, hown, hnn, hbl⟩ := hrel
    have HO := Lib.hid hown
    have HB := Lib.hid hbl
    have HNN := Lib.hid hnn
    by_cases hkn : k < n
    · have hklt : (k : Int) < (n : Int) := by omega
      have hlen := horsesL_length k
      have hp6 : 2 ^ k ≤ 2 ^ 6 := Nat.pow_le_pow_right (by omega) (by omega)
      have h64 : (2:Nat)^6 = 64 := rfl
      have HLEN := Lib.hid (show (horsesL k).length ≤ 64 by omega)
      have HPOW := Lib.hid (show 2 ^ k ≤ 64 by omega)
      clear hlen hp6 h64
      obtain ⟨m, hm⟩ : ∃ m, (horsesL k).length = m := ⟨_, rfl⟩
      have HM := Lib.hid hm
      have hm64 : m ≤ 64 := by rw [← hm]; exact HLEN.out
      rw [hm] at hown
      clear hm
      obtain ⟨g, cap, rfl, hg1, hg2, hgc⟩ := owns_form hown hnn
      have HGC := Lib.hid hgc
      have HO := Lib.hid hown
      clear hown hnn hbl hgc
      go_wp2_with fail
      go_loopw [3, 15] (fun v i wr2 => ∃ j : Nat, j ≤ m ∧ i = .int .i64 j ∧ wr2.ownsRow w.heap.size 95 1 v (horsesMid k j).length (hvals (horsesMid k j)) ∧ v ≠ .slice none 0 0 ∧ (∀ i u, (hvals (horsesL k))[i]? = some u → wr2.cell? ⟨g, i, none⟩ = some u) ∧ Below w.heap.size w wr2) (fun _ i _ => m - (intOf i).toNat)
      case atStart => exact ⟨0, Nat.zero_le _, rfl, by have := HO.out; rw [show horsesMid k 0 = horsesL k by simp [horsesMid], HM.out]; exact this, by simp, HGC.out, HB.out⟩
      case round =>
        obtain ⟨j, hj, rfl, hown, hnn, hgc, hbl⟩ := hrel
        by_cases hjm : j < m
        · have hjlt : (j : Int) < (m : Int) := by omega
          have hjl : j < (horsesL k).length := by rw [HM.out]; exact hjm
          obtain ⟨h, hh⟩ : ∃ h, (horsesL k)[j] = h := ⟨_, rfl⟩
          have c1 := hgc j (.int .u8 (h : Nat)) (by simp [hvals, hjl, hh])
          have hlt := horsesL_lt k h (by rw [← hh]; simp)
          obtain ⟨g2, cap2, rfl, hg21, hg22, _⟩ := owns_form hown hnn
          have HO2 := Lib.hid hown
          have HB2 := Lib.hid hbl
          have HG2 := Lib.hid hgc
          have HH : Hid (∀ hx : j < (horsesL k).length, (horsesL k)[j] = h) := fun _ => hh
          have HJL := Lib.hid hjl
          have HWI := Lib.hid (fun W' => with_any h k W' (by have := HPOW.out; omega) (by omega))
          clear hown hnn hgc hbl hh hjl
          go_wp2_with fail
          refine (HWI.out _).mono ?_
          rintro e w3 ⟨rfl, hb3⟩
          have HO3 := Lib.hid ((HO2.out.alloc (.cells #[.int .u8 (h : Nat)] 95)).kept (show (wr.alloc (.cells #[.int .u8 (h : Nat)] 95)).grownBy w3 none from ⟨hb3.os, hb3.tape, hb3.output, hb3.size, fun k hk _ => hb3.block k hk⟩) (by simp [Value.ownBlock]))
          have HB3 := Lib.hid ((HB2.out.alloc HB2.out.size (.cells #[.int .u8 (h : Nat)] 95)).trans (hb3.mono (Nat.le_trans HB2.out.size (by simp))))
          have HG3 : Hid (∀ i u, (hvals (horsesL k))[i]? = some u → w3.cell? ⟨g, i, none⟩ = some u) := fun i u hu => below_cell hb3 (by rw [World.cell?_alloc_lt _ _ _ (World.block_lt_of_cell? wr _ (HG2.out i u hu))]; exact HG2.out i u hu)
          have hmid : (horsesMid k j).length ≤ 128 := by
            unfold horsesMid
            have := HLEN.out
            rw [List.length_append, List.length_map, List.length_take]
            omega
          clear hb3
          go_wp2_with (first
            | (at_builtin; refine wpList_append_keep _ rfl _ _ 69 rfl w.heap.size 95 i0 (.agg #[.int .u8 0]) 1 Tryz.underlying69 hi hz0 hz1 hz2 rfl g2 (horsesMid k j).length cap2 _ rfl (HO3.out.alloc _) ⟨w3.heap.size, 0, none⟩ 1 (.int .u8 ((h ||| 2 ^ k : Nat) : Int)) rfl (by rw [World.cell?_alloc_new]; rfl) rfl (by unfold maxLen; omega) (by omega) (by have := HB3.out.size; simp; omega) ?_; intro v' w4 hown' hgrow hne hkeep))
          have HOK : Hid (w4.ownsRow w.heap.size 95 1 v' (horsesMid k (j + 1)).length (hvals (horsesMid k (j + 1)))) := by
            show World.ownsRow _ _ _ _ _ _ _
            rw [horsesMid_succ HJL.out, HH.out HJL.out]
            simpa [hvals] using hown'
          have HB4 := Lib.hid ((HB3.out.alloc HB3.out.size _).grown hgrow (by have := HB3.out.size; simp; omega) (fun j hj => by cases hj; exact hg21))
          have HG4 : Hid (∀ i u, (hvals (horsesL k))[i]? = some u → w4.cell? ⟨g, i, none⟩ = some u) := fun i u hu => by
            have h3 := HG3.out i u hu
            have hgl := World.block_lt_of_cell? w3 _ h3
            have hil : i < (horsesL k).length := by have := (List.getElem?_eq_some_iff.1 hu).1; simpa [hvals] using this
            have ha : ∀ o, (w3.alloc o).cell? ⟨g, i, none⟩ = some u := fun o => by rw [World.cell?_alloc_lt _ _ _ hgl]; exact h3
            by_cases hgg : g = g2
            · subst hgg
              rw [hkeep i (by unfold horsesMid; rw [List.length_append]; omega)]
              exact ha _
            · rw [World.cell?_of_block (w := w3.alloc _) (hgrow.block g (by have : g < w3.heap.size := hgl; simp; omega) (fun h => hgg (Option.some.inj h)))]
              exact ha _
          have HNE := Lib.hid hne
          clear hown' hgrow hne hkeep
          go_wp2_with fail
          go_roundw
          case rel => exact ⟨j + 1, by omega, by go_num, HOK.out, HNE.out, HG4.out, HB4.out⟩
          case measure => simp only [intOf]; omega
        · obtain rfl : j = m := by omega
          have HO2 := Lib.hid hown
          have HB2 := Lib.hid hbl
          have HN2 := Lib.hid hnn
          clear hown hnn hbl hgc
          go_wp2_with fail
          go_roundw
          case rel => exact ⟨k + 1, by omega, by go_num, by have := HO2.out; rw [← HM.out] at this; simp only [horsesMid, List.take_length] at this; exact this, HN2.out, HB2.out⟩
          case measure => simp only [intOf]; omega
    · obtain rfl : k = n := by omega
      clear hown hnn hbl
      go_wp2_with fail
      go_ret
      exact ⟨_, rfl, HO.out, HNN.out, HB.out⟩
end Go.Proofs.YtejfelijhojndaaGreatDoor
