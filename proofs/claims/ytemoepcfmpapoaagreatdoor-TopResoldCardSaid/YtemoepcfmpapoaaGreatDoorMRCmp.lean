/-
  debt: what is due from a person, and from all who are reached through them; by contract.
-/
import Derived.Test.YtemoepcfmpapoaaGreatDoorMRPair
import Derived.Test.YtemoepcfmpapoaaGreatDoorMRGen2
import Derived.Test.YtemoepcfmpapoaaGreatDoorMRRel
namespace Go.Proofs.YtemoepcfmpapoaaGreatDoor
open Go.RowKit Go.Proofs Go.Shelf
attribute [local go_sem] Oper.semAt_some

set_option maxRecDepth 100000
theorem dueTo_pays {rec : Nat → DS → Option (Int × DS)} {s p fr : Nat} (hrec : ∀ q st r, rec q st = some r → st.pays.length ≤ r.2.pays.length) : ∀ k acc r, dueTo rec s p fr k acc = some r → acc.2.pays.length ≤ r.2.pays.length
  | 0, acc, r, h => by
    simp only [dueTo, Option.some.injEq] at h
    subst h
    exact Nat.le_refl _
  | k + 1, acc, r, h => by
    simp only [dueTo, Option.bind_eq_some_iff] at h
    obtain ⟨a, ha, h⟩ := h
    have i1 := dueTo_pays hrec k acc a ha
    split at h
    · simp only [Option.some.injEq] at h
      subst h
      exact i1
    · simp only [Option.bind_eq_some_iff] at h
      obtain ⟨c, hc, h⟩ := h
      split at h
      · cases h
      · simp only [Option.some.injEq] at h
        subst h
        have := hrec k a.2 c hc
        simp
        omega
theorem dueF_pays {n : Nat} {N : List Int} {s : Nat} : ∀ fuel p fr st r, dueF n N s fuel p fr st = some r → st.pays.length ≤ r.2.pays.length
  | 0, p, fr, st, r, h => by simp [dueF] at h
  | fuel + 1, p, fr, st, r, h => by
    unfold dueF at h
    split at h
    · cases h
    · exact dueTo_pays (fun q st r h => dueF_pays fuel q p st r h) n _ r h
theorem dueTo_none {rec : Nat → DS → Option (Int × DS)} {s p fr : Nat} {acc : Int × DS} {k : Nat} (h : dueTo rec s p fr k acc = none) : ∀ m, k ≤ m → dueTo rec s p fr m acc = none
  | 0, hm => by
    obtain rfl : k = 0 := by omega
    exact h
  | m + 1, hm => by
    rcases Nat.lt_or_ge m k with h1 | h1
    · obtain rfl : k = m + 1 := by omega
      exact h
    · unfold dueTo
      rw [dueTo_none h m h1]
      rfl

theorem owns_of_heap {w w' : World} {base n size : Nat} {e : TypeId} {v : Value} {xs : List Value} (h : w.ownsRow base e size v n xs) (hs : ∀ k, base ≤ k → k < w.heap.size → w'.heap[k]? = w.heap[k]?) : w'.ownsRow base e size v n xs := by
  obtain ⟨h1, h2⟩ := h
  refine ⟨h1, ?_⟩
  rcases h2 with h2 | ⟨g, cap, cur, hv, hg, hh, r⟩
  · exact .inl h2
  · exact .inr ⟨g, cap, cur, hv, hg, (hs g hg (Array.getElem?_eq_some_iff.1 hh).1).trans hh, r⟩
def flatP (l : List Pay) : List Value := l.flatMap fun p => [.int .i64 p.1, .int .i64 p.2.1, .int .i64 p.2.2]
theorem flatP_add (l : List Pay) (p : Pay) : flatP (l ++ [p]) = flatP l ++ [.int .i64 p.1, .int .i64 p.2.1, .int .i64 p.2.2] := by simp [flatP]

/-- Where all that is asked for lies. -/
structure DP where
  (base Dw wb sb db sn pb n s : Nat)
  N : List Int
def DP.caps (d : DP) : Array Value := #[.pointer (some ⟨d.sn, 0, none⟩), .pointer (some ⟨d.wb, 0, none⟩), .pointer (some ⟨d.sb, 0, none⟩), .pointer (some ⟨d.db, 0, none⟩), .pointer (some ⟨d.pb, 0, none⟩)]
def DP.K (d : DP) (k : Nat) : Prop := k < d.base ∧ k ≠ d.sn ∧ k ≠ d.pb
structure DueB (d : DP) (w : World) : Prop where
  wk : w.cell? ⟨d.wb, 0, none⟩ = some (.pointer (some ⟨d.Dw, 0, none⟩))
  st : w.cell? ⟨d.sb, 0, none⟩ = some (.int .u64 d.s)
  du : w.cell? ⟨d.db, 0, none⟩ = some (.func (.func 89) #[] d.caps)
  pu : ∃ pa pc, w.cell? ⟨d.Dw, 0, none⟩ = some (.slice pa d.n pc)
  nt : ∀ i, i < 5 → w.cell? ⟨d.Dw, 2 + i, none⟩ = some (.int .i64 (d.N[i]?.getD 0))
/-- That all lies apart. -/
structure DApart (d : DP) : Prop where
  wk : d.K d.wb
  st : d.K d.sb
  du : d.K d.db
  wo : d.K d.Dw
  sp : d.sn ≠ d.pb
  sB : d.sn < d.base
  pB : d.pb < d.base
  n5 : 2 ≤ d.n ∧ d.n ≤ 5
  s10 : d.s < 1024
  N100 : ∀ x ∈ d.N, -100 ≤ x ∧ x ≤ 100
theorem DueB.keep {d : DP} {w w' : World} (h : DueB d w) (ha : DApart d) (hk : RKeep d.K w w') : DueB d w' := by
  obtain ⟨pa, pc, hp⟩ := h.pu
  exact ⟨hk.cell ha.wk h.wk, hk.cell ha.st h.st, hk.cell ha.du h.du, ⟨pa, pc, hk.cell ha.wo hp⟩, fun i hi => hk.cell ha.wo (h.nt i hi)⟩
def boolsV (l : List Bool) : Array Value := (l.map Value.bool).toArray
structure DSt (d : DP) (st : DS) (w : World) : Prop where
  seen : w.heap[d.sn]? = some (.cells (boolsV st.seen) 174 (0, 0))
  five : st.seen.length = 5
  pays : ∃ v, w.heap[d.pb]? = some (.cells #[v] 69 (0, 0)) ∧ w.ownsRow d.base 78 3 v st.pays.length (flatP st.pays)
  few : st.pays.length ≤ cnt st.seen
  size : d.base ≤ w.heap.size
theorem DSt.below {d : DP} {st : DS} {w w' : World} (h : DSt d st w) (hb : Below w.heap.size w w') : DSt d st w' := by
  obtain ⟨v, h1, h2⟩ := h.pays
  exact ⟨below_heap hb h.seen, h.five, ⟨v, below_heap hb h1, owns_below h2 hb⟩, h.few, Nat.le_trans h.size hb.size⟩
def PayCell (d : DP) (w : World) : Prop := ∃ v, w.heap[d.pb]? = some (.cells #[v] 69 (0, 0))
theorem PayCell.below {d : DP} {w w' : World} (h : PayCell d w) (hb : Below w.heap.size w w') : PayCell d w' := let ⟨v, hv⟩ := h; ⟨v, below_heap hb hv⟩
theorem DSt.cellp {d : DP} {st : DS} {w : World} (h : DSt d st w) : PayCell d w := let ⟨v, hv, _⟩ := h.pays; ⟨v, hv⟩
def DueEnd (d : DP) (r : Option (Int × DS)) (w : World) (e : Ending) (w' : World) : Prop :=
  match r with
  | some (x, st) => e = .returned (.int .i64 x) ∧ DSt d st w' ∧ RKeep d.K w w'
  | none => e = .panicked unsV ∧ RKeep d.K w w' ∧ PayCell d w'
def DueOK (d : DP) (fuel : Nat) : Prop :=
  ∀ (p fr : Nat) (st : DS) (w : World), p < d.n → fr < d.n → DueB d w → DSt d st w → 6 ≤ cnt st.seen + fuel → fuel ≤ 6 →
    Calls Tryz.prog 89 (#[.int .i64 p, .int .i64 fr] ++ d.caps) w (DueEnd d (dueF d.n d.N d.s fuel p fr st) w)
theorem cnt_le {l : List Bool} : cnt l ≤ l.length := List.count_le_length
theorem dueOK_zero (d : DP) : DueOK d 0 := fun p fr st w _ _ _ hst hc _ => by
  have := hst.five
  have := cnt_le (l := st.seen)
  omega
theorem boolsV_at {l : List Bool} {j : Nat} (hj : j < l.length) : (boolsV l)[j]? = some (.bool (l[j]?.getD false)) := by
  simp [boolsV, hj]
theorem DSt.cell {d : DP} {st : DS} {w : World} (h : DSt d st w) {j : Nat} (hj : j < 5) : w.cell? ⟨d.sn, j, none⟩ = some (.bool (st.seen[j]?.getD false)) := by
  simp only [World.cell?, h.seen]
  exact boolsV_at (by rw [h.five]; exact hj)
theorem DSt.set {d : DP} {st : DS} {w : World} (h : DSt d st w) (ha : DApart d) {p : Nat} (hp : p < 5) (hs : st.seen[p]?.getD false = false) :
    DSt d { st with seen := st.seen.set p true } (w.setCell ⟨d.sn, p, none⟩ (.bool true)) ∧ RKeep d.K w (w.setCell ⟨d.sn, p, none⟩ (.bool true)) := by
  obtain ⟨v, h1, h2⟩ := h.pays
  have hb := ha.sB
  refine ⟨⟨?_, by simpa using h.five, ⟨v, (Below.heap_setCell _ _ _ _ (fun e => ha.sp e.symm)).trans h1, ?_⟩, ?_, by simpa using h.size⟩, RKeep.setCell _ _ (fun hk => hk.2.1 rfl) _⟩
  · have := heap_setCell_cells (i := p) h.seen (.bool true)
    rw [this]
    congr 2
    simp [boolsV, List.map_set]
  · exact owns_of_heap h2 fun k hk _ => Below.heap_setCell _ _ _ _ (by show k ≠ d.sn; omega)
  · simp only
    rw [cnt_set (by rw [h.five]; exact hp) hs]
    exact Nat.le_succ_of_le h.few


theorem due_seen (d : DP) (p fr : Nat) (st : DS) (w : World) (ha : DApart d) (hp : p < d.n) (hst : DSt d st w) (hs : st.seen[p]?.getD false = true) :
    Calls Tryz.prog 89 (#[.int .i64 p, .int .i64 fr] ++ d.caps) w (DueEnd d none w) := by
  have hp5 : p < 5 := by have := ha.n5; omega
  have c0 := hst.cell hp5
  rw [hs] at c0
  have hp0 : (0 : Int) ≤ (p : Int) := by omega
  have hp1 : (p : Int) < 5 := by omega
  have HN := Lib.hid (fun w => need_no w)
  have HPC := Lib.hid hst.cellp
  clear ha hp hst hs hp5
  show Calls Tryz.prog 89 #[.int .i64 p, .int .i64 fr, .pointer (some ⟨d.sn, 0, none⟩), .pointer (some ⟨d.wb, 0, none⟩), .pointer (some ⟨d.sb, 0, none⟩), .pointer (some ⟨d.db, 0, none⟩), .pointer (some ⟨d.pb, 0, none⟩)] w (DueEnd d none w)
  go_enter Tryz.func89, Tryz.ntmps89
  go_wp2_with (go_at_call 90; refine (HN.out _).mono ?_; rintro e w2 ⟨rfl, hb2⟩)
  exact ⟨rfl, rfl, RKeep.of_below hb2, HPC.out.below hb2⟩

theorem Tryz.infoPay : (Tryz.prog.info? 78).map (fun i => (i.zero, i.size, i.bytes)) = some (some (.agg #[.int .i64 0, .int .i64 0, .int .i64 0]), 3, 24) := by kernel_rfl

theorem dueTo_skip {rec : Nat → DS → Option (Int × DS)} {s p fr k : Nat} {acc : Int × DS} {a : Int × DS} (h : dueTo rec s p fr k acc = some a) (hc : k = p ∨ k = fr ∨ hasB s p k = false) : dueTo rec s p fr (k + 1) acc = some a := by
  unfold dueTo
  rw [h, Option.bind_some, if_pos hc]
theorem dueTo_go {rec : Nat → DS → Option (Int × DS)} {s p fr k : Nat} {acc : Int × DS} {x y : Int} {st st' : DS} (h : dueTo rec s p fr k acc = some (x, st)) (h1 : k ≠ p) (h2 : k ≠ fr) (h3 : hasB s p k = true) (hr : rec k st = some (y, st')) (hy : y ≠ 0) :
    dueTo rec s p fr (k + 1) acc = some (x + y, { st' with pays := st'.pays ++ [payF p k y] }) := by
  unfold dueTo
  rw [h, Option.bind_some, if_neg (by simp [h1, h2, h3]), hr, Option.bind_some, if_neg hy]
theorem dueTo_stop {rec : Nat → DS → Option (Int × DS)} {s p fr k : Nat} {acc : Int × DS} {x : Int} {st : DS} (h : dueTo rec s p fr k acc = some (x, st)) (h1 : k ≠ p) (h2 : k ≠ fr) (h3 : hasB s p k = true) (hr : rec k st = none ∨ ∃ st', rec k st = some (0, st')) :
    dueTo rec s p fr (k + 1) acc = none := by
  unfold dueTo
  rw [h, Option.bind_some, if_neg (by simp [h1, h2, h3])]
  rcases hr with hr | ⟨st', hr⟩ <;> simp [hr]
theorem DSt.push {d : DP} {st : DS} {w1 w2 : World} {v v' : Value} {q : Pay} (h : DSt d st w1) (ha : DApart d) (hc : w1.heap[d.pb]? = some (.cells #[v] 69 (0, 0))) (ho : w1.ownsRow d.base 78 3 v st.pays.length (flatP st.pays)) (hg : w1.grownBy w2 v.ownBlock)
    (ho' : w2.ownsRow d.base 78 3 v' (st.pays.length + 1) (flatP st.pays ++ [.int .i64 q.1, .int .i64 q.2.1, .int .i64 q.2.2])) (hf : st.pays.length + 1 ≤ cnt st.seen) :
    DSt d { st with pays := st.pays ++ [q] } (w2.setCell ⟨d.pb, 0, none⟩ v') ∧ RKeep d.K w1 (w2.setCell ⟨d.pb, 0, none⟩ v') := by
  have hob : ∀ g, v.ownBlock = some g → d.base ≤ g := fun g hg => (ho.lt g hg).1
  have hkeep : ∀ k, k < w1.heap.size → k < d.base → w2.heap[k]? = w1.heap[k]? := fun k hk hb => hg.block k hk fun e => by have := hob k e.symm; omega
  have hpb : d.pb < w1.heap.size := (Array.getElem?_eq_some_iff.1 hc).1
  have hsn : d.sn < w1.heap.size := (Array.getElem?_eq_some_iff.1 h.seen).1
  have hc2 := (hkeep _ hpb ha.pB).trans hc
  refine ⟨⟨?_, h.five, ⟨v', ?_, ?_⟩, by simpa using hf, by simpa using Nat.le_trans h.size hg.size⟩, ⟨by simpa using hg.size, fun k hk hK => ?_, ⟨hg.os, hg.tape, hg.output⟩⟩⟩
  · exact (Below.heap_setCell _ _ _ _ (fun e => ha.sp e)).trans ((hkeep _ hsn ha.sB).trans h.seen)
  · have := heap_setCell_cells (i := 0) hc2 v'
    simpa using this
  · rw [flatP_add, List.length_append]
    exact owns_of_heap ho' fun k hk _ => Below.heap_setCell _ _ _ _ (by have := ha.pB; show k ≠ d.pb; omega)
  · exact (Below.heap_setCell _ _ _ _ (by exact hK.2.2)).trans (hkeep k hk hK.1)

set_option maxHeartbeats 6400000 in
theorem due_step (d : DP) (fuel : Nat) (ha : DApart d) (ih : DueOK d fuel) : DueOK d (fuel + 1) := by
  intro p fr st w hp hfr hB hst hc hf
  cases hs : st.seen[p]?.getD false with
  | true =>
    have hr : dueF d.n d.N d.s (fuel + 1) p fr st = none := by unfold dueF; rw [if_pos hs]
    rw [hr]
    exact due_seen d p fr st w ha hp hst hs
  | false =>
    have hn5 := ha.n5
    have hp5 : p < 5 := by omega
    have hp0 : (0 : Int) ≤ (p : Int) := by omega
    have hp1 : (p : Int) < 5 := by omega
    obtain ⟨rec, hrec⟩ : ∃ rec, (fun q st => dueF d.n d.N d.s fuel q p st) = rec := ⟨_, rfl⟩
    obtain ⟨st1, hst1e⟩ : ∃ st1, ({ st with seen := st.seen.set p true } : DS) = st1 := ⟨_, rfl⟩
    have hr : dueF d.n d.N d.s (fuel + 1) p fr st = dueTo rec d.s p fr d.n (d.N[p]?.getD 0, st1) := by
      rw [← hrec, ← hst1e]
      conv => lhs; unfold dueF
      rw [if_neg (by simp [hs])]
    have hc1 : 6 ≤ cnt st1.seen + fuel := by
      rw [← hst1e]
      simp only
      rw [cnt_set (by rw [hst.five]; exact hp5) hs]
      omega
    rw [hr]
    have HS2 : Hid (∀ w2, Below w.heap.size w w2 → w2.cell? ⟨d.sn, p, none⟩ = some (.bool false) ∧ w2.frozen? ⟨d.sn, p, none⟩ = false ∧ DSt d st1 (w2.setCell ⟨d.sn, p, none⟩ (.bool true)) ∧ DueB d (w2.setCell ⟨d.sn, p, none⟩ (.bool true)) ∧ RKeep d.K w (w2.setCell ⟨d.sn, p, none⟩ (.bool true))) := fun w2 hb2 => by
      have h2 := hst.below hb2
      have hb := hB.keep ha (RKeep.of_below (K := d.K) hb2)
      obtain ⟨h3, h4⟩ := h2.set ha hp5 hs
      rw [hst1e] at h3
      have h5 := h2.cell hp5
      rw [hs] at h5
      exact ⟨h5, by simp [World.frozen?, h2.seen], h3, hb.keep ha h4, (RKeep.of_below hb2).trans h4⟩
    have HN := Lib.hid (fun w => need_yes w)
    have c0 := hst.cell hp5
    rw [hs] at c0
    obtain ⟨x0, hx0⟩ : ∃ x0, d.N[p]?.getD 0 = x0 := ⟨_, rfl⟩
    rw [hx0]
    have HX0 := Lib.hid hx0
    have HC1 := Lib.hid hc1
    have HREC := Lib.hid hrec
    have HB0 := Lib.hid hB
    have hbb : bnd fuel ≤ 100000 := by
      rcases (by omega : fuel = 0 ∨ fuel = 1 ∨ fuel = 2 ∨ fuel = 3 ∨ fuel = 4 ∨ fuel = 5) with rfl | rfl | rfl | rfl | rfl | rfl <;> simp [bnd]
    have hx0b : -100 ≤ x0 ∧ x0 ≤ 100 := by
      rw [← hx0]
      by_cases hpn : p < d.N.length
      · simp only [List.getElem?_eq_getElem hpn, Option.getD_some]; exact ha.N100 _ (List.getElem_mem hpn)
      · simp [show d.N[p]? = none by simp; omega]
    have hl5 : st1.seen.length = 5 := by rw [← hst1e]; simpa using hst.five
    have HY : Hid (∀ k st2 y st3, rec k st2 = some (y, st3) → -100000 ≤ y ∧ y ≤ 100000) := fun k st2 y st3 h => by
      rw [← hrec] at h
      have := dueF_bound hn5.2 ha.N100 fuel k p st2 (y, st3) h
      simp only at this
      omega
    have HPC : Hid (∀ k st2 y st3, k < 5 → st2.seen.length = 5 → rec k st2 = some (y, st3) → st3.pays.length + cnt st2.seen + 1 = st2.pays.length + cnt st3.seen) := fun k st2 y st3 hk hl h => by
      rw [← hrec] at h
      exact (dueF_count (m := 5) hn5.2 fuel k p st2 (y, st3) hk hl h).2
    have HINV : Hid (∀ k x st', k ≤ d.n → dueTo rec d.s p fr k (x0, st1) = some (x, st') → 6 ≤ cnt st'.seen + fuel ∧ -1000000 ≤ x ∧ x ≤ 1000000) := fun k x st' hk h => by
      rw [← hrec] at h
      have h1 := dueTo_count (m := 5) (fun q st r hq hl h => dueF_count (m := 5) hn5.2 fuel q p st r hq hl h) k (x0, st1) (x, st') (by omega) hl5 h
      have h2 := dueTo_pays (fun q st r h => dueF_pays fuel q p st r h) k (x0, st1) (x, st') h
      have h3 := dueTo_bound (bnd_pos fuel) (fun q st r h => dueF_bound hn5.2 ha.N100 fuel q p st r h) k (x0, st1) (x, st') h
      have h4 : (k : Int) * bnd fuel ≤ 5 * 100000 := Int.mul_le_mul (by omega) hbb (bnd_pos fuel) (by omega)
      simp only at h1 h2 h3
      omega
    have HHS := Lib.hid (fun k w (hk : k < 5) => has_any d.s p k w hp5 hk ha.s10)
    have HIH : Hid (∀ k st2 w', k < d.n → DueB d w' → DSt d st2 w' → 6 ≤ cnt st2.seen + fuel → Calls Tryz.prog 89 #[.int .i64 k, .int .i64 p, .pointer (some ⟨d.sn, 0, none⟩), .pointer (some ⟨d.wb, 0, none⟩), .pointer (some ⟨d.sb, 0, none⟩), .pointer (some ⟨d.db, 0, none⟩), .pointer (some ⟨d.pb, 0, none⟩)] w' (DueEnd d (rec k st2) w')) := fun k st2 w' hk hB2 hs2 hc2 => by
      rw [← hrec]
      exact ih k p st2 w' hk hp hB2 hs2 hc2 (by omega)
    have HN0 := Lib.hid (fun w => need_no w)
    have HPAY := Lib.hid (fun k y w h1 h2 => payment_any p k y w h1 h2)
    obtain ⟨i0, hi0, hz0, hz1, hz2⟩ := info_parts Tryz.infoPay
    clear hbb hx0b hl5
    clear hrec hst1e hr hc1 hst hB hs hx0 ih
    show Calls Tryz.prog 89 #[.int .i64 p, .int .i64 fr, .pointer (some ⟨d.sn, 0, none⟩), .pointer (some ⟨d.wb, 0, none⟩), .pointer (some ⟨d.sb, 0, none⟩), .pointer (some ⟨d.db, 0, none⟩), .pointer (some ⟨d.pb, 0, none⟩)] w _
    go_enter Tryz.func89, Tryz.ntmps89
    go_upto_region 3 with (go_at_call 90; refine (HN.out _).mono ?_; rintro e w2 ⟨rfl, hb2⟩; obtain ⟨e1, e2, e3, e4, e5⟩ := HS2.out _ hb2; have HST1 := Lib.hid e3; have HB1 := Lib.hid e4; have HK1 := Lib.hid e5; clear c0 e3 e4 e5 hb2)
    generalize w2.setCell _ _ = W1 at *
    clear e1 e2
    try simp only [Act.put]
    have b1 := HB1.out.wk
    obtain ⟨pa, pc, b4⟩ := HB1.out.pu
    have b5 := HB1.out.nt p hp5
    rw [HX0.out] at b5
    go_wp2_with fail
    go_loopw [10, 32] (fun a i wr => ∃ (k : Nat) (x : Int) (st' : DS), k ≤ d.n ∧ i = .int .i64 k ∧ a = .int .i64 x ∧ dueTo rec d.s p fr k (x0, st1) = some (x, st') ∧ DSt d st' wr ∧ RKeep d.K w wr) (fun _ i _ => d.n - (intOf i).toNat)
    case atStart => exact ⟨0, x0, st1, Nat.zero_le _, rfl, rfl, rfl, HST1.out, HK1.out⟩
    case round =>
      obtain ⟨k, x, st2, hk, rfl, rfl, hd, hst, hkp⟩ := hrel
      have HD := Lib.hid hd
      have HST := Lib.hid hst
      have HKP := Lib.hid hkp
      have HB := Lib.hid (HB0.out.keep ha hkp)
      clear hd hst hkp
      by_cases hkn : k < d.n
      · have hkl : (k : Int) < (d.n : Int) := by omega
        have hk5 : k < 5 := by omega
        have hk0 : (0 : Int) ≤ (k : Int) := by omega
        by_cases h1 : k = p
        · have hd1 : ((k : Int) == (p : Int)) = true := by simp [h1]
          have HNX := Lib.hid (dueTo_skip HD.out (.inl h1))
          clear h1
          go_wp2_with fail
          go_roundw
          case rel => exact ⟨k + 1, x, st2, by omega, by go_num, rfl, HNX.out, HST.out, HKP.out⟩
          case measure => simp only [intOf]; omega
        · have hd1 : ((k : Int) == (p : Int)) = false := by simp; omega
          by_cases h2 : k = fr
          · have hd2 : ((k : Int) == (fr : Int)) = true := by simp [h2]
            have HNX := Lib.hid (dueTo_skip HD.out (.inr (.inl h2)))
            clear h2
            go_wp2_with fail
            go_roundw
            case rel => exact ⟨k + 1, x, st2, by omega, by go_num, rfl, HNX.out, HST.out, HKP.out⟩
            case measure => simp only [intOf]; omega
          · have hd2 : ((k : Int) == (fr : Int)) = false := by simp; omega
            have g2 := HB.out.st
            cases hbb : hasB d.s p k with
            | false =>
              have HNX := Lib.hid (dueTo_skip HD.out (.inr (.inr hbb)))
              have HHK := Lib.hid (fun w => HHS.out k w hk5)
              rw [hbb] at HHK
              clear h1 h2 hbb
              go_wp2_with (go_at_call 91; refine (HHK.out _).mono ?_; rintro e w3 ⟨rfl, hb3⟩)
              go_roundw
              case rel => exact ⟨k + 1, x, st2, by omega, by go_num, rfl, HNX.out, HST.out.below hb3, HKP.out.trans (RKeep.of_below hb3)⟩
              case measure => simp only [intOf]; omega
            | true =>
              have HHK := Lib.hid (fun w => HHS.out k w hk5)
              rw [hbb] at HHK
              have hcn := HINV.out k x st2 hk HD.out
              have HIK := Lib.hid (fun w' (hb : Below wr.heap.size wr w') => HIH.out k st2 w' hkn (HB.out.keep ha (RKeep.of_below hb)) (HST.out.below hb) hcn.1)
              have g3 : ∀ w', Below wr.heap.size wr w' → w'.cell? ⟨d.db, 0, none⟩ = some (.func (.func 89) #[] #[.pointer (some ⟨d.sn, 0, none⟩), .pointer (some ⟨d.wb, 0, none⟩), .pointer (some ⟨d.sb, 0, none⟩), .pointer (some ⟨d.db, 0, none⟩), .pointer (some ⟨d.pb, 0, none⟩)]) := fun w' hb => (HB.out.keep ha (RKeep.of_below hb)).du
              have G3 := Lib.hid g3
              have HXB := Lib.hid hcn.2
              clear g3 hcn
              cases hrk : rec k st2 with
              | none =>
                rw [hrk] at HIK
                have HRN := Lib.hid (dueTo_none (dueTo_stop HD.out h1 h2 hbb (.inl hrk)) d.n (by omega))
                clear h1 h2 hbb hrk
                go_wp2_with (first
                  | (go_at_call 91; refine (HHK.out _).mono ?_; rintro e w3 ⟨rfl, hb3⟩; have g4 := G3.out _ hb3; have HB3 := Lib.hid hb3; clear hb3)
                  | (go_at_call 89; refine (HIK.out _ HB3.out).mono ?_; rintro e w4 ⟨rfl, hk4, hc4⟩))
                rw [HRN.out]
                exact ⟨rfl, rfl, (HKP.out.trans (RKeep.of_below HB3.out)).trans hk4, hc4⟩
              | some r =>
                obtain ⟨y, st3⟩ := r
                rw [hrk] at HIK
                by_cases hy : y = 0
                · subst hy
                  have HRN := Lib.hid (dueTo_none (dueTo_stop HD.out h1 h2 hbb (.inr ⟨st3, hrk⟩)) d.n (by omega))
                  clear h1 h2 hbb hrk
                  go_wp2_with (first
                    | (go_at_call 91; refine (HHK.out _).mono ?_; rintro e w3 ⟨rfl, hb3⟩; have g4 := G3.out _ hb3; have HB3 := Lib.hid hb3; clear hb3)
                    | (go_at_call 89; refine (HIK.out _ HB3.out).mono ?_; rintro e w4 ⟨rfl, hs4, hk4⟩; have HC4 := Lib.hid hs4.cellp; have HK4 := Lib.hid hk4; clear hs4 hk4)
                    | (go_at_call 90; refine (HN0.out _).mono ?_; rintro e w5 ⟨rfl, hb5⟩))
                  rw [HRN.out]
                  exact ⟨rfl, rfl, ((HKP.out.trans (RKeep.of_below HB3.out)).trans HK4.out).trans (RKeep.of_below hb5), HC4.out.below hb5⟩
                · have hyb := HY.out k st2 y st3 hrk
                  have hpc := HPC.out k st2 y st3 hk5 HST.out.five hrk
                  have hfew := HST.out.few
                  have HNX := Lib.hid (dueTo_go HD.out h1 h2 hbb hrk hy)
                  have hyd : (y != 0) = true := by simpa using hy
                  have hxb := HXB.out
                  have hwx : IntKind.i64.wrap (x + y) = x + y := IntWalk.i64_in _ (by omega)
                  have HFW := Lib.hid (show st3.pays.length + 1 ≤ cnt st3.seen by omega)
                  have HPY := Lib.hid (fun w => HPAY.out k y w (by omega) (by omega))
                  clear h1 h2 hbb hrk hy hpc hfew hyb hxb
                  go_upto_region 10 with (first
                    | (go_at_call 91; refine (HHK.out _).mono ?_; rintro e w3 ⟨rfl, hb3⟩; have g4 := G3.out _ hb3; have HB3 := Lib.hid hb3; clear hb3)
                    | (go_at_call 89; refine (HIK.out _ HB3.out).mono ?_; rintro e w4 ⟨rfl, hs4, hk4⟩; have HS4 := Lib.hid hs4; have HK4 := Lib.hid hk4; clear hs4 hk4)
                    | (go_at_call 90; refine (HN.out _).mono ?_; rintro e w6 ⟨rfl, hb6⟩; have HST6 := Lib.hid (HS4.out.below hb6); have HK6 := Lib.hid (((HKP.out.trans (RKeep.of_below HB3.out)).trans HK4.out).trans (RKeep.of_below hb6)); clear hb6))
                  try simp only [Act.put]
                  obtain ⟨v, hpv, hov⟩ := HST6.out.pays
                  have hcv := cell_of_one hpv
                  have HO6 := Lib.hid hov
                  have HPV := Lib.hid hpv
                  have lpb : d.pb < w6.heap.size := World.block_lt_of_cell? _ _ hcv
                  obtain ⟨⟨q1, q2, q3⟩, hq⟩ : ∃ q, payF p k y = q := ⟨_, rfl⟩
                  rw [hq] at HPY HNX
                  unfold payV at HPY
                  simp only at HPY
                  have h5p : st3.pays.length ≤ 5 := by have := HFW.out; have := HST6.out.five; have := cnt_le (l := st3.seen); omega
                  clear hpv hov hq
                  have toS : ∀ u : World, Below w6.heap.size w6 u → (u.cell? ⟨d.pb, 0, none⟩ = w6.cell? ⟨d.pb, 0, none⟩) := fun u h => h.cell lpb
                  refine wp_region_late (fun w' : World => w'.cell? ⟨d.pb, 0, none⟩ = w6.cell? ⟨d.pb, 0, none⟩) (fun i => i == 7) (by kernel_rfl) ?_
                  have hd9 : Below w6.heap.size w6 w6.drew := (Below.refl _ w6).drew
                  have hS := toS _ hd9
                  obtain ⟨wd, hwd⟩ : ∃ x, x = w6.drew := ⟨_, rfl⟩
                  rw [← hwd] at hS hd9 ⊢
                  have HWD := Lib.hid hwd
                  clear hwd
                  refine late_take (i := 0) (v := ?_) (by simp only [List.getElem?_toArray, List.getElem?_cons_zero, List.getElem?_cons_succ]; exact rfl) (by kernel_rfl) (by kernel_rfl) (by exact fun _ _ _ h => h) 7 _ _ _ (by kernel_rfl) (List.mem_of_elem_eq_true (by kernel_rfl)) (Or.inl ⟨by rfl, ?_⟩) hS ?_
                  rotate_left
                  · intro w9 hw9
                    try dsimp only at hw9
                    go_simp
                    try with_reducible rfl
                  try simp only [Act.put, List.setIfInBounds_toArray, List.set_cons_zero, List.set_cons_succ]
                  refine late_take (i := 1) (v := ?_) (by simp only [List.getElem?_toArray, List.getElem?_cons_zero, List.getElem?_cons_succ]; exact rfl) (by kernel_rfl) (by kernel_rfl) (by exact fun _ _ _ h => h) 6 _ _ _ (by kernel_rfl) (List.mem_of_elem_eq_true (by kernel_rfl)) (Or.inl ⟨by rfl, ?_⟩) hS ?_
                  rotate_left
                  · intro w9 hw9
                    try dsimp only at hw9
                    go_simp
                    try with_reducible rfl
                  try simp only [Act.put, List.setIfInBounds_toArray, List.set_cons_zero, List.set_cons_succ]
                  refine late_take (i := 2) (v := ?_) (by simp only [List.getElem?_toArray, List.getElem?_cons_zero, List.getElem?_cons_succ]; exact rfl) (by kernel_rfl) (by kernel_rfl) (by exact fun _ _ _ h => h) 5 _ _ _ (by kernel_rfl) (List.mem_of_elem_eq_true (by kernel_rfl)) (Or.inl ⟨by rfl, ?_⟩) hS ?_
                  rotate_left
                  · intro w9 hw9
                    try dsimp only at hw9
                    go_simp
                    try with_reducible rfl
                  try simp only [Act.put, List.setIfInBounds_toArray, List.set_cons_zero, List.set_cons_succ]
                  refine late_take (i := 3) (v := ?_) (by simp only [List.getElem?_toArray, List.getElem?_cons_zero, List.getElem?_cons_succ]; exact rfl) (by kernel_rfl) (by kernel_rfl) (by exact fun _ _ _ h => h) 4 _ _ _ (by kernel_rfl) (List.mem_of_elem_eq_true (by kernel_rfl)) (Or.inl ⟨by rfl, ?_⟩) hS ?_
                  rotate_left
                  · intro w9 hw9
                    try dsimp only at hw9
                    go_simp
                    try with_reducible rfl
                  try simp only [Act.put, List.setIfInBounds_toArray, List.set_cons_zero, List.set_cons_succ]
                  refine late_one (i := 4) (by kernel_rfl) (by simp only [List.getElem?_toArray, List.getElem?_cons_zero, List.getElem?_cons_succ]; exact rfl) (by rfl) ?_
                  intro K hK
                  go_simp
                  refine (HPY.out _).mono ?_
                  rintro e w7 ⟨rfl, hb7⟩
                  dsimp only
                  have hb7' := below_trans hd9 hb7
                  refine hK _ _ (fun _ => toS _ hb7') ?_
                  clear hK K hb7
                  try simp only [Act.put, List.setIfInBounds_toArray, List.set_cons_zero, List.set_cons_succ]
                  refine late_one (i := 5) (by kernel_rfl) (by simp only [List.getElem?_toArray, List.getElem?_cons_zero, List.getElem?_cons_succ]; exact rfl) (by rfl) ?_
                  intro K hK
                  go_simp
                  have hb8 := below_trans hb7' (below_alloc w7 (.cells #[.int .i64 q1, .int .i64 q2, .int .i64 q3] 78))
                  refine hK _ _ (fun _ => toS _ hb8) ?_
                  clear hK K
                  try simp only [Act.put, List.setIfInBounds_toArray, List.set_cons_zero, List.set_cons_succ]
                  refine late_one (i := 6) (by kernel_rfl) (by simp only [List.getElem?_toArray, List.getElem?_cons_zero, List.getElem?_cons_succ]; exact rfl) (by rfl) ?_
                  intro K hK
                  refine wp_append_lies _ _ _ 69 rfl d.base 78 i0 (.agg #[.int .i64 0, .int .i64 0, .int .i64 0]) 3 24 Tryz.underlying69 hi0 hz0 hz1 hz2 rfl (by decide) v st3.pays.length (flatP st3.pays) rfl (owns_below HO6.out hb8) ⟨w7.heap.size, 0, none⟩ 1 1 [.int .i64 q1, .int .i64 q2, .int .i64 q3] rfl rfl ?n1 ?n2 (by decide) ?n3 ?n4 ?n5 _ rfl ?_
                  case n1 => exact World.news_of_block (heap_new w7 (.cells #[.int .i64 q1, .int .i64 q2, .int .i64 q3] 78))
                  case n2 => intro u hu; simp at hu; rcases hu with rfl | rfl | rfl <;> rfl
                  case n3 => unfold maxLen; omega
                  case n4 => omega
                  case n5 => have := HST6.out.size; have := hb8.size; omega
                  intro g cg wg hog hgg hgo hgl
                  have hst8 := HST6.out.below hb8
                  have hpv8 := below_heap hb8 HPV.out
                  have hpush := hst8.push (q := (q1, q2, q3)) ha hpv8 (owns_below HO6.out hb8) hgg hog HFW.out
                  have hpvg : wg.heap[d.pb]? = some (.cells #[v] 69 (0, 0)) := (hgg.block _ (Array.getElem?_eq_some_iff.1 hpv8).1 (fun e => by have := ((owns_below HO6.out hb8).lt d.pb e.symm).1; have := ha.pB; omega)).trans hpv8
                  have hcg := cell_of_one hpvg
                  refine hK _ _ (fun _ => hcg.trans hcv.symm) ?_
                  clear hK K
                  try simp only [Act.put, List.setIfInBounds_toArray, List.set_cons_zero, List.set_cons_succ]
                  have hfg : wg.frozen? ⟨d.pb, 0, none⟩ = false := by simp [World.frozen?, hpvg]
                  have HPU := Lib.hid hpush
                  have HK8 := Lib.hid ((HK6.out).trans (RKeep.of_below (K := d.K) hb8))
                  clear hgg hog hgo hpush hst8 hpv8 hpvg
                  refine late_one (i := 7) (by kernel_rfl) (by simp only [List.getElem?_toArray, List.getElem?_cons_zero, List.getElem?_cons_succ]; exact rfl) (by rfl) ?_
                  intro K hK
                  go_simp
                  refine hK _ _ (fun h => by simp at h) ?_
                  clear hK K
                  try simp only [Act.put, List.setIfInBounds_toArray, List.set_cons_zero, List.set_cons_succ]
                  refine late_done (by kernel_rfl) ?_ _
                  generalize wg.setCell _ _ = w9 at *
                  clear hcg hfg hS toS hcv
                  go_wp2_with fail
                  go_roundw
                  case rel => exact ⟨k + 1, x + y, _, by omega, by go_num, by go_num, HNX.out, HPU.out.1, HK8.out.trans HPU.out.2⟩
                  case measure => simp only [intOf]; omega
      · have hkl : ¬ ((k : Int) < (d.n : Int)) := by omega
        obtain rfl : k = d.n := by omega
        go_wp2_with fail
        rw [HD.out]
        go_ret
        exact ⟨rfl, HST.out, HKP.out⟩

theorem due_all (d : DP) (ha : DApart d) : ∀ fuel, DueOK d fuel
  | 0 => dueOK_zero d
  | fuel + 1 => due_step d fuel ha (due_all d ha fuel)
end Go.Proofs.YtemoepcfmpapoaaGreatDoor

/-
  debt: the order of two payments, by contract.
-/
namespace Go.Proofs.YtemoepcfmpapoaaGreatDoor
open Go.RowKit Go.Proofs Go.Shelf
attribute [local go_sem] Oper.semAt_some

set_option maxRecDepth 100000
theorem isNaN_any (x : Int) (w : World) : Calls Tryz.prog 104 #[.int .i64 x] w (BoolEnd false w) := by
  go_enter Tryz.func104, Tryz.ntmps104
  go_wp2
  go_ret
  exact ⟨by simp, Below.refl _ _⟩
theorem Compare_any (x y : Int) (w : World) : Calls Tryz.prog 67 #[.int .i64 x, .int .i64 y] w (IntEnd (cmpI x y) w) := by
  have HN1 := Lib.hid (fun w => isNaN_any x w)
  have HN2 := Lib.hid (fun w => isNaN_any y w)
  by_cases h1 : x < y
  · have HV := Lib.hid (show cmpI x y = -1 by simp [cmpI, h1])
    have hd : decide (x < y) = true := by simpa using h1
    clear h1
    go_enter Tryz.func67, Tryz.ntmps67
    go_wp2_with (first
      | (go_at_call 104; (with_reducible refine (HN1.out _).mono ?_); rintro e w2 ⟨rfl, hb2⟩)
      | (go_at_call 104; (with_reducible refine (HN2.out _).mono ?_); rintro e w3 ⟨rfl, hb3⟩))
    rw [HV.out]
    go_ret
    exact ⟨rfl, below_trans hb2 hb3⟩
  · by_cases h2 : y < x
    · have HV := Lib.hid (show cmpI x y = 1 by simp [cmpI, h1, h2])
      have hd : decide (x < y) = false := by simpa using h1
      have hd2 : decide (x > y) = true := by simpa using h2
      clear h1 h2
      go_enter Tryz.func67, Tryz.ntmps67
      go_wp2_with (first
        | (go_at_call 104; (with_reducible refine (HN1.out _).mono ?_); rintro e w2 ⟨rfl, hb2⟩)
        | (go_at_call 104; (with_reducible refine (HN2.out _).mono ?_); rintro e w3 ⟨rfl, hb3⟩))
      rw [HV.out]
      go_ret
      exact ⟨rfl, below_trans hb2 hb3⟩
    · have HV := Lib.hid (show cmpI x y = 0 by simp [cmpI, h1, h2])
      have hd : decide (x < y) = false := by simpa using h1
      have hd2 : decide (x > y) = false := by simpa using h2
      clear h1 h2
      go_enter Tryz.func67, Tryz.ntmps67
      go_wp2_with (first
        | (go_at_call 104; (with_reducible refine (HN1.out _).mono ?_); rintro e w2 ⟨rfl, hb2⟩)
        | (go_at_call 104; (with_reducible refine (HN2.out _).mono ?_); rintro e w3 ⟨rfl, hb3⟩))
      rw [HV.out]
      go_ret
      exact ⟨rfl, below_trans hb2 hb3⟩

theorem Or_any (v : Value) (l : List Int) (w : World) (hv : Ints w v l) (hm : l.length ≤ 1000000) :
    Calls Tryz.prog 66 #[v] w (IntEnd (orL l) w) := by
  obtain ⟨a, cap, rfl, hc⟩ := hv
  have HC := Lib.hid hc
  clear hc
  go_enter Tryz.func66, Tryz.ntmps66
  go_wp2
  go_loopw [8] (fun i wr => ∃ k : Nat, k ≤ l.length ∧ i = .int .i64 k ∧ l.find? (fun x => x != 0) = (l.drop k).find? (fun x => x != 0) ∧ w = wr) (fun i _ => l.length - (intOf i).toNat)
  case atStart => exact ⟨0, Nat.zero_le _, rfl, by simp, rfl⟩
  case round =>
    obtain ⟨k, hk, rfl, hno, rfl⟩ := hrel
    have HNO := Lib.hid hno
    clear hno
    by_cases hlt : k < l.length
    · have hklt : (k : Int) < (l.length : Int) := by omega
      obtain ⟨b, off, rfl, hcc⟩ := HC.out (by omega)
      have hck := hcc k hlt
      obtain ⟨x, hx⟩ : ∃ x, l[k]?.getD 0 = x := ⟨_, rfl⟩
      rw [hx] at hck
      have hdr : l.drop k = x :: l.drop (k + 1) := by
        rw [List.drop_eq_getElem_cons hlt]
        congr 1
        rw [← hx]; simp [hlt]
      have HD := Lib.hid hdr
      clear hcc hx hdr
      by_cases heq : x = 0
      · have heb : (x != 0) = false := by simpa using heq
        have HE := Lib.hid heq
        clear heq
        go_wp2
        go_roundw
        case rel => exact ⟨k + 1, by omega, by go_num, by rw [HNO.out, HD.out]; simp [HE.out], (by trivial)⟩
        case measure => simp [intOf]; omega
      · have heb : (x != 0) = true := by simpa using heq
        have HE := Lib.hid heq
        have HV := Lib.hid (show orL l = x by unfold orL; rw [HNO.out, HD.out]; simp [heq])
        clear heq
        go_wp2
        rw [HV.out]
        go_ret
        exact ⟨rfl, Below.refl _ _⟩
    · have hklt : ¬ (k : Int) < (l.length : Int) := by omega
      have HV := Lib.hid (show orL l = 0 by unfold orL; rw [HNO.out, List.drop_eq_nil_of_le (by omega)]; rfl)
      go_wp2
      rw [HV.out]
      go_ret
      exact ⟨rfl, Below.refl _ _⟩

theorem cells3 {w : World} {N : Nat} {a b c : Int} {T : TypeId} (h : w.heap[N]? = some (.cells #[.int .i64 a, .int .i64 b, .int .i64 c] T (0, 0))) :
    w.cell? ⟨N, 0, none⟩ = some (.int .i64 a) ∧ w.cell? ⟨N, 1, none⟩ = some (.int .i64 b) ∧ w.cell? ⟨N, 2, none⟩ = some (.int .i64 c) := by
  simp [World.cell?, h]
set_option maxHeartbeats 3200000 in
theorem paycmp_any (p q : Pay) (w : World) : Calls Tryz.prog 45 #[payV p, payV q] w (IntEnd (cmpP p q) w) := by
  obtain ⟨a1, a2, a3⟩ := p
  obtain ⟨b1, b2, b3⟩ := q
  have HC1 := Lib.hid (fun w => Compare_any a1 b1 w)
  have HC2 := Lib.hid (fun w => Compare_any a2 b2 w)
  have HC3 := Lib.hid (fun w => Compare_any a3 b3 w)
  have HCP := Lib.hid (show cmpP (a1, a2, a3) (b1, b2, b3) = orL [cmpI a1 b1, cmpI a2 b2, cmpI a3 b3] from rfl)
  obtain ⟨r, hr⟩ : ∃ r, cmpP (a1, a2, a3) (b1, b2, b3) = r := ⟨_, rfl⟩
  rw [hr] at HCP ⊢
  generalize cmpI a1 b1 = x1 at *
  generalize cmpI a2 b2 = x2 at *
  generalize cmpI a3 b3 = x3 at *
  have HOR : Hid (∀ v w, Ints w v [x1, x2, x3] → Calls Tryz.prog 66 #[v] w (IntEnd r w)) := fun v w h => by
    rw [HCP.out]
    exact Or_any v _ w h (by simp)
  clear hr
  obtain ⟨W1, hW1⟩ : ∃ W1, (w.alloc (.cells #[.int .i64 a1, .int .i64 a2, .int .i64 a3] 78)).alloc (.cells #[.int .i64 b1, .int .i64 b2, .int .i64 b3] 78) = W1 := ⟨_, rfl⟩
  have hp0 : W1.heap[w.heap.size]? = some (.cells #[.int .i64 a1, .int .i64 a2, .int .i64 a3] 78 (0, 0)) := by rw [← hW1]; exact heap2_0 w _ _
  have hq0 : W1.heap[w.heap.size + 1]? = some (.cells #[.int .i64 b1, .int .i64 b2, .int .i64 b3] 78 (0, 0)) := by rw [← hW1]; exact heap2_1 w _ _
  have HB1 := Lib.hid (show Below w.heap.size w W1 by rw [← hW1]; exact below_trans (below_alloc w _) (below_alloc _ _))
  obtain ⟨c0, c1, c2⟩ := cells3 hp0
  obtain ⟨e0, e1, e2⟩ := cells3 hq0
  have la : w.heap.size < W1.heap.size := World.block_lt_of_cell? _ _ c0
  have lb : w.heap.size + 1 < W1.heap.size := World.block_lt_of_cell? _ _ e0
  clear hp0 hq0
  unfold payV
  go_enter Tryz.func45, Tryz.ntmps45
  go_upto_region 1 with fail
  try simp only [Act.put]
  clear hW1
  have toS : ∀ u : World, Below W1.heap.size W1 u → (u.cell? ⟨w.heap.size, 0, none⟩ = W1.cell? ⟨w.heap.size, 0, none⟩ ∧ u.cell? ⟨w.heap.size, 1, none⟩ = W1.cell? ⟨w.heap.size, 1, none⟩ ∧ u.cell? ⟨w.heap.size, 2, none⟩ = W1.cell? ⟨w.heap.size, 2, none⟩ ∧ u.cell? ⟨w.heap.size + 1, 0, none⟩ = W1.cell? ⟨w.heap.size + 1, 0, none⟩ ∧ u.cell? ⟨w.heap.size + 1, 1, none⟩ = W1.cell? ⟨w.heap.size + 1, 1, none⟩ ∧ u.cell? ⟨w.heap.size + 1, 2, none⟩ = W1.cell? ⟨w.heap.size + 1, 2, none⟩) := fun u h => ⟨h.cell la, h.cell la, h.cell la, h.cell lb, h.cell lb, h.cell lb⟩
  refine wp_region_late (fun w' : World => w'.cell? ⟨w.heap.size, 0, none⟩ = W1.cell? ⟨w.heap.size, 0, none⟩ ∧ w'.cell? ⟨w.heap.size, 1, none⟩ = W1.cell? ⟨w.heap.size, 1, none⟩ ∧ w'.cell? ⟨w.heap.size, 2, none⟩ = W1.cell? ⟨w.heap.size, 2, none⟩ ∧ w'.cell? ⟨w.heap.size + 1, 0, none⟩ = W1.cell? ⟨w.heap.size + 1, 0, none⟩ ∧ w'.cell? ⟨w.heap.size + 1, 1, none⟩ = W1.cell? ⟨w.heap.size + 1, 1, none⟩ ∧ w'.cell? ⟨w.heap.size + 1, 2, none⟩ = W1.cell? ⟨w.heap.size + 1, 2, none⟩) (fun i => false) (by kernel_rfl) ?_
  have hd9 : Below W1.heap.size W1 W1.drew := (Below.refl _ W1).drew
  have hS := toS _ hd9
  obtain ⟨wd, hwd⟩ : ∃ x, x = W1.drew := ⟨_, rfl⟩
  rw [← hwd] at hS hd9 ⊢
  have HWD := Lib.hid hwd
  clear hwd
  refine late_take (i := 0) (v := ?_) (by simp only [List.getElem?_toArray, List.getElem?_cons_zero, List.getElem?_cons_succ]; exact rfl) (by kernel_rfl) (by kernel_rfl) (by exact fun _ _ _ h => h) 23 _ _ _ (by kernel_rfl) (List.mem_of_elem_eq_true (by kernel_rfl)) (Or.inl ⟨by rfl, ?_⟩) hS ?_
  rotate_left
  · intro w9 hw9
    try dsimp only at hw9
    obtain ⟨hw0, hw1, hw2, hw3, hw4, hw5⟩ := hw9
    go_simp
    try with_reducible rfl
  try simp only [Act.put, List.setIfInBounds_toArray, List.set_cons_zero, List.set_cons_succ]
  refine late_take (i := 1) (v := ?_) (by simp only [List.getElem?_toArray, List.getElem?_cons_zero, List.getElem?_cons_succ]; exact rfl) (by kernel_rfl) (by kernel_rfl) (by exact fun _ _ _ h => h) 22 _ _ _ (by kernel_rfl) (List.mem_of_elem_eq_true (by kernel_rfl)) (Or.inl ⟨by rfl, ?_⟩) hS ?_
  rotate_left
  · intro w9 hw9
    try dsimp only at hw9
    obtain ⟨hw0, hw1, hw2, hw3, hw4, hw5⟩ := hw9
    go_simp
    try with_reducible rfl
  try simp only [Act.put, List.setIfInBounds_toArray, List.set_cons_zero, List.set_cons_succ]
  refine late_take (i := 2) (v := ?_) (by simp only [List.getElem?_toArray, List.getElem?_cons_zero, List.getElem?_cons_succ]; exact rfl) (by kernel_rfl) (by kernel_rfl) (by exact fun _ _ _ h => h) 21 _ _ _ (by kernel_rfl) (List.mem_of_elem_eq_true (by kernel_rfl)) (Or.inl ⟨by rfl, ?_⟩) hS ?_
  rotate_left
  · intro w9 hw9
    try dsimp only at hw9
    obtain ⟨hw0, hw1, hw2, hw3, hw4, hw5⟩ := hw9
    go_simp
    try with_reducible rfl
  try simp only [Act.put, List.setIfInBounds_toArray, List.set_cons_zero, List.set_cons_succ]
  refine late_take (i := 3) (v := ?_) (by simp only [List.getElem?_toArray, List.getElem?_cons_zero, List.getElem?_cons_succ]; exact rfl) (by kernel_rfl) (by kernel_rfl) (by exact fun _ _ _ h => h) 20 _ _ _ (by kernel_rfl) (List.mem_of_elem_eq_true (by kernel_rfl)) (Or.inl ⟨by rfl, ?_⟩) hS ?_
  rotate_left
  · intro w9 hw9
    try dsimp only at hw9
    obtain ⟨hw0, hw1, hw2, hw3, hw4, hw5⟩ := hw9
    go_simp
    try with_reducible rfl
  try simp only [Act.put, List.setIfInBounds_toArray, List.set_cons_zero, List.set_cons_succ]
  refine late_take (i := 4) (v := ?_) (by simp only [List.getElem?_toArray, List.getElem?_cons_zero, List.getElem?_cons_succ]; exact rfl) (by kernel_rfl) (by kernel_rfl) (by exact fun _ _ _ h => h) 19 _ _ _ (by kernel_rfl) (List.mem_of_elem_eq_true (by kernel_rfl)) (Or.inl ⟨by rfl, ?_⟩) hS ?_
  rotate_left
  · intro w9 hw9
    try dsimp only at hw9
    obtain ⟨hw0, hw1, hw2, hw3, hw4, hw5⟩ := hw9
    go_simp
    try with_reducible rfl
  try simp only [Act.put, List.setIfInBounds_toArray, List.set_cons_zero, List.set_cons_succ]
  refine late_take (i := 5) (v := ?_) (by simp only [List.getElem?_toArray, List.getElem?_cons_zero, List.getElem?_cons_succ]; exact rfl) (by kernel_rfl) (by kernel_rfl) (by exact fun _ _ _ h => h) 18 _ _ _ (by kernel_rfl) (List.mem_of_elem_eq_true (by kernel_rfl)) (Or.inl ⟨by rfl, ?_⟩) hS ?_
  rotate_left
  · intro w9 hw9
    try dsimp only at hw9
    obtain ⟨hw0, hw1, hw2, hw3, hw4, hw5⟩ := hw9
    go_simp
    try with_reducible rfl
  try simp only [Act.put, List.setIfInBounds_toArray, List.set_cons_zero, List.set_cons_succ]
  refine late_take (i := 7) (v := ?_) (by simp only [List.getElem?_toArray, List.getElem?_cons_zero, List.getElem?_cons_succ]; exact rfl) (by kernel_rfl) (by kernel_rfl) (by exact fun _ _ _ h => h) 17 _ _ _ (by kernel_rfl) (List.mem_of_elem_eq_true (by kernel_rfl)) (Or.inl ⟨by rfl, ?_⟩) hS ?_
  rotate_left
  · intro w9 hw9
    try dsimp only at hw9
    obtain ⟨hw0, hw1, hw2, hw3, hw4, hw5⟩ := hw9
    go_simp
    try with_reducible rfl
  try simp only [Act.put, List.setIfInBounds_toArray, List.set_cons_zero, List.set_cons_succ]
  refine late_take (i := 8) (v := ?_) (by simp only [List.getElem?_toArray, List.getElem?_cons_zero, List.getElem?_cons_succ]; exact rfl) (by kernel_rfl) (by kernel_rfl) (by exact fun _ _ _ h => h) 16 _ _ _ (by kernel_rfl) (List.mem_of_elem_eq_true (by kernel_rfl)) (Or.inl ⟨by rfl, ?_⟩) hS ?_
  rotate_left
  · intro w9 hw9
    try dsimp only at hw9
    obtain ⟨hw0, hw1, hw2, hw3, hw4, hw5⟩ := hw9
    go_simp
    try with_reducible rfl
  try simp only [Act.put, List.setIfInBounds_toArray, List.set_cons_zero, List.set_cons_succ]
  refine late_take (i := 9) (v := ?_) (by simp only [List.getElem?_toArray, List.getElem?_cons_zero, List.getElem?_cons_succ]; exact rfl) (by kernel_rfl) (by kernel_rfl) (by exact fun _ _ _ h => h) 15 _ _ _ (by kernel_rfl) (List.mem_of_elem_eq_true (by kernel_rfl)) (Or.inl ⟨by rfl, ?_⟩) hS ?_
  rotate_left
  · intro w9 hw9
    try dsimp only at hw9
    obtain ⟨hw0, hw1, hw2, hw3, hw4, hw5⟩ := hw9
    go_simp
    try with_reducible rfl
  try simp only [Act.put, List.setIfInBounds_toArray, List.set_cons_zero, List.set_cons_succ]
  refine late_take (i := 10) (v := ?_) (by simp only [List.getElem?_toArray, List.getElem?_cons_zero, List.getElem?_cons_succ]; exact rfl) (by kernel_rfl) (by kernel_rfl) (by exact fun _ _ _ h => h) 14 _ _ _ (by kernel_rfl) (List.mem_of_elem_eq_true (by kernel_rfl)) (Or.inl ⟨by rfl, ?_⟩) hS ?_
  rotate_left
  · intro w9 hw9
    try dsimp only at hw9
    obtain ⟨hw0, hw1, hw2, hw3, hw4, hw5⟩ := hw9
    go_simp
    try with_reducible rfl
  try simp only [Act.put, List.setIfInBounds_toArray, List.set_cons_zero, List.set_cons_succ]
  refine late_take (i := 11) (v := ?_) (by simp only [List.getElem?_toArray, List.getElem?_cons_zero, List.getElem?_cons_succ]; exact rfl) (by kernel_rfl) (by kernel_rfl) (by exact fun _ _ _ h => h) 13 _ _ _ (by kernel_rfl) (List.mem_of_elem_eq_true (by kernel_rfl)) (Or.inl ⟨by rfl, ?_⟩) hS ?_
  rotate_left
  · intro w9 hw9
    try dsimp only at hw9
    obtain ⟨hw0, hw1, hw2, hw3, hw4, hw5⟩ := hw9
    go_simp
    try with_reducible rfl
  try simp only [Act.put, List.setIfInBounds_toArray, List.set_cons_zero, List.set_cons_succ]
  refine late_take (i := 12) (v := ?_) (by simp only [List.getElem?_toArray, List.getElem?_cons_zero, List.getElem?_cons_succ]; exact rfl) (by kernel_rfl) (by kernel_rfl) (by exact fun _ _ _ h => h) 12 _ _ _ (by kernel_rfl) (List.mem_of_elem_eq_true (by kernel_rfl)) (Or.inl ⟨by rfl, ?_⟩) hS ?_
  rotate_left
  · intro w9 hw9
    try dsimp only at hw9
    obtain ⟨hw0, hw1, hw2, hw3, hw4, hw5⟩ := hw9
    go_simp
    try with_reducible rfl
  try simp only [Act.put, List.setIfInBounds_toArray, List.set_cons_zero, List.set_cons_succ]
  refine late_take (i := 14) (v := ?_) (by simp only [List.getElem?_toArray, List.getElem?_cons_zero, List.getElem?_cons_succ]; exact rfl) (by kernel_rfl) (by kernel_rfl) (by exact fun _ _ _ h => h) 11 _ _ _ (by kernel_rfl) (List.mem_of_elem_eq_true (by kernel_rfl)) (Or.inl ⟨by rfl, ?_⟩) hS ?_
  rotate_left
  · intro w9 hw9
    try dsimp only at hw9
    obtain ⟨hw0, hw1, hw2, hw3, hw4, hw5⟩ := hw9
    go_simp
    try with_reducible rfl
  try simp only [Act.put, List.setIfInBounds_toArray, List.set_cons_zero, List.set_cons_succ]
  refine late_take (i := 15) (v := ?_) (by simp only [List.getElem?_toArray, List.getElem?_cons_zero, List.getElem?_cons_succ]; exact rfl) (by kernel_rfl) (by kernel_rfl) (by exact fun _ _ _ h => h) 10 _ _ _ (by kernel_rfl) (List.mem_of_elem_eq_true (by kernel_rfl)) (Or.inl ⟨by rfl, ?_⟩) hS ?_
  rotate_left
  · intro w9 hw9
    try dsimp only at hw9
    obtain ⟨hw0, hw1, hw2, hw3, hw4, hw5⟩ := hw9
    go_simp
    try with_reducible rfl
  try simp only [Act.put, List.setIfInBounds_toArray, List.set_cons_zero, List.set_cons_succ]
  refine late_take (i := 16) (v := ?_) (by simp only [List.getElem?_toArray, List.getElem?_cons_zero, List.getElem?_cons_succ]; exact rfl) (by kernel_rfl) (by kernel_rfl) (by exact fun _ _ _ h => h) 9 _ _ _ (by kernel_rfl) (List.mem_of_elem_eq_true (by kernel_rfl)) (Or.inl ⟨by rfl, ?_⟩) hS ?_
  rotate_left
  · intro w9 hw9
    try dsimp only at hw9
    obtain ⟨hw0, hw1, hw2, hw3, hw4, hw5⟩ := hw9
    go_simp
    try with_reducible rfl
  try simp only [Act.put, List.setIfInBounds_toArray, List.set_cons_zero, List.set_cons_succ]
  refine late_take (i := 17) (v := ?_) (by simp only [List.getElem?_toArray, List.getElem?_cons_zero, List.getElem?_cons_succ]; exact rfl) (by kernel_rfl) (by kernel_rfl) (by exact fun _ _ _ h => h) 8 _ _ _ (by kernel_rfl) (List.mem_of_elem_eq_true (by kernel_rfl)) (Or.inl ⟨by rfl, ?_⟩) hS ?_
  rotate_left
  · intro w9 hw9
    try dsimp only at hw9
    obtain ⟨hw0, hw1, hw2, hw3, hw4, hw5⟩ := hw9
    go_simp
    try with_reducible rfl
  try simp only [Act.put, List.setIfInBounds_toArray, List.set_cons_zero, List.set_cons_succ]
  refine late_take (i := 18) (v := ?_) (by simp only [List.getElem?_toArray, List.getElem?_cons_zero, List.getElem?_cons_succ]; exact rfl) (by kernel_rfl) (by kernel_rfl) (by exact fun _ _ _ h => h) 7 _ _ _ (by kernel_rfl) (List.mem_of_elem_eq_true (by kernel_rfl)) (Or.inl ⟨by rfl, ?_⟩) hS ?_
  rotate_left
  · intro w9 hw9
    try dsimp only at hw9
    obtain ⟨hw0, hw1, hw2, hw3, hw4, hw5⟩ := hw9
    go_simp
    try with_reducible rfl
  try simp only [Act.put, List.setIfInBounds_toArray, List.set_cons_zero, List.set_cons_succ]
  refine late_take (i := 19) (v := ?_) (by simp only [List.getElem?_toArray, List.getElem?_cons_zero, List.getElem?_cons_succ]; exact rfl) (by kernel_rfl) (by kernel_rfl) (by exact fun _ _ _ h => h) 6 _ _ _ (by kernel_rfl) (List.mem_of_elem_eq_true (by kernel_rfl)) (Or.inl ⟨by rfl, ?_⟩) hS ?_
  rotate_left
  · intro w9 hw9
    try dsimp only at hw9
    obtain ⟨hw0, hw1, hw2, hw3, hw4, hw5⟩ := hw9
    go_simp
    try with_reducible rfl
  try simp only [Act.put, List.setIfInBounds_toArray, List.set_cons_zero, List.set_cons_succ]
  refine late_one (i := 6) (by kernel_rfl) (by simp only [List.getElem?_toArray, List.getElem?_cons_zero, List.getElem?_cons_succ]; exact rfl) (by rfl) ?_
  intro K hK
  go_simp
  refine (HC1.out _).mono ?_
  rintro e w2 ⟨rfl, hbw2⟩
  dsimp only
  have hkw2 := below_trans hd9 hbw2
  refine hK _ _ (fun _ => toS _ hkw2) ?_
  clear hK K hbw2
  try simp only [Act.put, List.setIfInBounds_toArray, List.set_cons_zero, List.set_cons_succ]
  refine late_one (i := 13) (by kernel_rfl) (by simp only [List.getElem?_toArray, List.getElem?_cons_zero, List.getElem?_cons_succ]; exact rfl) (by rfl) ?_
  intro K hK
  go_simp
  refine (HC2.out _).mono ?_
  rintro e w3 ⟨rfl, hbw3⟩
  dsimp only
  have hkw3 := below_trans hkw2 hbw3
  refine hK _ _ (fun _ => toS _ hkw3) ?_
  clear hK K hbw3
  try simp only [Act.put, List.setIfInBounds_toArray, List.set_cons_zero, List.set_cons_succ]
  refine late_one (i := 20) (by kernel_rfl) (by simp only [List.getElem?_toArray, List.getElem?_cons_zero, List.getElem?_cons_succ]; exact rfl) (by rfl) ?_
  intro K hK
  go_simp
  refine (HC3.out _).mono ?_
  rintro e w4 ⟨rfl, hbw4⟩
  dsimp only
  have hkw4 := below_trans hkw3 hbw4
  refine hK _ _ (fun _ => toS _ hkw4) ?_
  clear hK K hbw4
  try simp only [Act.put, List.setIfInBounds_toArray, List.set_cons_zero, List.set_cons_succ]
  refine late_one (i := 21) (by kernel_rfl) (by simp only [List.getElem?_toArray, List.getElem?_cons_zero, List.getElem?_cons_succ]; exact rfl) (by rfl) ?_
  intro K hK
  go_simp
  have hk5 := below_trans hkw4 (below_alloc w4 (.cells #[.int .i64 x1, .int .i64 x2, .int .i64 x3] 3))
  refine hK _ _ (fun _ => toS _ hk5) ?_
  clear hK K
  try simp only [Act.put, List.setIfInBounds_toArray, List.set_cons_zero, List.set_cons_succ]
  have hin : Ints (w4.alloc (.cells #[.int .i64 x1, .int .i64 x2, .int .i64 x3] 3)) (.slice (some ⟨w4.heap.size, 0, none⟩) 3 3) [x1, x2, x3] := ints_of_owns (base := 0) (T := 3) (World.ownsRow_lit (size := 1) (e := 3) w4 #[.int .i64 x1, .int .i64 x2, .int .i64 x3] 3 (Nat.zero_le _) (by unfold maxLen; omega) rfl)
  refine late_one (i := 22) (by kernel_rfl) (by simp only [List.getElem?_toArray, List.getElem?_cons_zero, List.getElem?_cons_succ]; exact rfl) (by rfl) ?_
  intro K hK
  go_simp
  refine (HOR.out _ _ hin).mono ?_
  rintro e w6 ⟨rfl, hb6⟩
  dsimp only
  have hk6 := below_trans hk5 hb6
  refine hK _ _ (fun _ => toS _ hk6) ?_
  clear hK K hb6
  try simp only [Act.put, List.setIfInBounds_toArray, List.set_cons_zero, List.set_cons_succ]
  refine late_one (i := 23) (by kernel_rfl) (by simp only [List.getElem?_toArray, List.getElem?_cons_zero, List.getElem?_cons_succ]; exact rfl) (by rfl) ?_
  intro K hK
  go_simp
  refine hK _ _ (fun _ => toS _ hk6) ?_
  clear hK K
  try simp only [Act.put, List.setIfInBounds_toArray, List.set_cons_zero, List.set_cons_succ]
  refine late_done (by kernel_rfl) ?_ _
  have HK6 := Lib.hid (below_trans HB1.out hk6)
  clear hS toS c0 c1 c2 e0 e1 e2 hd9 hkw2 hkw3 hkw4 hk5 hk6 hin
  go_wp2
  go_ret
  exact ⟨rfl, HK6.out⟩
end Go.Proofs.YtemoepcfmpapoaaGreatDoor
