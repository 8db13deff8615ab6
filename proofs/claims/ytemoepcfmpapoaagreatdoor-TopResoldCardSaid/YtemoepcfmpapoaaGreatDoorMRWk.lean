/-
  bargain: the small methods of a place and of the sides, by contract.
-/
import Derived.Test.YtemoepcfmpapoaaGreatDoorMRPl
import Derived.Test.YtemoepcfmpapoaaGreatDoorMRGame
namespace Go.Proofs.YtemoepcfmpapoaaGreatDoor
open Go.RowKit Go.Proofs Go.Shelf

set_option maxRecDepth 100000 in
theorem withLeft_any (sd : Bool) (a b t s c d e f x y : Int) (w : World) :
    Calls Tryz.prog 76 #[plV a b t s c d e f, sdV sd, rgV x y] w (ValEnd (if sd then plV a b t s x y e f else plV a b t s c d x y) w) := by
  have hs := assert_s
  have hb := assert_b
  unfold plV rgV
  cases sd with
  | true =>
    simp only [sdV, sdT, if_true]
    go_enter Tryz.func76, Tryz.ntmps76
    go_wp2
    refine bodyPost_ret (v := plV a b t s x y e f) (by simp [results, Tryz.results76, go_sem, plV, rgV]) rfl ⟨rfl, ?_⟩
    repeat' (first | exact Below.refl _ _ | refine Below.setCell ?_ (by first | (simp; done) | (simp; omega)) _ | refine Below.alloc ?_ (by first | (simp; done) | (simp; omega)) _)
  | false =>
    simp only [sdV, sdT, Bool.false_eq_true, if_false]
    go_enter Tryz.func76, Tryz.ntmps76
    go_wp2
    refine bodyPost_ret (v := plV a b t s c d x y) (by simp [results, Tryz.results76, go_sem, plV, rgV]) rfl ⟨rfl, ?_⟩
    repeat' (first | exact Below.refl _ _ | refine Below.setCell ?_ (by first | (simp; done) | (simp; omega)) _ | refine Below.alloc ?_ (by first | (simp; done) | (simp; omega)) _)

set_option maxRecDepth 100000 in
theorem withLimit_any (sd : Bool) (a b t s c d e f x : Int) (w : World) :
    Calls Tryz.prog 53 #[plV a b t s c d e f, sdV sd, .int .i64 x] w (ValEnd (if sd then plV a b t s x x e f else plV a b t s c d x x) w) := by
  have HL := fun w => withLeft_any sd a b t s c d e f x x w
  obtain ⟨r1, r2, r3, r4, hr⟩ : ∃ q1 q2 q3 q4 : Int, (if sd then plV a b t s x x e f else plV a b t s c d x x) = plV a b t s q1 q2 q3 q4 := by
    cases sd
    · exact ⟨c, d, x, x, rfl⟩
    · exact ⟨x, x, e, f, rfl⟩
  rw [hr]
  simp only [hr] at HL
  clear hr
  unfold plV rgV sdV at *
  go_enter Tryz.func53, Tryz.ntmps53
  go_wp2_with (first
    | (go_at_call 76; refine (HL _).mono ?_; rintro q w2 ⟨rfl, hb2⟩; have hh2 := below_heap hb2 (heap2_1 w _ _); have HH2 := Lib.hid hh2; have HT2 := Lib.hid (known_there (o := 0) (n := 8) hh2 (by simp)); have HB2 := Lib.hid hb2; clear hh2 hb2)
    | (refine wpList_store_mid rfl 90 (.tmp 6) (.tmp 12) rfl (w.heap.size + 1) 0 #[.int .i64 a, .int .i64 b, .int .i64 t, .int .i64 s, .int .i64 r1, .int .i64 r2, .int .i64 r3, .int .i64 r4] rfl rfl HT2.out Tryz.infoPl (by simp [Value.oneCell']) ?_))
  go_wp2
  refine bodyPost_ret (v := plV a b t s r1 r2 r3 r4) (by simp [results, Tryz.results53, go_sem, plV, World.cell?, heap_setCells _ _ HH2.out, putAll]) rfl ⟨rfl, ?_⟩
  exact below_setCells (by omega) _ _ (((below_alloc w _).alloc (by simp) _).trans (HB2.out.mono (by simp; omega)))

theorem withBid_any (a b t s c d e f x : Int) (w : World) :
    Calls Tryz.prog 142 #[plV a b t s c d e f, .int .i64 x] w (ValEnd (plV a x t s c d e f) w) := by
  unfold plV
  go_enter Tryz.func142, Tryz.ntmps142
  go_wp2
  refine bodyPost_ret (v := plV a x t s c d e f) (by simp [results, Tryz.results142, go_sem, plV, rgV]) rfl ⟨rfl, ?_⟩
  repeat' (first | exact Below.refl _ _ | refine Below.setCell ?_ (by first | (simp; done) | (simp; omega)) _ | refine Below.alloc ?_ (by first | (simp; done) | (simp; omega)) _)
theorem withAsk_any (a b t s c d e f x : Int) (w : World) :
    Calls Tryz.prog 143 #[plV a b t s c d e f, .int .i64 x] w (ValEnd (plV x b t s c d e f) w) := by
  unfold plV
  go_enter Tryz.func143, Tryz.ntmps143
  go_wp2
  refine bodyPost_ret (v := plV x b t s c d e f) (by simp [results, Tryz.results143, go_sem, plV, rgV]) rfl ⟨rfl, ?_⟩
  repeat' (first | exact Below.refl _ _ | refine Below.setCell ?_ (by first | (simp; done) | (simp; omega)) _ | refine Below.alloc ?_ (by first | (simp; done) | (simp; omega)) _)

set_option maxRecDepth 100000 in
theorem withPrice_any (sd : Bool) (a b t s c d e f x : Int) (w : World) :
    Calls Tryz.prog 126 #[plV a b t s c d e f, sdV sd, .int .i64 x] w (ValEnd (if sd then plV x b t s c d e f else plV a x t s c d e f) w) := by
  have HA := fun w => withAsk_any a b t s c d e f x w
  have HB := fun w => withBid_any a b t s c d e f x w
  have hs := assert_s
  have hb := assert_b
  unfold plV at *
  cases sd with
  | true =>
    simp only [sdV, sdT, if_true]
    go_enter Tryz.func126, Tryz.ntmps126
    go_wp2_with (first
      | (go_at_call 143; refine (HA _).mono ?_; rintro q w2 ⟨rfl, hb2⟩; have hh2 := below_heap hb2 (heap3_1 w _ _ _); have HH2 := Lib.hid hh2; have HT2 := Lib.hid (known_there (o := 0) (n := 8) hh2 (by simp)); have HB2 := Lib.hid hb2; clear hh2 hb2)
      | (refine wpList_store_mid rfl 90 (.tmp 6) (.tmp 19) rfl (w.heap.size + 1) 0 #[.int .i64 x, .int .i64 b, .int .i64 t, .int .i64 s, .int .i64 c, .int .i64 d, .int .i64 e, .int .i64 f] rfl rfl HT2.out Tryz.infoPl (by simp [Value.oneCell']) ?_))
    go_wp2
    refine bodyPost_ret (v := plV x b t s c d e f) (by simp [results, Tryz.results126, go_sem, plV, World.cell?, heap_setCells _ _ HH2.out, putAll]) rfl ⟨rfl, ?_⟩
    exact below_setCells (by omega) _ _ ((((below_alloc w _).alloc (by simp) _).alloc (by simp; omega) _).trans (HB2.out.mono (by simp; omega)))
  | false =>
    simp only [sdV, sdT, Bool.false_eq_true, if_false]
    go_enter Tryz.func126, Tryz.ntmps126
    go_wp2_with (first
      | (go_at_call 142; refine (HB _).mono ?_; rintro q w2 ⟨rfl, hb2⟩; have hh2 := below_heap hb2 (heap3_1 w _ _ _); have HH2 := Lib.hid hh2; have HT2 := Lib.hid (known_there (o := 0) (n := 8) hh2 (by simp)); have HB2 := Lib.hid hb2; clear hh2 hb2)
      | (refine wpList_store_mid rfl 90 (.tmp 6) (.tmp 19) rfl (w.heap.size + 1) 0 #[.int .i64 a, .int .i64 x, .int .i64 t, .int .i64 s, .int .i64 c, .int .i64 d, .int .i64 e, .int .i64 f] rfl rfl HT2.out Tryz.infoPl (by simp [Value.oneCell']) ?_))
    go_wp2
    refine bodyPost_ret (v := plV a x t s c d e f) (by simp [results, Tryz.results126, go_sem, plV, World.cell?, heap_setCells _ _ HH2.out, putAll]) rfl ⟨rfl, ?_⟩
    exact below_setCells (by omega) _ _ ((((below_alloc w _).alloc (by simp) _).alloc (by simp; omega) _).trans (HB2.out.mono (by simp; omega)))

theorem lowered_any (a b t s c d e f x : Int) (w : World) (h1 : -1000 ≤ a) (h2 : a ≤ 1000) (h3 : -1000 ≤ x) (h4 : x ≤ 1000) :
    Calls Tryz.prog 140 #[plV a b t s c d e f, .int .i64 x] w (IntEnd (a - x) w) := by
  have hw : IntKind.i64.wrap (a - x) = a - x := IntWalk.i64_in _ (by omega)
  unfold plV
  go_enter Tryz.func140, Tryz.ntmps140
  go_wp2
  go_ret
  exact ⟨rfl, below_alloc w _⟩
theorem raised_any (a b t s c d e f x : Int) (w : World) (h1 : -1000 ≤ b) (h2 : b ≤ 1000) (h3 : -1000 ≤ x) (h4 : x ≤ 1000) :
    Calls Tryz.prog 141 #[plV a b t s c d e f, .int .i64 x] w (IntEnd (b + x) w) := by
  have hw : IntKind.i64.wrap (b + x) = b + x := IntWalk.i64_in _ (by omega)
  unfold plV
  go_enter Tryz.func141, Tryz.ntmps141
  go_wp2
  go_ret
  exact ⟨rfl, below_alloc w _⟩

set_option maxRecDepth 100000 in
theorem closer_any (sd : Bool) (a b t s c d e f : Int) (w : World) :
    Calls Tryz.prog 124 #[plV a b t s c d e f, sdV sd] w (ValEnd (.func (.func (if sd then 140 else 141)) #[plV a b t s c d e f] #[]) w) := by
  have hmf : ∀ (fn : Fn) (first cap : Array Value) (w : World), (Instr.makeFunc fn first cap).run Tryz.prog w = .ok (.func fn first cap) w := fun _ _ _ _ => rfl
  have hs := assert_s
  have hb := assert_b
  unfold plV
  cases sd with
  | true =>
    simp only [sdV, sdT, if_true]
    go_enter Tryz.func124, Tryz.ntmps124
    go_wp2
    go_ret
    exact ⟨rfl, below_alloc w _⟩
  | false =>
    simp only [sdV, sdT, Bool.false_eq_true, if_false]
    go_enter Tryz.func124, Tryz.ntmps124
    go_wp2
    go_ret
    exact ⟨rfl, below_alloc w _⟩

/-- What a side prefers. -/
theorem sbetter_any (x y : Int) (w : World) : Calls Tryz.prog 168 #[.agg #[], .int .i64 x, .int .i64 y] w (BoolEnd (betterB true x y) w) := by
  go_enter Tryz.func168, Tryz.ntmps168
  go_wp2
  go_ret
  exact ⟨by simp [betterB], below_alloc w _⟩
theorem bbetter_any (x y : Int) (w : World) : Calls Tryz.prog 171 #[.agg #[], .int .i64 x, .int .i64 y] w (BoolEnd (betterB false x y) w) := by
  by_cases h1 : x = -1
  · have hb : (x == -1) = true := by simpa using h1
    go_enter Tryz.func171, Tryz.ntmps171
    go_wp2
    go_ret
    exact ⟨by simp [betterB, h1], below_alloc w _⟩
  · have hb : (x == -1) = false := by simpa using h1
    by_cases h2 : y = -1
    · have hb2 : (y == -1) = true := by simpa using h2
      go_enter Tryz.func171, Tryz.ntmps171
      go_wp2
      go_ret
      exact ⟨by simp [betterB, h2], below_alloc w _⟩
    · have hb2 : (y == -1) = false := by simpa using h2
      go_enter Tryz.func171, Tryz.ntmps171
      go_wp2
      go_ret
      exact ⟨by simp [betterB, h1, h2], below_alloc w _⟩

/-- The limits that are left behind what a side has said. -/
def namedV (sd : Bool) (x y n : Int) : Value := if sd then rgV x (min y n) else rgV (max x n) y
def unableV (sd : Bool) (x y n : Int) : Value := if sd then rgV (max x (n + 1)) y else rgV x (min y (n - 1))
set_option maxRecDepth 100000 in
theorem snamed_any (x y n : Int) (w : World) : Calls Tryz.prog 169 #[.agg #[], rgV x y, .int .i64 n] w (ValEnd (namedV true x y n) w) := by
  by_cases h : y ≤ n
  · have HV := Lib.hid (show namedV true x y n = rgV x y by simp [namedV, rgV]; omega)
    unfold rgV
    go_enter Tryz.func169, Tryz.ntmps169
    go_wp2
    all_goals
      rw [HV.out]
      refine bodyPost_ret (v := rgV x y) (by simp [results, Tryz.results169, go_sem, rgV]; try omega) rfl ⟨rfl, ?_⟩
      repeat' (first | exact Below.refl _ _ | refine Below.setCell ?_ (by first | (simp; done) | (simp; omega)) _ | refine Below.alloc ?_ (by first | (simp; done) | (simp; omega)) _)
  · have HV := Lib.hid (show namedV true x y n = rgV x n by simp [namedV, rgV]; omega)
    unfold rgV
    go_enter Tryz.func169, Tryz.ntmps169
    go_wp2
    all_goals
      rw [HV.out]
      refine bodyPost_ret (v := rgV x n) (by simp [results, Tryz.results169, go_sem, rgV]; try omega) rfl ⟨rfl, ?_⟩
      repeat' (first | exact Below.refl _ _ | refine Below.setCell ?_ (by first | (simp; done) | (simp; omega)) _ | refine Below.alloc ?_ (by first | (simp; done) | (simp; omega)) _)
set_option maxRecDepth 100000 in
theorem bnamed_any (x y n : Int) (w : World) : Calls Tryz.prog 172 #[.agg #[], rgV x y, .int .i64 n] w (ValEnd (namedV false x y n) w) := by
  by_cases h : n ≤ x
  · have HV := Lib.hid (show namedV false x y n = rgV x y by simp [namedV, rgV]; omega)
    unfold rgV
    go_enter Tryz.func172, Tryz.ntmps172
    go_wp2
    all_goals
      rw [HV.out]
      refine bodyPost_ret (v := rgV x y) (by simp [results, Tryz.results172, go_sem, rgV]; try omega) rfl ⟨rfl, ?_⟩
      repeat' (first | exact Below.refl _ _ | refine Below.setCell ?_ (by first | (simp; done) | (simp; omega)) _ | refine Below.alloc ?_ (by first | (simp; done) | (simp; omega)) _)
  · have HV := Lib.hid (show namedV false x y n = rgV n y by simp [namedV, rgV]; omega)
    unfold rgV
    go_enter Tryz.func172, Tryz.ntmps172
    go_wp2
    all_goals
      rw [HV.out]
      refine bodyPost_ret (v := rgV n y) (by simp [results, Tryz.results172, go_sem, rgV]; try omega) rfl ⟨rfl, ?_⟩
      repeat' (first | exact Below.refl _ _ | refine Below.setCell ?_ (by first | (simp; done) | (simp; omega)) _ | refine Below.alloc ?_ (by first | (simp; done) | (simp; omega)) _)
set_option maxRecDepth 100000 in
theorem sunable_any (x y n : Int) (w : World) (h1 : -1000 ≤ n) (h2 : n ≤ 1000) : Calls Tryz.prog 170 #[.agg #[], rgV x y, .int .i64 n] w (ValEnd (unableV true x y n) w) := by
  have hw : IntKind.i64.wrap (n + 1) = n + 1 := IntWalk.i64_in _ (by omega)
  by_cases h : n + 1 ≤ x
  · have HV := Lib.hid (show unableV true x y n = rgV x y by simp [unableV, rgV]; omega)
    unfold rgV
    go_enter Tryz.func170, Tryz.ntmps170
    go_wp2
    all_goals
      rw [HV.out]
      refine bodyPost_ret (v := rgV x y) (by simp [results, Tryz.results170, go_sem, rgV]; try omega) rfl ⟨rfl, ?_⟩
      repeat' (first | exact Below.refl _ _ | refine Below.setCell ?_ (by first | (simp; done) | (simp; omega)) _ | refine Below.alloc ?_ (by first | (simp; done) | (simp; omega)) _)
  · have HV := Lib.hid (show unableV true x y n = rgV (n + 1) y by simp [unableV, rgV]; omega)
    unfold rgV
    go_enter Tryz.func170, Tryz.ntmps170
    go_wp2
    all_goals
      rw [HV.out]
      refine bodyPost_ret (v := rgV (n + 1) y) (by simp [results, Tryz.results170, go_sem, rgV]; try omega) rfl ⟨rfl, ?_⟩
      repeat' (first | exact Below.refl _ _ | refine Below.setCell ?_ (by first | (simp; done) | (simp; omega)) _ | refine Below.alloc ?_ (by first | (simp; done) | (simp; omega)) _)
set_option maxRecDepth 100000 in
theorem bunable_any (x y n : Int) (w : World) (h1 : -1000 ≤ n) (h2 : n ≤ 1000) : Calls Tryz.prog 173 #[.agg #[], rgV x y, .int .i64 n] w (ValEnd (unableV false x y n) w) := by
  have hw : IntKind.i64.wrap (n - 1) = n - 1 := IntWalk.i64_in _ (by omega)
  by_cases h : y ≤ n - 1
  · have HV := Lib.hid (show unableV false x y n = rgV x y by simp [unableV, rgV]; omega)
    unfold rgV
    go_enter Tryz.func173, Tryz.ntmps173
    go_wp2
    all_goals
      rw [HV.out]
      refine bodyPost_ret (v := rgV x y) (by simp [results, Tryz.results173, go_sem, rgV]; try omega) rfl ⟨rfl, ?_⟩
      repeat' (first | exact Below.refl _ _ | refine Below.setCell ?_ (by first | (simp; done) | (simp; omega)) _ | refine Below.alloc ?_ (by first | (simp; done) | (simp; omega)) _)
  · have HV := Lib.hid (show unableV false x y n = rgV x (n - 1) by simp [unableV, rgV]; omega)
    unfold rgV
    go_enter Tryz.func173, Tryz.ntmps173
    go_wp2
    all_goals
      rw [HV.out]
      refine bodyPost_ret (v := rgV x (n - 1)) (by simp [results, Tryz.results173, go_sem, rgV]; try omega) rfl ⟨rfl, ?_⟩
      repeat' (first | exact Below.refl _ _ | refine Below.setCell ?_ (by first | (simp; done) | (simp; omega)) _ | refine Below.alloc ?_ (by first | (simp; done) | (simp; omega)) _)
end Go.Proofs.YtemoepcfmpapoaaGreatDoor
