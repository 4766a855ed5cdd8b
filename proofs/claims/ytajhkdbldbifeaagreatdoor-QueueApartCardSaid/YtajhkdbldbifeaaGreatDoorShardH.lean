/-
  What the statements' deeds tell (Near, Name, What), each as a number that hangs on the deed and the base alone; made.
-/
import Derived.Test.YtajhkdbldbifeaaGreatDoorGmC
import Derived.Test.YtajhkdbldbifeaaGreatDoorGmO
import Derived.Test.YtajhkdbldbifeaaGreatDoorGmI
namespace Go.Proofs.YtajhkdbldbifeaaGreatDoor
set_option maxRecDepth 100000
open Go.RowKit Go.ChangeMaps Go.MapKept
set_option linter.unusedVariables false
set_option linter.unusedSimpArgs false

theorem wrap_ok (z : Int) : (Lit.int .u64 (IntKind.u64.wrap z)).wf = true := by
  apply u64ok_of
  rw [IntKind.wrap_u64]
  omega
/-- Near. -/
def nearM (b base : Int) : Int :=
  if b % 6 = 0 then IntKind.u64.wrap (base + b / 6 % 8) else if b % 6 = 1 then IntKind.u64.wrap (base + b / 6 % 200) else if b % 6 = 2 then IntKind.u64.wrap (base + b / 6 % 9000)
  else if b % 6 = 3 then IntKind.u64.wrap (base + b / 6 % 1048576) else if b % 6 = 4 then IntKind.u64.wrap (base + b / 6 % 17592186044416) else b
theorem nearM_ok {b base : Int} (h : (Lit.int .u64 b).wf = true) : (Lit.int .u64 (nearM b base)).wf = true := by
  unfold nearM
  repeat' split
  all_goals first | exact h | exact wrap_ok _
set_option maxRecDepth 100000 in
set_option maxHeartbeats 1000000 in
theorem hNear (d : Dd) (hd : d.ok) (base : Int) (hb : (Lit.int .u64 base).wf = true) (w : World) : Calls Tryz.prog 19 #[.agg #[.int .i64 d.a, .int .u64 d.b, .int .i64 d.c], .int .u64 base] w fun e w' => e = .returned (.int .u64 (nearM d.b base)) ∧ Only [] w w' := by
  obtain ⟨b0, b1⟩ := u64ok_to hd.2.1
  obtain ⟨c0, c1⟩ := u64ok_to hb
  have hok := hd.2.1
  have hc : ∀ m : Int, 0 < m → (0 ≤ (d.b / 6) % m ∧ (d.b / 6) % m < m) := fun m hm => ⟨Int.emod_nonneg _ (by omega), Int.emod_lt_of_pos _ hm⟩
  have HC := Lib.hid hc
  clear hc
  generalize d.a = da at *
  generalize d.c = dc at *
  generalize hD : d.b = D at *
  have h6 : D % 6 = 0 ∨ D % 6 = 1 ∨ D % 6 = 2 ∨ D % 6 = 3 ∨ D % 6 = 4 ∨ D % 6 = 5 := by omega
  rcases h6 with h | h | h | h | h | h
  all_goals
    obtain ⟨k, ek⟩ : ∃ k, nearM D base = k := ⟨_, rfl⟩
    have EK := Lib.hid ek
    rw [ek]
    clear ek
    go_enter Tryz.func19, Tryz.ntmps19
    go_wp2
    go_ret
    have ek := EK.out
    unfold nearM at ek
    simp only [h] at ek
    refine ⟨?_, (Only.refl _ _).alloc _⟩
    rw [← ek]
    rfl

theorem hModN (v : Int) (n : Nat) (h : 0 < n) (hn : n ≤ 1000000) : ∃ m : Nat, m < n ∧ ∀ w, Calls Tryz.prog 20 #[.int .i64 v, .int .i64 (n : Int)] w fun e w' => e = .returned (.int .i64 (m : Int)) ∧ w' = w := by
  obtain ⟨x, h0, hx, ex⟩ := rem_is v (n : Int) (by omega)
  obtain ⟨m, rfl⟩ : ∃ m : Nat, x = (m : Int) := ⟨x.toNat, by omega⟩
  refine ⟨m, by omega, fun w => ?_⟩
  have hm : m < n := by omega
  have hw : wrap64 (m : Int) = (m : Int) := by unfold wrap64; omega
  have hne' : ¬ ((n : Int) = 0) := by omega
  go_enter Tryz.func20, Tryz.ntmps20
  go_wp2
  go_ret
  exact ⟨by simp [ex, hw], rfl⟩
set_option maxRecDepth 100000 in
set_option maxHeartbeats 400000 in
theorem hName1 (d : Dd) (hd : d.ok) : ∃ k, i64ok k ∧ ∀ w, Calls Tryz.prog 34 #[.agg #[.int .i64 d.a, .int .u64 d.b, .int .i64 d.c]] w fun e w' => e = .returned (.int .i64 k) ∧ Only [] w w' := by
  have hc := hd.2.2
  obtain ⟨q, hq, m1⟩ := hModN d.c 19 (by omega) (by omega)
  obtain ⟨r, hr, m2⟩ := hModN d.c 9 (by omega) (by omega)
  change ∀ w, Calls _ _ #[.int .i64 d.c, .int .i64 19] w _ at m1
  change ∀ w, Calls _ _ #[.int .i64 d.c, .int .i64 9] w _ at m2
  by_cases h : q = 18
  · subst h
    refine ⟨d.c, hc, fun w => ?_⟩
    go_enter Tryz.func34, Tryz.ntmps34
    go_wp2_with fail
    refine (m1 _).mono ?_
    rintro e w1 ⟨rfl, rfl⟩
    go_wp2_with fail
    go_ret
    exact ⟨rfl, (Only.refl _ _).alloc _⟩
  · have h' : ((q : Int) == 18) = false := by simp; omega
    clear h
    refine ⟨r, i64ok_of (by omega), fun w => ?_⟩
    go_enter Tryz.func34, Tryz.ntmps34
    go_wp2_with fail
    refine (m1 _).mono ?_
    rintro e w1 ⟨rfl, rfl⟩
    go_wp2_with fail
    refine (m2 _).mono ?_
    rintro e w1 ⟨rfl, rfl⟩
    go_wp2_with fail
    go_ret
    exact ⟨rfl, (Only.refl _ _).alloc _⟩
set_option maxRecDepth 100000 in
set_option maxHeartbeats 400000 in
theorem hWhat1 (d : Dd) (n : Nat) (h : 0 < n) (hn : n ≤ 1000000) : ∃ m : Nat, m < n ∧ ∀ w, Calls Tryz.prog 21 #[.agg #[.int .i64 d.a, .int .u64 d.b, .int .i64 d.c], .int .i64 (n : Int)] w fun e w' => e = .returned (.int .i64 (m : Int)) ∧ Only [] w w' := by
  obtain ⟨q, hq, m1⟩ := hModN d.a n h hn
  refine ⟨q, hq, fun w => ?_⟩
  go_enter Tryz.func21, Tryz.ntmps21
  go_wp2_with fail
  refine (m1 _).mono ?_
  rintro e w1 ⟨rfl, rfl⟩
  go_wp2_with fail
  go_ret
  exact ⟨rfl, (Only.refl _ _).alloc _⟩
/-- What deeds tell: of each its ID, and which one of nine it is. -/
structure Plays (mf : Dd → Int) (qf : Dd → Nat) : Prop where
  name : ∀ d : Dd, d.ok → i64ok (mf d) ∧ ∀ w, Calls Tryz.prog 34 #[.agg #[.int .i64 d.a, .int .u64 d.b, .int .i64 d.c]] w fun e w' => e = .returned (.int .i64 (mf d)) ∧ Only [] w w'
  what : ∀ d : Dd, qf d < 9 ∧ ∀ w, Calls Tryz.prog 21 #[.agg #[.int .i64 d.a, .int .u64 d.b, .int .i64 d.c], .int .i64 9] w fun e w' => e = .returned (.int .i64 (qf d : Int)) ∧ Only [] w w'
theorem plays_are : ∃ mf qf, Plays mf qf := by
  have h1 : ∀ d : Dd, ∃ k, d.ok → i64ok k ∧ ∀ w, Calls Tryz.prog 34 #[.agg #[.int .i64 d.a, .int .u64 d.b, .int .i64 d.c]] w fun e w' => e = .returned (.int .i64 k) ∧ Only [] w w' := fun d => by
    by_cases hd : d.ok
    · obtain ⟨k, hk⟩ := hName1 d hd
      exact ⟨k, fun _ => hk⟩
    · exact ⟨0, fun h => absurd h hd⟩
  obtain ⟨mf, hm⟩ := Classical.skolem.1 h1
  obtain ⟨qf, hq⟩ := Classical.skolem.1 (fun d : Dd => hWhat1 d 9 (by omega) (by omega))
  exact ⟨mf, qf, ⟨hm, hq⟩⟩

end Go.Proofs.YtajhkdbldbifeaaGreatDoor
