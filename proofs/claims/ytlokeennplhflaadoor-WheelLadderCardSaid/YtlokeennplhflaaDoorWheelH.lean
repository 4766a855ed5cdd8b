/-
  The statements' Near and made.
-/
import Derived.Test.YtlokeennplhflaaDoorWheelC
import Derived.Test.YtlokeennplhflaaDoorWheelG
import Derived.Test.YtlokeennplhflaaDoorWheelD
namespace Go.Proofs.YtlokeennplhflaaDoor
open Go.RowKit Go.ChangeMaps Go.MapKept
set_option linter.unusedVariables false
set_option linter.unusedSimpArgs false

theorem wrap_ok (z : Int) : (Lit.int .u64 (IntKind.u64.wrap z)).wf = true := by
  apply u64ok_of
  rw [IntKind.wrap_u64]
  omega
set_option maxRecDepth 100000 in
set_option maxHeartbeats 1000000 in
theorem hNear (d : Dd) (hd : d.ok) (base : Int) (hb : (Lit.int .u64 base).wf = true) (w : World) : Calls Tryd.prog 12 #[.agg #[.int .i64 d.a, .int .u64 d.b, .int .i64 d.c], .int .u64 base] w fun e w' => (∃ k, (Lit.int .u64 k).wf = true ∧ e = .returned (.int .u64 k)) ∧ Only [] w w' := by
  obtain ⟨b0, b1⟩ := u64ok_to hd.2.1
  obtain ⟨c0, c1⟩ := u64ok_to hb
  have hok := hd.2.1
  have hc : ∀ m : Int, 0 < m → (0 ≤ (d.b / 6) % m ∧ (d.b / 6) % m < m) := fun m hm => ⟨Int.emod_nonneg _ (by omega), Int.emod_lt_of_pos _ hm⟩
  have HC := Lib.hid hc
  clear hc
  generalize d.a = da at *
  generalize d.c = dc at *
  generalize hD : d.b = D at *
  have h6 : D % 6 = 0 ∨ D % 6 = 1 ∨ D % 6 = 2 ∨ D % 6 = 3 ∨ D % 6 = 4 ∨ D % 6 = 5 := by omega
  rcases h6 with h | h | h | h | h | h
  all_goals
    go_enter Tryd.func12, Tryd.ntmps12
    go_wp2
    go_ret
    first
      | exact ⟨⟨_, hok, rfl⟩, (Only.refl _ _).alloc _⟩
      | exact ⟨⟨_, wrap_ok _, rfl⟩, (Only.refl _ _).alloc _⟩

theorem hModN (v : Int) (n : Nat) (h : 0 < n) (hn : n ≤ 1000000) : ∃ m : Nat, m < n ∧ ∀ w, Calls Tryd.prog 11 #[.int .i64 v, .int .i64 (n : Int)] w fun e w' => e = .returned (.int .i64 (m : Int)) ∧ w' = w := by
  obtain ⟨x, h0, hx, ex⟩ := rem_is v (n : Int) (by omega)
  obtain ⟨m, rfl⟩ : ∃ m : Nat, x = (m : Int) := ⟨x.toNat, by omega⟩
  refine ⟨m, by omega, fun w => ?_⟩
  have hm : m < n := by omega
  have hw : wrap64 (m : Int) = (m : Int) := by unfold wrap64; omega
  have hne' : ¬ ((n : Int) = 0) := by omega
  go_enter Tryd.func11, Tryd.ntmps11
  go_wp2
  go_ret
  exact ⟨by simp [ex, hw], rfl⟩

set_option maxRecDepth 100000 in
set_option maxHeartbeats 1000000 in
/-- made: a wheel and the document's, of the same width. -/
theorem hMade (width : Int) (w : World) : Calls Tryd.prog 21 #[.int .i64 width] w fun e w' => ∃ wb S xb T wd, e = .returned (.tuple #[.pointer (some ⟨wb, 0, none⟩), .pointer (some ⟨xb, 0, none⟩)]) ∧ WheelOf w' wb S wd 0 [] ∧ RefOf w' xb T wd 0 [] ∧ (∀ b ∈ S, w.heap.size ≤ b) ∧ (∀ b ∈ T, w.heap.size ≤ b) ∧ (∀ b ∈ S, b ∉ T) ∧ Only [] w w' := by
  obtain ⟨m, hm, hmod⟩ := hModN width 3 (by omega) (by omega)
  obtain ⟨q, hq, hmod7⟩ := hModN width 7 (by omega) (by omega)
  change ∀ w, Calls _ _ #[.int .i64 width, .int .i64 3] w _ at hmod
  change ∀ w, Calls _ _ #[.int .i64 width, .int .i64 7] w _ at hmod7
  have fin : Hid (∀ (wv : Int) (w1 : World) (wb : Nat) (S : List Nat), WheelOf w1 wb S (wid wv) 0 [] → (∀ b ∈ S, w.heap.size ≤ b) → Only [] w w1 → ∃ S' T wd, WheelOf (w1.alloc (.cells #[.slice none 0 0, .int .u64 0, .int .i64 ((wid wv : Nat) : Int), .bool false] 47)) wb S' wd 0 [] ∧ RefOf (w1.alloc (.cells #[.slice none 0 0, .int .u64 0, .int .i64 ((wid wv : Nat) : Int), .bool false] 47)) w1.heap.size T wd 0 [] ∧ (∀ b ∈ S', w.heap.size ≤ b) ∧ (∀ b ∈ T, w.heap.size ≤ b) ∧ (∀ b ∈ S', b ∉ T) ∧ Only [] w (w1.alloc (.cells #[.slice none 0 0, .int .u64 0, .int .i64 ((wid wv : Nat) : Int), .bool false] 47))) := fun wv w1 wb S h1 h2 h3 => by
    refine ⟨S, iown w1.heap.size (.slice none 0 0), wid wv, h1.only0 ((Only.refl [] w1).alloc _), ⟨_, rfl, ⟨heap_alloc_new w1 _, (show 47 ≠ 34 by decide), RowIs.nil _⟩, by simp⟩, h2, ?_, ?_, h3.alloc _⟩
    · intro b hb
      simp [iown, Value.ownBlock] at hb
      subst hb
      exact h3.size
    · intro b hb hc
      simp [iown, Value.ownBlock] at hc
      have := h1.lt b hb
      omega
  by_cases h0 : m = 0
  · subst h0
    go_enter Tryd.func21, Tryd.ntmps21
    go_wp2_with fail
    refine (hmod _).mono ?_
    rintro e w1 ⟨rfl, rfl⟩
    go_wp2_with fail
    refine (wNewOf _ width).mono ?_
    rintro e w2 ⟨wb, S, rfl, h1, h2, h3⟩
    have R2 := Lib.hid (And.intro h1 (And.intro h2 h3))
    clear h1 h2 h3
    go_wp2_with fail
    refine (rwidth_any width _).mono ?_
    rintro e w3 ⟨rfl, rfl⟩
    go_wp2_with fail
    go_ret2
    obtain ⟨S', T, wd, r⟩ := fin.out width w2 wb S R2.out.1 R2.out.2.1 R2.out.2.2
    exact ⟨wb, S', w2.heap.size, T, wd, rfl, r⟩
  · have h0' : (0 : Int) < (m : Int) := by omega
    go_enter Tryd.func21, Tryd.ntmps21
    go_wp2_with fail
    refine (hmod _).mono ?_
    rintro e w1 ⟨rfl, rfl⟩
    go_wp2_with fail
    refine (hmod7 _).mono ?_
    rintro e w1 ⟨rfl, rfl⟩
    go_wp2_with fail
    refine (wNewOf _ (q : Int)).mono ?_
    rintro e w2 ⟨wb, S, rfl, h1, h2, h3⟩
    have R2 := Lib.hid (And.intro h1 (And.intro h2 h3))
    clear h1 h2 h3
    go_wp2_with fail
    refine (rwidth_any (q : Int) _).mono ?_
    rintro e w3 ⟨rfl, rfl⟩
    go_wp2_with fail
    go_ret2
    obtain ⟨S', T, wd, r⟩ := fin.out (q : Int) w2 wb S R2.out.1 R2.out.2.1 R2.out.2.2
    exact ⟨wb, S', w2.heap.size, T, wd, rfl, r⟩
end Go.Proofs.YtlokeennplhflaaDoor
