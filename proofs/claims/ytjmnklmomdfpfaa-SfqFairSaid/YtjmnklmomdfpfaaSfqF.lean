/-
  cmp.Compare, against, slices.BinarySearchFunc at members, find.
-/
import Derived.Test.YtjmnklmomdfpfaaSfqI
namespace Go.Proofs.Ytjmnklmomdfpfaa
set_option maxRecDepth 100000
open Go.RowKit
set_option linter.unusedVariables false
set_option linter.unusedSimpArgs false
set_option maxRecDepth 100000

def cmpZ (x y : Int) : Int := if x < y then -1 else if y < x then 1 else 0
theorem sCmp (x y : Int) (w : World) : Calls Try.prog 96 #[.int .i64 x, .int .i64 y] w fun e w' => e = .returned (.int .i64 (cmpZ x y)) ∧ w' = w := by
  have nan : ∀ (z : Int) (w : World), Calls Try.prog 103 #[.int .i64 z] w fun e w' => e = .returned (.bool false) ∧ w' = w := fun z w => by
    have hz : (z != z) = false := by simp
    go_enter Try.func103, Try.ntmps103
    go_wp2
    go_ret
    exact ⟨by simp, rfl⟩
  unfold cmpZ
  rcases Int.lt_trichotomy x y with h | h | h
  · rw [if_pos h]
    go_enter Try.func96, Try.ntmps96
    go_wp2_with (first
      | (go_at_call 103; refine (nan _ _).mono ?_; rintro e w1 ⟨rfl, rfl⟩))
    go_ret
    exact ⟨rfl, rfl⟩
  · subst h
    rw [if_neg (by omega), if_neg (by omega)]
    go_enter Try.func96, Try.ntmps96
    go_wp2_with (first
      | (go_at_call 103; refine (nan _ _).mono ?_; rintro e w1 ⟨rfl, rfl⟩))
    go_ret
    exact ⟨rfl, rfl⟩
  · have h' : ¬ x < y := by omega
    rw [if_neg h', if_pos h]
    go_enter Try.func96, Try.ntmps96
    go_wp2_with (first
      | (go_at_call 103; refine (nan _ _).mono ?_; rintro e w1 ⟨rfl, rfl⟩))
    go_ret
    exact ⟨rfl, rfl⟩
theorem sAgainst (a : Int) (p : Value) (id : Int) (w : World) : Calls Try.prog 74 #[.agg #[.int .i64 a, p], .int .i64 id] w fun e w' => e = .returned (.int .i64 (cmpZ a id)) ∧ Only [] w w' := by
  go_enter Try.func74, Try.ntmps74
  go_wp2_with (first
      | (go_at_call 96; refine (sCmp _ _ _).mono ?_; rintro e w1 ⟨rfl, rfl⟩))
  go_ret
  exact ⟨rfl, (Only.refl [] w).alloc _⟩
end Go.Proofs.Ytjmnklmomdfpfaa
