/-
  What the statements' deeds tell (Near, Name, What), each as a number that hangs on the deed and the base alone; made.
-/
import Derived.Test.YtajhkdbldbifeaaDoorGmC
import Derived.Test.YtajhkdbldbifeaaDoorGmO
import Derived.Test.YtajhkdbldbifeaaDoorGmI
namespace Go.Proofs.YtajhkdbldbifeaaDoor
set_option maxRecDepth 100000
open Go.RowKit Go.ChangeMaps Go.MapKept
set_option linter.unusedVariables false
set_option linter.unusedSimpArgs false

theorem wrap_ok (z : Int) : (Lit.int .u64 (IntKind.u64.wrap z)).wf = true := by
  apply u64ok_of
  rw [IntKind.wrap_u64]
  omega
/-- Near. -/
def nearM (b base : Int) : Int :=
  if b % 6 = 0 then IntKind.u64.wrap (base + b / 6 % 8) else if b % 6 = 1 then IntKind.u64.wrap (base + b / 6 % 200) else if b % 6 = 2 then IntKind.u64.wrap (base + b / 6 % 9000)
  else if b % 6 = 3 then IntKind.u64.wrap (base + b / 6 % 1048576) else if b % 6 = 4 then IntKind.u64.wrap (base + b / 6 % 17592186044416) else b
theorem nearM_ok {b base : Int} (h : (Lit.int .u64 b).wf = true) : (Lit.int .u64 (nearM b base)).wf = true := by
  unfold nearM
  repeat' split
  all_goals first | exact h | exact wrap_ok _
theorem hModN (v : Int) (n : Nat) (h : 0 < n) (hn : n ≤ 1000000) : ∃ m : Nat, m < n ∧ ∀ w, Calls Tryd.prog 10 #[.int .i64 v, .int .i64 (n : Int)] w fun e w' => e = .returned (.int .i64 (m : Int)) ∧ w' = w := by
  obtain ⟨x, h0, hx, ex⟩ := rem_is v (n : Int) (by omega)
  obtain ⟨m, rfl⟩ : ∃ m : Nat, x = (m : Int) := ⟨x.toNat, by omega⟩
  refine ⟨m, by omega, fun w => ?_⟩
  have hm : m < n := by omega
  have hw : wrap64 (m : Int) = (m : Int) := by unfold wrap64; omega
  have hne' : ¬ ((n : Int) = 0) := by omega
  go_enter Tryd.func10, Tryd.ntmps10
  go_wp2
  go_ret
  exact ⟨by simp [ex, hw], rfl⟩
end Go.Proofs.YtajhkdbldbifeaaDoor
