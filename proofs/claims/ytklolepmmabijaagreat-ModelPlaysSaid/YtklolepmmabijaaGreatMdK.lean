/-
  The statements' words: Call.
-/
import Derived.Test.YtklolepmmabijaaGreatMdJa
import Derived.Test.YtklolepmmabijaaGreatMdJb
import Derived.Test.YtklolepmmabijaaGreatMdJc
namespace Go.Proofs.YtklolepmmabijaaGreat
set_option maxRecDepth 100000
open Go.RowKit
set_option linter.unusedVariables false
set_option linter.unusedSimpArgs false

theorem sCall (c : Cl) (w : World) : Calls Tryz.prog 12 #[.agg #[.int .i64 c.op, .int .i64 c.f, .int .i64 c.a, .int .i64 c.b]] w fun e w' => e = .returned (.agg #[.int .i64 c.near.op, .int .i64 c.near.f, .int .i64 c.near.a, .int .i64 c.near.b]) ∧ Only [] w w' := by
  by_cases h : modI c.f 23 = 22
  · exact sCallS c w h
  · by_cases t0 : modI c.op 10 = 0
    · exact sCall0 c w h (by unfold Cl.near; rw [if_neg h, if_pos t0]) t0
    · by_cases t1 : modI c.op 10 = 1
      · exact sCall1 c w h (by unfold Cl.near; rw [if_neg h, if_neg t0, if_pos t1]) t0 t1
      · by_cases t6 : modI c.op 10 = 6
        · exact sCall6 c w h (by unfold Cl.near; rw [if_neg h, if_neg t0, if_neg t1, if_pos (.inl t6)]) t0 t1 t6
        · by_cases t7 : modI c.op 10 = 7
          · exact sCall7 c w h (by unfold Cl.near; rw [if_neg h, if_neg t0, if_neg t1, if_pos (.inr t7)]) t0 t1 t6 t7
          · have t67 : ¬ (modI c.op 10 = 6 ∨ modI c.op 10 = 7) := by omega
            by_cases t8 : modI c.op 10 = 8
            · exact sCall8 c w h (by unfold Cl.near; rw [if_neg h, if_neg t0, if_neg t1, if_neg t67, if_pos t8]) t0 t1 t6 t7 t8
            · by_cases t9 : modI c.op 10 = 9
              · exact sCall9 c w h (by unfold Cl.near; rw [if_neg h, if_neg t0, if_neg t1, if_neg t67, if_neg t8, if_pos t9]) t0 t1 t6 t7 t8 t9
              · by_cases t13 : modI c.a 13 = 12
                · exact sCallD c w h (by unfold Cl.near; rw [if_neg h, if_neg t0, if_neg t1, if_neg t67, if_neg t8, if_neg t9, if_pos t13]) t0 t1 t6 t7 t8 t9 t13
                · exact sCallE c w h (by unfold Cl.near; rw [if_neg h, if_neg t0, if_neg t1, if_neg t67, if_neg t8, if_neg t9, if_neg t13]) t0 t1 t6 t7 t8 t9 t13
end Go.Proofs.YtklolepmmabijaaGreat
