/-
  The statements' awake.
-/
import Derived.Test.YtppkbokjnocoeaaHeapE
namespace Go.Proofs.Ytppkbokjnocoeaa
open Go.RowKit
set_option linter.unusedVariables false
set_option linter.unusedSimpArgs false

set_option maxRecDepth 100000 in
set_option maxHeartbeats 2000000 in
theorem hAwake (w : World) : Calls Try.prog 9 #[] w fun e w' => e = .returned (.bool true) ∧ Only [] w w' := by
  have hu5 : (Lit.int .u64 5).wf = true := by decide
  have hu9 : (Lit.int .u64 9).wf = true := by decide
  have hi0 : i64ok 0 := by unfold i64ok; decide
  have hi1 : i64ok 1 := by unfold i64ok; decide
  have K := Lib.hid (And.intro hu5 (And.intro hu9 (And.intro hi0 hi1)))
  clear hu5 hu9 hi0 hi1
  have he := item_eql ⟨5, 0⟩ ⟨5, 0⟩
  have hg := item_guard
  simp only [decide_true] at he
  go_enter Try.func9, Try.ntmps9
  go_wp2_with fail
  refine (hNew _).mono ?_
  rintro e w1 ⟨hb, S1, rfl, h1, f1, o1⟩
  have a1 := hPush w1 hb S1 [] h1 ⟨5, 1⟩ ⟨K.out.1, K.out.2.2.2⟩ (by simp)
  have e1 : hasId (It.i ⟨5, 1⟩) [] = false := rfl
  rw [e1] at a1
  have m1 : Moved w [] w1 S1 := ⟨o1, fun b hb => .inr (f1 b hb)⟩
  have H1 := Lib.hid m1
  clear h1 f1 o1 m1 e1
  go_wp2_with fail
  refine a1.mono ?_
  clear a1
  rintro e w2 ⟨rfl, S2, h2, m2⟩
  have e2 : (if false = true then ([] : List It) else ins ⟨5, 1⟩ []) = [⟨5, 1⟩] := rfl
  rw [e2] at h2
  have a2 := hPush w2 hb S2 [⟨5, 1⟩] h2 ⟨5, 0⟩ ⟨K.out.1, K.out.2.2.1⟩ (by simp)
  have e1 : hasId (It.i ⟨5, 0⟩) [⟨5, 1⟩] = false := by decide
  rw [e1] at a2
  have H2 := Lib.hid (H1.out.trans m2)
  clear h2 m2 e1 e2
  go_wp2_with fail
  refine a2.mono ?_
  clear a2
  rintro e w3 ⟨rfl, S3, h3, m3⟩
  have e2 : (if false = true then ([⟨5, 1⟩] : List It) else ins ⟨5, 0⟩ [⟨5, 1⟩]) = [⟨5, 0⟩, ⟨5, 1⟩] := by decide
  rw [e2] at h3
  have a3 := hPush w3 hb S3 [⟨5, 0⟩, ⟨5, 1⟩] h3 ⟨9, 1⟩ ⟨K.out.2.1, K.out.2.2.2⟩ (by simp)
  have e1 : hasId (It.i ⟨9, 1⟩) [⟨5, 0⟩, ⟨5, 1⟩] = true := by decide
  rw [e1] at a3
  have H3 := Lib.hid (H2.out.trans m3)
  clear h3 m3 e1 e2
  go_wp2_with fail
  refine a3.mono ?_
  clear a3
  rintro e w4 ⟨rfl, S4, h4, m4⟩
  simp only [if_true] at h4
  have a4 := hPop w4 hb S4 _ h4
  have H4 := Lib.hid (H3.out.trans m4)
  clear h4 m4
  unfold first It.val at a4
  simp only [List.headD_cons, List.isEmpty_cons, Bool.not_false, List.tail_cons] at a4
  go_wp2_with fail
  refine a4.mono ?_
  clear a4
  rintro e w5 ⟨rfl, S5, h5, m5⟩
  have h5' := h5.only0 ((Only.refl [] w5).alloc (.cells #[.int .u64 5, .int .i64 0] 37))
  have a5 := hLen _ hb S5 _ h5'
  have a6 := hHas _ hb S5 _ h5' 1 K.out.2.2.2
  have e6 : hasId 1 [⟨5, 1⟩] = true := by decide
  rw [e6] at a6
  have H5 := Lib.hid (H4.out.trans m5)
  clear h5 m5 h5' e6
  go_wp2_with fail
  refine a5.mono ?_
  clear a5
  rintro e w6 ⟨rfl, rfl⟩
  go_wp2_with fail
  refine a6.mono ?_
  rintro e w7 ⟨rfl, rfl⟩
  go_wp2_with fail
  go_ret
  exact ⟨rfl, H5.out.1.alloc _⟩
end Go.Proofs.Ytppkbokjnocoeaa
