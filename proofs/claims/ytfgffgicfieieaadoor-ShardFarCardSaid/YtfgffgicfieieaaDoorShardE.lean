/-
  The statements' awake.
-/
import Derived.Test.YtfgffgicfieieaaDoorShardA
namespace Go.Proofs.YtfgffgicfieieaaDoor
set_option maxRecDepth 100000
open Go.RowKit Go.ChangeMaps Go.MapKept
set_option linter.unusedVariables false
set_option linter.unusedSimpArgs false

set_option maxRecDepth 100000 in
set_option maxHeartbeats 4000000 in
theorem sAwake (w : World) (hT : Tab w) : Calls Tryd.prog 6 #[] w fun e w' => e = .returned (.bool true) ∧ Only [] w w' := by
  have hx1 : It.ok ⟨262144, 1⟩ := ⟨by decide, by unfold i64ok; decide⟩
  have hx2 : It.ok ⟨262144, 2⟩ := ⟨by decide, by unfold i64ok; decide⟩
  have w0 : wid 0 = 0 := by decide
  have hgt : 0 < w.heap.size := World.block_lt_of_cell? w _ (hT 0 (by omega))
  have K := Lib.hid (And.intro hx1 (And.intro hx2 (And.intro hT hgt)))
  clear hx1 hx2 hT hgt
  go_enter Tryd.func6, Tryd.ntmps6
  go_wp2_with fail
  refine (sNewOf _ 0).mono ?_
  rintro e w1 ⟨sb, S1, rfl, h1, f1, o1⟩
  rw [w0] at h1
  have a1 : Calls Tryd.prog 10 #[.pointer (some ⟨sb, 0, none⟩), .agg #[.int .u64 262144, .int .i64 1]] w1 fun e w' => e = .returned (.bool true) ∧ ∃ S', ShardOf w' sb S' 0 0 [⟨262144, 1⟩] ∧ Moved w1 S1 w' S' := sPush w1 sb S1 0 0 [] h1 ⟨262144, 1⟩ K.out.1 (by simp)
  have H1 : Hid (Moved w [] w1 S1) := ⟨o1, fun b hb => .inr (f1 b hb)⟩
  clear h1 f1 o1
  go_wp2_with fail
  refine a1.mono ?_
  clear a1
  rintro e w2 ⟨rfl, S2, h2, m2⟩
  have a2 : Calls Tryd.prog 12 #[.pointer (some ⟨sb, 0, none⟩)] w2 fun e w' => e = .returned (.int .i64 1) ∧ w' = w2 := sOver w2 sb S2 0 0 [⟨262144, 1⟩] h2
  have H2 := Lib.hid (H1.out.trans m2)
  have HW2 := Lib.hid h2
  clear h2 m2 H1
  go_wp2_with fail
  refine a2.mono ?_
  clear a2
  rintro e w3 ⟨rfl, rfl⟩
  have hg3 : 0 ∉ S2 := fun hc => by
    rcases H2.out.2 _ hc with h9 | h9
    · cases h9
    · have := K.out.2.2.2; omega
  have hT3 : Tab w3 := K.out.2.2.1.only H2.out.1 (by simp)
  have a3 : Calls Tryd.prog 19 #[.pointer (some ⟨sb, 0, none⟩)] w3 fun e w' => e = .returned (.tuple #[.agg #[.int .u64 262144, .int .i64 1], .bool true]) ∧ ∃ S', ShardOf w' sb S' 0 262144 [] ∧ Moved w3 S2 w' S' := sPop w3 sb S2 0 0 [⟨262144, 1⟩] HW2.out hT3 hg3
  clear hg3 hT3 HW2
  go_wp2_with fail
  refine a3.mono ?_
  clear a3
  rintro e w4 ⟨rfl, S4, h4, m4⟩
  have oN : Only [] w4 (w4.alloc (.cells #[.int .u64 262144, .int .i64 1] 35)) := (Only.refl [] w4).alloc _
  have H4 := Lib.hid ((H2.out.trans m4).still oN)
  have HW4 := Lib.hid (h4.only0 oN)
  have a4 : Calls Tryd.prog 10 #[.pointer (some ⟨sb, 0, none⟩), .agg #[.int .u64 262144, .int .i64 2]] _ fun e w' => e = .returned (.bool true) ∧ ∃ S', ShardOf w' sb S' 0 262144 [⟨262144, 2⟩] ∧ Moved _ S4 w' S' := sPush _ sb S4 0 262144 [] HW4.out ⟨262144, 2⟩ K.out.2.1 (by simp)
  clear h4 m4 oN H2
  go_wp2_with fail
  refine a4.mono ?_
  clear a4
  rintro e w5 ⟨rfl, S5, h5, m5⟩
  have H5 := Lib.hid (H4.out.trans m5)
  have a5 : Calls Tryd.prog 12 #[.pointer (some ⟨sb, 0, none⟩)] w5 fun e w' => e = .returned (.int .i64 0) ∧ w' = w5 := sOver w5 sb S5 0 262144 [⟨262144, 2⟩] h5
  have HW5 := Lib.hid h5
  clear h5 m5 H4 HW4
  go_wp2_with fail
  refine a5.mono ?_
  clear a5
  rintro e w6 ⟨rfl, rfl⟩
  have a6 : Calls Tryd.prog 26 #[.pointer (some ⟨sb, 0, none⟩)] w6 fun e w' => e = .returned (.int .i64 1) ∧ Only [] w6 w' := sLenOf w6 sb S5 0 262144 [⟨262144, 2⟩] HW5.out
  clear HW5
  go_wp2_with fail
  refine a6.mono ?_
  clear a6
  rintro e w7 ⟨rfl, o7⟩
  have O7 := Lib.hid o7
  clear o7
  go_wp2_with fail
  go_ret
  exact ⟨rfl, H5.out.1.trans' O7.out⟩
end Go.Proofs.YtfgffgicfieieaaDoor
