/-
  The wheel's New; the statements' awake.
-/
import Derived.Test.YtlokeennplhflaaDoorWheelJ
namespace Go.Proofs.YtlokeennplhflaaDoor
open Go.RowKit Go.ChangeMaps Go.MapKept
set_option linter.unusedVariables false
set_option linter.unusedSimpArgs false

theorem wNewOf (w : World) (width : Int) : Calls Tryd.prog 18 #[.int .i64 width] w fun e w' => ∃ wb S, e = .returned (.pointer (some ⟨wb, 0, none⟩)) ∧ WheelOf w' wb S (wid width) 0 [] ∧ (∀ b ∈ S, w.heap.size ≤ b) ∧ Only [] w w' := by
  refine (wNew w width).mono ?_
  rintro e w' ⟨wb, mb, rfl, h1, h2, h3, h4, h5⟩
  refine ⟨wb, wown wb mb (fun _ => .slice none 0 0), rfl, ⟨_, _, mb, rfl, ⟨h3, ?_, fun i hi => RowIs.nil _, fun i j g hi hj e => (by cases e), h4⟩, Lies.nil _ (by omega), by simp, by simp, wid_le width, by omega⟩, fun b hb => ?_, h5⟩
  · intro L hL
    refine ⟨show (0 : Nat) < 18446744073709551616 by omega, fun b hb => ?_⟩
    simp [part]
  · rcases mem_wown.1 hb with rfl | rfl | ⟨i, hi, e⟩
    · exact h1
    · exact h2
    · cases e

set_option maxRecDepth 100000 in
set_option maxHeartbeats 4000000 in
theorem wAwake (w : World) (hT : Tab w) : Calls Tryd.prog 13 #[] w fun e w' => e = .returned (.bool true) ∧ Only [] w w' := by
  have hx7 : It.ok ⟨64, 7⟩ := ⟨by decide, by unfold i64ok; decide⟩
  have hx8 : It.ok ⟨262144, 8⟩ := ⟨by decide, by unfold i64ok; decide⟩
  have lv1 : levM 0 0 64 = 1 := by decide
  have lv3 : levM 0 0 262144 = 3 := by decide
  have w0 : wid 0 = 0 := by decide
  have la1 := level_any 0 64 0 (by omega) (by omega) (by omega) (by omega)
  have la3 := level_any 0 262144 0 (by omega) (by omega) (by omega) (by omega)
  have lb1 := bucket_in 64 0 1 (by omega) (by omega) (by omega)
  have bk1 : bkM 0 64 1 = 1 := by decide
  rw [w0, lv1] at la1
  rw [w0, lv3] at la3
  rw [w0, bk1] at lb1
  change ∀ w, Calls _ _ #[.int .u64 64, .int .i64 1, .int .i64 0] w _ at lb1
  have hgt : 0 < w.heap.size := World.block_lt_of_cell? w _ (hT 0 (by omega))
  have K := Lib.hid (And.intro hx7 (And.intro hx8 (And.intro hT hgt)))
  clear hx7 hx8 hT hgt lv1 lv3 bk1
  go_enter Tryd.func13, Tryd.ntmps13
  go_wp2_with fail
  refine (wNewOf _ 0).mono ?_
  rintro e w1 ⟨wb, S1, rfl, h1, f1, o1⟩
  rw [w0] at h1
  have e1 : (!hasId (It.i ⟨64, 7⟩) [] && inR 0 0 (It.k ⟨64, 7⟩)) = true := by decide
  have a1 : Calls Tryd.prog 19 #[.pointer (some ⟨wb, 0, none⟩), .agg #[.int .u64 64, .int .i64 7]] w1 fun e w' => e = .returned (.bool true) ∧ ∃ S', WheelOf w' wb S' 0 0 [⟨64, 7⟩] ∧ Moved w1 S1 w' S' := by
    have := wPush w1 wb S1 0 0 [] h1 ⟨64, 7⟩ K.out.1 (by simp)
    rw [e1] at this
    exact this
  have H1 : Hid (Moved w [] w1 S1) := ⟨o1, fun b hb => .inr (f1 b hb)⟩
  clear h1 f1 o1 e1
  go_wp2_with fail
  refine a1.mono ?_
  clear a1
  rintro e w2 ⟨rfl, S2, h2, m2⟩
  have e1 : (!hasId (It.i ⟨262144, 8⟩) [⟨64, 7⟩] && inR 0 0 (It.k ⟨262144, 8⟩)) = false := by decide
  have a2 : Calls Tryd.prog 19 #[.pointer (some ⟨wb, 0, none⟩), .agg #[.int .u64 262144, .int .i64 8]] w2 fun e w' => e = .returned (.bool false) ∧ ∃ S', WheelOf w' wb S' 0 0 [⟨64, 7⟩] ∧ Moved w2 S2 w' S' := by
    have := wPush w2 wb S2 0 0 [⟨64, 7⟩] h2 ⟨262144, 8⟩ K.out.2.1 (by simp)
    rw [e1] at this
    exact this
  have H2 := Lib.hid (H1.out.trans m2)
  clear h2 m2 e1 H1
  go_wp2_with fail
  refine a2.mono ?_
  clear a2
  rintro e w3 ⟨rfl, S3, h3, m3⟩
  have H3 := Lib.hid (H2.out.trans m3)
  have hT3 : Tab w3 := K.out.2.2.1.only H3.out.1 (by simp)
  have a3 := wMin w3 wb S3 0 0 [⟨64, 7⟩] h3 hT3
  have e3 : first [(⟨64, 7⟩ : It)] = ⟨64, 7⟩ := rfl
  rw [e3] at a3
  simp only [List.isEmpty_cons, Bool.not_false] at a3
  have HW3 := Lib.hid h3
  clear h3 m3 e3 hT3 H2
  go_wp2_with fail
  refine a3.mono ?_
  clear a3
  rintro e w4 ⟨rfl, o4⟩
  obtain ⟨m, hm, hmap⟩ := wMapOf _ wb S3 0 0 [⟨64, 7⟩] (HW3.out.only0 o4) 1 (by omega)
  have hm2 : m = 2 := by
    apply Nat.eq_of_testBit_eq
    intro i
    rcases Nat.lt_or_ge i 64 with hi | hi
    · rw [hm.2 i hi]
      have : ∀ i, i < 64 → (!(part (pl 0 0) (1 * 64 + i) [⟨64, 7⟩]).isEmpty) = (2 : Nat).testBit i := by decide
      exact this i hi
    · rw [upper_bit m i hm.1 hi, upper_bit 2 i (by omega) hi]
  rw [hm2] at hmap
  change ∀ w', Only [] w4 w' → Calls _ _ #[.pointer (some ⟨wb, 0, none⟩), .int .i64 1] w' fun e w'' => e = .returned (.int .u64 2) ∧ w'' = w' at hmap
  have hma := hmap _ ((Only.refl [] w4).alloc (.cells #[.int .u64 64, .int .i64 7] 34))
  have H4 := Lib.hid (H3.out.1.trans' o4)
  clear o4 hm hm2 hmap
  go_wp2_with fail
  refine hma.mono ?_
  rintro e w5 ⟨rfl, rfl⟩
  go_wp2_with fail
  refine (la1 _).mono ?_
  rintro e w6 ⟨rfl, rfl⟩
  go_wp2_with fail
  refine (lb1 _).mono ?_
  rintro e w7 ⟨rfl, rfl⟩
  go_wp2_with fail
  refine (la3 _).mono ?_
  rintro e w8 ⟨rfl, rfl⟩
  go_wp2_with fail
  go_ret
  exact ⟨rfl, H4.out.alloc _⟩
end Go.Proofs.YtlokeennplhflaaDoor
