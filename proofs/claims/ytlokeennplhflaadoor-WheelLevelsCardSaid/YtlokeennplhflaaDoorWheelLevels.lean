/-
  weighbridgelaw05.WheelLevels returns true for every input, and leaves its arguments as they were, where math/bits' table holds what the program's own text lays there (the card ties it). No other condition but that the arguments are values of their types.
-/
import Derived.Test.YtlokeennplhflaaDoorRows
import Derived.Test.YtlokeennplhflaaDoorTie
import Derived.Test.YtlokeennplhflaaDoorCards
import Derived.Test.YtlokeennplhflaaDoorWheelH
import Derived.Test.YtlokeennplhflaaDoorWheelF
import Derived.Test.YtlokeennplhflaaDoorWheelO
import Derived.ShutString
import Derived.ChangeOld
import Derived.Below
import Derived.SevenTiedAt
namespace Go.Proofs.YtlokeennplhflaaDoor.wheelLevels
open Go.ChangeShapes Go.WideShapes Go.ChangeAt Go.RowKit
set_option linter.unusedVariables false

set_option maxRecDepth 100000 in
set_option maxHeartbeats 2000000 in
theorem walk (a0 : Int) (a1 : Int) (a2 : Int) (a3 : Int) (w : World) (w0 : (Lit.int .u64 a0).wf = true) (w1 : (Lit.int .u64 a1).wf = true) (w2 : (Lit.int .i64 a2).wf = true) (w3 : (Lit.int .i64 a3).wf = true) (hT : Tab w) :
    Calls Tryd.prog 3 #[.int .u64 a0, .int .u64 a1, .int .i64 a2, .int .i64 a3] w fun e w' => e = .returned (.bool true) ∧ Below w.heap.size w w' := by
  obtain ⟨b0, b1⟩ := u64ok_to w0
  obtain ⟨k0, k1⟩ := u64ok_to w1
  obtain ⟨m, hm, hm60⟩ := hModN a2 60 (by omega) (by omega)
  obtain ⟨q, hq, hm5⟩ := hModN a3 5 (by omega) (by omega)
  change ∀ w, Calls _ _ #[.int .i64 a2, .int .i64 60] w _ at hm60
  change ∀ w, Calls _ _ #[.int .i64 a3, .int .i64 5] w _ at hm5
  have z0 : i64ok 0 := i64ok_of (by omega)
  have hn := hNear ⟨0, a1, 0⟩ ⟨z0, w1, z0⟩ a0 w0
  change ∀ w, Calls _ _ #[.agg #[.int .i64 0, .int .u64 a1, .int .i64 0], .int .u64 a0] w _ at hn
  have bk : Hid (∀ key l width : Int, 0 ≤ key → key ≤ 18446744073709551615 → ∃ v, (∀ w, Calls Tryd.prog 16 #[.int .u64 key, .int .i64 l, .int .i64 width] w fun e w' => e = .returned (.int .i64 v) ∧ w = w') ∧ ∀ w, Calls Tryd.prog 17 #[.int .u64 key, .int .i64 l, .int .i64 width] w fun e w' => e = .returned (.int .i64 v) ∧ w = w') := fun key l width h0 h1 => by
    by_cases hl : 0 ≤ l ∧ l ≤ 2
    · obtain ⟨L, rfl⟩ := Int.eq_ofNat_of_zero_le hl.1
      exact ⟨_, fun w => bucket_in key width L (by omega) h0 h1 w, fun w => rbucket_in key width L (by omega) h0 h1 w⟩
    · exact ⟨-1, fun w => bucket_out key width l (by omega) w, fun w => rbucket_out key width l (by omega) w⟩
  have HT := Lib.hid hT
  clear hT
  go_enter Tryd.func3, Tryd.ntmps3
  go_wp2_with fail
  refine (hm60 _).mono ?_
  rintro e v1 ⟨rfl, rfl⟩
  go_wp2_with fail
  refine (hn _).mono ?_
  rintro e v2 ⟨⟨k, hk, rfl⟩, o2⟩
  obtain ⟨c0, c1⟩ := u64ok_to hk
  have O2 := Lib.hid o2
  clear o2 hn hm60
  go_wp2_with fail
  refine (hm5 _).mono ?_
  rintro e v3 ⟨rfl, rfl⟩
  clear hm5
  have aw := wAwake v3 (HT.out.only0 O2.out)
  obtain ⟨wv, ew⟩ : ∃ wv : Int, (m : Int) - 8 = wv := ⟨_, rfl⟩
  obtain ⟨lv, el⟩ : ∃ lv : Int, (q : Int) - 1 = lv := ⟨_, rfl⟩
  obtain ⟨u1, p1, p2⟩ := bk.out k lv wv c0 c1
  obtain ⟨u2, p3, p4⟩ := bk.out a1 a3 wv k0 k1
  have l1 := level_any a0 k wv b0 b1 c0 c1
  have l2 := rlevel_any a0 k wv b0 b1 c0 c1
  have l3 := level_any a0 a1 wv b0 b1 k0 k1
  have l4 := rlevel_any a0 a1 wv b0 b1 k0 k1
  generalize levM (wid wv) a0 k = x1 at *
  generalize levM (wid wv) a0 a1 = x2 at *
  go_wp2_with fail
  refine aw.mono ?_
  rintro e v4 ⟨rfl, o4⟩
  have O4 := Lib.hid (O2.out.trans' o4)
  clear o4 aw O2
  go_wp2_with fail
  refine (l1 _).mono ?_
  rintro e v5 ⟨rfl, rfl⟩
  go_wp2_with fail
  refine (l2 _).mono ?_
  rintro e v5 ⟨rfl, rfl⟩
  go_wp2_with fail
  refine (l3 _).mono ?_
  rintro e v5 ⟨rfl, rfl⟩
  go_wp2_with fail
  refine (l4 _).mono ?_
  rintro e v5 ⟨rfl, rfl⟩
  go_wp2_with fail
  refine (p1 _).mono ?_
  rintro e v5 ⟨rfl, rfl⟩
  go_wp2_with fail
  refine (p2 _).mono ?_
  rintro e v5 ⟨rfl, rfl⟩
  go_wp2_with fail
  refine (p3 _).mono ?_
  rintro e v5 ⟨rfl, rfl⟩
  go_wp2_with fail
  refine (p4 _).mono ?_
  rintro e v5 ⟨rfl, rfl⟩
  go_wp2_with fail
  go_ret
  exact ⟨rfl, O4.out.below (Nat.le_refl _) (by simp)⟩

/-! ### The step from the walk to the row -/
set_option maxRecDepth 100000 in
theorem lifted (os : Os) (started : os.Started) (H : Type) (enc : TypeId × Value → H) :
    ReturnsInHanded {} Tryd.checked os 3 .any (fun w args => (Rows.wheelLevelsSpec.pre enc Tryd.prog Tryd.f3 [] false w args ∧ laidMetH Tryd.prog listed w) ∧ sizedMet enc Tryd.prog Tryd.f3 (OpenSpec.ofChange Rows.wheelLevelsSpec) false w args)
      (Rows.wheelLevelsSpec.post enc Tryd.prog Tryd.f3 false true false false) := by
  refine returnsInHanded_of_change_and (C := Tryd.checked) (X := fun w _ => laidMetH Tryd.prog listed w) (fun _ _ _ hh h => h.of_heap hh) own started (by kernel_rfl) Tryd.func3
    (ChangeSpec.witness_shaped (enc := enc) (C := Tryd.checked) (os := os) (X := fun w _ => laidMetH Tryd.prog listed w) false (World.doorLaid Tryd.prog 14 os) #[.int .u64 0, .int .u64 0, .int .i64 0, .int .i64 0] 8 rfl (World.shaped_of_RefB (by kernel_rfl) (by kernel_rfl)) (by kernel_rfl) (by kernel_rfl) (by kernel_rfl) (door_met os _)) ?_
  intro W base args ds gs before hval0 hW _ _ hL _
  have hval : ∀ (j : Nat) t v, Tryd.f3.params[j]? = some t → args[j]? = some v → Value.okWide Tryd.prog W .any base t v := hval0
  have hW' := hW
  obtain ⟨p, q, hA0, hV, rfl, hfz, hnd⟩ := hW
  have hA : DataW.TrodAll enc Tryd.prog W 0 (fun _ => true) true Tryd.f3.params.toList args.toList ds p := hA0
  rw [Tryd.params3] at hA hval
  obtain ⟨v0, vs0, d0, ds0, p0, q0, hargs, rfl, rfl, h0, r0⟩ := trodAll_cons hA
  obtain ⟨v1, vs1, d1, ds1, p1, q1, rfl, rfl, rfl, h1, r1⟩ := trodAll_cons r0
  obtain ⟨v2, vs2, d2, ds2, p2, q2, rfl, rfl, rfl, h2, r2⟩ := trodAll_cons r1
  obtain ⟨v3, vs3, d3, ds3, p3, q3, rfl, rfl, rfl, h3, r3⟩ := trodAll_cons r2
  obtain ⟨rfl, rfl, rfl⟩ := trodAll_nil r3
  obtain rfl : args = #[v0, v1, v2, v3] := by cases args; simp_all
  obtain ⟨rfl, rfl⟩ := trodVars_none hV
  obtain ⟨a0, rfl, rfl, rfl, w0⟩ := open_int Tryd.underlying22 (hval 0 22 v0 rfl rfl) h0
  obtain ⟨a1, rfl, rfl, rfl, w1⟩ := open_int Tryd.underlying22 (hval 1 22 v1 rfl rfl) h1
  obtain ⟨a2, rfl, rfl, rfl, w2⟩ := open_int Tryd.underlying3 (hval 2 3 v2 rfl rfl) h2
  obtain ⟨a3, rfl, rfl, rfl, w3⟩ := open_int Tryd.underlying3 (hval 3 3 v3 rfl rfl) h3
  clear hA0 hval0
  refine (walk a0 a1 a2 a3 W w0 w1 w2 w3 (tab_of_laid hL)).mono fun e W' ⟨he, bel⟩ => ?_
  subst he
  exact ⟨_, rfl, _, _, _, [], _, [], hW', trodAll_mk1 (shut_bool Tryd.underlying4 _), (trodAll_cons_mk (shut_int Tryd.underlying22 w0) (trodAll_cons_mk (shut_int Tryd.underlying22 w1) (trodAll_cons_mk (shut_int Tryd.underlying3 w2) (trodAll_cons_mk (shut_int Tryd.underlying3 w3) trodAll_mk0)))), rfl, bel.frame _, fun h => by cases h⟩

theorem over : Rows.wheelLevelsRow.holds Tryd.pinned (OpenSpec.ofChange Rows.wheelLevelsSpec) :=
  OpenClaim.holds_of_wide 3 Tryd.f3 rfl rfl rfl rfl rfl rfl rfl ⟨rfl, rfl, rfl, rfl, rfl⟩ rfl rfl rfl rfl rfl (by kernel_rfl) Tryd.func3 (by kernel_rfl)
    (of_decide_eq_true (by kernel_rfl)) (by unfold Func.isWrapper; first | (rw [if_pos (by decide +kernel)]; kernel_rfl) | (rw [if_neg (by decide +kernel)]; exact ⟨rfl, rfl⟩))
    (fun os started H enc _ => lifted os started H enc)

/-- The statement: the card, its listed variable tied to the program's text. -/
theorem proved : Rows.WheelLevelsCardSaid :=
  Claim7.holds_tied_plain_at .later [] [.data] true (true, "c1baca7e8a45fd53add94cf52a5f971d519e3f9f1c46d631b42e2657d54dce93") false
    over (fun _ h => by cases h) (by kernel_rfl) (fun _ h => by cases h) wheelLevels_row_tie rfl ⟨rfl, rfl⟩ (by kernel_rfl) rfl
    (fun f fn hf hfn => by
      obtain rfl : f = 3 := Option.some.inj ((show Tryd.prog.funcNamed "weighbridge/weighbridgelaw05.WheelLevels" = some 3 by kernel_rfl).symm.trans hf) |>.symm
      obtain rfl : fn = Tryd.f3 := (Option.some.inj (Tryd.func3.symm.trans hfn)).symm
      exact ⟨by kernel_rfl, fun j t ht => by
        rw [Tryd.params3] at ht
        have hm : t ∈ [22, 22, 3, 3] := by simpa using Array.mem_of_getElem? ht
        have hall : ([22, 22, 3, 3].all fun u => !Tryd.prog.wantsStandIn u) = true := by kernel_rfl
        exact (show Tryd.prog.wantsStandIn t = false by simpa using List.all_eq_true.1 hall t hm)⟩)
    (by kernel_rfl)
#print axioms proved
end Go.Proofs.YtlokeennplhflaaDoor.wheelLevels
