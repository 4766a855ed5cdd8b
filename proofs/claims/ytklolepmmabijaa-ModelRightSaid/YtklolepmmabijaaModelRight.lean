/-
  weighbridgelaw11.ModelRight returns true for every input, and leaves its arguments as they were. No condition but that the arguments are values of their types.
-/
import Derived.Test.YtklolepmmabijaaRows
import Derived.Test.YtklolepmmabijaaMdPr
import Derived.WalkKit
import Derived.ProofKit
import Derived.OpenShut
import Derived.ChangeOld
import Derived.Below
namespace Go.Proofs.Ytklolepmmabijaa.modelRight
open Go.ChangeShapes Go.WideShapes Go.ChangeAt Go.RowKit
set_option linter.unusedVariables false
set_option linter.unusedSimpArgs false

set_option maxRecDepth 100000 in
set_option maxHeartbeats 4000000 in
theorem walk (sh0 sl0 wk0 wd0 un0 : Int) (a1 : Bool) (w : World) (wsh0 : (Lit.int .i64 sh0).wf = true) (wsl0 : (Lit.int .i64 sl0).wf = true) (wwk0 : (Lit.int .i64 wk0).wf = true) (wwd0 : (Lit.int .i64 wd0).wf = true) (wun0 : (Lit.int .u64 un0).wf = true) :
    Calls Try.prog 3 #[.agg #[.int .i64 sh0, .int .i64 sl0, .int .i64 wk0, .int .i64 wd0, .int .u64 un0], .bool a1] w fun e w' => e = .returned (.bool true) ∧ Below w.heap.size w w' := by
  have hun : U64 un0 := U64.of_wf wun0
  have g0 := GBox.new w ⟨sh0, sl0, wk0, wd0, un0⟩
  have o0 : Only [] w (w.alloc (.cells #[.int .i64 sh0, .int .i64 sl0, .int .i64 wk0, .int .i64 wd0, .int .u64 un0] 24)) := (Only.refl [] w).alloc _
  clear wsh0 wsl0 wwk0 wwd0 wun0
  cases a1
  · have HG := Lib.hid (And.intro g0 o0)
    clear g0 o0 hun
    go_enter Try.func3, Try.ntmps3
    go_wp2_with fail
    generalize w.alloc (.cells #[.int .i64 sh0, .int .i64 sl0, .int .i64 wk0, .int .i64 wd0, .int .u64 un0] 24) = W at *
    obtain ⟨N, eN⟩ : ∃ N, w.heap.size = N := ⟨_, rfl⟩
    rw [eN] at HG ⊢
    clear eN
    rcases hR : rightB (⟨sh0, sl0, wk0, wd0, un0⟩ : Cf) with _ | _
    · have kN := Lib.hid (fun W => mNewBad (⟨sh0, sl0, wk0, wd0, un0⟩ : Cf) hR W)
      have kA := Lib.hid (fun W => mRightB (⟨sh0, sl0, wk0, wd0, un0⟩ : Cf) W)
      have kB := Lib.hid (fun W => zRight (⟨sh0, sl0, wk0, wd0, un0⟩ : Cf) W)
      rw [hR] at kA kB
      clear hR
      refine (kN.out _).mono ?_
      rintro e v1 ⟨rfl, o1⟩
      have H1 := Lib.hid (And.intro (HG.out.1.only0 o1) (HG.out.2.trans' o1))
      obtain ⟨x0, x1, x2, x3, x4⟩ := H1.out.1.c
      simp only at x0 x1 x2 x3 x4
      have st : Hid (GBox v1.drew N (⟨sh0, sl0, wk0, wd0, un0⟩ : Cf) ∧ Only [] w v1.drew) := ⟨H1.out.1.only0 (Only.refl [] v1).drew, H1.out.2.drew⟩
      have cells : Hid (∀ V, GBox V N (⟨sh0, sl0, wk0, wd0, un0⟩ : Cf) ∧ Only [] w V → V.cell? ⟨N, 0, none⟩ = some (.int .i64 sh0) ∧ V.cell? ⟨N, 1, none⟩ = some (.int .i64 sl0) ∧ V.cell? ⟨N, 2, none⟩ = some (.int .i64 wk0) ∧ V.cell? ⟨N, 3, none⟩ = some (.int .i64 wd0) ∧ V.cell? ⟨N, 4, none⟩ = some (.int .u64 un0)) := fun V hV => hV.1.c
      clear kN o1 HG
      go_wp2_with fail
      go_region_held3 (fun w' => w'.cell? ⟨N, 0, none⟩ = some (.int .i64 sh0) ∧ w'.cell? ⟨N, 1, none⟩ = some (.int .i64 sl0) ∧ w'.cell? ⟨N, 2, none⟩ = some (.int .i64 wk0) ∧ w'.cell? ⟨N, 3, none⟩ = some (.int .i64 wd0) ∧ w'.cell? ⟨N, 4, none⟩ = some (.int .u64 un0))
        (first | (exact cells.out _ st.out) | go_keep)
        (first
          | (go_at_call 7; refine (mAwake _).mono ?_; rintro e u ⟨rfl, o2⟩; have st := Lib.hid (And.intro (st.out.1.only0 o2) (st.out.2.trans' o2)); clear o2)
          | (go_at_call 8; refine (kA.out _).mono ?_; rintro e u ⟨rfl, o2⟩; have st := Lib.hid (And.intro (st.out.1.only0 o2) (st.out.2.trans' o2)); clear o2)
          | (go_at_call 9; refine (kB.out _).mono ?_; rintro e u ⟨rfl, o2⟩; have st := Lib.hid (And.intro (st.out.1.only0 o2) (st.out.2.trans' o2)); clear o2))
      all_goals
        obtain ⟨x0, x1, x2, x3, x4⟩ := st.out.1.c
        simp only at x0 x1 x2 x3 x4
        go_wp2_with fail
        refine (kB.out _).mono ?_
        rintro e u9 ⟨rfl, o2⟩
        have HO := Lib.hid (st.out.2.trans' o2)
        clear o2
        go_wp2_with fail
        go_ret
        exact ⟨rfl, HO.out.below (Nat.le_refl _) (by simp)⟩
    · have kN := Lib.hid (fun W => mNew (⟨sh0, sl0, wk0, wd0, un0⟩ : Cf) ((rightB_iff (⟨sh0, sl0, wk0, wd0, un0⟩ : Cf)).1 hR) W)
      have kA := Lib.hid (fun W => mRightB (⟨sh0, sl0, wk0, wd0, un0⟩ : Cf) W)
      have kB := Lib.hid (fun W => zRight (⟨sh0, sl0, wk0, wd0, un0⟩ : Cf) W)
      rw [hR] at kA kB
      clear hR
      refine (kN.out _).mono ?_
      rintro e v1 ⟨b, rfl, O, hM, o1, _⟩
      have H1 := Lib.hid (And.intro (HG.out.1.only0 o1) (And.intro (HG.out.2.trans' o1) hM))
      obtain ⟨x0, x1, x2, x3, x4⟩ := H1.out.1.c
      simp only at x0 x1 x2 x3 x4
      have st : Hid (GBox v1.drew N (⟨sh0, sl0, wk0, wd0, un0⟩ : Cf) ∧ Only [] w v1.drew ∧ MdOf b ⟨(⟨sh0, sl0, wk0, wd0, un0⟩ : Cf), Sq.new, 0⟩ v1.drew O) := ⟨H1.out.1.only0 (Only.refl [] v1).drew, H1.out.2.1.drew, (rep_md b _).only hM (Only.refl [] v1).drew (by simp)⟩
      have cells : Hid (∀ V, GBox V N (⟨sh0, sl0, wk0, wd0, un0⟩ : Cf) ∧ Only [] w V ∧ MdOf b ⟨(⟨sh0, sl0, wk0, wd0, un0⟩ : Cf), Sq.new, 0⟩ V O → V.cell? ⟨N, 0, none⟩ = some (.int .i64 sh0) ∧ V.cell? ⟨N, 1, none⟩ = some (.int .i64 sl0) ∧ V.cell? ⟨N, 2, none⟩ = some (.int .i64 wk0) ∧ V.cell? ⟨N, 3, none⟩ = some (.int .i64 wd0) ∧ V.cell? ⟨N, 4, none⟩ = some (.int .u64 un0)) := fun V hV => hV.1.c
      have go : Hid (∀ V U, GBox V N (⟨sh0, sl0, wk0, wd0, un0⟩ : Cf) ∧ Only [] w V ∧ MdOf b ⟨(⟨sh0, sl0, wk0, wd0, un0⟩ : Cf), Sq.new, 0⟩ V O → Only [] V U → GBox U N (⟨sh0, sl0, wk0, wd0, un0⟩ : Cf) ∧ Only [] w U ∧ MdOf b ⟨(⟨sh0, sl0, wk0, wd0, un0⟩ : Cf), Sq.new, 0⟩ U O) := fun V U h o => ⟨h.1.only0 o, h.2.1.trans' o, (rep_md b _).only h.2.2 o (by simp)⟩
      clear kN o1 HG hM H1
      go_wp2_with fail
      go_region_held3 (fun w' => w'.cell? ⟨N, 0, none⟩ = some (.int .i64 sh0) ∧ w'.cell? ⟨N, 1, none⟩ = some (.int .i64 sl0) ∧ w'.cell? ⟨N, 2, none⟩ = some (.int .i64 wk0) ∧ w'.cell? ⟨N, 3, none⟩ = some (.int .i64 wd0) ∧ w'.cell? ⟨N, 4, none⟩ = some (.int .u64 un0))
        (first | (exact cells.out _ st.out) | go_keep)
        (first
          | (go_at_call 7; refine (mAwake _).mono ?_; rintro e u ⟨rfl, o2⟩; have st := Lib.hid (go.out _ _ st.out o2); clear o2)
          | (go_at_call 8; refine (kA.out _).mono ?_; rintro e u ⟨rfl, o2⟩; have st := Lib.hid (go.out _ _ st.out o2); clear o2)
          | (go_at_call 9; refine (kB.out _).mono ?_; rintro e u ⟨rfl, o2⟩; have st := Lib.hid (go.out _ _ st.out o2); clear o2))
      all_goals
        obtain ⟨x0, x1, x2, x3, x4⟩ := st.out.1.c
        simp only at x0 x1 x2 x3 x4
        go_wp2_with fail
        refine (kB.out _).mono ?_
        rintro e u9 ⟨rfl, o2⟩
        have st := Lib.hid (go.out _ _ st.out o2)
        have kV : Calls Try.prog 10 #[.pointer (some ⟨b, 0, none⟩)] u9 fun e w' => e = .returned (.int .u64 0) ∧ w' = u9 := mV u9 b _ O st.out.2.2
        have kS : Calls Try.prog 11 #[.pointer (some ⟨b, 0, none⟩)] u9 fun e w' => e = .returned (.int .i64 0) ∧ w' = u9 := mServed u9 b _ O st.out.2.2
        have kF : Calls Try.prog 12 #[.pointer (some ⟨b, 0, none⟩)] u9 fun e w' => ∃ A cap, e = .returned (.slice A 0 cap) ∧ Only [] u9 w' := (mFlows u9 b _ O st.out.2.2).mono fun e w' ⟨A, cap, e1, _, _, o⟩ => ⟨A, cap, e1, o⟩
        have hs0 : startsK (⟨(⟨sh0, sl0, wk0, wd0, un0⟩ : Cf), Sq.new, 0⟩ : Md).S.l = [] := by show startsK [] = []; decide
        have kT : Hid (∀ W, MdOf b ⟨(⟨sh0, sl0, wk0, wd0, un0⟩ : Cf), Sq.new, 0⟩ W O → Calls Try.prog 13 #[.pointer (some ⟨b, 0, none⟩)] W fun e w' => ∃ A cap, e = .returned (.slice A 0 cap) ∧ Only [] W w') := fun W hW => (mStarts W b _ O hW).mono fun e w' ⟨A, cap, e1, _, _, o⟩ => ⟨A, cap, by rw [hs0] at e1; exact e1, o⟩
        clear o2 x0 x1 x2 x3 x4 hs0
        go_wp2_with fail
        refine kV.mono ?_
        rintro e u10 ⟨rfl, rfl⟩
        go_wp2_with fail
        refine kS.mono ?_
        rintro e u11 ⟨rfl, rfl⟩
        go_wp2_with fail
        refine kF.mono ?_
        rintro e u12 ⟨A1, c1, rfl, o3⟩
        have st := Lib.hid (go.out _ _ st.out o3)
        have kT := kT.out _ st.out.2.2
        clear o3 kV kS kF
        go_wp2_with fail
        refine kT.mono ?_
        rintro e u13 ⟨A2, c2, rfl, o3⟩
        have st := Lib.hid (go.out _ _ st.out o3)
        clear o3 kT
        go_wp2_with fail
        go_ret
        exact ⟨rfl, st.out.2.1.below (Nat.le_refl _) (by simp)⟩
  · have k1 := fun W => sMod sh0 7 (by decide) (by decide) W
    have k2 := fun W => sMod sl0 7 (by decide) (by decide) W
    have k3 := fun W => sMod wk0 9 (by decide) (by decide) W
    have k4 := fun W => sMod wd0 44 (by decide) (by decide) W
    have b4 := modI_lt wd0 (n := 44) (by decide)
    generalize modI sh0 7 = m1 at *
    generalize modI sl0 7 = m2 at *
    generalize modI wk0 9 = m3 at *
    generalize modI wd0 44 = q4 at *
    obtain ⟨m4, e4⟩ : ∃ m4, q4 - 1 = m4 := ⟨_, rfl⟩
    have w4 : IntKind.i64.wrap (q4 - 1) = m4 := by rw [IntKind.wrap_i64]; omega
    have K1 := Lib.hid k1
    have K2 := Lib.hid k2
    have K3 := Lib.hid k3
    have K4 := Lib.hid k4
    obtain ⟨u0, u1⟩ := hun
    obtain ⟨uu, eu⟩ : ∃ uu, Int.tmod un0 4611686018427387906 = uu := ⟨_, rfl⟩
    have hu : 0 ≤ uu ∧ uu < 4611686018427387906 := by rw [Int.tmod_eq_emod_of_nonneg u0] at eu; omega
    obtain ⟨hu0, hu1⟩ := hu
    clear k1 k2 k3 k4 e4
    obtain ⟨x0, x1, x2, x3, x4⟩ := g0.c
    simp only at x0 x1 x2 x3 x4
    have f0 := g0.fr 0
    have f1 := g0.fr 1
    have f2 := g0.fr 2
    have f3 := g0.fr 3
    have f4 := g0.fr 4
    have HG := Lib.hid (And.intro g0 o0)
    clear g0 o0
    go_enter Try.func3, Try.ntmps3
    go_wp2_with fail
    generalize w.alloc (.cells #[.int .i64 sh0, .int .i64 sl0, .int .i64 wk0, .int .i64 wd0, .int .u64 un0] 24) = W at *
    obtain ⟨N, eN⟩ : ∃ N, w.heap.size = N := ⟨_, rfl⟩
    have HN : Hid (w.heap.size ≤ N) := by show w.heap.size ≤ N; omega
    rw [eN] at HG x0 x1 x2 x3 x4 f0 f1 f2 f3 f4 ⊢
    clear eN
    go_still_tail 17, (by kernel_rfl)
    still_call (K1.out _)
    repeat still_step
    still_call (K2.out _)
    repeat still_step
    still_call (K3.out _)
    repeat still_step
    still_call (K4.out _)
    repeat still_step
    refine wpStill_nil ?_
    change wpList _ _ _ _ _ W.drew
    have HW : Hid (GBox W.drew N ⟨sh0, sl0, wk0, wd0, un0⟩ ∧ Only [] w W.drew) := ⟨HG.out.1.only0 (Only.refl [] W).drew, HG.out.2.drew⟩
    have x0 : W.drew.cell? ⟨N, 0, none⟩ = some (.int .i64 sh0) := x0
    have x1 : W.drew.cell? ⟨N, 1, none⟩ = some (.int .i64 sl0) := x1
    have x2 : W.drew.cell? ⟨N, 2, none⟩ = some (.int .i64 wk0) := x2
    have x3 : W.drew.cell? ⟨N, 3, none⟩ = some (.int .i64 wd0) := x3
    have x4 : W.drew.cell? ⟨N, 4, none⟩ = some (.int .u64 un0) := x4
    have f0 : W.drew.frozen? ⟨N, 0, none⟩ = false := f0
    have f1 : W.drew.frozen? ⟨N, 1, none⟩ = false := f1
    have f2 : W.drew.frozen? ⟨N, 2, none⟩ = false := f2
    have f3 : W.drew.frozen? ⟨N, 3, none⟩ = false := f3
    have f4 : W.drew.frozen? ⟨N, 4, none⟩ = false := f4
    clear HG eu u0 u1 w4
    generalize W.drew = W' at *
    have G1 := Lib.hid (HW.out.1.put ⟨m1, m2, m3, m4, uu⟩)
    have O1 := Lib.hid (HW.out.2.trans (only_cf W' N (.int .i64 m1) (.int .i64 m2) (.int .i64 m3) (.int .i64 m4) (.int .u64 uu)) (fun k hk => .inr (by simp at hk; subst hk; exact HN.out)))
    have hfork : (decide (9000 < uu) = false ∧ ¬ 9000 < uu) ∨ (decide (9000 < uu) = true ∧ 9000 < uu ∧ (uu % 2 == 0) = false) ∨ (decide (9000 < uu) = true ∧ 9000 < uu ∧ (uu % 2 == 0) = true) := by
      by_cases h9 : 9000 < uu
      · rcases hh : (uu % 2 == 0) with _ | _
        · exact .inr (.inl ⟨decide_eq_true h9, h9, rfl⟩)
        · exact .inr (.inr ⟨decide_eq_true h9, h9, rfl⟩)
      · exact .inl ⟨decide_eq_false h9, h9⟩
    have t2 : Int.tmod uu 2 = uu % 2 := Int.tmod_eq_emod_of_nonneg hu0
    rcases hfork with ⟨q1, q2⟩ | ⟨q1, q2, q3⟩ | ⟨q1, q2, q3⟩
    · go_wp2_with fail
      have HG := Lib.hid (And.intro G1.out O1.out)
      generalize (((((W'.setCell ⟨N, 0, none⟩ (.int .i64 m1)).setCell ⟨N, 1, none⟩ (.int .i64 m2)).setCell ⟨N, 2, none⟩ (.int .i64 m3)).setCell ⟨N, 3, none⟩ (.int .i64 m4)).setCell ⟨N, 4, none⟩ (.int .u64 uu)) = V at *
      clear G1 O1 HW t2
      rcases hR : rightB (⟨m1, m2, m3, m4, uu⟩ : Cf) with _ | _
      · have kN := Lib.hid (fun W => mNewBad (⟨m1, m2, m3, m4, uu⟩ : Cf) hR W)
        have kA := Lib.hid (fun W => mRightB (⟨m1, m2, m3, m4, uu⟩ : Cf) W)
        have kB := Lib.hid (fun W => zRight (⟨m1, m2, m3, m4, uu⟩ : Cf) W)
        rw [hR] at kA kB
        clear hR
        refine (kN.out _).mono ?_
        rintro e v1 ⟨rfl, o1⟩
        have H1 := Lib.hid (And.intro (HG.out.1.only0 o1) (HG.out.2.trans' o1))
        obtain ⟨x0, x1, x2, x3, x4⟩ := H1.out.1.c
        simp only at x0 x1 x2 x3 x4
        have st : Hid (GBox v1.drew N (⟨m1, m2, m3, m4, uu⟩ : Cf) ∧ Only [] w v1.drew) := ⟨H1.out.1.only0 (Only.refl [] v1).drew, H1.out.2.drew⟩
        have cells : Hid (∀ V, GBox V N (⟨m1, m2, m3, m4, uu⟩ : Cf) ∧ Only [] w V → V.cell? ⟨N, 0, none⟩ = some (.int .i64 m1) ∧ V.cell? ⟨N, 1, none⟩ = some (.int .i64 m2) ∧ V.cell? ⟨N, 2, none⟩ = some (.int .i64 m3) ∧ V.cell? ⟨N, 3, none⟩ = some (.int .i64 m4) ∧ V.cell? ⟨N, 4, none⟩ = some (.int .u64 uu)) := fun V hV => hV.1.c
        clear kN o1 HG
        go_wp2_with fail
        go_region_held3 (fun w' => w'.cell? ⟨N, 0, none⟩ = some (.int .i64 m1) ∧ w'.cell? ⟨N, 1, none⟩ = some (.int .i64 m2) ∧ w'.cell? ⟨N, 2, none⟩ = some (.int .i64 m3) ∧ w'.cell? ⟨N, 3, none⟩ = some (.int .i64 m4) ∧ w'.cell? ⟨N, 4, none⟩ = some (.int .u64 uu))
          (first | (exact cells.out _ st.out) | go_keep)
          (first
            | (go_at_call 7; refine (mAwake _).mono ?_; rintro e u ⟨rfl, o2⟩; have st := Lib.hid (And.intro (st.out.1.only0 o2) (st.out.2.trans' o2)); clear o2)
            | (go_at_call 8; refine (kA.out _).mono ?_; rintro e u ⟨rfl, o2⟩; have st := Lib.hid (And.intro (st.out.1.only0 o2) (st.out.2.trans' o2)); clear o2)
            | (go_at_call 9; refine (kB.out _).mono ?_; rintro e u ⟨rfl, o2⟩; have st := Lib.hid (And.intro (st.out.1.only0 o2) (st.out.2.trans' o2)); clear o2))
        all_goals
          obtain ⟨x0, x1, x2, x3, x4⟩ := st.out.1.c
          simp only at x0 x1 x2 x3 x4
          go_wp2_with fail
          refine (kB.out _).mono ?_
          rintro e u9 ⟨rfl, o2⟩
          have HO := Lib.hid (st.out.2.trans' o2)
          clear o2
          go_wp2_with fail
          go_ret
          exact ⟨rfl, HO.out.below (Nat.le_refl _) (by simp)⟩
      · have kN := Lib.hid (fun W => mNew (⟨m1, m2, m3, m4, uu⟩ : Cf) ((rightB_iff (⟨m1, m2, m3, m4, uu⟩ : Cf)).1 hR) W)
        have kA := Lib.hid (fun W => mRightB (⟨m1, m2, m3, m4, uu⟩ : Cf) W)
        have kB := Lib.hid (fun W => zRight (⟨m1, m2, m3, m4, uu⟩ : Cf) W)
        rw [hR] at kA kB
        clear hR
        refine (kN.out _).mono ?_
        rintro e v1 ⟨b, rfl, O, hM, o1, _⟩
        have H1 := Lib.hid (And.intro (HG.out.1.only0 o1) (And.intro (HG.out.2.trans' o1) hM))
        obtain ⟨x0, x1, x2, x3, x4⟩ := H1.out.1.c
        simp only at x0 x1 x2 x3 x4
        have st : Hid (GBox v1.drew N (⟨m1, m2, m3, m4, uu⟩ : Cf) ∧ Only [] w v1.drew ∧ MdOf b ⟨(⟨m1, m2, m3, m4, uu⟩ : Cf), Sq.new, 0⟩ v1.drew O) := ⟨H1.out.1.only0 (Only.refl [] v1).drew, H1.out.2.1.drew, (rep_md b _).only hM (Only.refl [] v1).drew (by simp)⟩
        have cells : Hid (∀ V, GBox V N (⟨m1, m2, m3, m4, uu⟩ : Cf) ∧ Only [] w V ∧ MdOf b ⟨(⟨m1, m2, m3, m4, uu⟩ : Cf), Sq.new, 0⟩ V O → V.cell? ⟨N, 0, none⟩ = some (.int .i64 m1) ∧ V.cell? ⟨N, 1, none⟩ = some (.int .i64 m2) ∧ V.cell? ⟨N, 2, none⟩ = some (.int .i64 m3) ∧ V.cell? ⟨N, 3, none⟩ = some (.int .i64 m4) ∧ V.cell? ⟨N, 4, none⟩ = some (.int .u64 uu)) := fun V hV => hV.1.c
        have go : Hid (∀ V U, GBox V N (⟨m1, m2, m3, m4, uu⟩ : Cf) ∧ Only [] w V ∧ MdOf b ⟨(⟨m1, m2, m3, m4, uu⟩ : Cf), Sq.new, 0⟩ V O → Only [] V U → GBox U N (⟨m1, m2, m3, m4, uu⟩ : Cf) ∧ Only [] w U ∧ MdOf b ⟨(⟨m1, m2, m3, m4, uu⟩ : Cf), Sq.new, 0⟩ U O) := fun V U h o => ⟨h.1.only0 o, h.2.1.trans' o, (rep_md b _).only h.2.2 o (by simp)⟩
        clear kN o1 HG hM H1
        go_wp2_with fail
        go_region_held3 (fun w' => w'.cell? ⟨N, 0, none⟩ = some (.int .i64 m1) ∧ w'.cell? ⟨N, 1, none⟩ = some (.int .i64 m2) ∧ w'.cell? ⟨N, 2, none⟩ = some (.int .i64 m3) ∧ w'.cell? ⟨N, 3, none⟩ = some (.int .i64 m4) ∧ w'.cell? ⟨N, 4, none⟩ = some (.int .u64 uu))
          (first | (exact cells.out _ st.out) | go_keep)
          (first
            | (go_at_call 7; refine (mAwake _).mono ?_; rintro e u ⟨rfl, o2⟩; have st := Lib.hid (go.out _ _ st.out o2); clear o2)
            | (go_at_call 8; refine (kA.out _).mono ?_; rintro e u ⟨rfl, o2⟩; have st := Lib.hid (go.out _ _ st.out o2); clear o2)
            | (go_at_call 9; refine (kB.out _).mono ?_; rintro e u ⟨rfl, o2⟩; have st := Lib.hid (go.out _ _ st.out o2); clear o2))
        all_goals
          obtain ⟨x0, x1, x2, x3, x4⟩ := st.out.1.c
          simp only at x0 x1 x2 x3 x4
          go_wp2_with fail
          refine (kB.out _).mono ?_
          rintro e u9 ⟨rfl, o2⟩
          have st := Lib.hid (go.out _ _ st.out o2)
          have kV : Calls Try.prog 10 #[.pointer (some ⟨b, 0, none⟩)] u9 fun e w' => e = .returned (.int .u64 0) ∧ w' = u9 := mV u9 b _ O st.out.2.2
          have kS : Calls Try.prog 11 #[.pointer (some ⟨b, 0, none⟩)] u9 fun e w' => e = .returned (.int .i64 0) ∧ w' = u9 := mServed u9 b _ O st.out.2.2
          have kF : Calls Try.prog 12 #[.pointer (some ⟨b, 0, none⟩)] u9 fun e w' => ∃ A cap, e = .returned (.slice A 0 cap) ∧ Only [] u9 w' := (mFlows u9 b _ O st.out.2.2).mono fun e w' ⟨A, cap, e1, _, _, o⟩ => ⟨A, cap, e1, o⟩
          have hs0 : startsK (⟨(⟨m1, m2, m3, m4, uu⟩ : Cf), Sq.new, 0⟩ : Md).S.l = [] := by show startsK [] = []; decide
          have kT : Hid (∀ W, MdOf b ⟨(⟨m1, m2, m3, m4, uu⟩ : Cf), Sq.new, 0⟩ W O → Calls Try.prog 13 #[.pointer (some ⟨b, 0, none⟩)] W fun e w' => ∃ A cap, e = .returned (.slice A 0 cap) ∧ Only [] W w') := fun W hW => (mStarts W b _ O hW).mono fun e w' ⟨A, cap, e1, _, _, o⟩ => ⟨A, cap, by rw [hs0] at e1; exact e1, o⟩
          clear o2 x0 x1 x2 x3 x4 hs0
          go_wp2_with fail
          refine kV.mono ?_
          rintro e u10 ⟨rfl, rfl⟩
          go_wp2_with fail
          refine kS.mono ?_
          rintro e u11 ⟨rfl, rfl⟩
          go_wp2_with fail
          refine kF.mono ?_
          rintro e u12 ⟨A1, c1, rfl, o3⟩
          have st := Lib.hid (go.out _ _ st.out o3)
          have kT := kT.out _ st.out.2.2
          clear o3 kV kS kF
          go_wp2_with fail
          refine kT.mono ?_
          rintro e u13 ⟨A2, c2, rfl, o3⟩
          have st := Lib.hid (go.out _ _ st.out o3)
          clear o3 kT
          go_wp2_with fail
          go_ret
          exact ⟨rfl, st.out.2.1.below (Nat.le_refl _) (by simp)⟩
    · go_wp2_with fail
      have HG := Lib.hid (And.intro G1.out O1.out)
      generalize (((((W'.setCell ⟨N, 0, none⟩ (.int .i64 m1)).setCell ⟨N, 1, none⟩ (.int .i64 m2)).setCell ⟨N, 2, none⟩ (.int .i64 m3)).setCell ⟨N, 3, none⟩ (.int .i64 m4)).setCell ⟨N, 4, none⟩ (.int .u64 uu)) = V at *
      clear G1 O1 HW t2
      rcases hR : rightB (⟨m1, m2, m3, m4, uu⟩ : Cf) with _ | _
      · have kN := Lib.hid (fun W => mNewBad (⟨m1, m2, m3, m4, uu⟩ : Cf) hR W)
        have kA := Lib.hid (fun W => mRightB (⟨m1, m2, m3, m4, uu⟩ : Cf) W)
        have kB := Lib.hid (fun W => zRight (⟨m1, m2, m3, m4, uu⟩ : Cf) W)
        rw [hR] at kA kB
        clear hR
        refine (kN.out _).mono ?_
        rintro e v1 ⟨rfl, o1⟩
        have H1 := Lib.hid (And.intro (HG.out.1.only0 o1) (HG.out.2.trans' o1))
        obtain ⟨x0, x1, x2, x3, x4⟩ := H1.out.1.c
        simp only at x0 x1 x2 x3 x4
        have st : Hid (GBox v1.drew N (⟨m1, m2, m3, m4, uu⟩ : Cf) ∧ Only [] w v1.drew) := ⟨H1.out.1.only0 (Only.refl [] v1).drew, H1.out.2.drew⟩
        have cells : Hid (∀ V, GBox V N (⟨m1, m2, m3, m4, uu⟩ : Cf) ∧ Only [] w V → V.cell? ⟨N, 0, none⟩ = some (.int .i64 m1) ∧ V.cell? ⟨N, 1, none⟩ = some (.int .i64 m2) ∧ V.cell? ⟨N, 2, none⟩ = some (.int .i64 m3) ∧ V.cell? ⟨N, 3, none⟩ = some (.int .i64 m4) ∧ V.cell? ⟨N, 4, none⟩ = some (.int .u64 uu)) := fun V hV => hV.1.c
        clear kN o1 HG
        go_wp2_with fail
        go_region_held3 (fun w' => w'.cell? ⟨N, 0, none⟩ = some (.int .i64 m1) ∧ w'.cell? ⟨N, 1, none⟩ = some (.int .i64 m2) ∧ w'.cell? ⟨N, 2, none⟩ = some (.int .i64 m3) ∧ w'.cell? ⟨N, 3, none⟩ = some (.int .i64 m4) ∧ w'.cell? ⟨N, 4, none⟩ = some (.int .u64 uu))
          (first | (exact cells.out _ st.out) | go_keep)
          (first
            | (go_at_call 7; refine (mAwake _).mono ?_; rintro e u ⟨rfl, o2⟩; have st := Lib.hid (And.intro (st.out.1.only0 o2) (st.out.2.trans' o2)); clear o2)
            | (go_at_call 8; refine (kA.out _).mono ?_; rintro e u ⟨rfl, o2⟩; have st := Lib.hid (And.intro (st.out.1.only0 o2) (st.out.2.trans' o2)); clear o2)
            | (go_at_call 9; refine (kB.out _).mono ?_; rintro e u ⟨rfl, o2⟩; have st := Lib.hid (And.intro (st.out.1.only0 o2) (st.out.2.trans' o2)); clear o2))
        all_goals
          obtain ⟨x0, x1, x2, x3, x4⟩ := st.out.1.c
          simp only at x0 x1 x2 x3 x4
          go_wp2_with fail
          refine (kB.out _).mono ?_
          rintro e u9 ⟨rfl, o2⟩
          have HO := Lib.hid (st.out.2.trans' o2)
          clear o2
          go_wp2_with fail
          go_ret
          exact ⟨rfl, HO.out.below (Nat.le_refl _) (by simp)⟩
      · have kN := Lib.hid (fun W => mNew (⟨m1, m2, m3, m4, uu⟩ : Cf) ((rightB_iff (⟨m1, m2, m3, m4, uu⟩ : Cf)).1 hR) W)
        have kA := Lib.hid (fun W => mRightB (⟨m1, m2, m3, m4, uu⟩ : Cf) W)
        have kB := Lib.hid (fun W => zRight (⟨m1, m2, m3, m4, uu⟩ : Cf) W)
        rw [hR] at kA kB
        clear hR
        refine (kN.out _).mono ?_
        rintro e v1 ⟨b, rfl, O, hM, o1, _⟩
        have H1 := Lib.hid (And.intro (HG.out.1.only0 o1) (And.intro (HG.out.2.trans' o1) hM))
        obtain ⟨x0, x1, x2, x3, x4⟩ := H1.out.1.c
        simp only at x0 x1 x2 x3 x4
        have st : Hid (GBox v1.drew N (⟨m1, m2, m3, m4, uu⟩ : Cf) ∧ Only [] w v1.drew ∧ MdOf b ⟨(⟨m1, m2, m3, m4, uu⟩ : Cf), Sq.new, 0⟩ v1.drew O) := ⟨H1.out.1.only0 (Only.refl [] v1).drew, H1.out.2.1.drew, (rep_md b _).only hM (Only.refl [] v1).drew (by simp)⟩
        have cells : Hid (∀ V, GBox V N (⟨m1, m2, m3, m4, uu⟩ : Cf) ∧ Only [] w V ∧ MdOf b ⟨(⟨m1, m2, m3, m4, uu⟩ : Cf), Sq.new, 0⟩ V O → V.cell? ⟨N, 0, none⟩ = some (.int .i64 m1) ∧ V.cell? ⟨N, 1, none⟩ = some (.int .i64 m2) ∧ V.cell? ⟨N, 2, none⟩ = some (.int .i64 m3) ∧ V.cell? ⟨N, 3, none⟩ = some (.int .i64 m4) ∧ V.cell? ⟨N, 4, none⟩ = some (.int .u64 uu)) := fun V hV => hV.1.c
        have go : Hid (∀ V U, GBox V N (⟨m1, m2, m3, m4, uu⟩ : Cf) ∧ Only [] w V ∧ MdOf b ⟨(⟨m1, m2, m3, m4, uu⟩ : Cf), Sq.new, 0⟩ V O → Only [] V U → GBox U N (⟨m1, m2, m3, m4, uu⟩ : Cf) ∧ Only [] w U ∧ MdOf b ⟨(⟨m1, m2, m3, m4, uu⟩ : Cf), Sq.new, 0⟩ U O) := fun V U h o => ⟨h.1.only0 o, h.2.1.trans' o, (rep_md b _).only h.2.2 o (by simp)⟩
        clear kN o1 HG hM H1
        go_wp2_with fail
        go_region_held3 (fun w' => w'.cell? ⟨N, 0, none⟩ = some (.int .i64 m1) ∧ w'.cell? ⟨N, 1, none⟩ = some (.int .i64 m2) ∧ w'.cell? ⟨N, 2, none⟩ = some (.int .i64 m3) ∧ w'.cell? ⟨N, 3, none⟩ = some (.int .i64 m4) ∧ w'.cell? ⟨N, 4, none⟩ = some (.int .u64 uu))
          (first | (exact cells.out _ st.out) | go_keep)
          (first
            | (go_at_call 7; refine (mAwake _).mono ?_; rintro e u ⟨rfl, o2⟩; have st := Lib.hid (go.out _ _ st.out o2); clear o2)
            | (go_at_call 8; refine (kA.out _).mono ?_; rintro e u ⟨rfl, o2⟩; have st := Lib.hid (go.out _ _ st.out o2); clear o2)
            | (go_at_call 9; refine (kB.out _).mono ?_; rintro e u ⟨rfl, o2⟩; have st := Lib.hid (go.out _ _ st.out o2); clear o2))
        all_goals
          obtain ⟨x0, x1, x2, x3, x4⟩ := st.out.1.c
          simp only at x0 x1 x2 x3 x4
          go_wp2_with fail
          refine (kB.out _).mono ?_
          rintro e u9 ⟨rfl, o2⟩
          have st := Lib.hid (go.out _ _ st.out o2)
          have kV : Calls Try.prog 10 #[.pointer (some ⟨b, 0, none⟩)] u9 fun e w' => e = .returned (.int .u64 0) ∧ w' = u9 := mV u9 b _ O st.out.2.2
          have kS : Calls Try.prog 11 #[.pointer (some ⟨b, 0, none⟩)] u9 fun e w' => e = .returned (.int .i64 0) ∧ w' = u9 := mServed u9 b _ O st.out.2.2
          have kF : Calls Try.prog 12 #[.pointer (some ⟨b, 0, none⟩)] u9 fun e w' => ∃ A cap, e = .returned (.slice A 0 cap) ∧ Only [] u9 w' := (mFlows u9 b _ O st.out.2.2).mono fun e w' ⟨A, cap, e1, _, _, o⟩ => ⟨A, cap, e1, o⟩
          have hs0 : startsK (⟨(⟨m1, m2, m3, m4, uu⟩ : Cf), Sq.new, 0⟩ : Md).S.l = [] := by show startsK [] = []; decide
          have kT : Hid (∀ W, MdOf b ⟨(⟨m1, m2, m3, m4, uu⟩ : Cf), Sq.new, 0⟩ W O → Calls Try.prog 13 #[.pointer (some ⟨b, 0, none⟩)] W fun e w' => ∃ A cap, e = .returned (.slice A 0 cap) ∧ Only [] W w') := fun W hW => (mStarts W b _ O hW).mono fun e w' ⟨A, cap, e1, _, _, o⟩ => ⟨A, cap, by rw [hs0] at e1; exact e1, o⟩
          clear o2 x0 x1 x2 x3 x4 hs0
          go_wp2_with fail
          refine kV.mono ?_
          rintro e u10 ⟨rfl, rfl⟩
          go_wp2_with fail
          refine kS.mono ?_
          rintro e u11 ⟨rfl, rfl⟩
          go_wp2_with fail
          refine kF.mono ?_
          rintro e u12 ⟨A1, c1, rfl, o3⟩
          have st := Lib.hid (go.out _ _ st.out o3)
          have kT := kT.out _ st.out.2.2
          clear o3 kV kS kF
          go_wp2_with fail
          refine kT.mono ?_
          rintro e u13 ⟨A2, c2, rfl, o3⟩
          have st := Lib.hid (go.out _ _ st.out o3)
          clear o3 kT
          go_wp2_with fail
          go_ret
          exact ⟨rfl, st.out.2.1.below (Nat.le_refl _) (by simp)⟩
    · obtain ⟨y, ey⟩ : ∃ y, uu % 3 = y := ⟨_, rfl⟩
      have t3 : Int.tmod uu 3 = y := by rw [Int.tmod_eq_emod_of_nonneg hu0]; exact ey
      go_upto_region 4 with fail
      have HG := Lib.hid (And.intro G1.out O1.out)
      generalize (((((W'.setCell ⟨N, 0, none⟩ (.int .i64 m1)).setCell ⟨N, 1, none⟩ (.int .i64 m2)).setCell ⟨N, 2, none⟩ (.int .i64 m3)).setCell ⟨N, 3, none⟩ (.int .i64 m4)).setCell ⟨N, 4, none⟩ (.int .u64 uu)) = V0 at *
      clear G1 O1 HW x0 x1 x2 x3 x4 f0 f1 f2 f3 f4 t2
      obtain ⟨x0, x1, x2, x3, x4⟩ := HG.out.1.c
      simp only at x0 x1 x2 x3 x4
      have f4 := HG.out.1.fr 4
      go_wp2_with fail
      have oo : Only [N] V0 (V0.setCell ⟨N, 4, none⟩ (.int .u64 y)) := (Only.refl [N] V0).setCell (by simp) _
      have HG := Lib.hid (And.intro (HG.out.1.set4 y) (HG.out.2.trans oo (fun k hk => .inr (by simp at hk; subst hk; exact HN.out))))
      clear oo
      generalize V0.setCell ⟨N, 4, none⟩ (.int .u64 y) = V at *
      clear ey t3 x0 x1 x2 x3 x4 f4
      rcases hR : rightB (⟨m1, m2, m3, m4, y⟩ : Cf) with _ | _
      · have kN := Lib.hid (fun W => mNewBad (⟨m1, m2, m3, m4, y⟩ : Cf) hR W)
        have kA := Lib.hid (fun W => mRightB (⟨m1, m2, m3, m4, y⟩ : Cf) W)
        have kB := Lib.hid (fun W => zRight (⟨m1, m2, m3, m4, y⟩ : Cf) W)
        rw [hR] at kA kB
        clear hR
        refine (kN.out _).mono ?_
        rintro e v1 ⟨rfl, o1⟩
        have H1 := Lib.hid (And.intro (HG.out.1.only0 o1) (HG.out.2.trans' o1))
        obtain ⟨x0, x1, x2, x3, x4⟩ := H1.out.1.c
        simp only at x0 x1 x2 x3 x4
        have st : Hid (GBox v1.drew N (⟨m1, m2, m3, m4, y⟩ : Cf) ∧ Only [] w v1.drew) := ⟨H1.out.1.only0 (Only.refl [] v1).drew, H1.out.2.drew⟩
        have cells : Hid (∀ V, GBox V N (⟨m1, m2, m3, m4, y⟩ : Cf) ∧ Only [] w V → V.cell? ⟨N, 0, none⟩ = some (.int .i64 m1) ∧ V.cell? ⟨N, 1, none⟩ = some (.int .i64 m2) ∧ V.cell? ⟨N, 2, none⟩ = some (.int .i64 m3) ∧ V.cell? ⟨N, 3, none⟩ = some (.int .i64 m4) ∧ V.cell? ⟨N, 4, none⟩ = some (.int .u64 y)) := fun V hV => hV.1.c
        clear kN o1 HG
        go_wp2_with fail
        go_region_held3 (fun w' => w'.cell? ⟨N, 0, none⟩ = some (.int .i64 m1) ∧ w'.cell? ⟨N, 1, none⟩ = some (.int .i64 m2) ∧ w'.cell? ⟨N, 2, none⟩ = some (.int .i64 m3) ∧ w'.cell? ⟨N, 3, none⟩ = some (.int .i64 m4) ∧ w'.cell? ⟨N, 4, none⟩ = some (.int .u64 y))
          (first | (exact cells.out _ st.out) | go_keep)
          (first
            | (go_at_call 7; refine (mAwake _).mono ?_; rintro e u ⟨rfl, o2⟩; have st := Lib.hid (And.intro (st.out.1.only0 o2) (st.out.2.trans' o2)); clear o2)
            | (go_at_call 8; refine (kA.out _).mono ?_; rintro e u ⟨rfl, o2⟩; have st := Lib.hid (And.intro (st.out.1.only0 o2) (st.out.2.trans' o2)); clear o2)
            | (go_at_call 9; refine (kB.out _).mono ?_; rintro e u ⟨rfl, o2⟩; have st := Lib.hid (And.intro (st.out.1.only0 o2) (st.out.2.trans' o2)); clear o2))
        all_goals
          obtain ⟨x0, x1, x2, x3, x4⟩ := st.out.1.c
          simp only at x0 x1 x2 x3 x4
          go_wp2_with fail
          refine (kB.out _).mono ?_
          rintro e u9 ⟨rfl, o2⟩
          have HO := Lib.hid (st.out.2.trans' o2)
          clear o2
          go_wp2_with fail
          go_ret
          exact ⟨rfl, HO.out.below (Nat.le_refl _) (by simp)⟩
      · have kN := Lib.hid (fun W => mNew (⟨m1, m2, m3, m4, y⟩ : Cf) ((rightB_iff (⟨m1, m2, m3, m4, y⟩ : Cf)).1 hR) W)
        have kA := Lib.hid (fun W => mRightB (⟨m1, m2, m3, m4, y⟩ : Cf) W)
        have kB := Lib.hid (fun W => zRight (⟨m1, m2, m3, m4, y⟩ : Cf) W)
        rw [hR] at kA kB
        clear hR
        refine (kN.out _).mono ?_
        rintro e v1 ⟨b, rfl, O, hM, o1, _⟩
        have H1 := Lib.hid (And.intro (HG.out.1.only0 o1) (And.intro (HG.out.2.trans' o1) hM))
        obtain ⟨x0, x1, x2, x3, x4⟩ := H1.out.1.c
        simp only at x0 x1 x2 x3 x4
        have st : Hid (GBox v1.drew N (⟨m1, m2, m3, m4, y⟩ : Cf) ∧ Only [] w v1.drew ∧ MdOf b ⟨(⟨m1, m2, m3, m4, y⟩ : Cf), Sq.new, 0⟩ v1.drew O) := ⟨H1.out.1.only0 (Only.refl [] v1).drew, H1.out.2.1.drew, (rep_md b _).only hM (Only.refl [] v1).drew (by simp)⟩
        have cells : Hid (∀ V, GBox V N (⟨m1, m2, m3, m4, y⟩ : Cf) ∧ Only [] w V ∧ MdOf b ⟨(⟨m1, m2, m3, m4, y⟩ : Cf), Sq.new, 0⟩ V O → V.cell? ⟨N, 0, none⟩ = some (.int .i64 m1) ∧ V.cell? ⟨N, 1, none⟩ = some (.int .i64 m2) ∧ V.cell? ⟨N, 2, none⟩ = some (.int .i64 m3) ∧ V.cell? ⟨N, 3, none⟩ = some (.int .i64 m4) ∧ V.cell? ⟨N, 4, none⟩ = some (.int .u64 y)) := fun V hV => hV.1.c
        have go : Hid (∀ V U, GBox V N (⟨m1, m2, m3, m4, y⟩ : Cf) ∧ Only [] w V ∧ MdOf b ⟨(⟨m1, m2, m3, m4, y⟩ : Cf), Sq.new, 0⟩ V O → Only [] V U → GBox U N (⟨m1, m2, m3, m4, y⟩ : Cf) ∧ Only [] w U ∧ MdOf b ⟨(⟨m1, m2, m3, m4, y⟩ : Cf), Sq.new, 0⟩ U O) := fun V U h o => ⟨h.1.only0 o, h.2.1.trans' o, (rep_md b _).only h.2.2 o (by simp)⟩
        clear kN o1 HG hM H1
        go_wp2_with fail
        go_region_held3 (fun w' => w'.cell? ⟨N, 0, none⟩ = some (.int .i64 m1) ∧ w'.cell? ⟨N, 1, none⟩ = some (.int .i64 m2) ∧ w'.cell? ⟨N, 2, none⟩ = some (.int .i64 m3) ∧ w'.cell? ⟨N, 3, none⟩ = some (.int .i64 m4) ∧ w'.cell? ⟨N, 4, none⟩ = some (.int .u64 y))
          (first | (exact cells.out _ st.out) | go_keep)
          (first
            | (go_at_call 7; refine (mAwake _).mono ?_; rintro e u ⟨rfl, o2⟩; have st := Lib.hid (go.out _ _ st.out o2); clear o2)
            | (go_at_call 8; refine (kA.out _).mono ?_; rintro e u ⟨rfl, o2⟩; have st := Lib.hid (go.out _ _ st.out o2); clear o2)
            | (go_at_call 9; refine (kB.out _).mono ?_; rintro e u ⟨rfl, o2⟩; have st := Lib.hid (go.out _ _ st.out o2); clear o2))
        all_goals
          obtain ⟨x0, x1, x2, x3, x4⟩ := st.out.1.c
          simp only at x0 x1 x2 x3 x4
          go_wp2_with fail
          refine (kB.out _).mono ?_
          rintro e u9 ⟨rfl, o2⟩
          have st := Lib.hid (go.out _ _ st.out o2)
          have kV : Calls Try.prog 10 #[.pointer (some ⟨b, 0, none⟩)] u9 fun e w' => e = .returned (.int .u64 0) ∧ w' = u9 := mV u9 b _ O st.out.2.2
          have kS : Calls Try.prog 11 #[.pointer (some ⟨b, 0, none⟩)] u9 fun e w' => e = .returned (.int .i64 0) ∧ w' = u9 := mServed u9 b _ O st.out.2.2
          have kF : Calls Try.prog 12 #[.pointer (some ⟨b, 0, none⟩)] u9 fun e w' => ∃ A cap, e = .returned (.slice A 0 cap) ∧ Only [] u9 w' := (mFlows u9 b _ O st.out.2.2).mono fun e w' ⟨A, cap, e1, _, _, o⟩ => ⟨A, cap, e1, o⟩
          have hs0 : startsK (⟨(⟨m1, m2, m3, m4, y⟩ : Cf), Sq.new, 0⟩ : Md).S.l = [] := by show startsK [] = []; decide
          have kT : Hid (∀ W, MdOf b ⟨(⟨m1, m2, m3, m4, y⟩ : Cf), Sq.new, 0⟩ W O → Calls Try.prog 13 #[.pointer (some ⟨b, 0, none⟩)] W fun e w' => ∃ A cap, e = .returned (.slice A 0 cap) ∧ Only [] W w') := fun W hW => (mStarts W b _ O hW).mono fun e w' ⟨A, cap, e1, _, _, o⟩ => ⟨A, cap, by rw [hs0] at e1; exact e1, o⟩
          clear o2 x0 x1 x2 x3 x4 hs0
          go_wp2_with fail
          refine kV.mono ?_
          rintro e u10 ⟨rfl, rfl⟩
          go_wp2_with fail
          refine kS.mono ?_
          rintro e u11 ⟨rfl, rfl⟩
          go_wp2_with fail
          refine kF.mono ?_
          rintro e u12 ⟨A1, c1, rfl, o3⟩
          have st := Lib.hid (go.out _ _ st.out o3)
          have kT := kT.out _ st.out.2.2
          clear o3 kV kS kF
          go_wp2_with fail
          refine kT.mono ?_
          rintro e u13 ⟨A2, c2, rfl, o3⟩
          have st := Lib.hid (go.out _ _ st.out o3)
          clear o3 kT
          go_wp2_with fail
          go_ret
          exact ⟨rfl, st.out.2.1.below (Nat.le_refl _) (by simp)⟩

/-! ### The step from the walk to the statement -/
set_option maxRecDepth 100000 in
theorem lifted (os : Os) (started : os.Started) (H : Type) (enc : TypeId × Value → H) :
    ReturnsInHanded {} Try.checked os 3 .any (Rows.modelRightSpec.pre6 enc Try.prog Try.f3 Rows.modelRightRow.domain false) (Rows.modelRightSpec.post enc Try.prog Try.f3 false true false false) := by
  refine returnsInHanded_of_change (C := Try.checked) own started (by kernel_rfl) Try.func3
    (ChangeSpec.witness6 (enc := enc) (C := Try.checked) false ⟨#[], #[.agg #[.int .i64 0, .int .i64 0, .int .i64 0, .int .i64 0, .int .u64 0], .bool false], []⟩ 8 (by kernel_rfl) (by kernel_rfl) (by kernel_rfl) (by kernel_rfl)) ?_
  intro W base args ds gs before hval0 hW hcnd _
  have hval : ∀ (j : Nat) t v, Try.f3.params[j]? = some t → args[j]? = some v → Value.okWide Try.prog W .any base t v := hval0
  have hW' := hW
  obtain ⟨p, q, hA0, hV, rfl, hfz, hnd⟩ := hW
  have hA : DataW.TrodAll enc Try.prog W 0 (fun _ => true) true Try.f3.params.toList args.toList ds p := hA0
  rw [Try.params3] at hA hval
  obtain ⟨v0, vs0, d0, ds0, p0, q0, hargs, rfl, rfl, h0, r0⟩ := trodAll_cons hA
  obtain ⟨v1, vs1, d1, ds1, p1, q1, rfl, rfl, rfl, h1, r1⟩ := trodAll_cons r0
  obtain ⟨rfl, rfl, rfl⟩ := trodAll_nil r1
  obtain rfl : args = #[v0, v1] := by cases args; simp_all
  obtain ⟨rfl, rfl⟩ := trodVars_none hV
  obtain ⟨sh0, sl0, wk0, wd0, un0, rfl, rfl, rfl, wsh0, wsl0, wwk0, wwd0, wun0⟩ := open_cf (hval 0 24 v0 rfl rfl) h0
  obtain ⟨a1, rfl, rfl, rfl⟩ := open_bool Try.underlying4 (hval 1 4 v1 rfl rfl) h1
  clear hA0 hval0
  refine (walk sh0 sl0 wk0 wd0 un0 a1 W wsh0 wsl0 wwk0 wwd0 wun0).mono fun e W' ⟨he, bel⟩ => ?_
  subst he
  exact ⟨_, rfl, _, _, _, [], _, [], hW', trodAll_mk1 (shut_bool Try.underlying4 _), (trodAll_cons_mk (reads_cf wsh0 wsl0 wwk0 wwd0 wun0 _ _ _) (trodAll_cons_mk (shut_bool Try.underlying4 _) trodAll_mk0)), rfl, bel.frame _, fun h => by cases h⟩

theorem over : Rows.modelRightRow.holds Try.pinned (OpenSpec.ofChange Rows.modelRightSpec) :=
  OpenClaim.holds_of_wide 3 Try.f3 rfl rfl rfl rfl rfl rfl rfl ⟨rfl, rfl, rfl, rfl, rfl⟩ rfl rfl rfl rfl rfl (by kernel_rfl) Try.func3 (by kernel_rfl)
    (of_decide_eq_true (by kernel_rfl)) (by unfold Func.isWrapper; first | (rw [if_pos (by decide +kernel)]; kernel_rfl) | (rw [if_neg (by decide +kernel)]; exact ⟨rfl, rfl⟩))
    (fun os started H enc _ => lifted os started H enc)

/-- The statement. -/
theorem proved : Rows.ModelRightSaid := over
#print axioms proved
end Go.Proofs.Ytklolepmmabijaa.modelRight
