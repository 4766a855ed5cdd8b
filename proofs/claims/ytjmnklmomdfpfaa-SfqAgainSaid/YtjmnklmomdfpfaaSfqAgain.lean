/-
  weighbridgelaw10.SfqAgain returns true for every input, and leaves its arguments as they were. No condition but that the arguments are values of their types.
-/
import Derived.Test.YtjmnklmomdfpfaaRows
import Derived.Test.YtjmnklmomdfpfaaSfqA
import Derived.WalkKit
import Derived.ProofKit
import Derived.OpenShut
import Derived.ChangeOld
import Derived.Below
namespace Go.Proofs.Ytjmnklmomdfpfaa.sfqAgain
open Go.ChangeShapes Go.WideShapes Go.ChangeAt Go.RowKit
set_option linter.unusedVariables false
set_option linter.unusedSimpArgs false

theorem cost_is {sz r c : Int} (h1 : 1 ≤ sz) (h2 : sz ≤ 500) (h3 : 1 ≤ r) (h4 : r ≤ 1000) (hc : sz * r = c) : costM sz r = c ∧ 1 ≤ c ∧ c ≤ 500000 := by
  have h5 : sz * r ≤ 500 * 1000 := mul_le (by omega) h2 (by omega) h4
  have h6 : 1 * 1 ≤ sz * r := mul_le (by omega) h1 (by omega) h3
  refine ⟨?_, by omega, by omega⟩
  have hz : sizeM sz = sz := by unfold sizeM; rw [if_neg (by omega)]
  unfold costM mulM
  rw [hz, if_pos (by omega)]
  exact hc
set_option maxRecDepth 100000 in
set_option maxHeartbeats 8000000 in
theorem walk (a0 : Int) (a1 : Int) (a2 : Int) (w : World) (w0 : (Lit.int .u64 a0).wf = true) (w1 : (Lit.int .i64 a1).wf = true) (w2 : (Lit.int .i64 a2).wf = true) :
    Calls Try.prog 8 #[.int .u64 a0, .int .i64 a1, .int .i64 a2] w fun e w' => e = .returned (.bool true) ∧ Below w.heap.size w w' := by
  obtain ⟨u0, u1⟩ := U64.of_wf w0
  clear w0 w1 w2
  obtain ⟨r, hr⟩ : ∃ r, 1 + a0 % 1000 = r := ⟨_, rfl⟩
  have hr1 : 1 ≤ r := by omega
  have hr2 : r ≤ 1000 := by omega
  obtain ⟨b1, b2⟩ := modI_lt a1 (n := 5) (by decide)
  obtain ⟨b3, b4⟩ := modI_lt a2 (n := 500) (by decide)
  have md1 := fun w => sMod a1 5 (by decide) (by decide) w
  have md2 := fun w => sMod a2 500 (by decide) (by decide) w
  generalize modI a1 5 = q1 at *
  generalize modI a2 500 = q2 at *
  obtain ⟨n, hn⟩ : ∃ n : Nat, 1 + q1 = (n : Int) := ⟨(1 + q1).toNat, by omega⟩
  obtain ⟨sz, hsz⟩ : ∃ sz, 1 + q2 = sz := ⟨_, rfl⟩
  have n1 : 1 ≤ n := by omega
  have n5 : n ≤ 5 := by omega
  have s1 : 1 ≤ sz := by omega
  have s2 : sz ≤ 500 := by omega
  obtain ⟨c, hc⟩ : ∃ c, sz * r = c := ⟨_, rfl⟩
  obtain ⟨hcost, hc1, hc2⟩ := cost_is s1 s2 hr1 hr2 hc
  have HC := Lib.hid hcost
  clear hcost
  have pok : Hid ((⟨1, sz, 0⟩ : Pk).ok) := ⟨i64_of (by simp), i64_of (by simp; omega), i64_of (by simp)⟩
  have pok1 : Hid ((⟨1, 1, 0⟩ : Pk).ok) := ⟨i64_of (by decide), i64_of (by decide), i64_of (by decide)⟩
  obtain ⟨g1, g2, g3⟩ := g_two r ⟨1, sz, 0⟩
  go_enter Try.func8, Try.ntmps8
  go_wp2_with fail
  refine (sNew w).mono ?_
  rintro e v1 ⟨rfl, h1, o1⟩
  have H1 := Lib.hid (q1_new h1 o1)
  clear h1 o1
  go_wp2_with fail
  refine (md1 _).mono ?_
  rintro e v1 ⟨rfl, rfl⟩
  go_wp2_with fail
  refine (md2 _).mono ?_
  rintro e v1 ⟨rfl, rfl⟩
  clear md1 md2
  go_wp2_with fail
  refine (sAwake _).mono ?_
  rintro e v2 ⟨rfl, o2⟩
  have H2 := Lib.hid (H1.out.only0 o2)
  have k1 := H2.out.add 1 r 8 (i64_of (by decide)) (by unfold U64; omega) (by decide)
  rw [g2] at k1
  clear o2 H1
  go_wp2_with fail
  refine k1.mono ?_
  rintro e v3 ⟨rfl, O3, h3⟩
  have k2 := h3.add 2 1 8 (i64_of (by decide)) (by unfold U64; decide) (by have := Sq.add_len Sq.new 1 r (room 8); have h0 : Sq.new.l.length = 0 := rfl; omega)
  rw [g3, g1] at k2
  clear h3 k1 H2
  go_wp2_with fail
  refine k2.mono ?_
  rintro e v4 ⟨rfl, O4, h4⟩
  have H4 := Lib.hid h4
  clear h4 k2 g1 g2 g3
  go_wp2_with fail
  go_loopg [8] (n + 1) (fun gk si wr => ∃ (p : Nat) (O : List Nat), si = .int .i64 (p : Int) ∧ p ≤ n ∧ n + 1 ≤ gk + p ∧ Hid (Q1 w wr w.heap.size (gS 0 0 (gF r 0 p ⟨1, sz, 0⟩)) O))
  case atStart => exact ⟨0, _, rfl, by omega, by omega, H4⟩
  case round =>
    obtain ⟨p, O, rfl, hp, hg, hQ⟩ := hrel
    clear H4
    by_cases hpl : p < n
    · have hpl' : (p : Int) < (n : Int) := by omega
      have ka := hQ.out.arr ⟨1, sz, 0⟩ pok.out
      obtain ⟨e1, e2⟩ := g_arr (r := r) (k := p) (pk := ⟨1, sz, 0⟩) rfl (by omega)
      rw [e1, e2] at ka
      clear e1 e2
      go_wp2_with fail
      refine ka.mono ?_
      rintro e u1 ⟨rfl, O1, h1⟩
      have kr := h1.rem 1
      obtain ⟨e1, e2⟩ := g_rem (v := 0) (m := 0) (r := r) (s := 0) (k := p + 1) (pk := ⟨1, sz, 0⟩) (by omega)
      rw [e1, e2] at kr
      clear e1 e2 h1 ka
      go_wp2_with fail
      refine kr.mono ?_
      rintro e u2 ⟨rfl, O2, h2⟩
      have H2 := Lib.hid h2
      clear h2 kr
      go_wp2_with fail
      go_roundg (n + 1 - (p + 1))
      case measure => omega
      case rel => exact ⟨p + 1, O2, by simp, by omega, by omega, H2⟩
    · have hpl' : ¬ ((p : Int) < (n : Int)) := by omega
      have H5 : Hid (Q1 w wr w.heap.size (gS 0 0 (gF r 0 n ⟨1, sz, 0⟩)) O) := by
        obtain rfl : p = n := by omega
        exact hQ.out
      clear hQ hg hp hpl
      go_wp2_with fail
      go_loopg [9] (n + 1) (fun gk si wq => ∃ (j : Nat) (v s : Int) (O : List Nat), si = .int .i64 (j : Int) ∧ j ≤ n ∧ n + 1 ≤ gk + j ∧ Hid (s = (j : Int) * c ∧ (j = 0 ∧ v = 0 ∨ 0 < j ∧ v = s - c)) ∧ Hid (Q1 w wq w.heap.size (gS v s (gF r s (n - j) ⟨1, sz, 0⟩)) O))
      case atStart => exact ⟨0, 0, 0, _, rfl, by omega, by omega, ⟨by simp, .inl ⟨rfl, rfl⟩⟩, H5⟩
      case round =>
        obtain ⟨j, v, s, O, rfl, hj, hgj, hv, hQ⟩ := hrel
        clear H5
        have hs0 : Hid (0 ≤ s ∧ s ≤ 5 * 500000) := by
          have h9 : (j : Int) * c ≤ 5 * 500000 := mul_le (by omega) (by omega) (by omega) hc2
          have h8 : 0 ≤ (j : Int) * c := Int.mul_nonneg (by omega) (by omega)
          exact ⟨by rw [hv.out.1]; exact h8, by rw [hv.out.1]; exact h9⟩
        by_cases hjl : j < n
        · have hjl' : (j : Int) < (n : Int) := by omega
          have ks := hQ.out.srv
          have ej : n - j = (n - (j + 1)) + 1 := by omega
          obtain ⟨e1, e2⟩ := g_srv (v := v) (m := s) (r := r) (s := s) (k := n - (j + 1)) (pk := ⟨1, sz, 0⟩) (c := c) (by
            show addM s (costM sz r) = s + c
            rw [HC.out]
            unfold addM
            rw [if_pos (by have := hs0.out; omega)])
          rw [ej, e1, e2, show max s (s + c) = s + c by omega] at ks
          generalize (gS v s (gF r s (n - (j + 1) + 1) ⟨1, sz, 0⟩)).hd = hdp at ks
          clear e1 e2 ej
          go_wp2_with fail
          refine ks.mono ?_
          rintro e u1 ⟨rfl, O1, h1⟩
          have H1 := Lib.hid (h1.only0 ((Only.refl [] u1).alloc (.cells #[.int .i64 hdp.f, .int .i64 hdp.l, .int .i64 hdp.m] 34)))
          clear h1 ks
          go_wp2_with fail
          go_roundg (n + 1 - (j + 1))
          case measure => omega
          case rel => exact ⟨j + 1, s, s + c, O1, by simp, by omega, by omega, ⟨by rw [hv.out.1]; simp [Int.add_mul], .inr ⟨by omega, by omega⟩⟩, H1⟩
        · have hjl' : ¬ ((j : Int) < (n : Int)) := by omega
          obtain ⟨H6, hvs⟩ : Hid (Q1 w wr w.heap.size (gS v s (gF r s 0 ⟨1, sz, 0⟩)) O) ∧ Hid (s = (n : Int) * c ∧ v = s - c ∧ 0 ≤ v ∧ v ≤ 5 * 500000) := by
            obtain rfl : j = n := by omega
            have hq := hQ.out
            rw [Nat.sub_self] at hq
            obtain ⟨y1, y2⟩ := hv.out
            have y3 : v = s - c := by omega
            have y4 : (1 : Int) * c ≤ (j : Int) * c := mul_le (by omega) (by omega) (by omega) (Int.le_refl _)
            exact ⟨hq, y1, y3, by omega, by have := hs0.out; omega⟩
          clear hQ hv hgj hj hjl
          obtain ⟨x1, x2, x3, x4, x5, x6, x7⟩ := g_end (v := v) (m := s) (r := r) (s := s) (pk := ⟨1, sz, 0⟩)
          obtain ⟨y1, y2, y3, y4⟩ := g_anew (v := v) (m := s) hvs.out.2.2.1
          have kv := sV wr _ _ _ H6.out.of_
          have km := sMost wr _ _ _ H6.out.of_
          change Calls _ _ _ _ (fun e w' => e = .returned (.int .u64 v) ∧ w' = wr) at kv
          change Calls _ _ _ _ (fun e w' => e = .returned (.int .u64 s) ∧ w' = wr) at km
          go_wp2_with (first
            | (go_at_call 15; refine kv.mono ?_; rintro e u0 ⟨rfl, rfl⟩)
            | (go_at_call 16; refine km.mono ?_; rintro e u0 ⟨rfl, rfl⟩))
          clear kv km
          have k1 := H6.out.rem 1
          rw [x1, x2] at k1
          refine k1.mono ?_
          rintro e t1 ⟨rfl, O1, h1⟩
          have k2 := h1.rem 1
          rw [x3, x4] at k2
          clear k1 h1 x1 x2
          go_wp2_with fail
          refine k2.mono ?_
          rintro e t2 ⟨rfl, O2, h2⟩
          have k3 := h2.arr ⟨1, 1, 0⟩ pok1.out
          rw [x5, x6] at k3
          clear k2 h2 x3 x4
          go_wp2_with fail
          refine k3.mono ?_
          rintro e t3 ⟨rfl, O3, h3⟩
          have k4 := h3.add 1 1 1 (i64_of (by decide)) (by unfold U64; decide) (by simp [gE])
          rw [x7] at k4
          clear k3 h3 x5 x6 x7
          go_wp2_with fail
          refine k4.mono ?_
          rintro e t4 ⟨rfl, O4, h4⟩
          have k5 := h4.arr ⟨1, 1, 0⟩ pok1.out
          rw [y1] at k5
          clear k4 h4 y1
          go_wp2_with fail
          refine k5.mono ?_
          rintro e t5 ⟨rfl, O5, h5⟩
          have k6 := sStarts t5 _ _ _ h5.of_
          rw [y2] at k6
          have H7 := Lib.hid h5
          clear k5 h5 y4
          generalize ((gE v s).add 1 1 (room 1)).arr ⟨1, 1, 0⟩ = SS at *
          go_wp2_with fail
          refine k6.mono ?_
          rintro e t6 ⟨A6, cap6, rfl, r6, f6, o6⟩
          obtain ⟨g, cap', e9, -, -, -, -, hcell⟩ := r6.at_ (by simp)
          injection e9 with e9 e10 e11
          subst e9
          clear e10 e11
          obtain ⟨z0, z1, -, -⟩ := hcell 0 (by simp)
          simp only [gOf, List.getD_cons_zero, Nat.zero_mul, Nat.zero_add] at z0 z1
          have km := sMost t6 _ _ _ (H7.out.of_.only0 o6)
          rw [y3] at km
          have H8 := Lib.hid (H7.out.only0 o6)
          have hgd := item_guard
          have heq := item_eql ⟨v, 1⟩ ⟨v, 1⟩
          simp only [decide_true] at heq
          obtain ⟨h20, h21, h22, h23⟩ := hvs.out
          obtain ⟨nz, hnz⟩ : ∃ nz, (n : Int) * sz = nz := ⟨_, rfl⟩
          have bnz : 0 ≤ nz ∧ nz ≤ 5 * 500 := ⟨by rw [← hnz]; exact Int.mul_nonneg (by omega) (by omega), by rw [← hnz]; exact mul_le (by omega) (by omega) (by omega) s2⟩
          have hnr : nz * r = s := by rw [← hnz, h20, ← hc, Int.mul_assoc]
          have wnz : IntKind.u64.wrap ((n : Int) * sz) = nz := by rw [hnz, IntKind.wrap_u64]; omega
          have wnr : IntKind.u64.wrap (nz * r) = s := by rw [hnr, IntKind.wrap_u64]; omega
          have wc : IntKind.u64.wrap (sz * r) = c := by rw [hc, IntKind.wrap_u64]; omega
          have wv : IntKind.u64.wrap (s - c) = v := by rw [IntKind.wrap_u64]; omega
          have hvv : s - c = v := by omega
          clear h20 h21 k6 hcell r6 f6 o6 y2 y3
          go_wp2_with (first
            | (go_at_call 16; refine km.mono ?_; rintro e t6 ⟨rfl, rfl⟩))
          go_ret
          exact ⟨rfl, H8.out.only.below (Nat.le_refl _) (by simp)⟩

/-! ### The step from the walk to the statement -/
set_option maxRecDepth 100000 in
theorem lifted (os : Os) (started : os.Started) (H : Type) (enc : TypeId × Value → H) :
    ReturnsInHanded {} Try.checked os 8 .any (Rows.sfqAgainSpec.pre6 enc Try.prog Try.f8 Rows.sfqAgainRow.domain false) (Rows.sfqAgainSpec.post enc Try.prog Try.f8 false true false false) := by
  refine returnsInHanded_of_change (C := Try.checked) own started (by kernel_rfl) Try.func8
    (ChangeSpec.witness6 (enc := enc) (C := Try.checked) false ⟨#[], #[.int .u64 0, .int .i64 0, .int .i64 0], []⟩ 8 (by kernel_rfl) (by kernel_rfl) (by kernel_rfl) (by kernel_rfl)) ?_
  intro W base args ds gs before hval0 hW hcnd _
  have hval : ∀ (j : Nat) t v, Try.f8.params[j]? = some t → args[j]? = some v → Value.okWide Try.prog W .any base t v := hval0
  have hW' := hW
  obtain ⟨p, q, hA0, hV, rfl, hfz, hnd⟩ := hW
  have hA : DataW.TrodAll enc Try.prog W 0 (fun _ => true) true Try.f8.params.toList args.toList ds p := hA0
  rw [Try.params8] at hA hval
  obtain ⟨v0, vs0, d0, ds0, p0, q0, hargs, rfl, rfl, h0, r0⟩ := trodAll_cons hA
  obtain ⟨v1, vs1, d1, ds1, p1, q1, rfl, rfl, rfl, h1, r1⟩ := trodAll_cons r0
  obtain ⟨v2, vs2, d2, ds2, p2, q2, rfl, rfl, rfl, h2, r2⟩ := trodAll_cons r1
  obtain ⟨rfl, rfl, rfl⟩ := trodAll_nil r2
  obtain rfl : args = #[v0, v1, v2] := by cases args; simp_all
  obtain ⟨rfl, rfl⟩ := trodVars_none hV
  obtain ⟨a0, rfl, rfl, rfl, w0⟩ := open_int Try.underlying27 (hval 0 27 v0 rfl rfl) h0
  obtain ⟨a1, rfl, rfl, rfl, w1⟩ := open_int Try.underlying3 (hval 1 3 v1 rfl rfl) h1
  obtain ⟨a2, rfl, rfl, rfl, w2⟩ := open_int Try.underlying3 (hval 2 3 v2 rfl rfl) h2
  clear hA0 hval0
  refine (walk a0 a1 a2 W w0 w1 w2).mono fun e W' ⟨he, bel⟩ => ?_
  subst he
  exact ⟨_, rfl, _, _, _, [], _, [], hW', trodAll_mk1 (shut_bool Try.underlying4 _), (trodAll_cons_mk (shut_int Try.underlying27 w0) (trodAll_cons_mk (shut_int Try.underlying3 w1) (trodAll_cons_mk (shut_int Try.underlying3 w2) trodAll_mk0))), rfl, bel.frame _, fun h => by cases h⟩

theorem over : Rows.sfqAgainRow.holds Try.pinned (OpenSpec.ofChange Rows.sfqAgainSpec) :=
  OpenClaim.holds_of_wide 8 Try.f8 rfl rfl rfl rfl rfl rfl rfl ⟨rfl, rfl, rfl, rfl, rfl⟩ rfl rfl rfl rfl rfl (by kernel_rfl) Try.func8 (by kernel_rfl)
    (of_decide_eq_true (by kernel_rfl)) (by unfold Func.isWrapper; first | (rw [if_pos (by decide +kernel)]; kernel_rfl) | (rw [if_neg (by decide +kernel)]; exact ⟨rfl, rfl⟩))
    (fun os started H enc _ => lifted os started H enc)

/-- The statement. -/
theorem proved : Rows.SfqAgainSaid := over
#print axioms proved
end Go.Proofs.Ytjmnklmomdfpfaa.sfqAgain
