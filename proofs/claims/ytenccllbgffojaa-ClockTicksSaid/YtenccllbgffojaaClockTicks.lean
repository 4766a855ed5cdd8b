/-
  weighbridgelaw12.ClockTicks returns true for every input, and leaves its arguments as they were. No condition but that the arguments are values of their types.
-/
import Derived.Test.YtenccllbgffojaaRows
import Derived.Test.YtenccllbgffojaaClkL
import Derived.WalkKit
import Derived.ProofKit
import Derived.OpenShut
import Derived.ChangeOld
import Derived.Below
namespace Go.Proofs.Ytenccllbgffojaa.clockTicks
open Go.ChangeShapes Go.WideShapes Go.ChangeAt Go.RowKit
set_option linter.unusedVariables false
set_option linter.unusedSimpArgs false

set_option maxRecDepth 100000 in
set_option maxHeartbeats 4000000 in
theorem walk (a0 : Option Addr) (len0 cap0 : Nat) (z0 : Nat → Int) (a1 : Int) (a2 : Int) (w : World) (w0 : InNums .i64 w a0 len0 z0) (w1 : (Lit.int .i64 a1).wf = true) (w2 : (Lit.int .i64 a2).wf = true) :
    Calls Try.prog 6 #[.slice a0 len0 cap0, .int .i64 a1, .int .i64 a2] w fun e w' => e = .returned (.bool true) ∧ Below w.heap.size w w' := by
  obtain ⟨m0, hm0⟩ : ∃ m, (nearM z0 len0).length = m := ⟨_, rfl⟩
  have s0 : m0 ≤ 70 := by have := nearM_len z0 len0; omega
  have N0 := Lib.hid (fun (W : World) (o : Only [] w W) => ckNear (c := cap0) (w0.only0 o) hm0)
  have I0 := Lib.hid (nearM_ints w0)
  generalize nearM z0 len0 = x0 at *
  have M0 := Lib.hid hm0
  clear hm0 w0
  have O : Hid (Only [] w w) := Only.refl [] w
  have q1 := modI_lt a1 (n := 64) (by decide)
  have q2 := modI_lt a2 (n := 64) (by decide)
  have md1 := Lib.hid (fun W => ckMod a1 64 (by decide) (by decide) W)
  have md2 := Lib.hid (fun W => ckMod a2 64 (by decide) (by decide) W)
  generalize modI a1 64 = yi at *
  generalize modI a2 64 = yk at *
  obtain ⟨n, rfl⟩ := Int.eq_ofNat_of_zero_le q1.1
  obtain ⟨q, rfl⟩ := Int.eq_ofNat_of_zero_le q2.1
  have n6 : n ≤ 63 := by omega
  have q6 : q ≤ 63 := by omega
  clear q1 q2
  obtain ⟨r, hr⟩ : ∃ r, (tickM x0 (n : Int)).length = r := ⟨_, rfl⟩
  have hr2 : max m0 (n + 1) = r := by rw [← hr, tickM_len x0 n6, M0.out]
  have hmx : max (m0 : Int) ((n : Int) + 1) = (r : Int) := by omega
  have r9 : r ≤ 90000 := by omega
  have TN := Lib.hid hr
  clear hr hr2
  have g1 := Lib.hid (atM_nat x0 n)
  have g2 := Lib.hid (atM_nat x0 q)
  have g3 := Lib.hid (atM_nat (tickM x0 (n : Int)) q)
  have g4 := Lib.hid (atM_nat (tickM x0 (n : Int)) n)
  have gq := Lib.hid (gC_tick x0 n6 q)
  have gn := Lib.hid (fun h => tick_above (xs := x0) n6 h (I0.out n).1)
  have bv := I0.out n
  generalize hv : gC x0 n = v at *
  clear hv
  go_enter Try.func6, Try.ntmps6
  have cf := N0.out _ O.out
  go_wp2_with fail
  refine cf.mono ?_
  clear cf
  rintro e v1 ⟨A0, c0, rfl, k0, o⟩
  have O := Lib.hid (O.out.trans' o)
  have C0 := Lib.hid k0
  clear o k0
  have cf := md1.out v1
  go_wp2_with fail
  refine cf.mono ?_
  clear cf
  rintro e v2 ⟨rfl, o⟩
  have O := Lib.hid (O.out.trans' o)
  have C0 := Lib.hid (C0.out.only0 o)
  clear o
  have cf := md2.out v2
  go_wp2_with fail
  refine cf.mono ?_
  clear cf
  rintro e v3 ⟨rfl, o⟩
  have O := Lib.hid (O.out.trans' o)
  have C0 := Lib.hid (C0.out.only0 o)
  clear o
  clear md1 md2
  have cf := C0.out.tick (n : Int) TN.out r9
  go_wp2_with fail
  refine cf.mono ?_
  clear cf
  rintro e v4 ⟨At, ct, rfl, kt, o⟩
  have O := Lib.hid (O.out.trans' o)
  have C0 := Lib.hid (C0.out.only0 o)
  have Ct := Lib.hid kt
  clear o kt
  have cf := C0.out.at_ (n : Int)
  rw [g1.out] at cf
  go_wp2_with fail
  refine cf.mono ?_
  clear cf
  rintro e v5 ⟨rfl, o⟩
  have O := Lib.hid (O.out.trans' o)
  have C0 := Lib.hid (C0.out.only0 o)
  have Ct := Lib.hid (Ct.out.only0 o)
  clear o
  have cf := cAwake v5
  go_wp2_with fail
  refine cf.mono ?_
  clear cf
  rintro e v6 ⟨rfl, o⟩
  have O := Lib.hid (O.out.trans' o)
  have C0 := Lib.hid (C0.out.only0 o)
  have Ct := Lib.hid (Ct.out.only0 o)
  clear o
  by_cases hnq : n = q
  · have hne : ((n : Int) != (q : Int)) = false := by simp [hnq]
    clear hnq
    have cf := C0.out.tick (-1 - (n : Int)) (r := m0) (by rw [tickM_out (by omega)]; exact M0.out) (by omega)
    rw [tickM_out (by omega)] at cf
    go_wp2_with fail
    refine cf.mono ?_
    clear cf
    rintro e v7 ⟨Ap, cp, rfl, kp, o⟩
    have O := Lib.hid (O.out.trans' o)
    have C0 := Lib.hid (C0.out.only0 o)
    have Ct := Lib.hid (Ct.out.only0 o)
    have Cp := Lib.hid kp
    clear o kp
    have cf := Cp.out.plain C0.out
    go_wp2_with fail
    refine cf.mono ?_
    clear cf
    rintro e v8 ⟨rfl, o⟩
    have O := Lib.hid (O.out.trans' o)
    have C0 := Lib.hid (C0.out.only0 o)
    have Ct := Lib.hid (Ct.out.only0 o)
    have Cp := Lib.hid (Cp.out.only0 o)
    clear o
    clear Cp
    have cf := C0.out.tick (64 + (q : Int)) (r := m0) (by rw [tickM_out (by omega)]; exact M0.out) (by omega)
    rw [tickM_out (by omega)] at cf
    go_wp2_with fail
    refine cf.mono ?_
    clear cf
    rintro e v9 ⟨Ap, cp, rfl, kp, o⟩
    have O := Lib.hid (O.out.trans' o)
    have C0 := Lib.hid (C0.out.only0 o)
    have Ct := Lib.hid (Ct.out.only0 o)
    have Cp := Lib.hid kp
    clear o kp
    have cf := Cp.out.plain C0.out
    go_wp2_with fail
    refine cf.mono ?_
    clear cf
    rintro e v10 ⟨rfl, o⟩
    have O := Lib.hid (O.out.trans' o)
    have C0 := Lib.hid (C0.out.only0 o)
    have Ct := Lib.hid (Ct.out.only0 o)
    have Cp := Lib.hid (Cp.out.only0 o)
    clear o
    clear Cp
    by_cases hv : v = 9223372036854775807
    · have hv1 : (v == 9223372036854775807) = true := by simp [hv]
      clear hv bv gn
      go_wp2_with fail
      go_ret
      exact ⟨rfl, O.out.toBelow⟩
    · have hv1 : (v == 9223372036854775807) = false := by simp [hv]
      have hv2 : v < 9223372036854775807 := by omega
      obtain ⟨e1, e2⟩ := gn.out hv2
      have E1 := Lib.hid (g4.out.trans e1)
      have E2 := Lib.hid e2
      clear e1 e2 gn hv
      have cf := Ct.out.at_ (n : Int)
      rw [E1.out] at cf
      go_wp2_with fail
      refine cf.mono ?_
      clear cf
      rintro e v11 ⟨rfl, o⟩
      have O := Lib.hid (O.out.trans' o)
      have C0 := Lib.hid (C0.out.only0 o)
      have Ct := Lib.hid (Ct.out.only0 o)
      clear o
      have cf := C0.out.cmp Ct.out
      rw [E2.out] at cf
      go_wp2_with fail
      refine cf.mono ?_
      clear cf
      rintro e v12 ⟨rfl, o⟩
      have O := Lib.hid (O.out.trans' o)
      have C0 := Lib.hid (C0.out.only0 o)
      have Ct := Lib.hid (Ct.out.only0 o)
      clear o
      go_wp2_with fail
      go_ret
      exact ⟨rfl, O.out.toBelow⟩
  · have hne : ((n : Int) != (q : Int)) = true := by simp; omega
    have E3 : Hid (atM (tickM x0 (n : Int)) (q : Int) = gC x0 q) := by show _ = _; rw [g3.out, gq.out, if_neg (fun h => hnq h.symm)]
    generalize hu : gC x0 q = u at *
    clear hu
    have huu : (u != u) = false := by simp
    have cf := Ct.out.at_ (q : Int)
    rw [E3.out] at cf
    go_wp2_with fail
    refine cf.mono ?_
    clear cf
    rintro e v7 ⟨rfl, o⟩
    have O := Lib.hid (O.out.trans' o)
    have C0 := Lib.hid (C0.out.only0 o)
    have Ct := Lib.hid (Ct.out.only0 o)
    clear o
    have cf := C0.out.at_ (q : Int)
    rw [g2.out] at cf
    go_wp2_with fail
    refine cf.mono ?_
    clear cf
    rintro e v8 ⟨rfl, o⟩
    have O := Lib.hid (O.out.trans' o)
    have C0 := Lib.hid (C0.out.only0 o)
    have Ct := Lib.hid (Ct.out.only0 o)
    clear o
    have cf := C0.out.tick (-1 - (n : Int)) (r := m0) (by rw [tickM_out (by omega)]; exact M0.out) (by omega)
    rw [tickM_out (by omega)] at cf
    go_wp2_with fail
    refine cf.mono ?_
    clear cf
    rintro e v9 ⟨Ap, cp, rfl, kp, o⟩
    have O := Lib.hid (O.out.trans' o)
    have C0 := Lib.hid (C0.out.only0 o)
    have Ct := Lib.hid (Ct.out.only0 o)
    have Cp := Lib.hid kp
    clear o kp
    have cf := Cp.out.plain C0.out
    go_wp2_with fail
    refine cf.mono ?_
    clear cf
    rintro e v10 ⟨rfl, o⟩
    have O := Lib.hid (O.out.trans' o)
    have C0 := Lib.hid (C0.out.only0 o)
    have Ct := Lib.hid (Ct.out.only0 o)
    have Cp := Lib.hid (Cp.out.only0 o)
    clear o
    clear Cp
    have cf := C0.out.tick (64 + (q : Int)) (r := m0) (by rw [tickM_out (by omega)]; exact M0.out) (by omega)
    rw [tickM_out (by omega)] at cf
    go_wp2_with fail
    refine cf.mono ?_
    clear cf
    rintro e v11 ⟨Ap, cp, rfl, kp, o⟩
    have O := Lib.hid (O.out.trans' o)
    have C0 := Lib.hid (C0.out.only0 o)
    have Ct := Lib.hid (Ct.out.only0 o)
    have Cp := Lib.hid kp
    clear o kp
    have cf := Cp.out.plain C0.out
    go_wp2_with fail
    refine cf.mono ?_
    clear cf
    rintro e v12 ⟨rfl, o⟩
    have O := Lib.hid (O.out.trans' o)
    have C0 := Lib.hid (C0.out.only0 o)
    have Ct := Lib.hid (Ct.out.only0 o)
    have Cp := Lib.hid (Cp.out.only0 o)
    clear o
    clear Cp
    by_cases hv : v = 9223372036854775807
    · have hv1 : (v == 9223372036854775807) = true := by simp [hv]
      clear hv bv gn
      go_wp2_with fail
      go_ret
      exact ⟨rfl, O.out.toBelow⟩
    · have hv1 : (v == 9223372036854775807) = false := by simp [hv]
      have hv2 : v < 9223372036854775807 := by omega
      obtain ⟨e1, e2⟩ := gn.out hv2
      have E1 := Lib.hid (g4.out.trans e1)
      have E2 := Lib.hid e2
      clear e1 e2 gn hv
      have cf := Ct.out.at_ (n : Int)
      rw [E1.out] at cf
      go_wp2_with fail
      refine cf.mono ?_
      clear cf
      rintro e v13 ⟨rfl, o⟩
      have O := Lib.hid (O.out.trans' o)
      have C0 := Lib.hid (C0.out.only0 o)
      have Ct := Lib.hid (Ct.out.only0 o)
      clear o
      have cf := C0.out.cmp Ct.out
      rw [E2.out] at cf
      go_wp2_with fail
      refine cf.mono ?_
      clear cf
      rintro e v14 ⟨rfl, o⟩
      have O := Lib.hid (O.out.trans' o)
      have C0 := Lib.hid (C0.out.only0 o)
      have Ct := Lib.hid (Ct.out.only0 o)
      clear o
      go_wp2_with fail
      go_ret
      exact ⟨rfl, O.out.toBelow⟩

/-! ### The step from the walk to the statement -/
set_option maxRecDepth 100000 in
theorem lifted (os : Os) (started : os.Started) (H : Type) (enc : TypeId × Value → H) :
    ReturnsInHanded {} Try.checked os 6 .any (Rows.clockTicksSpec.pre6 enc Try.prog Try.f6 Rows.clockTicksRow.domain false) (Rows.clockTicksSpec.post enc Try.prog Try.f6 false true false false) := by
  refine returnsInHanded_of_change (C := Try.checked) own started (by kernel_rfl) Try.func6
    (ChangeSpec.witness6 (enc := enc) (C := Try.checked) false ⟨#[], #[.slice none 0 0, .int .i64 0, .int .i64 0], []⟩ 8 (by kernel_rfl) (by kernel_rfl) (by kernel_rfl) (by kernel_rfl)) ?_
  intro W base args ds gs before hval0 hW hcnd _
  have hval : ∀ (j : Nat) t v, Try.f6.params[j]? = some t → args[j]? = some v → Value.okWide Try.prog W .any base t v := hval0
  have hW' := hW
  obtain ⟨p, q, hA0, hV, rfl, hfz, hnd⟩ := hW
  have hA : DataW.TrodAll enc Try.prog W 0 (fun _ => true) true Try.f6.params.toList args.toList ds p := hA0
  rw [Try.params6] at hA hval
  obtain ⟨v0, vs0, d0, ds0, p0, q0, hargs, rfl, rfl, h0, r0⟩ := trodAll_cons hA
  obtain ⟨v1, vs1, d1, ds1, p1, q1, rfl, rfl, rfl, h1, r1⟩ := trodAll_cons r0
  obtain ⟨v2, vs2, d2, ds2, p2, q2, rfl, rfl, rfl, h2, r2⟩ := trodAll_cons r1
  obtain ⟨rfl, rfl, rfl⟩ := trodAll_nil r2
  obtain rfl : args = #[v0, v1, v2] := by cases args; simp_all
  obtain ⟨rfl, rfl⟩ := trodVars_none hV
  obtain ⟨a0, len0, cap0, rfl⟩ := okWide_slice Try.underlying22 (hval 0 22 v0 rfl rfl)
  have k0 := h0
  have lt0 : ∀ x ∈ p0, x.block < W.heap.size := by obtain ⟨m, hm⟩ := k0; exact DataW.trod_lt m _ _ _ hm
  obtain ⟨z0, w0⟩ : ∃ z, InNums .i64 W a0 len0 z := by
    obtain ⟨fuel, hf⟩ := h0
    exact open_numsF Try.underlying22 Try.underlying3 (by kernel_rfl) hf
  obtain ⟨a1, rfl, rfl, rfl, w1⟩ := open_int Try.underlying3 (hval 1 3 v1 rfl rfl) h1
  obtain ⟨a2, rfl, rfl, rfl, w2⟩ := open_int Try.underlying3 (hval 2 3 v2 rfl rfl) h2
  clear hA0 hval0
  refine (walk a0 len0 cap0 z0 a1 a2 W w0 w1 w2).mono fun e W' ⟨he, bel⟩ => ?_
  subst he
  exact ⟨_, rfl, _, _, _, [], _, [], hW', trodAll_mk1 (shut_bool Try.underlying4 _), (trodAll_cons_mk (Below.trod laidOut (by kernel_rfl) (of_decide_eq_true (by kernel_rfl)) k0 bel lt0) (trodAll_cons_mk (shut_int Try.underlying3 w1) (trodAll_cons_mk (shut_int Try.underlying3 w2) trodAll_mk0))), rfl, bel.frame _, fun h => by cases h⟩

theorem over : Rows.clockTicksRow.holds Try.pinned (OpenSpec.ofChange Rows.clockTicksSpec) :=
  OpenClaim.holds_of_wide 6 Try.f6 rfl rfl rfl rfl rfl rfl rfl ⟨rfl, rfl, rfl, rfl, rfl⟩ rfl rfl rfl rfl rfl (by kernel_rfl) Try.func6 (by kernel_rfl)
    (of_decide_eq_true (by kernel_rfl)) (by unfold Func.isWrapper; first | (rw [if_pos (by decide +kernel)]; kernel_rfl) | (rw [if_neg (by decide +kernel)]; exact ⟨rfl, rfl⟩))
    (fun os started H enc _ => lifted os started H enc)

/-- The statement. -/
theorem proved : Rows.ClockTicksSaid := over
#print axioms proved
end Go.Proofs.Ytenccllbgffojaa.clockTicks
