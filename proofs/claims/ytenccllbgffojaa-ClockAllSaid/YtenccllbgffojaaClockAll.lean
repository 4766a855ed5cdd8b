/-
  weighbridgelaw12.ClockAll returns true for every input, and leaves its arguments as they were. No condition but that the arguments are values of their types.
-/
import Derived.Test.YtenccllbgffojaaRows
import Derived.Test.YtenccllbgffojaaClkL
import Derived.WalkKit
import Derived.ProofKit
import Derived.OpenShut
import Derived.ChangeOld
import Derived.Below
namespace Go.Proofs.Ytenccllbgffojaa.clockAll
open Go.ChangeShapes Go.WideShapes Go.ChangeAt Go.RowKit
set_option linter.unusedVariables false
set_option linter.unusedSimpArgs false

set_option maxRecDepth 100000 in
set_option maxHeartbeats 4000000 in
theorem walk (a0 : Option Addr) (len0 cap0 : Nat) (z0 : Nat → Int) (a1 : Option Addr) (len1 cap1 : Nat) (z1 : Nat → Int) (a2 : Int) (w : World) (w0 : InNums .i64 w a0 len0 z0) (w1 : InNums .i64 w a1 len1 z1) (w2 : (Lit.int .i64 a2).wf = true) :
    Calls Try.prog 3 #[.slice a0 len0 cap0, .slice a1 len1 cap1, .int .i64 a2] w fun e w' => e = .returned (.bool true) ∧ Below w.heap.size w w' := by
  obtain ⟨m0, hm0⟩ : ∃ m, (nearM z0 len0).length = m := ⟨_, rfl⟩
  have s0 : m0 ≤ 70 := by have := nearM_len z0 len0; omega
  have N0 := Lib.hid (fun (W : World) (o : Only [] w W) => ckNear (c := cap0) (w0.only0 o) hm0)
  have I0 := Lib.hid (nearM_ints w0)
  obtain ⟨m1, hm1⟩ : ∃ m, (nearM z1 len1).length = m := ⟨_, rfl⟩
  have s1 : m1 ≤ 70 := by have := nearM_len z1 len1; omega
  have N1 := Lib.hid (fun (W : World) (o : Only [] w W) => ckNear (c := cap1) (w1.only0 o) hm1)
  have I1 := Lib.hid (nearM_ints w1)
  generalize nearM z0 len0 = x0 at *
  have M0 := Lib.hid hm0
  clear hm0 w0
  generalize nearM z1 len1 = x1 at *
  have M1 := Lib.hid hm1
  clear hm1 w1
  have O : Hid (Only [] w w) := Only.refl [] w
  obtain ⟨jn, hjn⟩ : ∃ r, (joinM x0 x1).length = r := ⟨_, rfl⟩
  have J := Lib.hid hjn
  clear hjn
  have q1 := modI_lt a2 (n := 5) (by decide)
  have q2 := modI_lt a2 (n := 68) (by decide)
  have md1 := Lib.hid (fun W => ckMod a2 5 (by decide) (by decide) W)
  have md2 := Lib.hid (fun W => ckMod a2 68 (by decide) (by decide) W)
  have b1 : (leqB x0 x1 == leqB x0 x1) = true := by simp
  generalize modI a2 5 = y5 at *
  generalize modI a2 68 = y68 at *
  go_enter Try.func3, Try.ntmps3
  have cf := N0.out _ O.out
  go_wp2_with fail
  refine cf.mono ?_
  clear cf
  rintro e v1 ⟨A0, c0, rfl, k0, o⟩
  have O := Lib.hid (O.out.trans' o)
  have C0 := Lib.hid k0
  clear o k0
  have cf := N1.out _ O.out
  go_wp2_with fail
  refine cf.mono ?_
  clear cf
  rintro e v2 ⟨A1, c1, rfl, k1, o⟩
  have O := Lib.hid (O.out.trans' o)
  have C0 := Lib.hid (C0.out.only0 o)
  have C1 := Lib.hid k1
  clear o k1
  have cf := md1.out v2
  go_wp2_with fail
  refine cf.mono ?_
  clear cf
  rintro e v3 ⟨rfl, o⟩
  have O := Lib.hid (O.out.trans' o)
  have C0 := Lib.hid (C0.out.only0 o)
  have C1 := Lib.hid (C1.out.only0 o)
  clear o
  by_cases h5 : 0 < y5
  · obtain ⟨i, hi⟩ : ∃ i, y68 - 2 = i := ⟨_, rfl⟩
    have cf := md2.out v3
    go_wp2_with fail
    refine cf.mono ?_
    clear cf
    rintro e v4 ⟨rfl, o⟩
    have O := Lib.hid (O.out.trans' o)
    have C0 := Lib.hid (C0.out.only0 o)
    have C1 := Lib.hid (C1.out.only0 o)
    clear o
    clear md1 md2
    have eqA : (atM x0 (i) == atM x0 (i)) = true := by simp
    have eqC : (cmpM x0 x1 == cmpM x0 x1) = true := by simp
    obtain ⟨tn, htn⟩ : ∃ r, (tickM x0 (i)).length = r := ⟨_, rfl⟩
    have TB := Lib.hid (show tn ≤ 90000 from by have := tickM_short x0 (i); have := M0.out; omega)
    have TN := Lib.hid htn
    clear htn
    have cf := cAwake v4
    go_wp2_with fail
    refine cf.mono ?_
    clear cf
    rintro e v5 ⟨rfl, o⟩
    have O := Lib.hid (O.out.trans' o)
    have C0 := Lib.hid (C0.out.only0 o)
    have C1 := Lib.hid (C1.out.only0 o)
    clear o
    have cf := C0.out.at_ (i)
    go_wp2_with fail
    refine cf.mono ?_
    clear cf
    rintro e v6 ⟨rfl, o⟩
    have O := Lib.hid (O.out.trans' o)
    have C0 := Lib.hid (C0.out.only0 o)
    have C1 := Lib.hid (C1.out.only0 o)
    clear o
    have cf := C0.out.rat (i)
    go_wp2_with fail
    refine cf.mono ?_
    clear cf
    rintro e v7 ⟨rfl, o⟩
    have O := Lib.hid (O.out.trans' o)
    have C0 := Lib.hid (C0.out.only0 o)
    have C1 := Lib.hid (C1.out.only0 o)
    clear o
    have cf := C0.out.tick (i) TN.out TB.out
    go_wp2_with fail
    refine cf.mono ?_
    clear cf
    rintro e v8 ⟨At, ct, rfl, kt, o⟩
    have O := Lib.hid (O.out.trans' o)
    have C0 := Lib.hid (C0.out.only0 o)
    have C1 := Lib.hid (C1.out.only0 o)
    have Ct := Lib.hid kt
    clear o kt
    have cf := C0.out.rtick (i) TN.out TB.out
    go_wp2_with fail
    refine cf.mono ?_
    clear cf
    rintro e v9 ⟨Au, cu, rfl, ku, o⟩
    have O := Lib.hid (O.out.trans' o)
    have C0 := Lib.hid (C0.out.only0 o)
    have C1 := Lib.hid (C1.out.only0 o)
    have Ct := Lib.hid (Ct.out.only0 o)
    have Cu := Lib.hid ku
    clear o ku
    have cf := Ct.out.plain Cu.out
    go_wp2_with fail
    refine cf.mono ?_
    clear cf
    rintro e v10 ⟨rfl, o⟩
    have O := Lib.hid (O.out.trans' o)
    have C0 := Lib.hid (C0.out.only0 o)
    have C1 := Lib.hid (C1.out.only0 o)
    have Ct := Lib.hid (Ct.out.only0 o)
    have Cu := Lib.hid (Cu.out.only0 o)
    clear o
    clear Ct
    clear Cu
    have cf := C0.out.join C1.out J.out
    go_wp2_with fail
    refine cf.mono ?_
    clear cf
    rintro e v11 ⟨At, ct, rfl, kt, o⟩
    have O := Lib.hid (O.out.trans' o)
    have C0 := Lib.hid (C0.out.only0 o)
    have C1 := Lib.hid (C1.out.only0 o)
    have Ct := Lib.hid kt
    clear o kt
    have cf := C0.out.rjoin C1.out J.out
    go_wp2_with fail
    refine cf.mono ?_
    clear cf
    rintro e v12 ⟨Au, cu, rfl, ku, o⟩
    have O := Lib.hid (O.out.trans' o)
    have C0 := Lib.hid (C0.out.only0 o)
    have C1 := Lib.hid (C1.out.only0 o)
    have Ct := Lib.hid (Ct.out.only0 o)
    have Cu := Lib.hid ku
    clear o ku
    have cf := Ct.out.plain Cu.out
    go_wp2_with fail
    refine cf.mono ?_
    clear cf
    rintro e v13 ⟨rfl, o⟩
    have O := Lib.hid (O.out.trans' o)
    have C0 := Lib.hid (C0.out.only0 o)
    have C1 := Lib.hid (C1.out.only0 o)
    have Ct := Lib.hid (Ct.out.only0 o)
    have Cu := Lib.hid (Cu.out.only0 o)
    clear o
    clear Ct
    clear Cu
    have cf := C0.out.leq C1.out
    go_wp2_with fail
    refine cf.mono ?_
    clear cf
    rintro e v14 ⟨rfl, o⟩
    have O := Lib.hid (O.out.trans' o)
    have C0 := Lib.hid (C0.out.only0 o)
    have C1 := Lib.hid (C1.out.only0 o)
    clear o
    have cf := C0.out.rleq C1.out
    go_wp2_with fail
    refine cf.mono ?_
    clear cf
    rintro e v15 ⟨rfl, o⟩
    have O := Lib.hid (O.out.trans' o)
    have C0 := Lib.hid (C0.out.only0 o)
    have C1 := Lib.hid (C1.out.only0 o)
    clear o
    have cf := C0.out.cmp C1.out
    go_wp2_with fail
    refine cf.mono ?_
    clear cf
    rintro e v16 ⟨rfl, o⟩
    have O := Lib.hid (O.out.trans' o)
    have C0 := Lib.hid (C0.out.only0 o)
    have C1 := Lib.hid (C1.out.only0 o)
    clear o
    have cf := C0.out.rcmp C1.out
    go_wp2_with fail
    refine cf.mono ?_
    clear cf
    rintro e v17 ⟨rfl, o⟩
    have O := Lib.hid (O.out.trans' o)
    have C0 := Lib.hid (C0.out.only0 o)
    have C1 := Lib.hid (C1.out.only0 o)
    clear o
    go_wp2_with fail
    go_ret
    exact ⟨rfl, O.out.toBelow⟩
  · have h6 : ¬ (0 < y5) := h5
    have h7 : decide (0 < y5) = false := decide_eq_false h5
    clear md1 md2
    have eqA : (atM x0 (a2) == atM x0 (a2)) = true := by simp
    have eqC : (cmpM x0 x1 == cmpM x0 x1) = true := by simp
    obtain ⟨tn, htn⟩ : ∃ r, (tickM x0 (a2)).length = r := ⟨_, rfl⟩
    have TB := Lib.hid (show tn ≤ 90000 from by have := tickM_short x0 (a2); have := M0.out; omega)
    have TN := Lib.hid htn
    clear htn
    have cf := cAwake v3
    go_wp2_with fail
    refine cf.mono ?_
    clear cf
    rintro e v4 ⟨rfl, o⟩
    have O := Lib.hid (O.out.trans' o)
    have C0 := Lib.hid (C0.out.only0 o)
    have C1 := Lib.hid (C1.out.only0 o)
    clear o
    have cf := C0.out.at_ (a2)
    go_wp2_with fail
    refine cf.mono ?_
    clear cf
    rintro e v5 ⟨rfl, o⟩
    have O := Lib.hid (O.out.trans' o)
    have C0 := Lib.hid (C0.out.only0 o)
    have C1 := Lib.hid (C1.out.only0 o)
    clear o
    have cf := C0.out.rat (a2)
    go_wp2_with fail
    refine cf.mono ?_
    clear cf
    rintro e v6 ⟨rfl, o⟩
    have O := Lib.hid (O.out.trans' o)
    have C0 := Lib.hid (C0.out.only0 o)
    have C1 := Lib.hid (C1.out.only0 o)
    clear o
    have cf := C0.out.tick (a2) TN.out TB.out
    go_wp2_with fail
    refine cf.mono ?_
    clear cf
    rintro e v7 ⟨At, ct, rfl, kt, o⟩
    have O := Lib.hid (O.out.trans' o)
    have C0 := Lib.hid (C0.out.only0 o)
    have C1 := Lib.hid (C1.out.only0 o)
    have Ct := Lib.hid kt
    clear o kt
    have cf := C0.out.rtick (a2) TN.out TB.out
    go_wp2_with fail
    refine cf.mono ?_
    clear cf
    rintro e v8 ⟨Au, cu, rfl, ku, o⟩
    have O := Lib.hid (O.out.trans' o)
    have C0 := Lib.hid (C0.out.only0 o)
    have C1 := Lib.hid (C1.out.only0 o)
    have Ct := Lib.hid (Ct.out.only0 o)
    have Cu := Lib.hid ku
    clear o ku
    have cf := Ct.out.plain Cu.out
    go_wp2_with fail
    refine cf.mono ?_
    clear cf
    rintro e v9 ⟨rfl, o⟩
    have O := Lib.hid (O.out.trans' o)
    have C0 := Lib.hid (C0.out.only0 o)
    have C1 := Lib.hid (C1.out.only0 o)
    have Ct := Lib.hid (Ct.out.only0 o)
    have Cu := Lib.hid (Cu.out.only0 o)
    clear o
    clear Ct
    clear Cu
    have cf := C0.out.join C1.out J.out
    go_wp2_with fail
    refine cf.mono ?_
    clear cf
    rintro e v10 ⟨At, ct, rfl, kt, o⟩
    have O := Lib.hid (O.out.trans' o)
    have C0 := Lib.hid (C0.out.only0 o)
    have C1 := Lib.hid (C1.out.only0 o)
    have Ct := Lib.hid kt
    clear o kt
    have cf := C0.out.rjoin C1.out J.out
    go_wp2_with fail
    refine cf.mono ?_
    clear cf
    rintro e v11 ⟨Au, cu, rfl, ku, o⟩
    have O := Lib.hid (O.out.trans' o)
    have C0 := Lib.hid (C0.out.only0 o)
    have C1 := Lib.hid (C1.out.only0 o)
    have Ct := Lib.hid (Ct.out.only0 o)
    have Cu := Lib.hid ku
    clear o ku
    have cf := Ct.out.plain Cu.out
    go_wp2_with fail
    refine cf.mono ?_
    clear cf
    rintro e v12 ⟨rfl, o⟩
    have O := Lib.hid (O.out.trans' o)
    have C0 := Lib.hid (C0.out.only0 o)
    have C1 := Lib.hid (C1.out.only0 o)
    have Ct := Lib.hid (Ct.out.only0 o)
    have Cu := Lib.hid (Cu.out.only0 o)
    clear o
    clear Ct
    clear Cu
    have cf := C0.out.leq C1.out
    go_wp2_with fail
    refine cf.mono ?_
    clear cf
    rintro e v13 ⟨rfl, o⟩
    have O := Lib.hid (O.out.trans' o)
    have C0 := Lib.hid (C0.out.only0 o)
    have C1 := Lib.hid (C1.out.only0 o)
    clear o
    have cf := C0.out.rleq C1.out
    go_wp2_with fail
    refine cf.mono ?_
    clear cf
    rintro e v14 ⟨rfl, o⟩
    have O := Lib.hid (O.out.trans' o)
    have C0 := Lib.hid (C0.out.only0 o)
    have C1 := Lib.hid (C1.out.only0 o)
    clear o
    have cf := C0.out.cmp C1.out
    go_wp2_with fail
    refine cf.mono ?_
    clear cf
    rintro e v15 ⟨rfl, o⟩
    have O := Lib.hid (O.out.trans' o)
    have C0 := Lib.hid (C0.out.only0 o)
    have C1 := Lib.hid (C1.out.only0 o)
    clear o
    have cf := C0.out.rcmp C1.out
    go_wp2_with fail
    refine cf.mono ?_
    clear cf
    rintro e v16 ⟨rfl, o⟩
    have O := Lib.hid (O.out.trans' o)
    have C0 := Lib.hid (C0.out.only0 o)
    have C1 := Lib.hid (C1.out.only0 o)
    clear o
    go_wp2_with fail
    go_ret
    exact ⟨rfl, O.out.toBelow⟩

/-! ### The step from the walk to the statement -/
set_option maxRecDepth 100000 in
theorem lifted (os : Os) (started : os.Started) (H : Type) (enc : TypeId × Value → H) :
    ReturnsInHanded {} Try.checked os 3 .any (Rows.clockAllSpec.pre6 enc Try.prog Try.f3 Rows.clockAllRow.domain false) (Rows.clockAllSpec.post enc Try.prog Try.f3 false true false false) := by
  refine returnsInHanded_of_change (C := Try.checked) own started (by kernel_rfl) Try.func3
    (ChangeSpec.witness6 (enc := enc) (C := Try.checked) false ⟨#[], #[.slice none 0 0, .slice none 0 0, .int .i64 0], []⟩ 8 (by kernel_rfl) (by kernel_rfl) (by kernel_rfl) (by kernel_rfl)) ?_
  intro W base args ds gs before hval0 hW hcnd _
  have hval : ∀ (j : Nat) t v, Try.f3.params[j]? = some t → args[j]? = some v → Value.okWide Try.prog W .any base t v := hval0
  have hW' := hW
  obtain ⟨p, q, hA0, hV, rfl, hfz, hnd⟩ := hW
  have hA : DataW.TrodAll enc Try.prog W 0 (fun _ => true) true Try.f3.params.toList args.toList ds p := hA0
  rw [Try.params3] at hA hval
  obtain ⟨v0, vs0, d0, ds0, p0, q0, hargs, rfl, rfl, h0, r0⟩ := trodAll_cons hA
  obtain ⟨v1, vs1, d1, ds1, p1, q1, rfl, rfl, rfl, h1, r1⟩ := trodAll_cons r0
  obtain ⟨v2, vs2, d2, ds2, p2, q2, rfl, rfl, rfl, h2, r2⟩ := trodAll_cons r1
  obtain ⟨rfl, rfl, rfl⟩ := trodAll_nil r2
  obtain rfl : args = #[v0, v1, v2] := by cases args; simp_all
  obtain ⟨rfl, rfl⟩ := trodVars_none hV
  obtain ⟨a0, len0, cap0, rfl⟩ := okWide_slice Try.underlying22 (hval 0 22 v0 rfl rfl)
  have k0 := h0
  have lt0 : ∀ x ∈ p0, x.block < W.heap.size := by obtain ⟨m, hm⟩ := k0; exact DataW.trod_lt m _ _ _ hm
  obtain ⟨z0, w0⟩ : ∃ z, InNums .i64 W a0 len0 z := by
    obtain ⟨fuel, hf⟩ := h0
    exact open_numsF Try.underlying22 Try.underlying3 (by kernel_rfl) hf
  obtain ⟨a1, len1, cap1, rfl⟩ := okWide_slice Try.underlying22 (hval 1 22 v1 rfl rfl)
  have k1 := h1
  have lt1 : ∀ x ∈ p1, x.block < W.heap.size := by obtain ⟨m, hm⟩ := k1; exact DataW.trod_lt m _ _ _ hm
  obtain ⟨z1, w1⟩ : ∃ z, InNums .i64 W a1 len1 z := by
    obtain ⟨fuel, hf⟩ := h1
    exact open_numsF Try.underlying22 Try.underlying3 (by kernel_rfl) hf
  obtain ⟨a2, rfl, rfl, rfl, w2⟩ := open_int Try.underlying3 (hval 2 3 v2 rfl rfl) h2
  clear hA0 hval0
  refine (walk a0 len0 cap0 z0 a1 len1 cap1 z1 a2 W w0 w1 w2).mono fun e W' ⟨he, bel⟩ => ?_
  subst he
  exact ⟨_, rfl, _, _, _, [], _, [], hW', trodAll_mk1 (shut_bool Try.underlying4 _), (trodAll_cons_mk (Below.trod laidOut (by kernel_rfl) (of_decide_eq_true (by kernel_rfl)) k0 bel lt0) (trodAll_cons_mk (Below.trod laidOut (by kernel_rfl) (of_decide_eq_true (by kernel_rfl)) k1 bel lt1) (trodAll_cons_mk (shut_int Try.underlying3 w2) trodAll_mk0))), rfl, bel.frame _, fun h => by cases h⟩

theorem over : Rows.clockAllRow.holds Try.pinned (OpenSpec.ofChange Rows.clockAllSpec) :=
  OpenClaim.holds_of_wide 3 Try.f3 rfl rfl rfl rfl rfl rfl rfl ⟨rfl, rfl, rfl, rfl, rfl⟩ rfl rfl rfl rfl rfl (by kernel_rfl) Try.func3 (by kernel_rfl)
    (of_decide_eq_true (by kernel_rfl)) (by unfold Func.isWrapper; first | (rw [if_pos (by decide +kernel)]; kernel_rfl) | (rw [if_neg (by decide +kernel)]; exact ⟨rfl, rfl⟩))
    (fun os started H enc _ => lifted os started H enc)

/-- The statement. -/
theorem proved : Rows.ClockAllSaid := over
#print axioms proved
end Go.Proofs.Ytenccllbgffojaa.clockAll
