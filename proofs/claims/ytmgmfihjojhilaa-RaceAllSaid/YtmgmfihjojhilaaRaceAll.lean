/-
  weighbridgelaw13.RaceAll returns true for every input, and leaves its arguments as they were. No condition but that the arguments are values of their types.
-/
import Derived.Test.YtmgmfihjojhilaaRows
import Derived.Test.YtmgmfihjojhilaaRcS
import Derived.WalkKit
import Derived.ProofKit
import Derived.OpenShut
import Derived.ChangeOld
import Derived.Below
namespace Go.Proofs.Ytmgmfihjojhilaa.raceAll
open Go.ChangeShapes Go.WideShapes Go.ChangeAt Go.RowKit
set_option linter.unusedVariables false
set_option linter.unusedSimpArgs false

set_option maxRecDepth 100000 in
set_option maxHeartbeats 4000000 in
theorem walk (a0 : Option Addr) (len0 cap0 : Nat) (z0 : Nat → Ev) (a1 : Option Addr) (len1 cap1 : Nat) (z1 : Nat → Int) (w : World) (w0 : InEvs w a0 len0 z0) (w1 : InNums .i64 w a1 len1 z1) :
    Calls Try.prog 3 #[.slice a0 len0 cap0, .slice a1 len1 cap1] w fun e w' => e = .returned (.bool true) ∧ Below w.heap.size w w' := by
  have LG := Lib.hid (lLong w a0 len0 cap0 z0 a1 len1 cap1 z1 w0 w1)
  clear w0 w1
  go_enter Try.func3, Try.ntmps3
  go_wp2_with fail
  refine LG.out.mono ?_
  rintro e v1 ⟨A, m, c, rfl, hm, xs, R1⟩
  have R := Lib.hid R1
  clear LG R1
  have ML := Lib.hid R.out.len
  obtain ⟨fa, fb, fk, hF⟩ := FirstL.is xs
  have F := Lib.hid hF
  clear hF
  have k1 := Lib.hid (fun (W : World) (o : Only [] v1 W) => cFirst A m c xs W fa fb fk ML.out (by omega) (R.out.only0 o).ev R.out.lc F.out)
  have k2 := Lib.hid (fun (W : World) (o : Only [] v1 W) => rFirst A m c xs W fa fb fk ML.out (by omega) (R.out.only0 o).ev F.out)
  have k3 := Lib.hid (fun (W : World) (o : Only [] v1 W) => cRight A m c xs W ML.out (by omega) (R.out.only0 o).ev)
  have k4 := Lib.hid (fun (W : World) (o : Only [] v1 W) => rRight A m c xs W ML.out (by omega) (R.out.only0 o).ev)
  have k5 := Lib.hid (fun (W : World) (o : Only [] v1 W) => cClocksR A m c xs W ML.out (by omega) (R.out.only0 o).ev R.out.lc)
  have k6 := Lib.hid (fun (W : World) (o : Only [] v1 W) => rClocksR A m c xs W ML.out (by omega) (R.out.only0 o).ev)
  have hn : Hid (clkN xs ≤ 1000) := by have := ML.out; show _ ≤ _; unfold clkN; split <;> omega
  generalize okL xs = ok at *
  generalize clkN xs = N at *
  have O1 : Hid (Only [] v1 v1) := Only.refl [] v1
  go_wp2_with fail
  refine (k1.out v1 O1.out).mono ?_
  rintro e v2 ⟨rfl, o⟩
  have O2 := Lib.hid (O1.out.trans' o)
  clear o k1
  go_wp2_with fail
  refine (k2.out v2 O2.out).mono ?_
  rintro e v3 ⟨rfl, o⟩
  have O3 := Lib.hid (O2.out.trans' o)
  clear o k2
  go_wp2_with fail
  refine (lAwake v3).mono ?_
  rintro e v4 ⟨rfl, o⟩
  have O4 := Lib.hid (O3.out.trans' o)
  clear o
  go_wp2_with fail
  refine (k3.out v4 O4.out).mono ?_
  rintro e v5 ⟨rfl, o⟩
  have O5 := Lib.hid (O4.out.trans' o)
  clear o k3
  go_wp2_with fail
  refine (k4.out v5 O5.out).mono ?_
  rintro e v6 ⟨rfl, hv⟩
  have O6 : Hid (Only [] v1 v6) := by rw [hv]; exact O5.out
  clear hv k4
  have e1 : (ok == ok) = true := by simp
  go_wp2_with fail
  refine (k5.out v6 O6.out).mono ?_
  rintro e v7 ⟨A7, c7, rfl, r7, o⟩
  have O7 := Lib.hid (O6.out.trans' o)
  have R7 := Lib.hid r7
  clear o k5 r7
  go_wp2_with fail
  refine (k6.out v7 O7.out).mono ?_
  rintro e v8 ⟨A8, c8, rfl, r8, o⟩
  have O8 := Lib.hid (O7.out.trans' o)
  have hc := Lib.hid (hClocks v8 A7 A8 N c7 c8 (clk (evs xs)) hn.out (R7.out.only0 o) r8)
  clear o k6 r8 R7
  go_wp2_with fail
  refine hc.out.mono ?_
  rintro e v9 ⟨rfl, o⟩
  have O9 := Lib.hid (O8.out.trans' o)
  clear o hc
  have e2 : (fa == fa) = true := by simp
  have e3 : (fb == fb) = true := by simp
  have e4 : (fk == fk) = true := by simp
  go_wp2_with fail
  go_ret
  exact ⟨by simp, (R.out.only.trans' O9.out).below (Nat.le_refl _) (by simp)⟩

/-! ### The step from the walk to the statement -/
set_option maxRecDepth 100000 in
theorem lifted (os : Os) (started : os.Started) (H : Type) (enc : TypeId × Value → H) :
    ReturnsInHanded {} Try.checked os 3 .any (Rows.raceAllSpec.pre6 enc Try.prog Try.f3 Rows.raceAllRow.domain false) (Rows.raceAllSpec.post enc Try.prog Try.f3 false true false false) := by
  refine returnsInHanded_of_change (C := Try.checked) own started (by kernel_rfl) Try.func3
    (ChangeSpec.witness6 (enc := enc) (C := Try.checked) false ⟨#[], #[.slice none 0 0, .slice none 0 0], []⟩ 8 (by kernel_rfl) (by kernel_rfl) (by kernel_rfl) (by kernel_rfl)) ?_
  intro W base args ds gs before hval0 hW hcnd _
  have hval : ∀ (j : Nat) t v, Try.f3.params[j]? = some t → args[j]? = some v → Value.okWide Try.prog W .any base t v := hval0
  have hW' := hW
  obtain ⟨p, q, hA0, hV, rfl, hfz, hnd⟩ := hW
  have hA : DataW.TrodAll enc Try.prog W 0 (fun _ => true) true Try.f3.params.toList args.toList ds p := hA0
  rw [Try.params3] at hA hval
  obtain ⟨v0, vs0, d0, ds0, p0, q0, hargs, rfl, rfl, h0, r0⟩ := trodAll_cons hA
  obtain ⟨v1, vs1, d1, ds1, p1, q1, rfl, rfl, rfl, h1, r1⟩ := trodAll_cons r0
  obtain ⟨rfl, rfl, rfl⟩ := trodAll_nil r1
  obtain rfl : args = #[v0, v1] := by cases args; simp_all
  obtain ⟨rfl, rfl⟩ := trodVars_none hV
  obtain ⟨a0, len0, cap0, rfl⟩ := okWide_slice Try.underlying22 (hval 0 22 v0 rfl rfl)
  have k0 := h0
  have lt0 : ∀ x ∈ p0, x.block < W.heap.size := by obtain ⟨m, hm⟩ := k0; exact DataW.trod_lt m _ _ _ hm
  obtain ⟨z0, w0⟩ : ∃ z, InEvs W a0 len0 z := by
    obtain ⟨fuel, hf⟩ := h0
    exact open_evs hf
  obtain ⟨a1, len1, cap1, rfl⟩ := okWide_slice Try.underlying23 (hval 1 23 v1 rfl rfl)
  have k1 := h1
  have lt1 : ∀ x ∈ p1, x.block < W.heap.size := by obtain ⟨m, hm⟩ := k1; exact DataW.trod_lt m _ _ _ hm
  obtain ⟨z1, w1⟩ : ∃ z, InNums .i64 W a1 len1 z := by
    obtain ⟨fuel, hf⟩ := h1
    exact open_numsF Try.underlying23 Try.underlying3 (by kernel_rfl) hf
  clear hA0 hval0
  refine (walk a0 len0 cap0 z0 a1 len1 cap1 z1 W w0 w1).mono fun e W' ⟨he, bel⟩ => ?_
  subst he
  exact ⟨_, rfl, _, _, _, [], _, [], hW', trodAll_mk1 (shut_bool Try.underlying4 _), (trodAll_cons_mk (Below.trod laidOut (by kernel_rfl) (of_decide_eq_true (by kernel_rfl)) k0 bel lt0) (trodAll_cons_mk (Below.trod laidOut (by kernel_rfl) (of_decide_eq_true (by kernel_rfl)) k1 bel lt1) trodAll_mk0)), rfl, bel.frame _, fun h => by cases h⟩

theorem over : Rows.raceAllRow.holds Try.pinned (OpenSpec.ofChange Rows.raceAllSpec) :=
  OpenClaim.holds_of_wide 3 Try.f3 rfl rfl rfl rfl rfl rfl rfl ⟨rfl, rfl, rfl, rfl, rfl⟩ rfl rfl rfl rfl rfl (by kernel_rfl) Try.func3 (by kernel_rfl)
    (of_decide_eq_true (by kernel_rfl)) (by unfold Func.isWrapper; first | (rw [if_pos (by decide +kernel)]; kernel_rfl) | (rw [if_neg (by decide +kernel)]; exact ⟨rfl, rfl⟩))
    (fun os started H enc _ => lifted os started H enc)

/-- The statement. -/
theorem proved : Rows.RaceAllSaid := over
#print axioms proved
end Go.Proofs.Ytmgmfihjojhilaa.raceAll
