/-
  weighbridgelaw14.HistParts returns true for every input, and leaves its arguments as they were. Where what they hold is of bulk at most 1048576 (the bound of the statement).
-/
import Derived.Test.YtocokmjobbmodaaRows
import Derived.Test.YtocokmjobbmodaaHsW
import Derived.Test.YtocokmjobbmodaaHsZ
import Derived.WalkKit
import Derived.ProofKit
import Derived.OpenShut
import Derived.ChangeOld
import Derived.Below
import Derived.Carry
import Derived.JoinedCond
namespace Go.Proofs.Ytocokmjobbmodaa.histParts
open Go.ChangeShapes Go.WideShapes Go.ChangeAt Go.RowKit
set_option linter.unusedVariables false
set_option linter.unusedSimpArgs false
set_option maxRecDepth 100000

set_option maxHeartbeats 4000000
theorem walk (a0 : Option Addr) (len0 cap0 : Nat) (z0 : Nat → Dn) (p0 : Nat → List Pk) (w : World) (w0 : InDns w a0 len0 z0) (q0 : ∀ k, k < len0 → InPk w (z0 k) (p0 k)) (s0 : ∀ k, k < len0 → (z0 k).m ≤ 1048576) :
    Calls Try.prog 5 #[.slice a0 len0 cap0] w fun e w' => e = .returned (.bool true) ∧ Below w.heap.size w w' := by
  have sm := lSome w a0 len0 cap0 z0 w0
  go_enter Try.func5, Try.ntmps5
  go_wp2_with fail
  refine sm.mono ?_
  rintro e W ⟨A2, c2, rfl, hfr⟩
  have LEN : Hid ((someL z0 len0).length = min len0 40 ∧ min len0 40 ≤ 64) := ⟨someL_len _ _, by omega⟩
  have FR := Lib.hid hfr
  have QL : Hid (AbsL W (someL z0 len0) (someA z0 p0 len0) ∧ (someA z0 p0 len0).length = min len0 40) := ⟨(some_abs q0).only0 hfr.only, someA_len _ _ _⟩
  have QM : Hid ((∀ a ∈ someA z0 p0 len0, a.2.length ≤ 1048576) ∧ ∀ x ∈ someL z0 len0, x.m ≤ 1048576) := ⟨someA_m w q0 s0, someL_m s0⟩
  clear sm hfr q0 s0
  generalize someL z0 len0 = L at *
  generalize someA z0 p0 len0 = qs at *
  generalize min len0 40 = n at *
  have k1 := Lib.hid (lAwake W)
  have k2 := Lib.hid (fun (V : World) (o : Only [] W V) => cParts A2 n c2 L qs V LEN.out.1 LEN.out.2 (FR.out.dns.only0 o) (QL.out.1.only0 o) QM.out.2)
  have k3 := Lib.hid (fun (V : World) (o : Only [] W V) => rParts A2 n c2 L qs V LEN.out.1 LEN.out.2 (FR.out.dns.only0 o) (QL.out.1.only0 o) QM.out.2)
  have PM : Hid ((∀ b ∈ partsL qs, b.2.length ≤ 1048576) ∧ (partsL qs).length ≤ 100000000) := ⟨partsL_m QM.out.1, by have := partsL_len QM.out.1; have := QL.out.2; have := LEN.out.2; omega⟩
  go_wp2_with fail
  refine k1.out.mono ?_
  rintro e w1 ⟨rfl, o1⟩
  have O1 := Lib.hid o1
  clear o1 k1
  go_wp2_with fail
  refine (k2.out w1 O1.out).mono ?_
  rintro e w2 ⟨A3, q3, c3, rfl, R3, d3⟩
  have D3 := Lib.hid d3
  have O2 : Hid (Only [] W w2) := O1.out.trans' d3.fr.only
  clear k2 d3
  go_wp2_with fail
  refine (k3.out w2 O2.out).mono ?_
  rintro e w3 ⟨A4, q4, c4, rfl, R4, d4⟩
  have D4 := Lib.hid d4
  have O3 : Hid (Only [] W w3) := O2.out.trans' d4.fr.only
  have E3 : Hid ((partsL qs).length = q3) := by show _ = _; rw [← D3.out.rw_.len, D3.out.fr.len]
  obtain rfl : q4 = q3 := by rw [← E3.out, ← d4.rw_.len, d4.fr.len]
  have k5 := dSame w3 A3 A4 q4 c3 c4 R3 R4 (partsL qs) E3.out (by have := PM.out.2; have := E3.out; omega) PM.out.1 (D3.out.fr.dns.only0 d4.fr.only) d4.fr.dns (D3.out.rw_.abs.only0 d4.fr.only) d4.rw_.abs
  clear k3 d4
  go_wp2_with fail
  refine k5.mono ?_
  rintro e w4 ⟨rfl, o4⟩
  have OF := Lib.hid (FR.out.only.trans' (O3.out.trans' o4))
  clear k5 o4
  go_wp2_with fail
  go_ret
  exact ⟨rfl, OF.out.toBelow⟩

/-! ### The step from the walk to the statement -/
set_option maxRecDepth 100000 in
theorem contract (H : Type) (enc : TypeId × Value → H) (W : World) (base : Nat) (args : Array Value) (ds gs : List (DataW H)) (before : List MemPlace)
    (hval0 : ∀ (j : Nat) t v, Try.f5.params[j]? = some t → args[j]? = some v → Value.okWide Try.prog W .any base t v)
    (hW : DataW.Whole enc Try.prog Try.f5.params.toList Rows.histPartsSpec.vars false W args.toList ds gs before) (hk : Rows.uptoSmall H (ds ++ gs) = true) :
    Calls Try.prog 5 args W fun e W' => ∃ v, e = .returned v ∧ Rows.histPartsSpec.post enc Try.prog Try.f5 false true false false W args v W' := by
  have hval : ∀ (j : Nat) t v, Try.f5.params[j]? = some t → args[j]? = some v → Value.okWide Try.prog W .any base t v := hval0
  have hW' := hW
  obtain ⟨p, q, hA0, hV, rfl, hfz, hnd⟩ := hW
  have hA : DataW.TrodAll enc Try.prog W 0 (fun _ => true) true Try.f5.params.toList args.toList ds p := hA0
  rw [Try.params5] at hA hval
  obtain ⟨v0, vs0, d0, ds0, pl0, ql0, hargs, rfl, rfl, h0, r0⟩ := trodAll_cons hA
  obtain ⟨rfl, rfl, rfl⟩ := trodAll_nil r0
  obtain rfl : args = #[v0] := by cases args; simp_all
  obtain ⟨rfl, rfl⟩ := trodVars_none hV
  have hkb : Rows.uptoBulkAll [d0] ≤ 1048576 := of_decide_eq_true (by simpa [Rows.uptoSmall] using hk)
  obtain ⟨a0, len0, cap0, rfl⟩ := okWide_slice Try.underlying22 (hval 0 22 v0 rfl rfl)
  have k0 := h0
  have lt0 : ∀ x ∈ pl0, x.block < W.heap.size := by obtain ⟨m, hm⟩ := k0; exact DataW.trod_lt m _ _ _ hm
  obtain ⟨z0, p0, w0, q0, sb0⟩ : ∃ (z : Nat → Dn) (p : Nat → List Pk), InDns W a0 len0 z ∧ (∀ k, k < len0 → InPk W (z k) (p k)) ∧ ∀ k, k < len0 → (z k).m ≤ Rows.uptoBulk d0 := by
    obtain ⟨fuel, hf⟩ := h0
    exact open_dones hf
  have s0 : ∀ k, k < len0 → (z0 k).m ≤ 1048576 := fun k hk => Nat.le_trans (sb0 k hk) (Nat.le_trans (bulk_part (by simp)) hkb)
  clear hA0 hval0
  refine (walk a0 len0 cap0 z0 p0 W w0 q0 s0).mono fun e W' ⟨he, bel⟩ => ?_
  subst he
  exact ⟨_, rfl, _, _, _, [], _, [], hW', trodAll_mk1 (shut_bool Try.underlying4 _), (trodAll_cons_mk (Below.trod laidOut (by kernel_rfl) (of_decide_eq_true (by kernel_rfl)) k0 bel lt0) trodAll_mk0), rfl, bel.frame _, fun h => by cases h⟩

set_option maxRecDepth 100000 in
theorem lifted (os : Os) (started : os.Started) (H : Type) (enc : TypeId × Value → H) (F : Stop.Interp) :
    ReturnsInHanded {} Try.checked os 5 .any ((Rows.OpenSpec.upto Rows.histPartsSpec).pre6 enc Try.prog Try.f5 Rows.histPartsUptoRow.domain false) (((Rows.OpenSpec.upto Rows.histPartsSpec).at F).post enc Try.prog Try.f5 false true false false) := by
  refine returnsInHanded_of_cond (C := Try.checked) (s := Rows.OpenSpec.upto Rows.histPartsSpec) (k := Rows.uptoSmall) rfl own started (by kernel_rfl) Try.func5
    (OpenSpec.witness (enc := enc) (C := Try.checked) (s := Rows.OpenSpec.upto Rows.histPartsSpec) (k := Rows.uptoSmall) rfl false ⟨#[], #[.slice none 0 0], []⟩ 8 (by kernel_rfl) (by kernel_rfl) (by kernel_rfl)
      (x := ([.nil], [], [])) (by kernel_rfl) rfl (by kernel_rfl)) ?_
  intro W base args ds gs before hval0 hW _ hk _
  exact contract H enc W base args ds gs before hval0 hW hk
/-- The statement. -/
theorem proved : Rows.HistPartsUptoSaid :=
  OpenClaim.holds_of_cond 5 Try.f5 rfl rfl rfl rfl rfl rfl rfl ⟨rfl, rfl, rfl, rfl, rfl⟩ rfl rfl rfl rfl rfl (by kernel_rfl) Try.func5 (by kernel_rfl)
    (of_decide_eq_true (by kernel_rfl)) (by unfold Func.isWrapper; first | (rw [if_pos (by decide +kernel)]; kernel_rfl) | (rw [if_neg (by decide +kernel)]; exact ⟨rfl, rfl⟩))
    (fun os started H enc _ F => lifted os started H enc F)
#print axioms proved
end Go.Proofs.Ytocokmjobbmodaa.histParts
