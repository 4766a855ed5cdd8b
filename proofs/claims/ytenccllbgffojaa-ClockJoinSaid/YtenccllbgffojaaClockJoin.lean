/-
  weighbridgelaw12.ClockJoin returns true for every input, and leaves its arguments as they were. No condition but that the arguments are values of their types.
-/
import Derived.Test.YtenccllbgffojaaRows
import Derived.Test.YtenccllbgffojaaClkL
import Derived.WalkKit
import Derived.ProofKit
import Derived.OpenShut
import Derived.ChangeOld
import Derived.Below
namespace Go.Proofs.Ytenccllbgffojaa.clockJoin
open Go.ChangeShapes Go.WideShapes Go.ChangeAt Go.RowKit
set_option linter.unusedVariables false
set_option linter.unusedSimpArgs false

set_option maxRecDepth 100000 in
set_option maxHeartbeats 4000000 in
theorem walk (a0 : Option Addr) (len0 cap0 : Nat) (z0 : Nat → Int) (a1 : Option Addr) (len1 cap1 : Nat) (z1 : Nat → Int) (a2 : Option Addr) (len2 cap2 : Nat) (z2 : Nat → Int) (w : World) (w0 : InNums .i64 w a0 len0 z0) (w1 : InNums .i64 w a1 len1 z1) (w2 : InNums .i64 w a2 len2 z2) :
    Calls Try.prog 4 #[.slice a0 len0 cap0, .slice a1 len1 cap1, .slice a2 len2 cap2] w fun e w' => e = .returned (.bool true) ∧ Below w.heap.size w w' := by
  obtain ⟨m0, hm0⟩ : ∃ m, (nearM z0 len0).length = m := ⟨_, rfl⟩
  have s0 : m0 ≤ 70 := by have := nearM_len z0 len0; omega
  have N0 := Lib.hid (fun (W : World) (o : Only [] w W) => ckNear (c := cap0) (w0.only0 o) hm0)
  have I0 := Lib.hid (nearM_ints w0)
  obtain ⟨m1, hm1⟩ : ∃ m, (nearM z1 len1).length = m := ⟨_, rfl⟩
  have s1 : m1 ≤ 70 := by have := nearM_len z1 len1; omega
  have N1 := Lib.hid (fun (W : World) (o : Only [] w W) => ckNear (c := cap1) (w1.only0 o) hm1)
  have I1 := Lib.hid (nearM_ints w1)
  obtain ⟨m2, hm2⟩ : ∃ m, (nearM z2 len2).length = m := ⟨_, rfl⟩
  have s2 : m2 ≤ 70 := by have := nearM_len z2 len2; omega
  have N2 := Lib.hid (fun (W : World) (o : Only [] w W) => ckNear (c := cap2) (w2.only0 o) hm2)
  have I2 := Lib.hid (nearM_ints w2)
  generalize nearM z0 len0 = x0 at *
  have M0 := Lib.hid hm0
  clear hm0 w0
  generalize nearM z1 len1 = x1 at *
  have M1 := Lib.hid hm1
  clear hm1 w1
  generalize nearM z2 len2 = x2 at *
  have M2 := Lib.hid hm2
  clear hm2 w2
  have O : Hid (Only [] w w) := Only.refl [] w
  have Ja : Hid (∃ r, (joinM x0 x1).length = r) := ⟨_, rfl⟩
  have Jb : Hid (∃ r, (joinM x2 x0).length = r) := ⟨_, rfl⟩
  have Jc : Hid (∃ r, (joinM (joinM x2 x0) x1).length = r) := ⟨_, rfl⟩
  have Jd : Hid (∃ r, (joinM x1 x0).length = r) := ⟨_, rfl⟩
  have Je : Hid (∃ r, (joinM (joinM x0 x1) x2).length = r) := ⟨_, rfl⟩
  have Jf : Hid (∃ r, (joinM x1 x2).length = r) := ⟨_, rfl⟩
  have Jg : Hid (∃ r, (joinM x0 (joinM x1 x2)).length = r) := ⟨_, rfl⟩
  have E1 := Lib.hid (join_above x0 x1)
  have E2 := Lib.hid (join_least x0 x1 x2)
  have E3 := Lib.hid (join_turned x0 x1)
  have E4 := Lib.hid (join_three x0 x1 x2)
  have E5 := Lib.hid (join_under x0 x1 x2)
  go_enter Try.func4, Try.ntmps4
  have cf := N0.out _ O.out
  go_wp2_with fail
  refine cf.mono ?_
  clear cf
  rintro e v1 ⟨A0, c0, rfl, k0, o⟩
  have O := Lib.hid (O.out.trans' o)
  have C0 := Lib.hid k0
  clear o k0
  have cf := N1.out _ O.out
  go_wp2_with fail
  refine cf.mono ?_
  clear cf
  rintro e v2 ⟨A1, c1, rfl, k1, o⟩
  have O := Lib.hid (O.out.trans' o)
  have C0 := Lib.hid (C0.out.only0 o)
  have C1 := Lib.hid k1
  clear o k1
  have cf := N2.out _ O.out
  go_wp2_with fail
  refine cf.mono ?_
  clear cf
  rintro e v3 ⟨A2, c2, rfl, k2, o⟩
  have O := Lib.hid (O.out.trans' o)
  have C0 := Lib.hid (C0.out.only0 o)
  have C1 := Lib.hid (C1.out.only0 o)
  have C2 := Lib.hid k2
  clear o k2
  obtain ⟨ra, hra⟩ := Ja.out
  have Ra := Lib.hid hra
  clear hra Ja
  have cf := C0.out.join C1.out Ra.out
  go_wp2_with fail
  refine cf.mono ?_
  clear cf
  rintro e v4 ⟨Aa, ca, rfl, ka, o⟩
  have O := Lib.hid (O.out.trans' o)
  have C0 := Lib.hid (C0.out.only0 o)
  have C1 := Lib.hid (C1.out.only0 o)
  have C2 := Lib.hid (C2.out.only0 o)
  have Ca := Lib.hid ka
  clear o ka
  have cf := cAwake v4
  go_wp2_with fail
  refine cf.mono ?_
  clear cf
  rintro e v5 ⟨rfl, o⟩
  have O := Lib.hid (O.out.trans' o)
  have C0 := Lib.hid (C0.out.only0 o)
  have C1 := Lib.hid (C1.out.only0 o)
  have C2 := Lib.hid (C2.out.only0 o)
  have Ca := Lib.hid (Ca.out.only0 o)
  clear o
  have cf := C0.out.leq Ca.out
  rw [E1.out.1] at cf
  go_wp2_with fail
  refine cf.mono ?_
  clear cf
  rintro e v6 ⟨rfl, o⟩
  have O := Lib.hid (O.out.trans' o)
  have C0 := Lib.hid (C0.out.only0 o)
  have C1 := Lib.hid (C1.out.only0 o)
  have C2 := Lib.hid (C2.out.only0 o)
  have Ca := Lib.hid (Ca.out.only0 o)
  clear o
  have cf := C1.out.leq Ca.out
  rw [E1.out.2] at cf
  go_wp2_with fail
  refine cf.mono ?_
  clear cf
  rintro e v7 ⟨rfl, o⟩
  have O := Lib.hid (O.out.trans' o)
  have C0 := Lib.hid (C0.out.only0 o)
  have C1 := Lib.hid (C1.out.only0 o)
  have C2 := Lib.hid (C2.out.only0 o)
  have Ca := Lib.hid (Ca.out.only0 o)
  clear o
  obtain ⟨rb, hrb⟩ := Jb.out
  have Rb := Lib.hid hrb
  clear hrb Jb
  have cf := C2.out.join C0.out Rb.out
  go_wp2_with fail
  refine cf.mono ?_
  clear cf
  rintro e v8 ⟨Ab, cb, rfl, kb, o⟩
  have O := Lib.hid (O.out.trans' o)
  have C0 := Lib.hid (C0.out.only0 o)
  have C1 := Lib.hid (C1.out.only0 o)
  have C2 := Lib.hid (C2.out.only0 o)
  have Ca := Lib.hid (Ca.out.only0 o)
  have Cb := Lib.hid kb
  clear o kb
  obtain ⟨rc, hrc⟩ := Jc.out
  have Rc := Lib.hid hrc
  clear hrc Jc
  have cf := Cb.out.join C1.out Rc.out
  go_wp2_with fail
  refine cf.mono ?_
  clear cf
  rintro e v9 ⟨Ac, cc, rfl, kc, o⟩
  have O := Lib.hid (O.out.trans' o)
  have C0 := Lib.hid (C0.out.only0 o)
  have C1 := Lib.hid (C1.out.only0 o)
  have C2 := Lib.hid (C2.out.only0 o)
  have Ca := Lib.hid (Ca.out.only0 o)
  have Cb := Lib.hid (Cb.out.only0 o)
  have Cc := Lib.hid kc
  clear o kc
  have cf := Ca.out.leq Cc.out
  rw [E2.out] at cf
  go_wp2_with fail
  refine cf.mono ?_
  clear cf
  rintro e v10 ⟨rfl, o⟩
  have O := Lib.hid (O.out.trans' o)
  have C0 := Lib.hid (C0.out.only0 o)
  have C1 := Lib.hid (C1.out.only0 o)
  have C2 := Lib.hid (C2.out.only0 o)
  have Ca := Lib.hid (Ca.out.only0 o)
  have Cb := Lib.hid (Cb.out.only0 o)
  have Cc := Lib.hid (Cc.out.only0 o)
  clear o
  clear Cb
  clear Cc
  obtain ⟨rd, hrd⟩ := Jd.out
  have Rd := Lib.hid hrd
  clear hrd Jd
  have cf := C1.out.join C0.out Rd.out
  go_wp2_with fail
  refine cf.mono ?_
  clear cf
  rintro e v11 ⟨Ad, cd, rfl, kd, o⟩
  have O := Lib.hid (O.out.trans' o)
  have C0 := Lib.hid (C0.out.only0 o)
  have C1 := Lib.hid (C1.out.only0 o)
  have C2 := Lib.hid (C2.out.only0 o)
  have Ca := Lib.hid (Ca.out.only0 o)
  have Cd := Lib.hid kd
  clear o kd
  have cf := Ca.out.cmp Cd.out
  rw [E3.out] at cf
  go_wp2_with fail
  refine cf.mono ?_
  clear cf
  rintro e v12 ⟨rfl, o⟩
  have O := Lib.hid (O.out.trans' o)
  have C0 := Lib.hid (C0.out.only0 o)
  have C1 := Lib.hid (C1.out.only0 o)
  have C2 := Lib.hid (C2.out.only0 o)
  have Ca := Lib.hid (Ca.out.only0 o)
  have Cd := Lib.hid (Cd.out.only0 o)
  clear o
  clear Cd
  obtain ⟨re, hre⟩ := Je.out
  have Re := Lib.hid hre
  clear hre Je
  have cf := Ca.out.join C2.out Re.out
  go_wp2_with fail
  refine cf.mono ?_
  clear cf
  rintro e v13 ⟨Ae, ce, rfl, ke, o⟩
  have O := Lib.hid (O.out.trans' o)
  have C0 := Lib.hid (C0.out.only0 o)
  have C1 := Lib.hid (C1.out.only0 o)
  have C2 := Lib.hid (C2.out.only0 o)
  have Ca := Lib.hid (Ca.out.only0 o)
  have Ce := Lib.hid ke
  clear o ke
  obtain ⟨rf, hrf⟩ := Jf.out
  have Rf := Lib.hid hrf
  clear hrf Jf
  have cf := C1.out.join C2.out Rf.out
  go_wp2_with fail
  refine cf.mono ?_
  clear cf
  rintro e v14 ⟨Af, cf, rfl, kf, o⟩
  have O := Lib.hid (O.out.trans' o)
  have C0 := Lib.hid (C0.out.only0 o)
  have C1 := Lib.hid (C1.out.only0 o)
  have C2 := Lib.hid (C2.out.only0 o)
  have Ca := Lib.hid (Ca.out.only0 o)
  have Ce := Lib.hid (Ce.out.only0 o)
  have Cf := Lib.hid kf
  clear o kf
  obtain ⟨rg, hrg⟩ := Jg.out
  have Rg := Lib.hid hrg
  clear hrg Jg
  have cf := C0.out.join Cf.out Rg.out
  go_wp2_with fail
  refine cf.mono ?_
  clear cf
  rintro e v15 ⟨Ag, cg, rfl, kg, o⟩
  have O := Lib.hid (O.out.trans' o)
  have C0 := Lib.hid (C0.out.only0 o)
  have C1 := Lib.hid (C1.out.only0 o)
  have C2 := Lib.hid (C2.out.only0 o)
  have Ca := Lib.hid (Ca.out.only0 o)
  have Ce := Lib.hid (Ce.out.only0 o)
  have Cf := Lib.hid (Cf.out.only0 o)
  have Cg := Lib.hid kg
  clear o kg
  have cf := Ce.out.cmp Cg.out
  rw [E4.out] at cf
  go_wp2_with fail
  refine cf.mono ?_
  clear cf
  rintro e v16 ⟨rfl, o⟩
  have O := Lib.hid (O.out.trans' o)
  have C0 := Lib.hid (C0.out.only0 o)
  have C1 := Lib.hid (C1.out.only0 o)
  have C2 := Lib.hid (C2.out.only0 o)
  have Ca := Lib.hid (Ca.out.only0 o)
  have Ce := Lib.hid (Ce.out.only0 o)
  have Cf := Lib.hid (Cf.out.only0 o)
  have Cg := Lib.hid (Cg.out.only0 o)
  clear o
  clear Ce
  clear Cf
  clear Cg
  rcases e1 : leqB x0 x2
  · have Q := Lib.hid e1
    clear e1
    have cf := C0.out.leq C2.out
    rw [Q.out] at cf
    go_wp2_with fail
    refine cf.mono ?_
    clear cf
    rintro e v17 ⟨rfl, o⟩
    have O := Lib.hid (O.out.trans' o)
    have C0 := Lib.hid (C0.out.only0 o)
    have C1 := Lib.hid (C1.out.only0 o)
    have C2 := Lib.hid (C2.out.only0 o)
    have Ca := Lib.hid (Ca.out.only0 o)
    clear o
    go_wp2_with fail
    go_ret
    exact ⟨rfl, O.out.toBelow⟩
  · rcases e2 : leqB x1 x2
    · have Q := Lib.hid (And.intro e1 e2)
      clear e1 e2
      have cf := C0.out.leq C2.out
      rw [Q.out.1] at cf
      go_wp2_with fail
      refine cf.mono ?_
      clear cf
      rintro e v17 ⟨rfl, o⟩
      have O := Lib.hid (O.out.trans' o)
      have C0 := Lib.hid (C0.out.only0 o)
      have C1 := Lib.hid (C1.out.only0 o)
      have C2 := Lib.hid (C2.out.only0 o)
      have Ca := Lib.hid (Ca.out.only0 o)
      clear o
      have cf := C1.out.leq C2.out
      rw [Q.out.2] at cf
      go_wp2_with fail
      refine cf.mono ?_
      clear cf
      rintro e v18 ⟨rfl, o⟩
      have O := Lib.hid (O.out.trans' o)
      have C0 := Lib.hid (C0.out.only0 o)
      have C1 := Lib.hid (C1.out.only0 o)
      have C2 := Lib.hid (C2.out.only0 o)
      have Ca := Lib.hid (Ca.out.only0 o)
      clear o
      go_wp2_with fail
      go_ret
      exact ⟨rfl, O.out.toBelow⟩
    · have e3 : leqB (joinM x0 x1) x2 = true := by have h := E5.out; rw [e1, e2] at h; simpa using h
      have Q := Lib.hid (And.intro e1 (And.intro e2 e3))
      clear e1 e2 e3
      have cf := C0.out.leq C2.out
      rw [Q.out.1] at cf
      go_wp2_with fail
      refine cf.mono ?_
      clear cf
      rintro e v17 ⟨rfl, o⟩
      have O := Lib.hid (O.out.trans' o)
      have C0 := Lib.hid (C0.out.only0 o)
      have C1 := Lib.hid (C1.out.only0 o)
      have C2 := Lib.hid (C2.out.only0 o)
      have Ca := Lib.hid (Ca.out.only0 o)
      clear o
      have cf := C1.out.leq C2.out
      rw [Q.out.2.1] at cf
      go_wp2_with fail
      refine cf.mono ?_
      clear cf
      rintro e v18 ⟨rfl, o⟩
      have O := Lib.hid (O.out.trans' o)
      have C0 := Lib.hid (C0.out.only0 o)
      have C1 := Lib.hid (C1.out.only0 o)
      have C2 := Lib.hid (C2.out.only0 o)
      have Ca := Lib.hid (Ca.out.only0 o)
      clear o
      have cf := Ca.out.leq C2.out
      rw [Q.out.2.2] at cf
      go_wp2_with fail
      refine cf.mono ?_
      clear cf
      rintro e v19 ⟨rfl, o⟩
      have O := Lib.hid (O.out.trans' o)
      have C0 := Lib.hid (C0.out.only0 o)
      have C1 := Lib.hid (C1.out.only0 o)
      have C2 := Lib.hid (C2.out.only0 o)
      have Ca := Lib.hid (Ca.out.only0 o)
      clear o
      go_wp2_with fail
      go_ret
      exact ⟨rfl, O.out.toBelow⟩

/-! ### The step from the walk to the statement -/
set_option maxRecDepth 100000 in
theorem lifted (os : Os) (started : os.Started) (H : Type) (enc : TypeId × Value → H) :
    ReturnsInHanded {} Try.checked os 4 .any (Rows.clockJoinSpec.pre6 enc Try.prog Try.f4 Rows.clockJoinRow.domain false) (Rows.clockJoinSpec.post enc Try.prog Try.f4 false true false false) := by
  refine returnsInHanded_of_change (C := Try.checked) own started (by kernel_rfl) Try.func4
    (ChangeSpec.witness6 (enc := enc) (C := Try.checked) false ⟨#[], #[.slice none 0 0, .slice none 0 0, .slice none 0 0], []⟩ 8 (by kernel_rfl) (by kernel_rfl) (by kernel_rfl) (by kernel_rfl)) ?_
  intro W base args ds gs before hval0 hW hcnd _
  have hval : ∀ (j : Nat) t v, Try.f4.params[j]? = some t → args[j]? = some v → Value.okWide Try.prog W .any base t v := hval0
  have hW' := hW
  obtain ⟨p, q, hA0, hV, rfl, hfz, hnd⟩ := hW
  have hA : DataW.TrodAll enc Try.prog W 0 (fun _ => true) true Try.f4.params.toList args.toList ds p := hA0
  rw [Try.params4] at hA hval
  obtain ⟨v0, vs0, d0, ds0, p0, q0, hargs, rfl, rfl, h0, r0⟩ := trodAll_cons hA
  obtain ⟨v1, vs1, d1, ds1, p1, q1, rfl, rfl, rfl, h1, r1⟩ := trodAll_cons r0
  obtain ⟨v2, vs2, d2, ds2, p2, q2, rfl, rfl, rfl, h2, r2⟩ := trodAll_cons r1
  obtain ⟨rfl, rfl, rfl⟩ := trodAll_nil r2
  obtain rfl : args = #[v0, v1, v2] := by cases args; simp_all
  obtain ⟨rfl, rfl⟩ := trodVars_none hV
  obtain ⟨a0, len0, cap0, rfl⟩ := okWide_slice Try.underlying22 (hval 0 22 v0 rfl rfl)
  have k0 := h0
  have lt0 : ∀ x ∈ p0, x.block < W.heap.size := by obtain ⟨m, hm⟩ := k0; exact DataW.trod_lt m _ _ _ hm
  obtain ⟨z0, w0⟩ : ∃ z, InNums .i64 W a0 len0 z := by
    obtain ⟨fuel, hf⟩ := h0
    exact open_numsF Try.underlying22 Try.underlying3 (by kernel_rfl) hf
  obtain ⟨a1, len1, cap1, rfl⟩ := okWide_slice Try.underlying22 (hval 1 22 v1 rfl rfl)
  have k1 := h1
  have lt1 : ∀ x ∈ p1, x.block < W.heap.size := by obtain ⟨m, hm⟩ := k1; exact DataW.trod_lt m _ _ _ hm
  obtain ⟨z1, w1⟩ : ∃ z, InNums .i64 W a1 len1 z := by
    obtain ⟨fuel, hf⟩ := h1
    exact open_numsF Try.underlying22 Try.underlying3 (by kernel_rfl) hf
  obtain ⟨a2, len2, cap2, rfl⟩ := okWide_slice Try.underlying22 (hval 2 22 v2 rfl rfl)
  have k2 := h2
  have lt2 : ∀ x ∈ p2, x.block < W.heap.size := by obtain ⟨m, hm⟩ := k2; exact DataW.trod_lt m _ _ _ hm
  obtain ⟨z2, w2⟩ : ∃ z, InNums .i64 W a2 len2 z := by
    obtain ⟨fuel, hf⟩ := h2
    exact open_numsF Try.underlying22 Try.underlying3 (by kernel_rfl) hf
  clear hA0 hval0
  refine (walk a0 len0 cap0 z0 a1 len1 cap1 z1 a2 len2 cap2 z2 W w0 w1 w2).mono fun e W' ⟨he, bel⟩ => ?_
  subst he
  exact ⟨_, rfl, _, _, _, [], _, [], hW', trodAll_mk1 (shut_bool Try.underlying4 _), (trodAll_cons_mk (Below.trod laidOut (by kernel_rfl) (of_decide_eq_true (by kernel_rfl)) k0 bel lt0) (trodAll_cons_mk (Below.trod laidOut (by kernel_rfl) (of_decide_eq_true (by kernel_rfl)) k1 bel lt1) (trodAll_cons_mk (Below.trod laidOut (by kernel_rfl) (of_decide_eq_true (by kernel_rfl)) k2 bel lt2) trodAll_mk0))), rfl, bel.frame _, fun h => by cases h⟩

theorem over : Rows.clockJoinRow.holds Try.pinned (OpenSpec.ofChange Rows.clockJoinSpec) :=
  OpenClaim.holds_of_wide 4 Try.f4 rfl rfl rfl rfl rfl rfl rfl ⟨rfl, rfl, rfl, rfl, rfl⟩ rfl rfl rfl rfl rfl (by kernel_rfl) Try.func4 (by kernel_rfl)
    (of_decide_eq_true (by kernel_rfl)) (by unfold Func.isWrapper; first | (rw [if_pos (by decide +kernel)]; kernel_rfl) | (rw [if_neg (by decide +kernel)]; exact ⟨rfl, rfl⟩))
    (fun os started H enc _ => lifted os started H enc)

/-- The statement. -/
theorem proved : Rows.ClockJoinSaid := over
#print axioms proved
end Go.Proofs.Ytenccllbgffojaa.clockJoin
