/-
  weighbridgelaw12.ClockZeros returns true for every input, and leaves its arguments as they were. No condition but that the arguments are values of their types.
-/
import Derived.Test.YtenccllbgffojaaRows
import Derived.Test.YtenccllbgffojaaClkN
import Derived.WalkKit
import Derived.ProofKit
import Derived.OpenShut
import Derived.ChangeOld
import Derived.Below
namespace Go.Proofs.Ytenccllbgffojaa.clockZeros
open Go.ChangeShapes Go.WideShapes Go.ChangeAt Go.RowKit
set_option linter.unusedVariables false
set_option linter.unusedSimpArgs false

set_option maxRecDepth 100000 in
set_option maxHeartbeats 4000000 in
theorem walk (a0 : Option Addr) (len0 cap0 : Nat) (z0 : Nat → Int) (a1 : Option Addr) (len1 cap1 : Nat) (z1 : Nat → Int) (a2 : Int) (a3 : Int) (w : World) (w0 : InNums .i64 w a0 len0 z0) (w1 : InNums .i64 w a1 len1 z1) (w2 : (Lit.int .i64 a2).wf = true) (w3 : (Lit.int .i64 a3).wf = true) :
    Calls Try.prog 7 #[.slice a0 len0 cap0, .slice a1 len1 cap1, .int .i64 a2, .int .i64 a3] w fun e w' => e = .returned (.bool true) ∧ Below w.heap.size w w' := by
  obtain ⟨m0, hm0⟩ : ∃ m, (nearM z0 len0).length = m := ⟨_, rfl⟩
  have s0 : m0 ≤ 70 := by have := nearM_len z0 len0; omega
  have N0 := Lib.hid (fun (W : World) (o : Only [] w W) => ckNear (c := cap0) (w0.only0 o) hm0)
  have I0 := Lib.hid (nearM_ints w0)
  obtain ⟨m1, hm1⟩ : ∃ m, (nearM z1 len1).length = m := ⟨_, rfl⟩
  have s1 : m1 ≤ 70 := by have := nearM_len z1 len1; omega
  have N1 := Lib.hid (fun (W : World) (o : Only [] w W) => ckNear (c := cap1) (w1.only0 o) hm1)
  have I1 := Lib.hid (nearM_ints w1)
  generalize nearM z0 len0 = x0 at *
  have M0 := Lib.hid hm0
  clear hm0 w0
  generalize nearM z1 len1 = x1 at *
  have M1 := Lib.hid hm1
  clear hm1 w1
  have O : Hid (Only [] w w) := Only.refl [] w
  have q1 := modI_lt a2 (n := 9) (by decide)
  have q2 := modI_lt a3 (n := 9) (by decide)
  have md1 := Lib.hid (fun W => ckMod a2 9 (by decide) (by decide) W)
  have md2 := Lib.hid (fun W => ckMod a3 9 (by decide) (by decide) W)
  generalize modI a2 9 = yn at *
  generalize modI a3 9 = ym at *
  obtain ⟨n, rfl⟩ := Int.eq_ofNat_of_zero_le q1.1
  obtain ⟨q, rfl⟩ := Int.eq_ofNat_of_zero_le q2.1
  have n9 : n < 9 := by omega
  have q9 : q < 9 := by omega
  clear q1 q2
  have E1 := Lib.hid (zeros_leq x0 x1 n q)
  have E2 := Lib.hid (zeros_cmp x0 x1 n q)
  have E3 := Lib.hid (zeros_same x0 n)
  have E4 := Lib.hid (zeros_join x0 x1 n q)
  have JA : Hid (∃ r, (joinM x0 x1).length = r) := ⟨_, rfl⟩
  have JB : Hid (∃ r, (joinM (x0 ++ List.replicate n 0) (x1 ++ List.replicate q 0)).length = r) := ⟨_, rfl⟩
  go_enter Try.func7, Try.ntmps7
  have cf := N0.out _ O.out
  go_wp2_with fail
  refine cf.mono ?_
  clear cf
  rintro e v1 ⟨A0, c0, rfl, k0, o⟩
  have O := Lib.hid (O.out.trans' o)
  have C0 := Lib.hid k0
  clear o k0
  have cf := N1.out _ O.out
  go_wp2_with fail
  refine cf.mono ?_
  clear cf
  rintro e v2 ⟨A1, c1, rfl, k1, o⟩
  have O := Lib.hid (O.out.trans' o)
  have C0 := Lib.hid (C0.out.only0 o)
  have C1 := Lib.hid k1
  clear o k1
  have K0 := Lib.hid C0.out
  have K1 := Lib.hid C1.out
  have cf := C0.out.own 0
  go_wp2_with fail
  refine cf.mono ?_
  clear cf
  rintro e v3 ⟨gx, rfl, fx, _, lx⟩
  have o := fx.only
  have C1 := Lib.hid (C1.out.only0 o)
  have O3 := Lib.hid o
  have FX := Lib.hid (And.intro fx lx)
  clear o fx lx
  have cf := C1.out.own 0
  go_wp2_with fail
  refine cf.mono ?_
  clear cf
  rintro e v4 ⟨gy, rfl, fy, _, ly⟩
  have FY := Lib.hid (fy.from O3.out)
  have hgy : v3.heap.size ≤ gy := fy.new gy (by simp [Value.ownBlock])
  have AP := Lib.hid (apart_of (g := gx) (g' := gy) (by have := FX.out.2; omega))
  have FX := Lib.hid (FX.out.1.only0 fy.only)
  clear fy ly hgy
  go_wp2_with fail
  go_loopg [9, 11] (n + 1) (fun gk sl si wr => ∃ (p : Nat) (AX : Option Addr) (cx : Nat), si = .int .i64 (p : Int) ∧ sl = .slice AX (m0 + p) cx ∧ p ≤ n ∧ n + 1 ≤ gk + p ∧ Hid (Fr v2 wr AX (m0 + p) cx (x0 ++ List.replicate p 0) ∧ Fr v2 wr (some ⟨gy, 0, none⟩) m1 (m1 + 3) x1 ∧ Apart AX (some ⟨gy, 0, none⟩)))
  case atStart => exact ⟨0, _, _, rfl, rfl, by omega, by omega, by rw [List.replicate_zero, List.append_nil]; exact FX.out, FY.out, AP.out⟩
  case round =>
    obtain ⟨p, AX, cx, rfl, rfl, hp, hg, R⟩ := hrel
    clear FX FY AP
    have md := md1.out wr
    by_cases hpl : p < n
    · have h1 : (p : Int) < (n : Int) := by omega
      go_wp2_with fail
      refine md.mono ?_
      clear md
      rintro e u ⟨rfl, o⟩
      have R := Lib.hid (And.intro (R.out.1.only0 o) (And.intro (R.out.2.1.only0 o) R.out.2.2))
      clear o
      obtain ⟨z, hz⟩ : ∃ z, m0 + p = z := ⟨_, rfl⟩
      have HZ := Lib.hid hz
      have hzb : z ≤ 1000 := by omega
      rw [hz] at R
      rw [hz]
      clear hz
      go_wp2_with (first
        | (at_builtin
           refine wpList_app2 rfl (.tmp 27) (.tmp 28) rfl AX z cx _ 0 rfl rfl R.out.1 (by omega) ?_
           intro A2 cap2 w2 h2 s2
           have R2 := Lib.hid (And.intro h2 (s2 _ _ _ _ R.out.2.1 R.out.2.2))
           clear h2 s2))
      go_roundg (n + 1 - (p + 1))
      case measure => omega
      case rel => exact ⟨p + 1, A2, cap2, by simp, by rw [← HZ.out]; rfl, by omega, by omega, by have h := R2.out; rw [← HZ.out, List.append_assoc, ← List.replicate_succ'] at h; exact h⟩
    · have h1 : ¬ ((p : Int) < (n : Int)) := by omega
      have h2 : decide ((p : Int) < (n : Int)) = false := decide_eq_false h1
      obtain rfl : n = p := by omega
      go_wp2_with fail
      refine md.mono ?_
      clear md
      rintro e u ⟨rfl, o⟩
      have R := Lib.hid (And.intro (R.out.1.only0 o) (And.intro (R.out.2.1.only0 o) R.out.2.2))
      clear o h1 h2
      obtain ⟨z, hz⟩ : ∃ z, m0 + n = z := ⟨_, rfl⟩
      have hzb : z ≤ 1000 := by omega
      rw [hz] at R
      rw [hz]
      clear hz
      go_wp2_with fail
      go_loopg [10, 12] (q + 1) (fun gk sl si wq => ∃ (p : Nat) (AY : Option Addr) (cy : Nat), si = .int .i64 (p : Int) ∧ sl = .slice AY (m1 + p) cy ∧ p ≤ q ∧ q + 1 ≤ gk + p ∧ Hid (Fr v2 wq AY (m1 + p) cy (x1 ++ List.replicate p 0) ∧ Fr v2 wq AX z cx (x0 ++ List.replicate n 0) ∧ Apart AY AX))
      case atStart => exact ⟨0, _, _, rfl, rfl, by omega, by omega, by rw [List.replicate_zero, List.append_nil]; exact R.out.2.1, R.out.1, fun g h1 h2 => R.out.2.2 g h2 h1⟩
      case round =>
        obtain ⟨p, AY, cy, rfl, rfl, hp, hg, S⟩ := hrel
        clear R
        have md := md2.out wr
        by_cases hpl : p < q
        · have h1 : (p : Int) < (q : Int) := by omega
          go_wp2_with fail
          refine md.mono ?_
          clear md
          rintro e u ⟨rfl, o⟩
          have S := Lib.hid (And.intro (S.out.1.only0 o) (And.intro (S.out.2.1.only0 o) S.out.2.2))
          clear o
          obtain ⟨y, hy⟩ : ∃ y, m1 + p = y := ⟨_, rfl⟩
          have HY := Lib.hid hy
          have hyb : y ≤ 1000 := by omega
          rw [hy] at S
          rw [hy]
          clear hy
          go_wp2_with (first
            | (at_builtin
               refine wpList_app2 rfl (.tmp 36) (.tmp 37) rfl AY y cy _ 0 rfl rfl S.out.1 (by omega) ?_
               intro A2 cap2 w2 h2 s2
               have R2 := Lib.hid (And.intro h2 (s2 _ _ _ _ S.out.2.1 S.out.2.2))
               clear h2 s2))
          go_roundg (q + 1 - (p + 1))
          case measure => omega
          case rel => exact ⟨p + 1, A2, cap2, by simp, by rw [← HY.out]; rfl, by omega, by omega, by have h := R2.out; rw [← HY.out, List.append_assoc, ← List.replicate_succ'] at h; exact h⟩
        · have h1 : ¬ ((p : Int) < (q : Int)) := by omega
          have h2 : decide ((p : Int) < (q : Int)) = false := decide_eq_false h1
          obtain rfl : q = p := by omega
          obtain ⟨y, hy⟩ : ∃ y, m1 + q = y := ⟨_, rfl⟩
          have hyb : y ≤ 1000 := by omega
          rw [hy] at S
          rw [hy]
          clear hy
          have Cx := Lib.hid (S.out.2.1.ck (by omega))
          have Cy := Lib.hid (S.out.1.ck (by omega))
          have OW := Lib.hid S.out.1.only
          have C0 := Lib.hid (K0.out.only0 OW.out)
          have C1 := Lib.hid (K1.out.only0 OW.out)
          have O := Lib.hid (O.out.trans' OW.out)
          clear S OW K0 K1
          have cf := md
          go_wp2_with fail
          refine cf.mono ?_
          clear cf
          rintro e v3 ⟨rfl, o⟩
          have O := Lib.hid (O.out.trans' o)
          have C0 := Lib.hid (C0.out.only0 o)
          have C1 := Lib.hid (C1.out.only0 o)
          have Cx := Lib.hid (Cx.out.only0 o)
          have Cy := Lib.hid (Cy.out.only0 o)
          clear o
          clear h1 h2
          have b1 : (leqB x0 x1 == leqB x0 x1) = true := by simp
          have b2 : (cmpM x0 x1 == cmpM x0 x1) = true := by simp
          have cf := cAwake v3
          go_wp2_with fail
          refine cf.mono ?_
          clear cf
          rintro e v4 ⟨rfl, o⟩
          have O := Lib.hid (O.out.trans' o)
          have C0 := Lib.hid (C0.out.only0 o)
          have C1 := Lib.hid (C1.out.only0 o)
          have Cx := Lib.hid (Cx.out.only0 o)
          have Cy := Lib.hid (Cy.out.only0 o)
          clear o
          have cf := Cx.out.leq Cy.out
          rw [E1.out] at cf
          go_wp2_with fail
          refine cf.mono ?_
          clear cf
          rintro e v5 ⟨rfl, o⟩
          have O := Lib.hid (O.out.trans' o)
          have C0 := Lib.hid (C0.out.only0 o)
          have C1 := Lib.hid (C1.out.only0 o)
          have Cx := Lib.hid (Cx.out.only0 o)
          have Cy := Lib.hid (Cy.out.only0 o)
          clear o
          have cf := C0.out.leq C1.out
          go_wp2_with fail
          refine cf.mono ?_
          clear cf
          rintro e v6 ⟨rfl, o⟩
          have O := Lib.hid (O.out.trans' o)
          have C0 := Lib.hid (C0.out.only0 o)
          have C1 := Lib.hid (C1.out.only0 o)
          have Cx := Lib.hid (Cx.out.only0 o)
          have Cy := Lib.hid (Cy.out.only0 o)
          clear o
          have cf := Cx.out.cmp Cy.out
          rw [E2.out] at cf
          go_wp2_with fail
          refine cf.mono ?_
          clear cf
          rintro e v7 ⟨rfl, o⟩
          have O := Lib.hid (O.out.trans' o)
          have C0 := Lib.hid (C0.out.only0 o)
          have C1 := Lib.hid (C1.out.only0 o)
          have Cx := Lib.hid (Cx.out.only0 o)
          have Cy := Lib.hid (Cy.out.only0 o)
          clear o
          have cf := C0.out.cmp C1.out
          go_wp2_with fail
          refine cf.mono ?_
          clear cf
          rintro e v8 ⟨rfl, o⟩
          have O := Lib.hid (O.out.trans' o)
          have C0 := Lib.hid (C0.out.only0 o)
          have C1 := Lib.hid (C1.out.only0 o)
          have Cx := Lib.hid (Cx.out.only0 o)
          have Cy := Lib.hid (Cy.out.only0 o)
          clear o
          have cf := Cx.out.cmp C0.out
          rw [E3.out] at cf
          go_wp2_with fail
          refine cf.mono ?_
          clear cf
          rintro e v9 ⟨rfl, o⟩
          have O := Lib.hid (O.out.trans' o)
          have C0 := Lib.hid (C0.out.only0 o)
          have C1 := Lib.hid (C1.out.only0 o)
          have Cx := Lib.hid (Cx.out.only0 o)
          have Cy := Lib.hid (Cy.out.only0 o)
          clear o
          obtain ⟨ra, hra⟩ := JB.out
          have RA := Lib.hid hra
          clear hra
          have cf := Cx.out.join Cy.out RA.out
          go_wp2_with fail
          refine cf.mono ?_
          clear cf
          rintro e v10 ⟨Aa, ca, rfl, ka, o⟩
          have O := Lib.hid (O.out.trans' o)
          have C0 := Lib.hid (C0.out.only0 o)
          have C1 := Lib.hid (C1.out.only0 o)
          have Cx := Lib.hid (Cx.out.only0 o)
          have Cy := Lib.hid (Cy.out.only0 o)
          have Ca := Lib.hid ka
          clear o ka
          obtain ⟨rb, hrb⟩ := JA.out
          have RB := Lib.hid hrb
          clear hrb
          have cf := C0.out.join C1.out RB.out
          go_wp2_with fail
          refine cf.mono ?_
          clear cf
          rintro e v11 ⟨Ab, cb, rfl, kb, o⟩
          have O := Lib.hid (O.out.trans' o)
          have C0 := Lib.hid (C0.out.only0 o)
          have C1 := Lib.hid (C1.out.only0 o)
          have Cx := Lib.hid (Cx.out.only0 o)
          have Cy := Lib.hid (Cy.out.only0 o)
          have Ca := Lib.hid (Ca.out.only0 o)
          have Cb := Lib.hid kb
          clear o kb
          have cf := Ca.out.cmp Cb.out
          rw [E4.out] at cf
          go_wp2_with fail
          refine cf.mono ?_
          clear cf
          rintro e v12 ⟨rfl, o⟩
          have O := Lib.hid (O.out.trans' o)
          have C0 := Lib.hid (C0.out.only0 o)
          have C1 := Lib.hid (C1.out.only0 o)
          have Cx := Lib.hid (Cx.out.only0 o)
          have Cy := Lib.hid (Cy.out.only0 o)
          have Ca := Lib.hid (Ca.out.only0 o)
          have Cb := Lib.hid (Cb.out.only0 o)
          clear o
          go_wp2_with fail
          go_ret
          exact ⟨rfl, O.out.toBelow⟩

/-! ### The step from the walk to the statement -/
set_option maxRecDepth 100000 in
theorem lifted (os : Os) (started : os.Started) (H : Type) (enc : TypeId × Value → H) :
    ReturnsInHanded {} Try.checked os 7 .any (Rows.clockZerosSpec.pre6 enc Try.prog Try.f7 Rows.clockZerosRow.domain false) (Rows.clockZerosSpec.post enc Try.prog Try.f7 false true false false) := by
  refine returnsInHanded_of_change (C := Try.checked) own started (by kernel_rfl) Try.func7
    (ChangeSpec.witness6 (enc := enc) (C := Try.checked) false ⟨#[], #[.slice none 0 0, .slice none 0 0, .int .i64 0, .int .i64 0], []⟩ 8 (by kernel_rfl) (by kernel_rfl) (by kernel_rfl) (by kernel_rfl)) ?_
  intro W base args ds gs before hval0 hW hcnd _
  have hval : ∀ (j : Nat) t v, Try.f7.params[j]? = some t → args[j]? = some v → Value.okWide Try.prog W .any base t v := hval0
  have hW' := hW
  obtain ⟨p, q, hA0, hV, rfl, hfz, hnd⟩ := hW
  have hA : DataW.TrodAll enc Try.prog W 0 (fun _ => true) true Try.f7.params.toList args.toList ds p := hA0
  rw [Try.params7] at hA hval
  obtain ⟨v0, vs0, d0, ds0, p0, q0, hargs, rfl, rfl, h0, r0⟩ := trodAll_cons hA
  obtain ⟨v1, vs1, d1, ds1, p1, q1, rfl, rfl, rfl, h1, r1⟩ := trodAll_cons r0
  obtain ⟨v2, vs2, d2, ds2, p2, q2, rfl, rfl, rfl, h2, r2⟩ := trodAll_cons r1
  obtain ⟨v3, vs3, d3, ds3, p3, q3, rfl, rfl, rfl, h3, r3⟩ := trodAll_cons r2
  obtain ⟨rfl, rfl, rfl⟩ := trodAll_nil r3
  obtain rfl : args = #[v0, v1, v2, v3] := by cases args; simp_all
  obtain ⟨rfl, rfl⟩ := trodVars_none hV
  obtain ⟨a0, len0, cap0, rfl⟩ := okWide_slice Try.underlying22 (hval 0 22 v0 rfl rfl)
  have k0 := h0
  have lt0 : ∀ x ∈ p0, x.block < W.heap.size := by obtain ⟨m, hm⟩ := k0; exact DataW.trod_lt m _ _ _ hm
  obtain ⟨z0, w0⟩ : ∃ z, InNums .i64 W a0 len0 z := by
    obtain ⟨fuel, hf⟩ := h0
    exact open_numsF Try.underlying22 Try.underlying3 (by kernel_rfl) hf
  obtain ⟨a1, len1, cap1, rfl⟩ := okWide_slice Try.underlying22 (hval 1 22 v1 rfl rfl)
  have k1 := h1
  have lt1 : ∀ x ∈ p1, x.block < W.heap.size := by obtain ⟨m, hm⟩ := k1; exact DataW.trod_lt m _ _ _ hm
  obtain ⟨z1, w1⟩ : ∃ z, InNums .i64 W a1 len1 z := by
    obtain ⟨fuel, hf⟩ := h1
    exact open_numsF Try.underlying22 Try.underlying3 (by kernel_rfl) hf
  obtain ⟨a2, rfl, rfl, rfl, w2⟩ := open_int Try.underlying3 (hval 2 3 v2 rfl rfl) h2
  obtain ⟨a3, rfl, rfl, rfl, w3⟩ := open_int Try.underlying3 (hval 3 3 v3 rfl rfl) h3
  clear hA0 hval0
  refine (walk a0 len0 cap0 z0 a1 len1 cap1 z1 a2 a3 W w0 w1 w2 w3).mono fun e W' ⟨he, bel⟩ => ?_
  subst he
  exact ⟨_, rfl, _, _, _, [], _, [], hW', trodAll_mk1 (shut_bool Try.underlying4 _), (trodAll_cons_mk (Below.trod laidOut (by kernel_rfl) (of_decide_eq_true (by kernel_rfl)) k0 bel lt0) (trodAll_cons_mk (Below.trod laidOut (by kernel_rfl) (of_decide_eq_true (by kernel_rfl)) k1 bel lt1) (trodAll_cons_mk (shut_int Try.underlying3 w2) (trodAll_cons_mk (shut_int Try.underlying3 w3) trodAll_mk0)))), rfl, bel.frame _, fun h => by cases h⟩

theorem over : Rows.clockZerosRow.holds Try.pinned (OpenSpec.ofChange Rows.clockZerosSpec) :=
  OpenClaim.holds_of_wide 7 Try.f7 rfl rfl rfl rfl rfl rfl rfl ⟨rfl, rfl, rfl, rfl, rfl⟩ rfl rfl rfl rfl rfl (by kernel_rfl) Try.func7 (by kernel_rfl)
    (of_decide_eq_true (by kernel_rfl)) (by unfold Func.isWrapper; first | (rw [if_pos (by decide +kernel)]; kernel_rfl) | (rw [if_neg (by decide +kernel)]; exact ⟨rfl, rfl⟩))
    (fun os started H enc _ => lifted os started H enc)

/-- The statement. -/
theorem proved : Rows.ClockZerosSaid := over
#print axioms proved
end Go.Proofs.Ytenccllbgffojaa.clockZeros
