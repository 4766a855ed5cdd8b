/-
  weighbridgelaw12.ClockKept returns true for every input, and leaves its arguments as they were. No condition but that the arguments are values of their types.
-/
import Derived.Test.YtenccllbgffojaaRows
import Derived.Test.YtenccllbgffojaaClkN
import Derived.WalkKit
import Derived.ProofKit
import Derived.OpenShut
import Derived.ChangeOld
import Derived.Below
namespace Go.Proofs.Ytenccllbgffojaa.clockKept
open Go.ChangeShapes Go.WideShapes Go.ChangeAt Go.RowKit
set_option linter.unusedVariables false
set_option linter.unusedSimpArgs false

set_option maxRecDepth 100000 in
set_option maxHeartbeats 4000000 in
theorem walk (a0 : Option Addr) (len0 cap0 : Nat) (z0 : Nat → Int) (a1 : Option Addr) (len1 cap1 : Nat) (z1 : Nat → Int) (a2 : Int) (w : World) (w0 : InNums .i64 w a0 len0 z0) (w1 : InNums .i64 w a1 len1 z1) (w2 : (Lit.int .i64 a2).wf = true) :
    Calls Try.prog 8 #[.slice a0 len0 cap0, .slice a1 len1 cap1, .int .i64 a2] w fun e w' => e = .returned (.bool true) ∧ Below w.heap.size w w' := by
  obtain ⟨m0, hm0⟩ : ∃ m, (nearM z0 len0).length = m := ⟨_, rfl⟩
  have s0 : m0 ≤ 70 := by have := nearM_len z0 len0; omega
  have N0 := Lib.hid (fun (W : World) (o : Only [] w W) => ckNear (c := cap0) (w0.only0 o) hm0)
  have I0 := Lib.hid (nearM_ints w0)
  obtain ⟨m1, hm1⟩ : ∃ m, (nearM z1 len1).length = m := ⟨_, rfl⟩
  have s1 : m1 ≤ 70 := by have := nearM_len z1 len1; omega
  have N1 := Lib.hid (fun (W : World) (o : Only [] w W) => ckNear (c := cap1) (w1.only0 o) hm1)
  have I1 := Lib.hid (nearM_ints w1)
  generalize nearM z0 len0 = x0 at *
  have M0 := Lib.hid hm0
  clear hm0 w0
  generalize nearM z1 len1 = x1 at *
  have M1 := Lib.hid hm1
  clear hm1 w1
  have O : Hid (Only [] w w) := Only.refl [] w
  have q1 := modI_lt a2 (n := 66) (by decide)
  have md1 := Lib.hid (fun W => ckMod a2 66 (by decide) (by decide) W)
  generalize modI a2 66 = y66 at *
  obtain ⟨i, hi⟩ : ∃ i, y66 - 1 = i := ⟨_, rfl⟩
  obtain ⟨tn, htn⟩ : ∃ r, (tickM x0 i).length = r := ⟨_, rfl⟩
  have TB := Lib.hid (show tn ≤ 90000 from by have := tickM_short x0 i; have := M0.out; omega)
  have TN := Lib.hid htn
  clear htn
  obtain ⟨jn, hjn⟩ : ∃ r, (joinM x0 x1).length = r := ⟨_, rfl⟩
  have JN := Lib.hid hjn
  have JB := Lib.hid (show jn ≤ 90000 from by have h := hjn; rw [joinM_len, M0.out, M1.out] at h; omega)
  clear hjn
  go_enter Try.func8, Try.ntmps8
  have cf := N0.out _ O.out
  go_wp2_with fail
  refine cf.mono ?_
  clear cf
  rintro e v1 ⟨A0, c0, rfl, k0, o⟩
  have O := Lib.hid (O.out.trans' o)
  have C0 := Lib.hid k0
  clear o k0
  have cf := N1.out _ O.out
  go_wp2_with fail
  refine cf.mono ?_
  clear cf
  rintro e v2 ⟨A1, c1, rfl, k1, o⟩
  have O := Lib.hid (O.out.trans' o)
  have C0 := Lib.hid (C0.out.only0 o)
  have C1 := Lib.hid k1
  clear o k1
  have cf := md1.out v2
  go_wp2_with fail
  refine cf.mono ?_
  clear cf
  rintro e v3 ⟨rfl, o⟩
  have O := Lib.hid (O.out.trans' o)
  have C0 := Lib.hid (C0.out.only0 o)
  have C1 := Lib.hid (C1.out.only0 o)
  clear o
  clear md1
  have cf := C0.out.own 77
  go_wp2_with fail
  refine cf.mono ?_
  clear cf
  rintro e v4 ⟨gx, rfl, fx, nx, lx⟩
  have o := fx.only
  have C0 := Lib.hid (C0.out.only0 o)
  have C1 := Lib.hid (C1.out.only0 o)
  have O := Lib.hid (O.out.trans' o)
  have FX := Lib.hid (And.intro fx nx)
  clear o fx nx lx
  have cf := C1.out.own 78
  go_wp2_with fail
  refine cf.mono ?_
  clear cf
  rintro e v5 ⟨gy, rfl, fy, ny, ly⟩
  have o := fy.only
  have C0 := Lib.hid (C0.out.only0 o)
  have C1 := Lib.hid (C1.out.only0 o)
  have O := Lib.hid (O.out.trans' o)
  have NX := Lib.hid (FX.out.2.only0 o)
  have NY := Lib.hid ny
  have Cx := Lib.hid ((FX.out.1.only0 o).ck (by omega))
  have Cy := Lib.hid (fy.ck (by omega))
  have K0 := Lib.hid C0.out
  have K1 := Lib.hid C1.out
  have O5 := Lib.hid (Only.refl [] v5)
  have OV := Lib.hid O.out
  clear FX o fy ny ly
  have ft := Lib.hid (cTick (some ⟨gx, 0, none⟩) m0 (m0 + 3) x0 i v5 Cx.out.len (by omega) Cx.out.nums Cx.out.nil)
  have ft2 : Calls Try.prog 15 #[.slice (some ⟨gx, 0, none⟩) m0 (m0 + 3), .int .i64 i] v5 fun e w' => ∃ A c, e = .returned (.slice A tn c) ∧ Nums v5.heap.size w' A (tickM x0 i) ∧ Only [] v5 w' ∧ (A = none → tn = 0 ∧ c = 0) := by
    rw [← TN.out]; exact ft.out
  clear ft
  have cf := ft2
  go_wp2_with fail
  refine cf.mono ?_
  clear cf
  rintro e v6 ⟨At, ct, rfl, nt, o, zt⟩
  have O := Lib.hid (O.out.trans' o)
  have O5 := Lib.hid (O5.out.trans' o)
  have C0 := Lib.hid (C0.out.only0 o)
  have C1 := Lib.hid (C1.out.only0 o)
  have Cx := Lib.hid (Cx.out.only0 o)
  have Cy := Lib.hid (Cy.out.only0 o)
  clear ft2
  have Ct := Lib.hid (show Ck v6 At tn ct (tickM x0 i) from ⟨nt.zero, TN.out, TB.out, zt⟩)
  have NT := Lib.hid nt
  clear o nt zt
  have TL : Hid (0 < tn → ∀ g, At = some ⟨g, 0, none⟩ → g < v6.heap.size) := fun h0 g hg => by
    obtain ⟨g2, e2, _, hc, _⟩ := NT.out 0 _ (gC_get (by rw [TN.out]; exact h0))
    rw [hg] at e2
    injection e2 with e2
    injection e2 with e2
    subst e2
    exact World.block_lt_of_cell? v6 _ hc
  have fj := Lib.hid (cJoin (some ⟨gx, 0, none⟩) m0 (m0 + 3) x0 (some ⟨gy, 0, none⟩) m1 (m1 + 3) x1 v6 Cx.out.len Cy.out.len (by omega) (by omega) Cx.out.nums Cy.out.nums)
  have fj2 : Calls Try.prog 17 #[.slice (some ⟨gx, 0, none⟩) m0 (m0 + 3), .slice (some ⟨gy, 0, none⟩) m1 (m1 + 3)] v6 fun e w' => ∃ A c, e = .returned (.slice A jn c) ∧ Nums v6.heap.size w' A (joinM x0 x1) ∧ Only [] v6 w' ∧ (A = none → jn = 0 ∧ c = 0) := by
    rw [← JN.out]; exact fj.out
  clear fj
  have O56 := Lib.hid O5.out
  have cf := fj2
  go_wp2_with fail
  refine cf.mono ?_
  clear cf
  rintro e v7 ⟨Aj, cj, rfl, nj, o, zj⟩
  have O := Lib.hid (O.out.trans' o)
  have O5 := Lib.hid (O5.out.trans' o)
  have C0 := Lib.hid (C0.out.only0 o)
  have C1 := Lib.hid (C1.out.only0 o)
  have Cx := Lib.hid (Cx.out.only0 o)
  have Cy := Lib.hid (Cy.out.only0 o)
  have Ct := Lib.hid (Ct.out.only0 o)
  clear fj2
  have Cj := Lib.hid (show Ck v7 Aj jn cj (joinM x0 x1) from ⟨nj.zero, JN.out, JB.out, zj⟩)
  have NT := Lib.hid (NT.out.only0 o)
  have NJ := Lib.hid nj
  have O7 := Lib.hid (Only.refl [] v7)
  clear o nj zj
  have cf := cAwake v7
  go_wp2_with fail
  refine cf.mono ?_
  clear cf
  rintro e v8 ⟨rfl, o⟩
  have O := Lib.hid (O.out.trans' o)
  have O5 := Lib.hid (O5.out.trans' o)
  have O7 := Lib.hid (O7.out.trans' o)
  have C0 := Lib.hid (C0.out.only0 o)
  have C1 := Lib.hid (C1.out.only0 o)
  have Cx := Lib.hid (Cx.out.only0 o)
  have Cy := Lib.hid (Cy.out.only0 o)
  have Ct := Lib.hid (Ct.out.only0 o)
  have Cj := Lib.hid (Cj.out.only0 o)
  clear o
  have cf := C0.out.rtick i TN.out TB.out
  go_wp2_with fail
  refine cf.mono ?_
  clear cf
  rintro e v9 ⟨Au, cu, rfl, ku, o⟩
  have O := Lib.hid (O.out.trans' o)
  have O5 := Lib.hid (O5.out.trans' o)
  have O7 := Lib.hid (O7.out.trans' o)
  have C0 := Lib.hid (C0.out.only0 o)
  have C1 := Lib.hid (C1.out.only0 o)
  have Cx := Lib.hid (Cx.out.only0 o)
  have Cy := Lib.hid (Cy.out.only0 o)
  have Ct := Lib.hid (Ct.out.only0 o)
  have Cj := Lib.hid (Cj.out.only0 o)
  have Cu := Lib.hid ku
  clear o ku
  have cf := Ct.out.plain Cu.out
  go_wp2_with fail
  refine cf.mono ?_
  clear cf
  rintro e v10 ⟨rfl, o⟩
  have O := Lib.hid (O.out.trans' o)
  have O5 := Lib.hid (O5.out.trans' o)
  have O7 := Lib.hid (O7.out.trans' o)
  have C0 := Lib.hid (C0.out.only0 o)
  have C1 := Lib.hid (C1.out.only0 o)
  have Cx := Lib.hid (Cx.out.only0 o)
  have Cy := Lib.hid (Cy.out.only0 o)
  have Ct := Lib.hid (Ct.out.only0 o)
  have Cj := Lib.hid (Cj.out.only0 o)
  have Cu := Lib.hid (Cu.out.only0 o)
  clear o
  clear Cu
  have cf := C0.out.rjoin C1.out JN.out
  go_wp2_with fail
  refine cf.mono ?_
  clear cf
  rintro e v11 ⟨Au, cu, rfl, ku, o⟩
  have O := Lib.hid (O.out.trans' o)
  have O5 := Lib.hid (O5.out.trans' o)
  have O7 := Lib.hid (O7.out.trans' o)
  have C0 := Lib.hid (C0.out.only0 o)
  have C1 := Lib.hid (C1.out.only0 o)
  have Cx := Lib.hid (Cx.out.only0 o)
  have Cy := Lib.hid (Cy.out.only0 o)
  have Ct := Lib.hid (Ct.out.only0 o)
  have Cj := Lib.hid (Cj.out.only0 o)
  have Cu := Lib.hid ku
  clear o ku
  have cf := Cj.out.plain Cu.out
  go_wp2_with fail
  refine cf.mono ?_
  clear cf
  rintro e v12 ⟨rfl, o⟩
  have O := Lib.hid (O.out.trans' o)
  have O5 := Lib.hid (O5.out.trans' o)
  have O7 := Lib.hid (O7.out.trans' o)
  have C0 := Lib.hid (C0.out.only0 o)
  have C1 := Lib.hid (C1.out.only0 o)
  have Cx := Lib.hid (Cx.out.only0 o)
  have Cy := Lib.hid (Cy.out.only0 o)
  have Ct := Lib.hid (Ct.out.only0 o)
  have Cj := Lib.hid (Cj.out.only0 o)
  have Cu := Lib.hid (Cu.out.only0 o)
  clear o
  clear Cu
  have cf := Cx.out.leq Cy.out
  go_wp2_with fail
  refine cf.mono ?_
  clear cf
  rintro e v13 ⟨rfl, o⟩
  have O := Lib.hid (O.out.trans' o)
  have O5 := Lib.hid (O5.out.trans' o)
  have O7 := Lib.hid (O7.out.trans' o)
  have C0 := Lib.hid (C0.out.only0 o)
  have C1 := Lib.hid (C1.out.only0 o)
  have Cx := Lib.hid (Cx.out.only0 o)
  have Cy := Lib.hid (Cy.out.only0 o)
  have Ct := Lib.hid (Ct.out.only0 o)
  have Cj := Lib.hid (Cj.out.only0 o)
  clear o
  have cf := Cx.out.cmp Cy.out
  go_wp2_with fail
  refine cf.mono ?_
  clear cf
  rintro e v14 ⟨rfl, o⟩
  have O := Lib.hid (O.out.trans' o)
  have O5 := Lib.hid (O5.out.trans' o)
  have O7 := Lib.hid (O7.out.trans' o)
  have C0 := Lib.hid (C0.out.only0 o)
  have C1 := Lib.hid (C1.out.only0 o)
  have Cx := Lib.hid (Cx.out.only0 o)
  have Cy := Lib.hid (Cy.out.only0 o)
  have Ct := Lib.hid (Ct.out.only0 o)
  have Cj := Lib.hid (Cj.out.only0 o)
  clear o
  clear Ct Cj Cx Cy
  have B0 := Lib.hid C0.out
  have B1 := Lib.hid C1.out
  clear C0 C1
  have O8 := Lib.hid (Only.refl [] v14)
  have cf := iSpoil v5.heap.size v14 At tn ct (tickM x0 i) TN.out (by have := TB.out; omega) (NT.out.only0 O7.out)
  go_wp2_with fail
  refine cf.mono ?_
  clear cf
  rintro e y1 ⟨rfl, p1⟩
  have P1 := Lib.hid p1
  clear p1
  have hO5 := Lib.hid (P1.out.on O5.out (fun k hk => hk.2.1))
  have hO := Lib.hid (P1.out.on O.out (fun k hk => Nat.le_trans OV.out.size hk.2.1))
  have nj1 : Nums v6.heap.size y1 Aj (joinM x0 x1) := by
    obtain ⟨S, oS, hS⟩ := P1.out
    exact (NJ.out.only0 O7.out).only oS (fun g hg h0 hB hlt hgS => by
      have h3 := hS g hgS
      have h4 := TL.out h3.2.2 g h3.1
      omega)
  have NJ := Lib.hid nj1
  clear nj1
  have cf := iSpoil v6.heap.size y1 Aj jn cj (joinM x0 x1) JN.out (by have := JB.out; omega) NJ.out
  go_wp2_with fail
  refine cf.mono ?_
  clear cf
  rintro e y2 ⟨rfl, p2⟩
  have P2 := Lib.hid p2
  clear p2
  have hO5 := Lib.hid (P2.out.on hO5.out (fun k hk => Nat.le_trans O56.out.size hk.2.1))
  have hO := Lib.hid (P2.out.on hO.out (fun k hk => Nat.le_trans (Nat.le_trans OV.out.size O56.out.size) hk.2.1))
  clear P1 P2 NJ NT TL
  have cf := cKept (some ⟨gx, 0, none⟩) m0 x0 A0 c0 77 y2 M0.out (by omega) (NX.out.only0 hO5.out) ((K0.out.only0 hO5.out).nums)
  go_wp2_with fail
  refine cf.mono ?_
  clear cf
  rintro e y3 ⟨rfl, o⟩
  have hO5 := Lib.hid (hO5.out.trans' o)
  have hO := Lib.hid (hO.out.trans' o)
  clear o
  have cf := cKept (some ⟨gy, 0, none⟩) m1 x1 A1 c1 78 y3 M1.out (by omega) (NY.out.only0 hO5.out) ((K1.out.only0 hO5.out).nums)
  go_wp2_with fail
  refine cf.mono ?_
  clear cf
  rintro e y4 ⟨rfl, o⟩
  have hO := Lib.hid (hO.out.trans' o)
  clear o
  go_wp2_with fail
  go_ret
  exact ⟨rfl, hO.out.toBelow⟩

/-! ### The step from the walk to the statement -/
set_option maxRecDepth 100000 in
theorem lifted (os : Os) (started : os.Started) (H : Type) (enc : TypeId × Value → H) :
    ReturnsInHanded {} Try.checked os 8 .any (Rows.clockKeptSpec.pre6 enc Try.prog Try.f8 Rows.clockKeptRow.domain false) (Rows.clockKeptSpec.post enc Try.prog Try.f8 false true false false) := by
  refine returnsInHanded_of_change (C := Try.checked) own started (by kernel_rfl) Try.func8
    (ChangeSpec.witness6 (enc := enc) (C := Try.checked) false ⟨#[], #[.slice none 0 0, .slice none 0 0, .int .i64 0], []⟩ 8 (by kernel_rfl) (by kernel_rfl) (by kernel_rfl) (by kernel_rfl)) ?_
  intro W base args ds gs before hval0 hW hcnd _
  have hval : ∀ (j : Nat) t v, Try.f8.params[j]? = some t → args[j]? = some v → Value.okWide Try.prog W .any base t v := hval0
  have hW' := hW
  obtain ⟨p, q, hA0, hV, rfl, hfz, hnd⟩ := hW
  have hA : DataW.TrodAll enc Try.prog W 0 (fun _ => true) true Try.f8.params.toList args.toList ds p := hA0
  rw [Try.params8] at hA hval
  obtain ⟨v0, vs0, d0, ds0, p0, q0, hargs, rfl, rfl, h0, r0⟩ := trodAll_cons hA
  obtain ⟨v1, vs1, d1, ds1, p1, q1, rfl, rfl, rfl, h1, r1⟩ := trodAll_cons r0
  obtain ⟨v2, vs2, d2, ds2, p2, q2, rfl, rfl, rfl, h2, r2⟩ := trodAll_cons r1
  obtain ⟨rfl, rfl, rfl⟩ := trodAll_nil r2
  obtain rfl : args = #[v0, v1, v2] := by cases args; simp_all
  obtain ⟨rfl, rfl⟩ := trodVars_none hV
  obtain ⟨a0, len0, cap0, rfl⟩ := okWide_slice Try.underlying22 (hval 0 22 v0 rfl rfl)
  have k0 := h0
  have lt0 : ∀ x ∈ p0, x.block < W.heap.size := by obtain ⟨m, hm⟩ := k0; exact DataW.trod_lt m _ _ _ hm
  obtain ⟨z0, w0⟩ : ∃ z, InNums .i64 W a0 len0 z := by
    obtain ⟨fuel, hf⟩ := h0
    exact open_numsF Try.underlying22 Try.underlying3 (by kernel_rfl) hf
  obtain ⟨a1, len1, cap1, rfl⟩ := okWide_slice Try.underlying22 (hval 1 22 v1 rfl rfl)
  have k1 := h1
  have lt1 : ∀ x ∈ p1, x.block < W.heap.size := by obtain ⟨m, hm⟩ := k1; exact DataW.trod_lt m _ _ _ hm
  obtain ⟨z1, w1⟩ : ∃ z, InNums .i64 W a1 len1 z := by
    obtain ⟨fuel, hf⟩ := h1
    exact open_numsF Try.underlying22 Try.underlying3 (by kernel_rfl) hf
  obtain ⟨a2, rfl, rfl, rfl, w2⟩ := open_int Try.underlying3 (hval 2 3 v2 rfl rfl) h2
  clear hA0 hval0
  refine (walk a0 len0 cap0 z0 a1 len1 cap1 z1 a2 W w0 w1 w2).mono fun e W' ⟨he, bel⟩ => ?_
  subst he
  exact ⟨_, rfl, _, _, _, [], _, [], hW', trodAll_mk1 (shut_bool Try.underlying4 _), (trodAll_cons_mk (Below.trod laidOut (by kernel_rfl) (of_decide_eq_true (by kernel_rfl)) k0 bel lt0) (trodAll_cons_mk (Below.trod laidOut (by kernel_rfl) (of_decide_eq_true (by kernel_rfl)) k1 bel lt1) (trodAll_cons_mk (shut_int Try.underlying3 w2) trodAll_mk0))), rfl, bel.frame _, fun h => by cases h⟩

theorem over : Rows.clockKeptRow.holds Try.pinned (OpenSpec.ofChange Rows.clockKeptSpec) :=
  OpenClaim.holds_of_wide 8 Try.f8 rfl rfl rfl rfl rfl rfl rfl ⟨rfl, rfl, rfl, rfl, rfl⟩ rfl rfl rfl rfl rfl (by kernel_rfl) Try.func8 (by kernel_rfl)
    (of_decide_eq_true (by kernel_rfl)) (by unfold Func.isWrapper; first | (rw [if_pos (by decide +kernel)]; kernel_rfl) | (rw [if_neg (by decide +kernel)]; exact ⟨rfl, rfl⟩))
    (fun os started H enc _ => lifted os started H enc)

/-- The statement. -/
theorem proved : Rows.ClockKeptSaid := over
#print axioms proved
end Go.Proofs.Ytenccllbgffojaa.clockKept
