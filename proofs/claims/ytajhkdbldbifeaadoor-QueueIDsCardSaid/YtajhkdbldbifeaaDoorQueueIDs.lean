/-
  weighbridgelaw08.QueueIDs returns true for every input, and leaves its arguments as they were, where math/bits' table holds what the program's own text lays there (the card ties it). No other condition but that the arguments are values of their types.
-/
import Derived.Test.YtajhkdbldbifeaaDoorRows
import Derived.Test.YtajhkdbldbifeaaDoorTie
import Derived.Test.YtajhkdbldbifeaaDoorCards
import Derived.Test.YtajhkdbldbifeaaDoorQueueX
import Derived.ShutString
import Derived.ChangeOld
import Derived.Below
import Derived.SevenTiedAt
namespace Go.Proofs.YtajhkdbldbifeaaDoor.queueIDs
open Go.ChangeShapes Go.WideShapes Go.ChangeAt Go.RowKit
set_option linter.unusedVariables false

set_option maxRecDepth 100000 in
set_option maxHeartbeats 8000000 in
theorem walk (a0 : Int) (a1 : Int) (k2 i2 : Int) (a3 : Int) (w : World) (w0 : (Lit.int .i64 a0).wf = true) (w1 : (Lit.int .i64 a1).wf = true) (wk2 : (Lit.int .u64 k2).wf = true) (wi2 : (Lit.int .i64 i2).wf = true) (w3 : (Lit.int .u64 a3).wf = true) (hT : Tab w) :
    Calls Tryd.prog 3 #[.int .i64 a0, .int .i64 a1, .agg #[.int .u64 k2, .int .i64 i2], .int .u64 a3] w fun e w' => e = .returned (.bool true) ∧ Below w.heap.size w w' := by
  have HT := Lib.hid hT
  have oB : Only [] w (w.alloc (.cells #[.int .u64 k2, .int .i64 i2] 24)) := (Only.refl [] w).alloc _
  have bB : Box (w.alloc (.cells #[.int .u64 k2, .int .i64 i2] 24)) w.heap.size ⟨k2, i2⟩ := Box.new w ⟨k2, i2⟩
  obtain ⟨V, eV⟩ : ∃ V, w.alloc (.cells #[.int .u64 k2, .int .i64 i2] 24) = V := ⟨_, rfl⟩
  obtain ⟨N, eN⟩ : ∃ N, w.heap.size = N := ⟨_, rfl⟩
  rw [eV] at oB bB
  rw [eN] at bB
  have HB := Lib.hid (And.intro oB (And.intro bB eN))
  obtain ⟨kk0, kk1⟩ := u64ok_to wk2
  obtain ⟨ky0, ky1⟩ := u64ok_to w3
  have hir : -9223372036854775808 ≤ i2 ∧ i2 ≤ 9223372036854775807 := by
    have := wi2
    simp [Lit.wf, IntKind.min, IntKind.max, IntKind.signed, IntKind.bits] at this
    omega
  obtain ⟨lo, elo⟩ : ∃ lo, min i2 (-1) = lo := ⟨_, rfl⟩
  have elo2 : (if (-1 : Int) < i2 then -1 else i2) = lo := by rw [← elo]; split <;> omega
  have hlo : lo < 0 := by omega
  have HLO : Hid (i64ok lo) := i64ok_of (by omega)
  obtain ⟨j, ej⟩ : ∃ j, max i2 0 = j := ⟨_, rfl⟩
  have ej2 : (if i2 < 0 then 0 else i2) = j := by rw [← ej]; split <;> omega
  have hj : 0 ≤ j := by omega
  have HJ : Hid (i64ok j) := i64ok_of (by omega)
  have HK := Lib.hid (And.intro wk2 w3)
  clear oB bB hT wk2 wi2 w3 hir w0 w1
  go_enter Tryd.func3, Tryd.ntmps3
  go_wp2_with (simp only [eV, eN])
  clear eV eN
  refine (hMade8 a0 a1 V).mono ?_
  rintro e v1 ⟨qb, xb, rfl, n, wd, S1, T1, h1, f1, -, o1⟩
  have H1 : Hid (QOne w v1 N qb S1 n wd em ⟨k2, i2⟩) := ⟨h1.ours, fun b hb => Nat.le_trans HB.out.1.size (f1 b hb), fun hc => by have := f1 _ hc; have := HB.out.2.1.lt; omega, Nat.lt_of_lt_of_le HB.out.2.1.lt o1.size, HB.out.2.1.only o1 (by simp), by rw [HB.out.2.2]; exact Nat.le_refl _, HB.out.1.trans' o1⟩
  have n1 := h1.ours.n1.1
  have n16 := h1.ours.n1.2
  have aw := hAwake8 v1 (H1.out.tab HT.out).1
  clear h1 f1 o1 HB
  go_wp2_with fail
  refine aw.mono ?_
  rintro e v2 ⟨rfl, o2⟩
  have H2 := Lib.hid (H1.out.only0 o2)
  have x0 := H2.out.box.c0
  have x1 := H2.out.box.c1
  have hN2 := H2.out.lt
  simp only at x0 x1
  have H3 := Lib.hid (H2.out.only0 ((Only.refl [] v2).alloc (.cells #[.int .u64 k2, .int .i64 lo] 24)))
  have bL := Box.new v2 ⟨k2, lo⟩
  have l0 := bL.c0
  have l1 := bL.c1
  simp only at l0 l1
  have nL : v2.heap.size ∉ S1 := fun hc => by have := H2.out.ours.lt _ hc; omega
  have BL := Lib.hid (And.intro bL nL)
  obtain ⟨e1, e2, e3, e4, e5⟩ := neg_push (L := em) (n := n) (B := zb) (k := k2) hlo
  have p3 := H3.out.push HT.out ⟨k2, lo⟩ ⟨HK.out.1, HLO.out⟩ (em_room n)
  rw [e1, e2] at p3
  simp only at p3
  obtain ⟨A, eA⟩ : ∃ A, v2.heap.size = A := ⟨_, rfl⟩
  have hA : A < (v2.alloc (.cells #[.int .u64 k2, .int .i64 lo] 24)).heap.size := by rw [← eA]; simp
  clear o2 aw H1 bL nL e1 e2
  go_wp2_with fail
  refine p3.mono ?_
  rintro e u1 ⟨rfl, S2, h4, m4⟩
  have b4 := BL.out.1.moved m4 BL.out.2
  have q4 := h4.has lo HLO.out
  rw [e3] at q4
  have y1 := b4.1.c1
  simp only at y1
  have H4 := Lib.hid (And.intro h4 b4)
  clear p3 h4 m4 b4 l0 l1 x0 x1 BL e3 H3
  rw [eA] at y1
  (try rw [eA])
  rw [eA] at H4
  clear hA eA
  go_wp2_with fail
  refine q4.mono ?_
  rintro e u1 ⟨rfl, rfl⟩
  have q5 := H4.out.1.len
  rw [em_len] at q5
  clear q4
  go_wp2_with fail
  refine q5.mono ?_
  rintro e u2 ⟨rfl, h5, o5⟩
  have b5 := H4.out.2.1.only o5 (by simp)
  have y1' := b5.c1
  simp only at y1'
  have q6 := h5.drop HT.out lo HLO.out
  rw [e4, e5] at q6
  simp only [Option.getD_none, Option.isSome_none] at q6
  unfold It.val at q6
  clear q5 h5 o5 b5 y1 H4 e4 e5
  go_wp2_with fail
  refine q6.mono ?_
  rintro e u3 ⟨rfl, S3, h6, -⟩
  have H6 := Lib.hid (h6.only0 ((Only.refl [] u3).alloc (.cells #[.int .u64 0, .int .i64 0] 24)))
  have x0 := H6.out.box.c0
  have x1 := H6.out.box.c1
  have xf := H6.out.box.fr 1
  have x0' := h6.box.c0
  have x1' := h6.box.c1
  have xf' := h6.box.fr 1
  have hN3 := h6.lt
  simp only at x0 x1 x0' x1'
  have H7 := Lib.hid (h6.store j)
  have H8 := Lib.hid (H7.out.only0 ((Only.refl [] _).alloc (.cells #[.int .u64 0, .int .i64 0] 24)))
  clear q6 h6 y1'
  obtain ⟨d1, d2⟩ := one_push (n := n) (k := k2) hj kk0
  obtain ⟨d3, d4, d5, d6, d7⟩ := one_more (n := n) (k := k2) (key := a3) hj
  have p8 := H8.out.push HT.out ⟨k2, j⟩ ⟨HK.out.1, HJ.out⟩ (em_room n)
  rw [d1, d2] at p8
  simp only at p8
  clear d1 d2
  go_wp2_with fail
  refine p8.mono ?_
  rintro e u4 ⟨rfl, S4, h9, -⟩
  have z1 := h9.box.c1
  simp only at z1
  have p9 := h9.push HT.out ⟨a3, j⟩ ⟨HK.out.2, HJ.out⟩ (one_room n _)
  rw [d3, d4] at p9
  simp only at p9
  clear p8 h9 d3 d4 x0 x1 x0' x1' xf xf' H6 H7 H8
  go_wp2_with fail
  refine p9.mono ?_
  rintro e u5 ⟨rfl, S5, h10, -⟩
  have z1 := h10.box.c1
  simp only at z1
  have q10 := h10.has j HJ.out
  rw [d5] at q10
  have H10 := Lib.hid h10
  clear p9 h10 d5
  go_wp2_with fail
  refine q10.mono ?_
  rintro e u5 ⟨rfl, rfl⟩
  have q11 := H10.out.len
  rw [one_len hj n1] at q11
  clear q10
  go_wp2_with fail
  refine q11.mono ?_
  rintro e u6 ⟨rfl, h11, -⟩
  have z1 := h11.box.c1
  simp only at z1
  have q12 := h11.drop HT.out j HJ.out
  rw [d6, d7] at q12
  simp only [Option.getD_some, Option.isSome_some] at q12
  unfold It.val at q12
  simp only at q12
  clear q11 h11 d6 d7 H10
  go_wp2_with fail
  refine q12.mono ?_
  rintro e u7 ⟨rfl, S7, h12, -⟩
  have H12 := Lib.hid (h12.only0 ((Only.refl [] u7).alloc (.cells #[.int .u64 k2, .int .i64 j] 24)))
  have z0 := H12.out.box.c0
  have z1 := H12.out.box.c1
  have z0' := h12.box.c0
  have z1' := h12.box.c1
  have hN7 := h12.lt
  simp only at z0 z1 z0' z1'
  have he := item_eql ⟨k2, j⟩ ⟨k2, j⟩
  have hgi := item_guard
  simp only [decide_true] at he
  have q13 := H12.out.has j HJ.out
  rw [em_has] at q13
  clear q12 h12
  go_wp2_with fail
  refine q13.mono ?_
  rintro e u8 ⟨rfl, e8⟩
  have e9 := e8.symm
  clear e8
  subst e9
  obtain ⟨d1, -⟩ := one_push (n := n) (k := a3) hj ky0
  have p14 := H12.out.push HT.out ⟨a3, j⟩ ⟨HK.out.2, HJ.out⟩ (em_room n)
  rw [d1] at p14
  simp only at p14
  clear q13 d1
  go_wp2_with fail
  refine p14.mono ?_
  rintro e u9 ⟨rfl, S9, h14, -⟩
  have O := Lib.hid h14.only
  clear h14 p14
  go_wp2_with fail
  go_ret
  exact ⟨by simp, O.out.below (Nat.le_refl _) (by simp)⟩

/-! ### The step from the walk to the row -/
set_option maxRecDepth 100000 in
theorem lifted (os : Os) (started : os.Started) (H : Type) (enc : TypeId × Value → H) :
    ReturnsInHanded {} Tryd.checked os 3 .any (fun w args => (Rows.queueIDsSpec.pre enc Tryd.prog Tryd.f3 [] false w args ∧ laidMetH Tryd.prog listed w) ∧ sizedMet enc Tryd.prog Tryd.f3 (OpenSpec.ofChange Rows.queueIDsSpec) false w args)
      (Rows.queueIDsSpec.post enc Tryd.prog Tryd.f3 false true false false) := by
  refine returnsInHanded_of_change_and (C := Tryd.checked) (X := fun w _ => laidMetH Tryd.prog listed w) (fun _ _ _ hh h => h.of_heap hh) own started (by kernel_rfl) Tryd.func3
    (ChangeSpec.witness_shaped (enc := enc) (C := Tryd.checked) (os := os) (X := fun w _ => laidMetH Tryd.prog listed w) false (World.doorLaid Tryd.prog 14 os) #[.int .i64 0, .int .i64 0, .agg #[.int .u64 0, .int .i64 0], .int .u64 0] 8 rfl (World.shaped_of_RefB (by kernel_rfl) (by kernel_rfl)) (by kernel_rfl) (by kernel_rfl) (by kernel_rfl) (door_met os _)) ?_
  intro W base args ds gs before hval0 hW _ _ hL _
  have hval : ∀ (j : Nat) t v, Tryd.f3.params[j]? = some t → args[j]? = some v → Value.okWide Tryd.prog W .any base t v := hval0
  have hW' := hW
  obtain ⟨p, q, hA0, hV, rfl, hfz, hnd⟩ := hW
  have hA : DataW.TrodAll enc Tryd.prog W 0 (fun _ => true) true Tryd.f3.params.toList args.toList ds p := hA0
  rw [Tryd.params3] at hA hval
  obtain ⟨v0, vs0, d0, ds0, p0, q0, hargs, rfl, rfl, h0, r0⟩ := trodAll_cons hA
  obtain ⟨v1, vs1, d1, ds1, p1, q1, rfl, rfl, rfl, h1, r1⟩ := trodAll_cons r0
  obtain ⟨v2, vs2, d2, ds2, p2, q2, rfl, rfl, rfl, h2, r2⟩ := trodAll_cons r1
  obtain ⟨v3, vs3, d3, ds3, p3, q3, rfl, rfl, rfl, h3, r3⟩ := trodAll_cons r2
  obtain ⟨rfl, rfl, rfl⟩ := trodAll_nil r3
  obtain rfl : args = #[v0, v1, v2, v3] := by cases args; simp_all
  obtain ⟨rfl, rfl⟩ := trodVars_none hV
  obtain ⟨a0, rfl, rfl, rfl, w0⟩ := open_int Tryd.underlying3 (hval 0 3 v0 rfl rfl) h0
  obtain ⟨a1, rfl, rfl, rfl, w1⟩ := open_int Tryd.underlying3 (hval 1 3 v1 rfl rfl) h1
  obtain ⟨c0, c1, y0, y1, m, rfl, rfl, rfl, hy0, hy1⟩ := Joins.open_agg2 Tryd.underlying24 (by kernel_rfl) cellsItem (hval 2 24 v2 rfl rfl) h2
  obtain ⟨k2, e0, rfl, wk2⟩ := DataW.trod_int Tryd.underlying22 hy0
  obtain ⟨i2, e1, rfl, wi2⟩ := DataW.trod_int Tryd.underlying3 hy1
  simp at e0 e1
  subst e0 e1
  obtain ⟨a3, rfl, rfl, rfl, w3⟩ := open_int Tryd.underlying22 (hval 3 22 v3 rfl rfl) h3
  clear hA0 hval0
  refine (walk a0 a1 k2 i2 a3 W w0 w1 wk2 wi2 w3 (tab_of_laid hL)).mono fun e W' ⟨he, bel⟩ => ?_
  subst he
  exact ⟨_, rfl, _, _, _, [], _, [], hW', trodAll_mk1 (shut_bool Tryd.underlying4 _), (trodAll_cons_mk (shut_int Tryd.underlying3 w0) (trodAll_cons_mk (shut_int Tryd.underlying3 w1) (trodAll_cons_mk (reads_item wk2 wi2 _ _ _) (trodAll_cons_mk (shut_int Tryd.underlying22 w3) trodAll_mk0)))), rfl, bel.frame _, fun h => by cases h⟩

theorem over : Rows.queueIDsRow.holds Tryd.pinned (OpenSpec.ofChange Rows.queueIDsSpec) :=
  OpenClaim.holds_of_wide 3 Tryd.f3 rfl rfl rfl rfl rfl rfl rfl ⟨rfl, rfl, rfl, rfl, rfl⟩ rfl rfl rfl rfl rfl (by kernel_rfl) Tryd.func3 (by kernel_rfl)
    (of_decide_eq_true (by kernel_rfl)) (by unfold Func.isWrapper; first | (rw [if_pos (by decide +kernel)]; kernel_rfl) | (rw [if_neg (by decide +kernel)]; exact ⟨rfl, rfl⟩))
    (fun os started H enc _ => lifted os started H enc)

/-- The statement: the card, its listed variable tied to the program's text. -/
theorem proved : Rows.QueueIDsCardSaid :=
  Claim7.holds_tied_plain_at .later [] [.data] true (true, "6a8ab1c6ea76440a140938739fe796259254b946e0dea1e9cd0616ea3eef1dfd") false
    over (fun _ h => by cases h) (by kernel_rfl) (fun _ h => by cases h) queueIDs_row_tie rfl ⟨rfl, rfl⟩ (by kernel_rfl) rfl
    (fun f fn hf hfn => by
      obtain rfl : f = 3 := Option.some.inj ((show Tryd.prog.funcNamed "weighbridge/weighbridgelaw08.QueueIDs" = some 3 by kernel_rfl).symm.trans hf) |>.symm
      obtain rfl : fn = Tryd.f3 := (Option.some.inj (Tryd.func3.symm.trans hfn)).symm
      exact ⟨by kernel_rfl, fun j t ht => by
        rw [Tryd.params3] at ht
        have hm : t ∈ [3, 3, 24, 22] := by simpa using Array.mem_of_getElem? ht
        have hall : ([3, 3, 24, 22].all fun u => !Tryd.prog.wantsStandIn u) = true := by kernel_rfl
        exact (show Tryd.prog.wantsStandIn t = false by simpa using List.all_eq_true.1 hall t hm)⟩)
    (by kernel_rfl)
#print axioms proved
end Go.Proofs.YtajhkdbldbifeaaDoor.queueIDs
