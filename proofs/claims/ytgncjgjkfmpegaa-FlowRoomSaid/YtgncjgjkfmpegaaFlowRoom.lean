/-
  weighbridgelaw09.FlowRoom returns true for every input, and leaves its arguments as they were. No condition but that the arguments are values of their types.
-/
import Derived.Test.YtgncjgjkfmpegaaRows
import Derived.Test.YtgncjgjkfmpegaaFlowT
import Derived.WalkKit
import Derived.ProofKit
import Derived.OpenShut
import Derived.ChangeOld
import Derived.Below
namespace Go.Proofs.Ytgncjgjkfmpegaa.flowRoom
open Go.ChangeShapes Go.WideShapes Go.ChangeAt Go.RowKit
set_option linter.unusedVariables false
set_option linter.unusedSimpArgs false

set_option maxRecDepth 100000 in
set_option maxHeartbeats 8000000 in
theorem walk (a0 : Int) (a1 : Int) (f2 l2 m2 : Int) (w : World) (w0 : (Lit.int .u64 a0).wf = true) (w1 : (Lit.int .i64 a1).wf = true) (wf2 : (Lit.int .i64 f2).wf = true) (wl2 : (Lit.int .i64 l2).wf = true) (wm2 : (Lit.int .i64 m2).wf = true) :
    Calls Try.prog 4 #[.int .u64 a0, .int .i64 a1, .agg #[.int .i64 f2, .int .i64 l2, .int .i64 m2]] w fun e w' => e = .returned (.bool true) ∧ Below w.heap.size w w' := by
  have hm := room_is a1
  have hrl := room_le a1
  have hn0 := fun w => new_one w a0 a1 (U64.of_wf w0)
  have hpok : (⟨f2, l2, m2⟩ : Pk).ok := ⟨wf2, wl2, wm2⟩
  generalize hx : (⟨f2, l2, m2⟩ : Pk) = x at *
  obtain ⟨rfl, rfl, rfl⟩ : f2 = x.f ∧ l2 = x.l ∧ m2 = x.m := by subst hx; exact ⟨rfl, rfl, rfl⟩
  generalize room a1 = n at *
  have q1 : (if (8 : Int) < max a1 1 then 8 else max a1 1) = (n : Int) := by rw [← hm]; split <;> omega
  have q2 : (if (8 : Int) < (if a1 < 1 then 1 else a1) then 8 else (if a1 < 1 then 1 else a1)) = (n : Int) := by rw [← hm]; split <;> split <;> omega
  have q3 : ¬ (a1 < 1) → (if (8 : Int) < a1 then 8 else a1) = (n : Int) := fun h => by rw [← hm]; split <;> omega
  have bx := PBox.new w x
  have ob : Only [] w (w.alloc (.cells #[.int .i64 x.f, .int .i64 x.l, .int .i64 x.m] 32)) := (Only.refl [] w).alloc _
  obtain ⟨n1, n8⟩ := hrl
  clear w0 w1 wf2 wl2 wm2 hx
  go_enter Try.func4, Try.ntmps4
  go_wp2_with fail
  all_goals
    generalize w.alloc (.cells #[.int .i64 x.f, .int .i64 x.l, .int .i64 x.m] 32) = W at *
    refine (hn0 W).mono ?_
    rintro e v1 ⟨rfl, h1⟩
    have H1 := Lib.hid h1
    have BX := Lib.hid (And.intro bx ob)
    clear h1 hn0 hm q1 q2 q3 bx ob
    generalize W.heap.size = b at *
    go_wp2_with fail
    refine (fAwake _).mono ?_
    rintro e v2 ⟨rfl, o2⟩
    have H2 := Lib.hid (H1.out.only0 o2)
    clear o2 H1
    go_wp2_with fail
    go_loopg [9] (n + 1) (fun gk si wr => ∃ (p : Nat) (F : Fl) (O : List Nat), si = .int .i64 (p : Int) ∧ p ≤ n ∧ n + 1 ≤ gk + p ∧ Hid (F.n = n ∧ F.l.length = p) ∧ Hid (FOne W wr b F O))
    case atStart => exact ⟨0, _, _, rfl, by omega, by omega, ⟨rfl, rfl⟩, H2⟩
    case round =>
      obtain ⟨p, F, O, rfl, hp, hg, hF, hS⟩ := hrel
      clear H2
      obtain ⟨x0, x1, x2⟩ := (BX.out.1.only hS.out.only (by simp)).c
      have hok := hS.out.fl.1
      have har := hS.out.arrive 0 U64.zero x hpok
      by_cases hc : p < n
      · have c1 : (p : Int) < (n : Int) := by omega
        have ht := Fl.takes_lt hok (by have h1 := hF.out.1; have h2 := hF.out.2; omega)
        rw [ht, Fl.arr_in ht] at har
        have HAR := Lib.hid har
        clear har ht hok hc hS
        go_wp2_with fail
        refine HAR.out.mono ?_
        rintro e u1 ⟨rfl, O2, k1, -⟩
        have hle := k1.len
        have e9 : (F.l ++ [x]).length = p + 1 := by simp [hF.out.2]
        have HF2 : Hid (F.n = n ∧ (F.l ++ [x]).length = p + 1) := ⟨hF.out.1, e9⟩
        simp only [e9] at hle
        have K1 := Lib.hid k1
        clear k1 HAR e9 hF
        go_wp2_with fail
        refine hle.mono ?_
        rintro e u1 ⟨rfl, rfl⟩
        clear hle x0 x1 x2
        go_wp2_with fail
        go_roundg (n + 1 - (p + 1))
        case measure => omega
        case rel => exact ⟨p + 1, _, O2, by simp, by omega, by omega, HF2, K1⟩
      · have hpn : p = n := by omega
        subst hpn
        have c1 : decide ((p : Int) < (p : Int)) = false := by simp
        have ht := Fl.takes_eq (F := F) (by rw [hF.out.1, hF.out.2])
        rw [ht, Fl.arr_full ht] at har
        have HAR := Lib.hid har
        clear har ht hc hS hok
        go_wp2_with fail
        refine HAR.out.mono ?_
        rintro e u1 ⟨rfl, O2, k1, -⟩
        have hle := k1.len
        rw [hF.out.2] at hle
        have hsv := Lib.hid k1.serve
        have hlp : F.l ≠ [] := by
          intro h9
          have h8 := hF.out.2
          rw [h9] at h8
          simp at h8
          omega
        have ha := Fl.any_cons hlp
        rw [ha] at hsv
        obtain ⟨y, t, hyt⟩ : ∃ y t, F.l = y :: t := by
          rcases h9 : F.l with _ | ⟨y, t⟩
          · exact absurd h9 hlp
          · exact ⟨y, t, rfl⟩
        rw [Fl.srv_cons hyt] at hsv
        have htl : t.length + 1 = p := by have h8 := hF.out.2; rw [hyt] at h8; simpa using h8
        clear k1 HAR ha hlp x0 x1 x2
        go_wp2_with fail
        refine hle.mono ?_
        rintro e u1 ⟨rfl, rfl⟩
        clear hle
        go_wp2_with fail
        refine hsv.out.mono ?_
        rintro e u2 ⟨rfl, O3, k2, -⟩
        have k3 := k2.only0 (w' := u2.alloc (.cells #[.int .i64 F.hd.f, .int .i64 F.hd.l, .int .i64 F.hd.m] 32)) ((Only.refl [] u2).alloc _)
        have hle := k3.len
        simp only at hle
        have e7 : ((p : Int) - 1) = (t.length : Int) := by omega
        have e8 : IntKind.i64.wrap ((p : Int) - 1) = (t.length : Int) := by rw [IntWalk.i64_in _ (by omega)]; exact e7
        have K3 := Lib.hid k3
        clear k2 k3 hsv hyt
        go_wp2_with fail
        refine hle.mono ?_
        rintro e u3 ⟨rfl, rfl⟩
        clear hle
        have k3 := K3.out
        have har := k3.arrive 0 U64.zero x hpok
        have ht := Fl.takes_lt k3.fl.1 (by show t.length < F.n; rw [hF.out.1]; omega)
        rw [ht, Fl.arr_in ht] at har
        obtain ⟨x0, x1, x2⟩ := (BX.out.1.only k3.only (by simp)).c
        have HAR := Lib.hid har
        clear har ht k3 K3
        go_wp2_with fail
        refine HAR.out.mono ?_
        rintro e u4 ⟨rfl, O4, k4, -⟩
        obtain ⟨y0, y1, y2⟩ := (BX.out.1.only k4.only (by simp)).c
        have har := k4.arrive 0 U64.zero x hpok
        have ht := Fl.takes_eq (F := ⟨F.r, F.n, if t = [] then max 0 F.fin else F.fin, F.fin, t ++ [x]⟩) (by show (t ++ [x]).length = F.n; rw [hF.out.1]; simp; omega)
        rw [ht] at har
        have HAR2 := Lib.hid har
        clear har ht k4 HAR x0 x1 x2
        go_wp2_with fail
        refine HAR2.out.mono ?_
        rintro e u5 ⟨rfl, O5, k5, -⟩
        have O5 := Lib.hid (BX.out.2.trans' k5.only)
        clear k5 HAR2
        go_wp2_with fail
        go_ret
        exact ⟨rfl, O5.out.below (Nat.le_refl _) (by simp)⟩

/-! ### The step from the walk to the statement -/
set_option maxRecDepth 100000 in
theorem lifted (os : Os) (started : os.Started) (H : Type) (enc : TypeId × Value → H) :
    ReturnsInHanded {} Try.checked os 4 .any (Rows.flowRoomSpec.pre6 enc Try.prog Try.f4 Rows.flowRoomRow.domain false) (Rows.flowRoomSpec.post enc Try.prog Try.f4 false true false false) := by
  refine returnsInHanded_of_change (C := Try.checked) own started (by kernel_rfl) Try.func4
    (ChangeSpec.witness6 (enc := enc) (C := Try.checked) false ⟨#[], #[.int .u64 0, .int .i64 0, .agg #[.int .i64 0, .int .i64 0, .int .i64 0]], []⟩ 8 (by kernel_rfl) (by kernel_rfl) (by kernel_rfl) (by kernel_rfl)) ?_
  intro W base args ds gs before hval0 hW hcnd _
  have hval : ∀ (j : Nat) t v, Try.f4.params[j]? = some t → args[j]? = some v → Value.okWide Try.prog W .any base t v := hval0
  have hW' := hW
  obtain ⟨p, q, hA0, hV, rfl, hfz, hnd⟩ := hW
  have hA : DataW.TrodAll enc Try.prog W 0 (fun _ => true) true Try.f4.params.toList args.toList ds p := hA0
  rw [Try.params4] at hA hval
  obtain ⟨v0, vs0, d0, ds0, p0, q0, hargs, rfl, rfl, h0, r0⟩ := trodAll_cons hA
  obtain ⟨v1, vs1, d1, ds1, p1, q1, rfl, rfl, rfl, h1, r1⟩ := trodAll_cons r0
  obtain ⟨v2, vs2, d2, ds2, p2, q2, rfl, rfl, rfl, h2, r2⟩ := trodAll_cons r1
  obtain ⟨rfl, rfl, rfl⟩ := trodAll_nil r2
  obtain rfl : args = #[v0, v1, v2] := by cases args; simp_all
  obtain ⟨rfl, rfl⟩ := trodVars_none hV
  obtain ⟨a0, rfl, rfl, rfl, w0⟩ := open_int Try.underlying22 (hval 0 22 v0 rfl rfl) h0
  obtain ⟨a1, rfl, rfl, rfl, w1⟩ := open_int Try.underlying3 (hval 1 3 v1 rfl rfl) h1
  obtain ⟨c0, c1, c2, y0, y1, y2, m, rfl, rfl, rfl, hy0, hy1, hy2⟩ := Joins.open_agg3 Try.underlying32 (by kernel_rfl) cellsPk (hval 2 32 v2 rfl rfl) h2
  obtain ⟨f2, e0, rfl, wf2⟩ := DataW.trod_int Try.underlying3 hy0
  obtain ⟨l2, e1, rfl, wl2⟩ := DataW.trod_int Try.underlying3 hy1
  obtain ⟨m2, e2, rfl, wm2⟩ := DataW.trod_int Try.underlying3 hy2
  simp at e0 e1 e2
  subst e0 e1 e2
  clear hA0 hval0
  refine (walk a0 a1 f2 l2 m2 W w0 w1 wf2 wl2 wm2).mono fun e W' ⟨he, bel⟩ => ?_
  subst he
  exact ⟨_, rfl, _, _, _, [], _, [], hW', trodAll_mk1 (shut_bool Try.underlying4 _), (trodAll_cons_mk (shut_int Try.underlying22 w0) (trodAll_cons_mk (shut_int Try.underlying3 w1) (trodAll_cons_mk (reads_pk wf2 wl2 wm2 _ _ _) trodAll_mk0))), rfl, bel.frame _, fun h => by cases h⟩

theorem over : Rows.flowRoomRow.holds Try.pinned (OpenSpec.ofChange Rows.flowRoomSpec) :=
  OpenClaim.holds_of_wide 4 Try.f4 rfl rfl rfl rfl rfl rfl rfl ⟨rfl, rfl, rfl, rfl, rfl⟩ rfl rfl rfl rfl rfl (by kernel_rfl) Try.func4 (by kernel_rfl)
    (of_decide_eq_true (by kernel_rfl)) (by unfold Func.isWrapper; first | (rw [if_pos (by decide +kernel)]; kernel_rfl) | (rw [if_neg (by decide +kernel)]; exact ⟨rfl, rfl⟩))
    (fun os started H enc _ => lifted os started H enc)

/-- The statement. -/
theorem proved : Rows.FlowRoomSaid := over
#print axioms proved
end Go.Proofs.Ytgncjgjkfmpegaa.flowRoom
