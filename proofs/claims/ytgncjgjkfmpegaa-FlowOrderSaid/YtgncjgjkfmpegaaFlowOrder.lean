/-
  weighbridgelaw09.FlowOrder returns true for every input, and leaves its arguments as they were. No condition but that the arguments are values of their types.
-/
import Derived.Test.YtgncjgjkfmpegaaRows
import Derived.Test.YtgncjgjkfmpegaaFlowU
import Derived.WalkKit
import Derived.ProofKit
import Derived.OpenShut
import Derived.ChangeOld
import Derived.Below
namespace Go.Proofs.Ytgncjgjkfmpegaa.flowOrder
open Go.ChangeShapes Go.WideShapes Go.ChangeAt Go.RowKit
set_option linter.unusedVariables false
set_option linter.unusedSimpArgs false

set_option maxRecDepth 100000 in
set_option maxHeartbeats 8000000 in
theorem walk (a0 : Int) (a1 : Int) (a2 : Option Addr) (len2 cap2 : Nat) (z2 : Nat → Ak) (w : World) (w0 : (Lit.int .u64 a0).wf = true) (w1 : (Lit.int .i64 a1).wf = true) (w2 : InActs w a2 len2 z2) :
    Calls Try.prog 5 #[.int .u64 a0, .int .i64 a1, .slice a2 len2 cap2] w fun e w' => e = .returned (.bool true) ∧ Below w.heap.size w w' := by
  have W2 := Lib.hid w2
  have hm := made_sound a0 a1 (U64.of_wf w0) w
  clear w2 w0 w1
  go_enter Try.func5, Try.ntmps5
  go_wp2_with fail
  refine hm.mono ?_
  rintro e v1 ⟨b, c, rfl, r', n', h1⟩
  have H1 := Lib.hid h1.one
  clear h1 hm
  go_wp2_with fail
  refine (fAwake _).mono ?_
  rintro e v2 ⟨rfl, o2⟩
  have H2 : Hid (FOrd w v2 b (Fl.new r' n') [b] (.slice none 0 0) (.slice none 0 0) [] [] ∧ ([] : List Pk) = [] ++ (Fl.new r' n').l ∧ ([] : List Pk).length ≤ 0) := ⟨FOrd.start (H1.out.only0 o2), rfl, Nat.le_refl _⟩
  clear o2 H1
  go_wp2_with fail
  go_loopg [11, 9, 10] (len2 + 1) (fun gk si s9 s10 wr => ∃ (p : Nat) (F : Fl) (O : List Nat) (A1 : Option Addr) (c1 : Nat) (A2 : Option Addr) (c2 : Nat) (I Q : List Pk), si = .int .i64 (p : Int) ∧ s9 = .slice A1 I.length c1 ∧ s10 = .slice A2 Q.length c2 ∧ p ≤ len2 ∧ p ≤ 60 ∧ len2 + 1 ≤ gk + p ∧ Hid (FOrd w wr b F O (.slice A1 I.length c1) (.slice A2 Q.length c2) I Q ∧ I = Q ++ F.l ∧ I.length ≤ p))
  case atStart => exact ⟨0, _, _, none, 0, none, 0, [], [], rfl, rfl, rfl, by omega, by omega, by omega, H2⟩
  case round =>
    obtain ⟨p, F, O, A1, c1, A2, c2, I, Q, rfl, rfl, rfl, hp, hp60, hg, hS⟩ := hrel
    clear H2
    by_cases hc : p < len2 ∧ p < 60
    · have k1 : (p : Int) < (len2 : Int) := by omega
      have k2 : (p : Int) < 60 := by omega
      obtain ⟨hdok, ad, bb, o, s, rfl, hadd, hbw, q0, q1, q2, q3, q4⟩ := W2.out p hc.1
      obtain ⟨d, ed⟩ : ∃ d, z2 p = d := ⟨_, rfl⟩
      rw [ed] at q0 q1 q2 q3 q4 hdok
      have hall : Hid (∀ W, Only [] w W → W.cell? ⟨bb, o, s⟩ = some (.int .i64 d.k) ∧ W.cell? ⟨bb, o + 1, none⟩ = some (.int .u64 d.v) ∧ W.cell? ⟨bb, o + 2, none⟩ = some (.int .i64 d.p.f) ∧ W.cell? ⟨bb, o + 3, none⟩ = some (.int .i64 d.p.l) ∧ W.cell? ⟨bb, o + 4, none⟩ = some (.int .i64 d.p.m)) := fun W hW => ⟨hW.stays q0, hW.stays q1, hW.stays q2, hW.stays q3, hW.stays q4⟩
      obtain ⟨r0, r1, r2, r3, r4⟩ := hall.out wr hS.out.1.one.only
      obtain ⟨qk, hqk, m1⟩ := fModN d.k 5 (by omega) (by omega)
      change ∀ w, Calls _ _ #[.int .i64 d.k, .int .i64 5] w _ at m1
      have har := Lib.hid ((hS.out.1.one.only0 (Only.refl [] wr).drew).arrive d.v hdok.2.1 d.p hdok.2.2)
      have hsv := Lib.hid hS.out.1.one.serve
      clear q0 q1 q2 q3 q4 ed hbw hc
      go_wp2_with fail
      refine (m1 _).mono ?_
      rintro e wr ⟨rfl, rfl⟩
      clear m1
      by_cases h3 : qk < 3
      · have h3' : (qk : Int) < 3 := by omega
        clear hsv h3
        go_wp2_with fail
        go_still_tail 11, (by kernel_rfl)
        change wpList _ _ _ _ _ wr.drew
        go_wp2_with fail
        refine har.out.mono ?_
        rintro e u1 ⟨rfl, O2, k3, k4⟩
        have T := Lib.hid ((hS.out.1.only0 (Only.refl [] wr).drew).turn k3 k4)
        obtain ⟨x0, x1, x2, x3, x4⟩ := hall.out u1 k3.only
        clear k3 k4 har r0 r1 r2 r3 r4
        rcases ht : F.takes with _ | _
        · rw [Fl.arr_full ht] at T
          have HI := Lib.hid hS.out.2
          clear ht hS
          go_wp2_with fail
          go_roundg (len2 + 1 - (p + 1))
          case measure => omega
          case rel => exact ⟨p + 1, F, O2, A1, c1, A2, c2, I, Q, by simp, rfl, rfl, by omega, by omega, by omega, T.out, HI.out.1, Nat.le_succ_of_le HI.out.2⟩
        · rw [Fl.arr_in ht] at T
          have HI := Lib.hid hS.out.2
          have hIl : I.length ≤ 60 := by have := HI.out.2; omega
          clear ht hS
          go_wp2_with (at_builtin
                       refine wpList_append_pk Try.underlying42 rfl (.tmp 60) (.tmp 66) rfl (.slice A1 I.length c1) I rfl (T.out.ri.only ((Only.refl [] u1).alloc _) (by simp)) _ 1 1 [d.p] rfl rfl (PSrc.box (PBox.new u1 d.p)) (I.length + 1) rfl (by omega) ?_
                       intro A3 c3 w3 r3 g3 l3
                       have T3 := Lib.hid (And.intro (T.out.grow ((Only.refl [] u1).alloc _) g3 r3 l3) True.intro)
                       clear r3 g3 l3)
          have e9 : (I ++ [d.p]).length = I.length + 1 := by simp
          go_roundg (len2 + 1 - (p + 1))
          case measure => omega
          case rel =>
            refine ⟨p + 1, ⟨F.r, F.n, if F.l = [] then max d.v F.e else F.s, F.e, F.l ++ [d.p]⟩, O2, A3, c3, A2, c2, I ++ [d.p], Q, by simp, by rw [e9], rfl, by omega, by omega, by omega, ?_⟩
            refine ⟨by rw [e9]; exact T3.out.1, ?_, by rw [e9]; have := HI.out.2; omega⟩
            show I ++ [d.p] = Q ++ (F.l ++ [d.p])
            rw [← List.append_assoc, ← HI.out.1]
      · have h3' : ¬ ((qk : Int) < 3) := by omega
        have h3'' : decide ((qk : Int) < 3) = false := decide_eq_false h3'
        clear har h3 r0 r1 r2 r3 r4
        rcases hl : F.l with _ | ⟨y, t⟩
        · rw [Fl.any_nil hl, Fl.srv_nil hl] at hsv
          clear hl
          go_wp2_with fail
          refine hsv.out.mono ?_
          rintro e u1 ⟨rfl, O2, k3, k4⟩
          have T := Lib.hid ((hS.out.1.turn k3 k4).only0 (w' := u1.alloc (.cells #[.int .i64 F.hd.f, .int .i64 F.hd.l, .int .i64 F.hd.m] 32)) ((Only.refl [] u1).alloc _))
          have HI := Lib.hid hS.out.2
          clear k3 k4 hsv hS
          go_wp2_with fail
          go_roundg (len2 + 1 - (p + 1))
          case measure => omega
          case rel => exact ⟨p + 1, F, O2, A1, c1, A2, c2, I, Q, by simp, rfl, rfl, by omega, by omega, by omega, T.out, HI.out.1, Nat.le_succ_of_le HI.out.2⟩
        · have e1 : F.hd = y := by unfold Fl.hd; rw [hl]; rfl
          rw [Fl.any_cons (by rw [hl]; simp), Fl.srv_cons hl, e1] at hsv
          have HI : Hid (I = (Q ++ [y]) ++ t ∧ I.length ≤ p) := ⟨by rw [hS.out.2.1, hl]; simp, hS.out.2.2⟩
          have hQl : Q.length ≤ 60 := by
            have h8 := HI.out.1
            have h9 := HI.out.2
            rw [h8] at h9
            simp at h9
            omega
          clear hl e1
          go_wp2_with fail
          refine hsv.out.mono ?_
          rintro e u1 ⟨rfl, O2, k3, k4⟩
          have T := Lib.hid ((hS.out.1.turn k3 k4).only0 (w' := u1.alloc (.cells #[.int .i64 y.f, .int .i64 y.l, .int .i64 y.m] 32)) ((Only.refl [] u1).alloc _))
          obtain ⟨y0, y1, y2⟩ := (PBox.new u1 y).c
          clear k3 k4 hsv hS
          go_wp2_with (at_builtin
                       refine wpList_append_pk Try.underlying42 rfl (.tmp 75) (.tmp 77) rfl (.slice A2 Q.length c2) Q rfl (T.out.ro.only ((Only.refl [] _).alloc _) (by simp)) _ 1 1 [y] rfl rfl (PSrc.box (by first | exact PBox.new _ y | (have := PBox.new (u1.alloc (.cells #[.int .i64 y.f, .int .i64 y.l, .int .i64 y.m] 32)) y; simpa using this))) (Q.length + 1) rfl (by omega) ?_
                       intro A3 c3 w3 r3 g3 l3
                       have T3 := Lib.hid (And.intro (T.out.growOut ((Only.refl [] _).alloc _) g3 r3 l3) True.intro)
                       clear r3 g3 l3)
          have e9 : (Q ++ [y]).length = Q.length + 1 := by simp
          go_roundg (len2 + 1 - (p + 1))
          case measure => omega
          case rel =>
            refine ⟨p + 1, ⟨F.r, F.n, F.fin, F.fin, t⟩, O2, A1, c1, A3, c3, I, Q ++ [y], by simp, rfl, by rw [e9], by omega, by omega, by omega, ?_⟩
            exact ⟨by rw [e9]; exact T3.out.1, HI.out.1, Nat.le_succ_of_le HI.out.2⟩
    · have hcd : (decide ((p : Int) < (len2 : Int)) = false ∧ ¬ ((p : Int) < (len2 : Int))) ∨ ((p : Int) < (len2 : Int) ∧ decide ((p : Int) < 60) = false) := by
        have hce : ¬ p < len2 ∨ (p < len2 ∧ ¬ p < 60) := by omega
        rcases hce with h9 | h9
        · exact .inl ⟨decide_eq_false (by omega), by omega⟩
        · exact .inr ⟨by omega, decide_eq_false (by omega)⟩
      have hIl : I.length ≤ 60 := by have := hS.out.2.2; omega
      have hF8 : F.l.length ≤ 8 := by have h1 := hS.out.1.one.fl.1.len; have h2 := hS.out.1.one.fl.1.n8; omega
      have HT : Hid (FOrd w wr b F O (.slice A1 I.length c1) (.slice A2 Q.length c2) I Q ∧ I = Q ++ F.l ∧ F.l.length + 0 ≤ 8) := ⟨hS.out.1, hS.out.2.1, hF8⟩
      clear hc W2 hS hF8 hp hp60 hg
      rcases hcd with ⟨h1, h2⟩ | ⟨h1, h2⟩
      all_goals
        go_wp2_with fail
        go_loopg [15, 10] 9 (fun gk si s10 wr => ∃ (p : Nat) (F : Fl) (O : List Nat) (A2 : Option Addr) (c2 : Nat) (Q : List Pk), si = .int .i64 (p : Int) ∧ s10 = .slice A2 Q.length c2 ∧ p ≤ 8 ∧ 9 ≤ gk + p ∧ Hid (FOrd w wr b F O (.slice A1 I.length c1) (.slice A2 Q.length c2) I Q ∧ I = Q ++ F.l ∧ F.l.length + p ≤ 8))
        case atStart => exact ⟨0, F, O, A2, c2, Q, rfl, rfl, by omega, by omega, HT⟩
        case round =>
          clear HT h1 h2
          obtain ⟨p, F, O, A2, c2, Q, rfl, rfl, hp, hg, hS⟩ := hrel
          by_cases hc : p < 8
          · have k1 : (p : Int) < 8 := by omega
            have hsv := Lib.hid hS.out.1.one.serve
            rcases hl : F.l with _ | ⟨y, t⟩
            · rw [Fl.any_nil hl, Fl.srv_nil hl] at hsv
              have HI : Hid (I = Q ++ F.l ∧ F.l.length + (p + 1) ≤ 8) := ⟨hS.out.2.1, by rw [hl]; simp; omega⟩
              clear hl
              go_wp2_with fail
              refine hsv.out.mono ?_
              rintro e u1 ⟨rfl, O2, k3, k4⟩
              have T := Lib.hid ((hS.out.1.turn k3 k4).only0 (w' := u1.alloc (.cells #[.int .i64 F.hd.f, .int .i64 F.hd.l, .int .i64 F.hd.m] 32)) ((Only.refl [] u1).alloc _))
              clear k3 k4 hsv hS
              go_wp2_with fail
              go_roundg (9 - (p + 1))
              case measure => omega
              case rel => exact ⟨p + 1, F, O2, A2, c2, Q, by simp, rfl, by omega, by omega, T.out, HI.out.1, HI.out.2⟩
            · have e1 : F.hd = y := by unfold Fl.hd; rw [hl]; rfl
              rw [Fl.any_cons (by rw [hl]; simp), Fl.srv_cons hl, e1] at hsv
              have HI : Hid (I = (Q ++ [y]) ++ t ∧ t.length + (p + 1) ≤ 8) := ⟨by rw [hS.out.2.1, hl]; simp, by have := hS.out.2.2; rw [hl] at this; simp at this; omega⟩
              have hQl : Q.length ≤ 60 := by
                have h8 := congrArg List.length HI.out.1
                simp at h8
                omega
              clear hl e1
              go_wp2_with fail
              refine hsv.out.mono ?_
              rintro e u1 ⟨rfl, O2, k3, k4⟩
              have T := Lib.hid ((hS.out.1.turn k3 k4).only0 (w' := u1.alloc (.cells #[.int .i64 y.f, .int .i64 y.l, .int .i64 y.m] 32)) ((Only.refl [] u1).alloc _))
              obtain ⟨y0, y1, y2⟩ := (PBox.new u1 y).c
              clear k3 k4 hsv hS
              go_wp2_with (at_builtin
                           refine wpList_append_pk Try.underlying42 rfl (.tmp 90) (.tmp 92) rfl (.slice A2 Q.length c2) Q rfl (T.out.ro.only ((Only.refl [] _).alloc _) (by simp)) _ 1 1 [y] rfl rfl (PSrc.box (by first | exact PBox.new _ y | (have := PBox.new (u1.alloc (.cells #[.int .i64 y.f, .int .i64 y.l, .int .i64 y.m] 32)) y; simpa using this))) (Q.length + 1) rfl (by omega) ?_
                           intro A3 c3 w3 r3 g3 l3
                           have T3 := Lib.hid (And.intro (T.out.growOut ((Only.refl [] _).alloc _) g3 r3 l3) True.intro)
                           clear r3 g3 l3)
              have e9 : (Q ++ [y]).length = Q.length + 1 := by simp
              go_roundg (9 - (p + 1))
              case measure => omega
              case rel =>
                refine ⟨p + 1, ⟨F.r, F.n, F.fin, F.fin, t⟩, O2, A3, c3, Q ++ [y], by simp, by rw [e9], by omega, by omega, ?_⟩
                exact ⟨by rw [e9]; exact T3.out.1, HI.out.1, HI.out.2⟩
          · have k1 : decide ((p : Int) < 8) = false := decide_eq_false (by omega)
            have hl0 : F.l = [] := List.eq_nil_of_length_eq_zero (by have := hS.out.2.2; omega)
            have hIQ : I = Q := by have := hS.out.2.1; rw [hl0] at this; simpa using this
            have hQl : Q.length ≤ 60 := by rw [← hIQ]; exact hIl
            have hpl := pPlain wr _ _ I Q hS.out.1.ri hS.out.1.ro (by omega) (by omega)
            rw [decide_eq_true hIQ] at hpl
            have HPL := Lib.hid hpl
            have H0 := Lib.hid hl0
            clear hpl hIQ hl0 hc
            go_wp2_with fail
            refine HPL.out.mono ?_
            rintro e u1 ⟨rfl, o1⟩
            have h9 := hS.out.1.one.only0 o1
            have hle := h9.len
            rw [H0.out] at hle
            have ON := Lib.hid h9.only
            clear o1 h9 HPL
            go_wp2_with fail
            refine hle.mono ?_
            rintro e u2 ⟨rfl, rfl⟩
            go_wp2_with fail
            go_ret
            exact ⟨by simp, ON.out.below (Nat.le_refl _) (by simp)⟩

/-! ### The step from the walk to the statement -/
set_option maxRecDepth 100000 in
theorem lifted (os : Os) (started : os.Started) (H : Type) (enc : TypeId × Value → H) :
    ReturnsInHanded {} Try.checked os 5 .any (Rows.flowOrderSpec.pre6 enc Try.prog Try.f5 Rows.flowOrderRow.domain false) (Rows.flowOrderSpec.post enc Try.prog Try.f5 false true false false) := by
  refine returnsInHanded_of_change (C := Try.checked) own started (by kernel_rfl) Try.func5
    (ChangeSpec.witness6 (enc := enc) (C := Try.checked) false ⟨#[], #[.int .u64 0, .int .i64 0, .slice none 0 0], []⟩ 8 (by kernel_rfl) (by kernel_rfl) (by kernel_rfl) (by kernel_rfl)) ?_
  intro W base args ds gs before hval0 hW hcnd _
  have hval : ∀ (j : Nat) t v, Try.f5.params[j]? = some t → args[j]? = some v → Value.okWide Try.prog W .any base t v := hval0
  have hW' := hW
  obtain ⟨p, q, hA0, hV, rfl, hfz, hnd⟩ := hW
  have hA : DataW.TrodAll enc Try.prog W 0 (fun _ => true) true Try.f5.params.toList args.toList ds p := hA0
  rw [Try.params5] at hA hval
  obtain ⟨v0, vs0, d0, ds0, p0, q0, hargs, rfl, rfl, h0, r0⟩ := trodAll_cons hA
  obtain ⟨v1, vs1, d1, ds1, p1, q1, rfl, rfl, rfl, h1, r1⟩ := trodAll_cons r0
  obtain ⟨v2, vs2, d2, ds2, p2, q2, rfl, rfl, rfl, h2, r2⟩ := trodAll_cons r1
  obtain ⟨rfl, rfl, rfl⟩ := trodAll_nil r2
  obtain rfl : args = #[v0, v1, v2] := by cases args; simp_all
  obtain ⟨rfl, rfl⟩ := trodVars_none hV
  obtain ⟨a0, rfl, rfl, rfl, w0⟩ := open_int Try.underlying22 (hval 0 22 v0 rfl rfl) h0
  obtain ⟨a1, rfl, rfl, rfl, w1⟩ := open_int Try.underlying3 (hval 1 3 v1 rfl rfl) h1
  obtain ⟨a2, len2, cap2, rfl⟩ := okWide_slice Try.underlying23 (hval 2 23 v2 rfl rfl)
  have k2 := h2
  have lt2 : ∀ x ∈ p2, x.block < W.heap.size := by obtain ⟨m, hm⟩ := k2; exact DataW.trod_lt m _ _ _ hm
  obtain ⟨z2, w2⟩ : ∃ z, InActs W a2 len2 z := by
    obtain ⟨fuel, hf⟩ := h2
    exact open_acts hf
  clear hA0 hval0
  refine (walk a0 a1 a2 len2 cap2 z2 W w0 w1 w2).mono fun e W' ⟨he, bel⟩ => ?_
  subst he
  exact ⟨_, rfl, _, _, _, [], _, [], hW', trodAll_mk1 (shut_bool Try.underlying4 _), (trodAll_cons_mk (shut_int Try.underlying22 w0) (trodAll_cons_mk (shut_int Try.underlying3 w1) (trodAll_cons_mk (Below.trod laidOut (by kernel_rfl) (of_decide_eq_true (by kernel_rfl)) k2 bel lt2) trodAll_mk0))), rfl, bel.frame _, fun h => by cases h⟩

theorem over : Rows.flowOrderRow.holds Try.pinned (OpenSpec.ofChange Rows.flowOrderSpec) :=
  OpenClaim.holds_of_wide 5 Try.f5 rfl rfl rfl rfl rfl rfl rfl ⟨rfl, rfl, rfl, rfl, rfl⟩ rfl rfl rfl rfl rfl (by kernel_rfl) Try.func5 (by kernel_rfl)
    (of_decide_eq_true (by kernel_rfl)) (by unfold Func.isWrapper; first | (rw [if_pos (by decide +kernel)]; kernel_rfl) | (rw [if_neg (by decide +kernel)]; exact ⟨rfl, rfl⟩))
    (fun os started H enc _ => lifted os started H enc)

/-- The statement. -/
theorem proved : Rows.FlowOrderSaid := over
#print axioms proved
end Go.Proofs.Ytgncjgjkfmpegaa.flowOrder
