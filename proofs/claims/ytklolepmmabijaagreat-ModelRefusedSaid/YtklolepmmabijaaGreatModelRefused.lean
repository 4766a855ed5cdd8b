/-
  weighbridgelaw11.ModelRefused returns true for every input, and leaves its arguments as they were. No condition but that the arguments are values of their types.
-/
import Derived.Test.YtklolepmmabijaaGreatRows
import Derived.Test.YtklolepmmabijaaGreatMd2
import Derived.WalkKit
import Derived.ProofKit
import Derived.OpenShut
import Derived.ChangeOld
import Derived.Below
namespace Go.Proofs.YtklolepmmabijaaGreat.modelRefused
open Go.ChangeShapes Go.WideShapes Go.ChangeAt Go.RowKit
set_option linter.unusedVariables false
set_option linter.unusedSimpArgs false

set_option maxRecDepth 100000 in
set_option maxHeartbeats 8000000 in
theorem walk (sh0 sl0 wk0 wd0 un0 : Int) (a1 : Option Addr) (len1 cap1 : Nat) (z1 : Nat → Cl) (w : World) (wsh0 : (Lit.int .i64 sh0).wf = true) (wsl0 : (Lit.int .i64 sl0).wf = true) (wwk0 : (Lit.int .i64 wk0).wf = true) (wwd0 : (Lit.int .i64 wd0).wf = true) (wun0 : (Lit.int .u64 un0).wf = true) (w1 : InCalls w a1 len1 z1) :
    Calls Tryz.prog 6 #[.agg #[.int .i64 sh0, .int .i64 sl0, .int .i64 wk0, .int .i64 wd0, .int .u64 un0], .slice a1 len1 cap1] w fun e w' => e = .returned (.bool true) ∧ Below w.heap.size w w' := by
  have W1 := Lib.hid w1
  have km := Lib.hid (fun W => mMade ⟨sh0, sl0, wk0, wd0, un0⟩ (U64.of_wf wun0) true W)
  have hM0 := Lib.hid (madeM_ok ⟨sh0, sl0, wk0, wd0, un0⟩ true)
  clear w1 wsh0 wsl0 wwk0 wwd0 wun0
  generalize madeM ⟨sh0, sl0, wk0, wd0, un0⟩ true = M0 at *
  go_enter Tryz.func6, Tryz.ntmps6
  go_wp2_with fail
  refine (km.out _).mono ?_
  rintro e v1 ⟨b, x, rfl, O1, P1, h1⟩
  have H1 := Lib.hid (h1.from ((Only.refl [] w).alloc _))
  clear h1 km
  go_wp2_with fail
  refine (mAwake _).mono ?_
  rintro e v2 ⟨rfl, o2⟩
  have H2 := Lib.hid (And.intro (H1.out.only0 o2) hM0.out)
  clear o2 H1 hM0
  go_wp2_with fail
  go_loopg [7] (len1 + 1) (fun gk si wr => ∃ (p : Nat) (M : Md) (O P : List Nat), si = .int .i64 (p : Int) ∧ p ≤ len1 ∧ p ≤ 60 ∧ len1 + 1 ≤ gk + p ∧ Hid (Ms w wr b x M O P ∧ M.ok (4 + p) (64 + 16 * p)))
  case atStart => exact ⟨0, M0, O1, P1, rfl, by omega, by omega, by omega, H2⟩
  case round =>
    obtain ⟨p, M, O, P, rfl, hp, hp1, hg, hS⟩ := hrel
    clear H2
    by_cases hc : p < len1 ∧ p < 60
    · have c1 : (p : Int) < (len1 : Int) := by omega
      have c2 : (p : Int) < 60 := by omega
      obtain ⟨hdok, ad, bb, o, s, rfl, hadd, r0, r1, r2, r3⟩ := W1.out.at_ hS.out.1.only hc.1
      obtain ⟨d, ed⟩ : ∃ d, z1 p = d := ⟨_, rfl⟩
      rw [ed] at r0 r1 r2 r3 hdok
      have kc := sCall d wr
      have hdn := Lib.hid (Cl.near_ok hdok)
      clear ed hdok
      go_wp2_with fail
      refine kc.mono ?_
      rintro e u1 ⟨rfl, o1⟩
      generalize d.near = dn at *
      have bA := CBox.new u1 dn
      have sA : (u1.alloc (.cells #[.int .i64 dn.op, .int .i64 dn.f, .int .i64 dn.a, .int .i64 dn.b] 33)).heap.size = u1.heap.size + 1 := by simp
      have hA := hS.out.1.only0 (o1.trans' ((Only.refl [] u1).alloc (.cells #[.int .i64 dn.op, .int .i64 dn.f, .int .i64 dn.a, .int .i64 dn.b] 33)))
      have hN : u1.heap.size ∉ O ++ P := (hS.out.1.only0 o1).out (Nat.le_refl _)
      have k1 := Lib.hid (mV _ b M O hA.duo.fl)
      have k2 := Lib.hid (mServed _ b M O hA.duo.fl)
      have k3 := Lib.hid (mStarts _ b M O hA.duo.fl)
      have HM := Lib.hid hS.out.2
      have HA := Lib.hid (And.intro hA (And.intro bA hN))
      have hlo : ∀ g, u1.heap.size + 1 ≤ g → g ∉ O ++ P := fun g hg => hA.out (by omega)
      have HLO := Lib.hid (And.intro hlo sA)
      clear kc o1 r0 r1 r2 r3 hS bA hA hN sA hlo
      go_wp2_with fail
      generalize u1.alloc (.cells #[.int .i64 dn.op, .int .i64 dn.f, .int .i64 dn.a, .int .i64 dn.b] 33) = U1 at *
      obtain ⟨N, eN⟩ : ∃ N, u1.heap.size = N := ⟨_, rfl⟩
      rw [eN] at HA HLO ⊢
      clear eN
      refine k1.out.mono ?_
      rintro e u2 ⟨rfl, rfl⟩
      go_wp2_with fail
      refine k2.out.mono ?_
      rintro e u3 ⟨rfl, rfl⟩
      go_wp2_with fail
      refine k3.out.mono ?_
      rintro e u2 ⟨A2, q2, rfl, rr2, f2, o2⟩
      have h2 := HA.out.1.only0 o2
      have b2 := HA.out.2.1.only0 o2
      have k4 := Lib.hid (mFlows u2 b M O h2.duo.fl)
      have R2 := Lib.hid (And.intro rr2 (fun g hg => HLO.out.1 g (by have := f2 g hg; have := HLO.out.2; omega) : ∀ g, (Value.slice A2 (startsK M.S.l).length q2).ownBlock = some g → g ∉ O ++ P))
      have H3 := Lib.hid (And.intro h2 (And.intro b2 (And.intro o2.size HA.out.2.2)))
      clear rr2 f2 o2 h2 b2 k1 k2 k3
      go_wp2_with fail
      refine k4.out.mono ?_
      rintro e u3 ⟨A3, q3, rfl, rr3, f3, o3⟩
      have h3 := H3.out.1.only0 o3
      have b3 := H3.out.2.1.only0 o3
      have R3 := Lib.hid (And.intro rr3 (fun g hg => HLO.out.1 g (by have := f3 g hg; have := H3.out.2.2.1; have := HLO.out.2; omega) : ∀ g, (Value.slice A3 (idsK M.S.l).length q3).ownBlock = some g → g ∉ O ++ P))
      have R2 := Lib.hid (And.intro (R2.out.1.keep (fun g hg => o3.block g (R2.out.1.lt hg) (by simp))) R2.out.2)
      have k5 := Lib.hid (mLen u3 b M O h3.duo.fl dn.f hdn.out.2.1)
      have kD := mDo u3 b M O h3.duo.fl dn hdn.out _ _ HM.out (by omega) (by omega)
      unfold Told at kD
      obtain ⟨y0, y1, y2, y3⟩ := b3.c
      have H4 := Lib.hid (And.intro h3 (And.intro b3 H3.out.2.2.2))
      have hR0 := fun he hp => Md.refused HM.out dn he hp
      have hok2 := Lib.hid (HM.out.todo hdn.out (by omega))
      have kN0 := fun W (hW : NdOf x M W P) => nDo W x M P hW dn hdn.out _ _ HM.out (by omega) (by omega)
      unfold Told at kN0
      have hlen := todo_len M dn
      have hsl : Hid ((startsK M.S.l).length ≤ 1000 ∧ (idsK M.S.l).length ≤ 1000) := ⟨starts_len HM.out.s, by unfold idsK; rw [List.length_map]; exact HM.out.s.len⟩
      generalize (M.todo dn).1 = M' at *
      generalize (M.todo dn).2 = r at *
      obtain ⟨e0, xs, n0, x0⟩ := r
      simp only at kD kN0 hR0 hlen
      have kN := Lib.hid kN0
      have HR := Lib.hid hR0
      clear rr3 f3 o3 h3 b3 k4 H3 HA HLO kN0 hR0
      go_wp2_with fail
      refine k5.out.mono ?_
      rintro e u4 ⟨rfl, rfl⟩
      go_wp2_with fail
      refine kD.mono ?_
      rintro e u5 ⟨A4, q4, rfl, t4⟩
      have m4 := H4.out.1.duo.ours (Only.refl [] _) H4.out.2.1 (fun hk => H4.out.2.2 (by simp [hk])) t4
      have sz5 : u4.heap.size ≤ u5.heap.size := by obtain ⟨_, _, g, _⟩ := t4; exact g.1.size
      have oB : Only [] u5 (u5.alloc (.cells #[.int .i64 e0, .slice A4 xs.length q4, .int .i64 n0, .int .u64 x0] 50)).drew := ((Only.refl [] u5).alloc _).drew
      have rb := RBox.new u5 e0 (.slice A4 xs.length q4) n0 x0
      have m5 := m4.on oB
      have cb5 : CBox (u5.alloc (.cells #[.int .i64 e0, .slice A4 xs.length q4, .int .i64 n0, .int .u64 x0] 50)).drew N dn := by obtain ⟨_, q, _⟩ := m5; exact q
      have HN2 : Hid (u5.heap.size ∉ P) := fun hk => by have := H4.out.1.duo.lt u5.heap.size (by simp [hk]); omega
      have MB := Lib.hid m5
      have bx : Hid (CBox (u5.alloc (.cells #[.int .i64 e0, .slice A4 xs.length q4, .int .i64 n0, .int .u64 x0] 50)).drew N dn ∧ RBox (u5.alloc (.cells #[.int .i64 e0, .slice A4 xs.length q4, .int .i64 n0, .int .u64 x0] 50)).drew u5.heap.size e0 (.slice A4 xs.length q4) n0 x0) := ⟨cb5, rb⟩
      obtain ⟨x0', x1', x2', x3'⟩ : _ ∧ _ ∧ _ ∧ _ := bx.out.1.c
      obtain ⟨z0, z1, z2, z3⟩ : _ ∧ _ ∧ _ ∧ _ := bx.out.2.c
      clear kD t4 m4 m5 oB rb cb5 sz5 y0 y1 y2 y3
      go_wp2_with fail
      generalize u5.alloc (.cells #[.int .i64 e0, .slice A4 xs.length q4, .int .i64 n0, .int .u64 x0] 50) = U5 at *
      obtain ⟨NR, eNR⟩ : ∃ NR, u5.heap.size = NR := ⟨_, rfl⟩
      rw [eNR] at bx HN2 z0 z1 z2 z3 ⊢
      clear eNR
      have cells : Hid (∀ V, CBox V N dn ∧ RBox V NR e0 (.slice A4 xs.length q4) n0 x0 → (V.cell? ⟨N, 0, none⟩ = some (.int .i64 dn.op) ∧ V.cell? ⟨N, 1, none⟩ = some (.int .i64 dn.f) ∧ V.cell? ⟨N, 2, none⟩ = some (.int .i64 dn.a) ∧ V.cell? ⟨N, 3, none⟩ = some (.int .i64 dn.b)) ∧ V.cell? ⟨NR, 0, none⟩ = some (.int .i64 e0) ∧ V.cell? ⟨NR, 1, none⟩ = some (.slice A4 xs.length q4) ∧ V.cell? ⟨NR, 2, none⟩ = some (.int .i64 n0) ∧ V.cell? ⟨NR, 3, none⟩ = some (.int .u64 x0)) := fun V hV => ⟨hV.1.c, hV.2.c⟩
      go_region_held3 (fun w' => (w'.cell? ⟨N, 0, none⟩ = some (.int .i64 dn.op) ∧ w'.cell? ⟨N, 1, none⟩ = some (.int .i64 dn.f) ∧ w'.cell? ⟨N, 2, none⟩ = some (.int .i64 dn.a) ∧ w'.cell? ⟨N, 3, none⟩ = some (.int .i64 dn.b)) ∧ w'.cell? ⟨NR, 0, none⟩ = some (.int .i64 e0) ∧ w'.cell? ⟨NR, 1, none⟩ = some (.slice A4 xs.length q4) ∧ w'.cell? ⟨NR, 2, none⟩ = some (.int .i64 n0) ∧ w'.cell? ⟨NR, 3, none⟩ = some (.int .u64 x0))
        (first | (exact cells.out _ bx.out) | go_keep)
        (first
          | (go_at_call 22
             refine (kN.out _ MB.out.rf).mono ?_
             rintro e u6 ⟨A5, q5, rfl, t5⟩
             have MC := Lib.hid (MB.out.theirs (fun k hk => H4.out.1.duo.lt k (by simp [hk])) t5)
             have bx : Hid (CBox u6 N dn ∧ RBox u6 NR e0 (.slice A4 xs.length q4) n0 x0) := by
               obtain ⟨P', _, g, _⟩ := t5
               exact ⟨bx.out.1.only g.1 (fun hk => H4.out.2.2 (by simp [hk])), bx.out.2.only g.1 HN2.out⟩
             clear t5)
          | (go_at_call 21
             refine (hRet _ ⟨e0, xs, n0, x0⟩ A4 A5 q4 q5 (by obtain ⟨_, _, _, _, q, _⟩ := MC.out; exact q) (by obtain ⟨_, _, _, _, _, q, _⟩ := MC.out; exact q) (by simp only; omega)).mono ?_
             rintro e u7 ⟨rfl, o7⟩
             have MC := Lib.hid (MC.out.on o7)
             have bx : Hid (CBox u7 N dn ∧ RBox u7 NR e0 (.slice A4 xs.length q4) n0 x0) := ⟨bx.out.1.only0 o7, bx.out.2.only0 o7⟩
             clear o7))
      all_goals
        obtain ⟨O2, P2, s2, oK, row, _⟩ := H4.out.1.mc MC.out
        have rs := R2.out.1.keep (fun g hg => oK.block g (R2.out.1.lt hg) (R2.out.2 g hg))
        have ri := R3.out.1.only oK (fun g hg => R3.out.2 g hg)
        have HX := Lib.hid (And.intro s2 (And.intro bx.out.1 (And.intro bx.out.2 (And.intro rs ri))))
        obtain ⟨z0, z1, _, _⟩ := bx.out.2.c
        clear s2 oK row rs ri
        by_cases he : e0 = 0
        · subst he
          go_wp2_with fail
          go_roundg (len1 + 1 - (p + 1))
          case measure => omega
          case rel => exact ⟨p + 1, _, O2, P2, by simp, by omega, by omega, by omega, HX.out.1, hok2.out.mono (by omega) (by omega)⟩
        · have he' : (e0 == 0) = false := by simpa using he
          by_cases hx : xs = []
          · have hx1 : ¬ ((0 : Int) < (xs.length : Int)) := by rw [hx]; simp
            have hx2 : decide ((0 : Int) < (xs.length : Int)) = false := decide_eq_false hx1
            have st := HR.out he hx
            have kS := mServed _ b M' O2 HX.out.1.duo.fl
            have kT := mStarts _ b M' O2 HX.out.1.duo.fl
            rw [st.n] at kS
            rw [st.l] at kT
            have hst := Lib.hid st
            clear st hx he HR
            go_wp2_with fail
            refine kS.mono ?_
            rintro e v3 ⟨rfl, rfl⟩
            go_wp2_with fail
            refine kT.mono ?_
            rintro e v4 ⟨A6, q6, rfl, r6, _, o6⟩
            have HX := Lib.hid (And.intro (HX.out.1.only0 o6) (And.intro (HX.out.2.1.only0 o6) (And.intro (HX.out.2.2.1.only0 o6) (And.intro (HX.out.2.2.2.1.keep (fun g hg => o6.block g (HX.out.2.2.2.1.lt hg) (by simp))) (HX.out.2.2.2.2.only0 o6)))))
            have kP := hPlain _ _ _ _ _ r6 HX.out.2.2.2.1 (by have := hsl.out.1; omega) (by have := hsl.out.1; omega)
            simp only [decide_true] at kP
            clear kS kT r6 o6 z0 z1
            go_wp2_with fail
            refine kP.mono ?_
            rintro e v5 ⟨rfl, o6⟩
            have HX := Lib.hid (And.intro (HX.out.1.only0 o6) (And.intro (HX.out.2.1.only0 o6) (And.intro (HX.out.2.2.1.only0 o6) (HX.out.2.2.2.2.only0 o6))))
            have kT := mFlows _ b M' O2 HX.out.1.duo.fl
            rw [hst.out.l] at kT
            clear kP o6
            go_wp2_with fail
            refine kT.mono ?_
            rintro e v6 ⟨A7, q7, rfl, r6, _, o6⟩
            have HX := Lib.hid (And.intro (HX.out.1.only0 o6) (And.intro (HX.out.2.1.only0 o6) (And.intro (HX.out.2.2.1.only0 o6) (HX.out.2.2.2.only0 o6))))
            have kP := iPlain _ _ _ _ _ _ _ rfl (by have := hsl.out.2; omega) r6 HX.out.2.2.2
            clear kT r6 o6
            go_wp2_with fail
            refine kP.mono ?_
            rintro e v7 ⟨rfl, o6⟩
            have HX := Lib.hid (And.intro (HX.out.1.only0 o6) (And.intro (HX.out.2.1.only0 o6) (HX.out.2.2.1.only0 o6)))
            have kL := mLen _ b M' O2 HX.out.1.duo.fl dn.f hdn.out.2.1
            rw [hst.out.l] at kL
            have kV := mV _ b M' O2 HX.out.1.duo.fl
            obtain ⟨_, y1, _, _⟩ := HX.out.2.1.c
            obtain ⟨z0, _, _, _⟩ := HX.out.2.2.c
            clear kP o6
            have l1 : (lenI M.S.l dn.f != lenI M.S.l dn.f) = false := by simp
            by_cases hv : M'.S.v = M.S.v
            · rw [hv] at kV
              have d1 : decide (M.S.v < M.S.v) = false := decide_eq_false (by omega)
              have d2 : (M.S.v != M.S.v) = false := by simp
              have d3 : ¬ (M.S.v < M.S.v) := by omega
              have HH := Lib.hid hv
              clear hv
              go_wp2_with fail
              refine kL.mono ?_
              rintro e v8 ⟨rfl, rfl⟩
              go_wp2_with fail
              refine kV.mono ?_
              rintro e v8 ⟨rfl, rfl⟩
              go_wp2_with fail
              refine kV.mono ?_
              rintro e v8 ⟨rfl, rfl⟩
              go_wp2_with fail
              go_roundg (len1 + 1 - (p + 1))
              case measure => omega
              case rel => exact ⟨p + 1, _, O2, P2, by simp, by omega, by omega, by omega, HX.out.1, hok2.out.mono (by omega) (by omega)⟩
            · have h10 : e0 = 10 := by rcases hst.out.v' with h | h; exact absurd h hv; exact h
              subst h10
              have hle := hst.out.v
              have d1 : decide (M'.S.v < M.S.v) = false := decide_eq_false (by omega)
              have d3 : ¬ (M'.S.v < M.S.v) := by omega
              have d2 : (M'.S.v == M.S.v) = false := by simpa using hv
              have d4 : (M'.S.v != M.S.v) = true := by simpa using hv
              clear hle
              go_wp2_with fail
              refine kL.mono ?_
              rintro e v8 ⟨rfl, rfl⟩
              go_wp2_with fail
              refine kV.mono ?_
              rintro e v8 ⟨rfl, rfl⟩
              go_wp2_with fail
              refine kV.mono ?_
              rintro e v8 ⟨rfl, rfl⟩
              go_wp2_with fail
              go_roundg (len1 + 1 - (p + 1))
              case measure => omega
              case rel => exact ⟨p + 1, _, O2, P2, by simp, by omega, by omega, by omega, HX.out.1, hok2.out.mono (by omega) (by omega)⟩
          · have hx1 : (0 : Int) < (xs.length : Int) := by have := List.length_pos_iff.2 hx; omega
            have hx2 : decide ((0 : Int) < (xs.length : Int)) = true := decide_eq_true hx1
            clear hx he
            go_wp2_with fail
            go_roundg (len1 + 1 - (p + 1))
            case measure => omega
            case rel => exact ⟨p + 1, _, O2, P2, by simp, by omega, by omega, by omega, HX.out.1, hok2.out.mono (by omega) (by omega)⟩
    · have hcd : (decide ((p : Int) < (len1 : Int)) = false ∧ ¬ ((p : Int) < (len1 : Int))) ∨ ((p : Int) < (len1 : Int) ∧ decide ((p : Int) < 60) = false) := by
        have hce : ¬ p < len1 ∨ (p < len1 ∧ ¬ p < 60) := by omega
        rcases hce with h9 | h9
        · exact .inl ⟨decide_eq_false (by omega), by omega⟩
        · exact .inr ⟨by omega, decide_eq_false (by omega)⟩
      clear hc
      rcases hcd with ⟨h1, h2⟩ | ⟨h1, h2⟩
      all_goals
        go_wp2_with fail
        go_ret
        exact ⟨rfl, hS.out.1.only.below (Nat.le_refl _) (by simp)⟩

/-! ### The step from the walk to the statement -/
set_option maxRecDepth 100000 in
theorem lifted (os : Os) (started : os.Started) (H : Type) (enc : TypeId × Value → H) :
    ReturnsInHanded {} Tryz.checked os 6 .any (Rows.modelRefusedSpec.pre6 enc Tryz.prog Tryz.f6 Rows.modelRefusedRow.domain false) (Rows.modelRefusedSpec.post enc Tryz.prog Tryz.f6 false true false false) := by
  refine returnsInHanded_of_change (C := Tryz.checked) own started (by kernel_rfl) Tryz.func6
    (ChangeSpec.witness6 (enc := enc) (C := Tryz.checked) false ⟨#[], #[.agg #[.int .i64 0, .int .i64 0, .int .i64 0, .int .i64 0, .int .u64 0], .slice none 0 0], []⟩ 8 (by kernel_rfl) (by kernel_rfl) (by kernel_rfl) (by kernel_rfl)) ?_
  intro W base args ds gs before hval0 hW hcnd _
  have hval : ∀ (j : Nat) t v, Tryz.f6.params[j]? = some t → args[j]? = some v → Value.okWide Tryz.prog W .any base t v := hval0
  have hW' := hW
  obtain ⟨p, q, hA0, hV, rfl, hfz, hnd⟩ := hW
  have hA : DataW.TrodAll enc Tryz.prog W 0 (fun _ => true) true Tryz.f6.params.toList args.toList ds p := hA0
  rw [Tryz.params6] at hA hval
  obtain ⟨v0, vs0, d0, ds0, p0, q0, hargs, rfl, rfl, h0, r0⟩ := trodAll_cons hA
  obtain ⟨v1, vs1, d1, ds1, p1, q1, rfl, rfl, rfl, h1, r1⟩ := trodAll_cons r0
  obtain ⟨rfl, rfl, rfl⟩ := trodAll_nil r1
  obtain rfl : args = #[v0, v1] := by cases args; simp_all
  obtain ⟨rfl, rfl⟩ := trodVars_none hV
  obtain ⟨sh0, sl0, wk0, wd0, un0, rfl, rfl, rfl, wsh0, wsl0, wwk0, wwd0, wun0⟩ := open_cf (hval 0 24 v0 rfl rfl) h0
  obtain ⟨a1, len1, cap1, rfl⟩ := okWide_slice Tryz.underlying25 (hval 1 25 v1 rfl rfl)
  have k1 := h1
  have lt1 : ∀ x ∈ p1, x.block < W.heap.size := by obtain ⟨m, hm⟩ := k1; exact DataW.trod_lt m _ _ _ hm
  obtain ⟨z1, w1⟩ : ∃ z, InCalls W a1 len1 z := by
    obtain ⟨fuel, hf⟩ := h1
    exact open_calls hf
  clear hA0 hval0
  refine (walk sh0 sl0 wk0 wd0 un0 a1 len1 cap1 z1 W wsh0 wsl0 wwk0 wwd0 wun0 w1).mono fun e W' ⟨he, bel⟩ => ?_
  subst he
  exact ⟨_, rfl, _, _, _, [], _, [], hW', trodAll_mk1 (shut_bool Tryz.underlying4 _), (trodAll_cons_mk (reads_cf wsh0 wsl0 wwk0 wwd0 wun0 _ _ _) (trodAll_cons_mk (Below.trod laidOut (by kernel_rfl) (of_decide_eq_true (by kernel_rfl)) k1 bel lt1) trodAll_mk0)), rfl, bel.frame _, fun h => by cases h⟩

theorem over : Rows.modelRefusedRow.holds Tryz.pinned (OpenSpec.ofChange Rows.modelRefusedSpec) :=
  OpenClaim.holds_of_wide 6 Tryz.f6 rfl rfl rfl rfl rfl rfl rfl ⟨rfl, rfl, rfl, rfl, rfl⟩ rfl rfl rfl rfl rfl (by kernel_rfl) Tryz.func6 (by kernel_rfl)
    (of_decide_eq_true (by kernel_rfl)) (by unfold Func.isWrapper; first | (rw [if_pos (by decide +kernel)]; kernel_rfl) | (rw [if_neg (by decide +kernel)]; exact ⟨rfl, rfl⟩))
    (fun os started H enc _ => lifted os started H enc)

/-- The statement. -/
theorem proved : Rows.ModelRefusedSaid := over
#print axioms proved
end Go.Proofs.YtklolepmmabijaaGreat.modelRefused
