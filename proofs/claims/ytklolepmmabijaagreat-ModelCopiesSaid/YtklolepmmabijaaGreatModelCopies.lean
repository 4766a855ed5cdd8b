/-
  weighbridgelaw11.ModelCopies returns true for every input, and leaves its arguments as they were. No condition but that the arguments are values of their types.
-/
import Derived.Test.YtklolepmmabijaaGreatRows
import Derived.Test.YtklolepmmabijaaGreatMd2
import Derived.WalkKit
import Derived.ProofKit
import Derived.OpenShut
import Derived.ChangeOld
import Derived.Below
namespace Go.Proofs.YtklolepmmabijaaGreat.modelCopies
open Go.ChangeShapes Go.WideShapes Go.ChangeAt Go.RowKit
set_option linter.unusedVariables false
set_option linter.unusedSimpArgs false

set_option maxRecDepth 100000 in
set_option maxHeartbeats 8000000 in
theorem walk (sh0 sl0 wk0 wd0 un0 : Int) (a1 : Option Addr) (len1 cap1 : Nat) (z1 : Nat → Cl) (a2 : Option Addr) (len2 cap2 : Nat) (z2 : Nat → Cl) (a3 : Option Addr) (len3 cap3 : Nat) (z3 : Nat → Cl) (w : World) (wsh0 : (Lit.int .i64 sh0).wf = true) (wsl0 : (Lit.int .i64 sl0).wf = true) (wwk0 : (Lit.int .i64 wk0).wf = true) (wwd0 : (Lit.int .i64 wd0).wf = true) (wun0 : (Lit.int .u64 un0).wf = true) (w1 : InCalls w a1 len1 z1) (w2 : InCalls w a2 len2 z2) (w3 : InCalls w a3 len3 z3) :
    Calls Tryz.prog 8 #[.agg #[.int .i64 sh0, .int .i64 sl0, .int .i64 wk0, .int .i64 wd0, .int .u64 un0], .slice a1 len1 cap1, .slice a2 len2 cap2, .slice a3 len3 cap3] w fun e w' => e = .returned (.bool true) ∧ Below w.heap.size w w' := by
  have W1 := Lib.hid w1
  have W2 := Lib.hid w2
  have W3 := Lib.hid w3
  have km := Lib.hid (fun W => mMade ⟨sh0, sl0, wk0, wd0, un0⟩ (U64.of_wf wun0) true W)
  have hM0 := Lib.hid (madeM_ok ⟨sh0, sl0, wk0, wd0, un0⟩ true)
  clear w1 w2 w3 wsh0 wsl0 wwk0 wwd0 wun0
  generalize madeM ⟨sh0, sl0, wk0, wd0, un0⟩ true = M0 at *
  go_enter Tryz.func8, Tryz.ntmps8
  go_wp2_with fail
  refine (km.out _).mono ?_
  rintro e v1 ⟨b, x, rfl, O1, P1, h1⟩
  have H1 := Lib.hid (h1.from ((Only.refl [] w).alloc _))
  clear h1 km
  go_wp2_with fail
  refine (mAwake _).mono ?_
  rintro e v2 ⟨rfl, o2⟩
  have H2 := Lib.hid (And.intro (H1.out.only0 o2) hM0.out)
  clear o2 H1 hM0
  go_wp2_with fail
  go_loopg [11] (len1 + 1) (fun gk si wr => ∃ (p : Nat) (M : Md) (O P : List Nat), si = .int .i64 (p : Int) ∧ p ≤ len1 ∧ p ≤ 40 ∧ len1 + 1 ≤ gk + p ∧ Hid (Ms w wr b x M O P ∧ M.ok (4 + p) (64 + 16 * p)))
  case atStart => exact ⟨0, M0, O1, P1, rfl, by omega, by omega, by omega, H2⟩
  case round =>
    obtain ⟨p, M, O, P, rfl, hp, hp1, hg, hS⟩ := hrel
    clear H2
    by_cases hc : p < len1 ∧ p < 40
    · have c1 : (p : Int) < (len1 : Int) := by omega
      have c2 : (p : Int) < 40 := by omega
      obtain ⟨hdok, ad, bb, o, s, rfl, hadd, r0, r1, r2, r3⟩ := W1.out.at_ hS.out.1.only hc.1
      obtain ⟨d, ed⟩ : ∃ d, z1 p = d := ⟨_, rfl⟩
      rw [ed] at r0 r1 r2 r3 hdok
      have kc := sCall d wr
      have hdn := Lib.hid (Cl.near_ok hdok)
      clear ed hdok
      go_wp2_with fail
      refine kc.mono ?_
      rintro e u1 ⟨rfl, o1⟩
      generalize d.near = dn at *
      have bA := CBox.new u1 dn
      have hA := hS.out.1.only0 (o1.trans' ((Only.refl [] u1).alloc (.cells #[.int .i64 dn.op, .int .i64 dn.f, .int .i64 dn.a, .int .i64 dn.b] 33)))
      have hN : u1.heap.size ∉ O ++ P := (hS.out.1.only0 o1).out (Nat.le_refl _)
      obtain ⟨y0, y1, y2, y3⟩ := bA.c
      have HM := Lib.hid hS.out.2
      have H4 := Lib.hid (And.intro hA (And.intro bA hN))
      have kD := mDo _ b M O hA.duo.fl dn hdn.out _ _ HM.out (by omega) (by omega)
      unfold Told at kD
      have hok2 := Lib.hid (HM.out.todo hdn.out (by omega))
      have kN0 := fun W (hW : NdOf x M W P) => nDo W x M P hW dn hdn.out _ _ HM.out (by omega) (by omega)
      unfold Told at kN0
      have hlen := todo_len M dn
      generalize (M.todo dn).1 = M' at *
      generalize (M.todo dn).2 = r at *
      obtain ⟨e0, xs, n0, x0⟩ := r
      simp only at kD kN0 hlen
      have kN := Lib.hid kN0
      clear kc o1 r0 r1 r2 r3 hS bA hA hN kN0
      go_wp2_with fail
      generalize u1.alloc (.cells #[.int .i64 dn.op, .int .i64 dn.f, .int .i64 dn.a, .int .i64 dn.b] 33) = u4 at *
      obtain ⟨N, eN⟩ : ∃ N, u1.heap.size = N := ⟨_, rfl⟩
      rw [eN] at H4 y0 y1 y2 y3 ⊢
      clear eN
      refine kD.mono ?_
      rintro e u5 ⟨A4, q4, rfl, t4⟩
      have m4 := H4.out.1.duo.ours (Only.refl [] _) H4.out.2.1 (fun hk => H4.out.2.2 (by simp [hk])) t4
      have sz5 : u4.heap.size ≤ u5.heap.size := by obtain ⟨_, _, g, _⟩ := t4; exact g.1.size
      have oB : Only [] u5 (u5.alloc (.cells #[.int .i64 e0, .slice A4 xs.length q4, .int .i64 n0, .int .u64 x0] 50)).drew := ((Only.refl [] u5).alloc _).drew
      have rb := RBox.new u5 e0 (.slice A4 xs.length q4) n0 x0
      have m5 := m4.on oB
      have cb5 : CBox (u5.alloc (.cells #[.int .i64 e0, .slice A4 xs.length q4, .int .i64 n0, .int .u64 x0] 50)).drew N dn := by obtain ⟨_, q, _⟩ := m5; exact q
      have HN2 : Hid (u5.heap.size ∉ P) := fun hk => by have := H4.out.1.duo.lt u5.heap.size (by simp [hk]); omega
      have MB := Lib.hid m5
      have bx : Hid (CBox (u5.alloc (.cells #[.int .i64 e0, .slice A4 xs.length q4, .int .i64 n0, .int .u64 x0] 50)).drew N dn ∧ RBox (u5.alloc (.cells #[.int .i64 e0, .slice A4 xs.length q4, .int .i64 n0, .int .u64 x0] 50)).drew u5.heap.size e0 (.slice A4 xs.length q4) n0 x0) := ⟨cb5, rb⟩
      obtain ⟨x0', x1', x2', x3'⟩ : _ ∧ _ ∧ _ ∧ _ := bx.out.1.c
      obtain ⟨z0, z1, z2, z3⟩ : _ ∧ _ ∧ _ ∧ _ := bx.out.2.c
      clear kD t4 m4 m5 oB rb cb5 sz5 y0 y1 y2 y3
      go_wp2_with fail
      generalize u5.alloc (.cells #[.int .i64 e0, .slice A4 xs.length q4, .int .i64 n0, .int .u64 x0] 50) = U5 at *
      obtain ⟨NR, eNR⟩ : ∃ NR, u5.heap.size = NR := ⟨_, rfl⟩
      rw [eNR] at bx HN2 z0 z1 z2 z3 ⊢
      clear eNR
      have cells : Hid (∀ V, CBox V N dn ∧ RBox V NR e0 (.slice A4 xs.length q4) n0 x0 → (V.cell? ⟨N, 0, none⟩ = some (.int .i64 dn.op) ∧ V.cell? ⟨N, 1, none⟩ = some (.int .i64 dn.f) ∧ V.cell? ⟨N, 2, none⟩ = some (.int .i64 dn.a) ∧ V.cell? ⟨N, 3, none⟩ = some (.int .i64 dn.b)) ∧ V.cell? ⟨NR, 0, none⟩ = some (.int .i64 e0) ∧ V.cell? ⟨NR, 1, none⟩ = some (.slice A4 xs.length q4) ∧ V.cell? ⟨NR, 2, none⟩ = some (.int .i64 n0) ∧ V.cell? ⟨NR, 3, none⟩ = some (.int .u64 x0)) := fun V hV => ⟨hV.1.c, hV.2.c⟩
      go_region_held3 (fun w' => (w'.cell? ⟨N, 0, none⟩ = some (.int .i64 dn.op) ∧ w'.cell? ⟨N, 1, none⟩ = some (.int .i64 dn.f) ∧ w'.cell? ⟨N, 2, none⟩ = some (.int .i64 dn.a) ∧ w'.cell? ⟨N, 3, none⟩ = some (.int .i64 dn.b)) ∧ w'.cell? ⟨NR, 0, none⟩ = some (.int .i64 e0) ∧ w'.cell? ⟨NR, 1, none⟩ = some (.slice A4 xs.length q4) ∧ w'.cell? ⟨NR, 2, none⟩ = some (.int .i64 n0) ∧ w'.cell? ⟨NR, 3, none⟩ = some (.int .u64 x0))
        (first | (exact cells.out _ bx.out) | go_keep)
        (first
          | (go_at_call 22
             refine (kN.out _ MB.out.rf).mono ?_
             rintro e u6 ⟨A5, q5, rfl, t5⟩
             have MC := Lib.hid (MB.out.theirs (fun k hk => H4.out.1.duo.lt k (by simp [hk])) t5)
             have bx : Hid (CBox u6 N dn ∧ RBox u6 NR e0 (.slice A4 xs.length q4) n0 x0) := by
               obtain ⟨P', _, g, _⟩ := t5
               exact ⟨bx.out.1.only g.1 (fun hk => H4.out.2.2 (by simp [hk])), bx.out.2.only g.1 HN2.out⟩
             clear t5)
          | (go_at_call 21
             refine (hRet _ ⟨e0, xs, n0, x0⟩ A4 A5 q4 q5 (by obtain ⟨_, _, _, _, q, _⟩ := MC.out; exact q) (by obtain ⟨_, _, _, _, _, q, _⟩ := MC.out; exact q) (by simp only; omega)).mono ?_
             rintro e u7 ⟨rfl, o7⟩
             have MC := Lib.hid (MC.out.on o7)
             have bx : Hid (CBox u7 N dn ∧ RBox u7 NR e0 (.slice A4 xs.length q4) n0 x0) := ⟨bx.out.1.only0 o7, bx.out.2.only0 o7⟩
             clear o7))
      all_goals
        obtain ⟨O2, P2, s2, oK, row, nw⟩ := H4.out.1.mc MC.out
        have sz := H4.out.1.only.size
        have HX := Lib.hid (And.intro s2 (fun g hg => ⟨Nat.le_trans sz (nw g hg).1, (nw g hg).2⟩ : ∀ g, (Value.slice A4 xs.length q4).ownBlock = some g → w.heap.size ≤ g ∧ g ∉ O2 ++ P2))
        have kp := pSpoil _ A4 _ q4 xs rfl (by omega) row
        obtain ⟨z0, z1, _, _⟩ := bx.out.2.c
        clear s2 oK row nw sz
        go_wp2_with fail
        refine kp.mono ?_
        rintro e v3 ⟨rfl, o3⟩
        have h3 := HX.out.1.spoil (Only.refl [] _) HX.out.2 o3
        have ks := mStarts _ b M' O2 h3.duo.fl
        have hls := starts_len hok2.out.s
        have H3 := Lib.hid h3
        clear kp o3 h3 z0 z1
        go_wp2_with fail
        refine ks.mono ?_
        rintro e v4 ⟨A6, q6, rfl, r6, n6, o6⟩
        have kp := hSpoil v4 _ _ r6 (by omega)
        have F6 := Lib.hid (And.intro n6 o6)
        clear ks r6 n6 o6 hls
        go_wp2_with fail
        refine kp.mono ?_
        rintro e v5 ⟨rfl, o7⟩
        have h5 := H3.out.spoilN F6.out.2 F6.out.1 o7
        have kf := mFlows _ b M' O2 h5.duo.fl
        have hli : (idsK M'.S.l).length ≤ 1000 := by unfold idsK; rw [List.length_map]; exact hok2.out.s.len
        have H5 := Lib.hid h5
        clear kp o7 h5 H3 F6
        go_wp2_with fail
        refine kf.mono ?_
        rintro e v6 ⟨A8, q8, rfl, r8, n8, o8⟩
        have kp := iSpoil v6 A8 _ q8 _ rfl (by omega) r8
        have F8 := Lib.hid (And.intro n8 o8)
        clear kf r8 n8 o8 hli
        go_wp2_with fail
        refine kp.mono ?_
        rintro e v7 ⟨rfl, o9⟩
        have H7 := Lib.hid (H5.out.spoilN F8.out.2 F8.out.1 o9)
        clear kp o9 F8 H5
        go_wp2_with fail
        go_roundg (len1 + 1 - (p + 1))
        case measure => omega
        case rel => exact ⟨p + 1, _, O2, P2, by simp, by omega, by omega, by omega, H7.out, hok2.out.mono (by omega) (by omega)⟩
    · have hcd : (decide ((p : Int) < (len1 : Int)) = false ∧ ¬ ((p : Int) < (len1 : Int))) ∨ ((p : Int) < (len1 : Int) ∧ decide ((p : Int) < 40) = false) := by
        have hce : ¬ p < len1 ∨ (p < len1 ∧ ¬ p < 40) := by omega
        rcases hce with h9 | h9
        · exact .inl ⟨decide_eq_false (by omega), by omega⟩
        · exact .inr ⟨by omega, decide_eq_false (by omega)⟩
      clear hc
      have HM0 := Lib.hid (hS.out.2.mono (k' := 44) (j' := 704) (by omega) (by omega))
      rcases hcd with ⟨h1, h2⟩ | ⟨h1, h2⟩
      all_goals
        have kc := mCopy wr b M O hS.out.1.duo.fl
        clear W1
        go_wp2_with fail
        refine kc.mono ?_
        rintro e u1 ⟨nb, rfl, O1, k1, o1, n1⟩
        have kd := nCopy u1 x M P (hS.out.1.only0 o1).duo.rf
        have K1 := Lib.hid (And.intro k1 (And.intro o1 n1))
        clear kc k1 o1 n1 h1 h2
        go_wp2_with fail
        refine kd.mono ?_
        rintro e u2 ⟨nc, rfl, P1, k3, o3, n3⟩
        have T2 := Lib.hid (hS.out.1.copied K1.out.1 K1.out.2.1 K1.out.2.2 k3 o3 n3)
        have kl := Lib.hid (T2.out.looks2 0 (i64_of (by decide)))
        clear kd k3 o3 n3 K1 hS hp hp1 hg
        go_wp2_with fail
        refine kl.out.mono ?_
        rintro e u3 ⟨rfl, k4⟩
        have T3 := Lib.hid (And.intro k4 (And.intro HM0.out HM0.out))
        clear k4 T2 HM0 kl
        go_wp2_with fail
        go_loopg [16] 41 (fun gk si wr => ∃ (p : Nat) (S1 : Md) (O P : List Nat) (S2 : Md) (O' P' : List Nat), si = .int .i64 (p : Int) ∧ p ≤ 40 ∧ 41 ≤ gk + p ∧ Hid (M2 w wr b x S1 O P nb nc S2 O' P' ∧ S1.ok (44 + p) (704 + 16 * p) ∧ S2.ok (44 + p) (704 + 16 * p)))
        case atStart => exact ⟨0, _, _, _, _, _, _, rfl, by omega, by omega, T3⟩
        case round =>
          obtain ⟨p, S1, O, P, S2, O', P', rfl, hp, hg, hT⟩ := hrel
          clear T3
          by_cases hpl : p < 40
          · have hpl' : (p : Int) < 40 := by omega
            by_cases hm : p < len2
            · have hm' : (p : Int) < (len2 : Int) := by omega
              have hmd : decide ((p : Int) < (len2 : Int)) = true := decide_eq_true hm'
              have hmd2 : decide (p < len2) = true := decide_eq_true hm
              obtain ⟨hdok, ad, bb, o, s, rfl, hadd, r0, r1, r2, r3⟩ := W2.out.at_ hT.out.1.one.only hm
              obtain ⟨d, ed⟩ : ∃ d, z2 p = d := ⟨_, rfl⟩
              rw [ed] at r0 r1 r2 r3 hdok
              have kc := sCall d wr
              have hdn := Lib.hid (Cl.near_ok hdok)
              clear ed hdok
              go_wp2_with fail
              refine kc.mono ?_
              rintro e u4 ⟨rfl, o4⟩
              have hst := Lib.hid ((hT.out.1.only0 o4).step1 d.near hdn.out _ _ hT.out.2.1 (by omega) (by omega))
              have hokA := Lib.hid (hT.out.2.1.todo hdn.out (by omega))
              clear kc o4 r0 r1 r2 r3
              generalize d.near = dn at *
              go_wp2_with fail
              refine hst.out.mono ?_
              rintro e u5 ⟨rfl, O4, P4, h4⟩
              have H4 := Lib.hid h4
              clear h4 hst
              by_cases hq : p < len3
              · have hq' : (p : Int) < (len3 : Int) := by omega
                have hqd : decide ((p : Int) < (len3 : Int)) = true := decide_eq_true hq'
                have hqd2 : decide (p < len3) = true := decide_eq_true hq
                obtain ⟨hdok2, ad2, bb2, o2, s2, rfl, hadd2, r0, r1, r2, r3⟩ := W3.out.at_ H4.out.one.only hq
                obtain ⟨d2, ed2⟩ : ∃ d, z3 p = d := ⟨_, rfl⟩
                rw [ed2] at r0 r1 r2 r3 hdok2
                have kc := sCall d2 u5
                have hdn2 := Lib.hid (Cl.near_ok hdok2)
                clear ed2 hdok2
                go_wp2_with fail
                refine kc.mono ?_
                rintro e u6 ⟨rfl, o6⟩
                have hst := Lib.hid ((H4.out.only0 o6).step2 d2.near hdn2.out _ _ hT.out.2.2 (by omega) (by omega))
                have hokB := Lib.hid (hT.out.2.2.todo hdn2.out (by omega))
                clear kc o6 r0 r1 r2 r3
                generalize d2.near = dn2 at *
                go_wp2_with fail
                refine hst.out.mono ?_
                rintro e u7 ⟨rfl, O5, P5, h5⟩
                have H5 := Lib.hid h5
                clear h5 hst
                go_wp2_with fail
                go_roundg (41 - (p + 1))
                case measure => omega
                case rel => exact ⟨p + 1, _, _, _, _, _, _, by simp, by omega, by omega, H5.out, hokA.out.mono (by omega) (by omega), hokB.out.mono (by omega) (by omega)⟩
              · have hqd : decide ((p : Int) < (len3 : Int)) = false := decide_eq_false (by omega)
                have hqd2 : decide (p < len3) = false := decide_eq_false hq
                have hq' : ¬ ((p : Int) < (len3 : Int)) := by omega
                go_wp2_with fail
                go_roundg (41 - (p + 1))
                case measure => omega
                case rel => exact ⟨p + 1, _, _, _, _, _, _, by simp, by omega, by omega, H4.out, hokA.out.mono (by omega) (by omega), hT.out.2.2.mono (by omega) (by omega)⟩
            · have hmd : decide ((p : Int) < (len2 : Int)) = false := decide_eq_false (by omega)
              have hmd2 : decide (p < len2) = false := decide_eq_false hm
              have hm' : ¬ ((p : Int) < (len2 : Int)) := by omega
              by_cases hq : p < len3
              · have hq' : (p : Int) < (len3 : Int) := by omega
                have hqd : decide ((p : Int) < (len3 : Int)) = true := decide_eq_true hq'
                have hqd2 : decide (p < len3) = true := decide_eq_true hq
                obtain ⟨hdok2, ad2, bb2, o2, s2, rfl, hadd2, r0, r1, r2, r3⟩ := W3.out.at_ hT.out.1.one.only hq
                obtain ⟨d2, ed2⟩ : ∃ d, z3 p = d := ⟨_, rfl⟩
                rw [ed2] at r0 r1 r2 r3 hdok2
                have kc := sCall d2 wr
                have hdn2 := Lib.hid (Cl.near_ok hdok2)
                clear ed2 hdok2
                go_wp2_with fail
                refine kc.mono ?_
                rintro e u6 ⟨rfl, o6⟩
                have hst := Lib.hid ((hT.out.1.only0 o6).step2 d2.near hdn2.out _ _ hT.out.2.2 (by omega) (by omega))
                have hokB := Lib.hid (hT.out.2.2.todo hdn2.out (by omega))
                clear kc o6 r0 r1 r2 r3
                generalize d2.near = dn2 at *
                go_wp2_with fail
                refine hst.out.mono ?_
                rintro e u7 ⟨rfl, O5, P5, h5⟩
                have H5 := Lib.hid h5
                clear h5 hst
                go_wp2_with fail
                go_roundg (41 - (p + 1))
                case measure => omega
                case rel => exact ⟨p + 1, _, _, _, _, _, _, by simp, by omega, by omega, H5.out, hT.out.2.1.mono (by omega) (by omega), hokB.out.mono (by omega) (by omega)⟩
              · have hqd : decide ((p : Int) < (len3 : Int)) = false := decide_eq_false (by omega)
                have hqd2 : decide (p < len3) = false := decide_eq_false hq
                have hq' : ¬ ((p : Int) < (len3 : Int)) := by omega
                go_wp2_with fail
                go_roundg (41 - (p + 1))
                case measure => omega
                case rel => exact ⟨p + 1, _, _, _, _, _, _, by simp, by omega, by omega, hT.out.1, hT.out.2.1.mono (by omega) (by omega), hT.out.2.2.mono (by omega) (by omega)⟩
          · have hpl' : ¬ ((p : Int) < 40) := by omega
            have kl1 := Lib.hid (hT.out.1.looks1 1 (i64_of (by decide)))
            go_wp2_with fail
            refine kl1.out.mono ?_
            rintro e u6 ⟨rfl, k6⟩
            have kl2 := Lib.hid (k6.looks2 1 (i64_of (by decide)))
            clear k6 kl1
            go_wp2_with fail
            refine kl2.out.mono ?_
            rintro e u7 ⟨rfl, k7⟩
            have T7 := Lib.hid k7
            clear k7 kl2
            go_wp2_with fail
            go_ret
            exact ⟨rfl, T7.out.one.only.below (Nat.le_refl _) (by simp)⟩

/-! ### The step from the walk to the statement -/
set_option maxRecDepth 100000 in
theorem lifted (os : Os) (started : os.Started) (H : Type) (enc : TypeId × Value → H) :
    ReturnsInHanded {} Tryz.checked os 8 .any (Rows.modelCopiesSpec.pre6 enc Tryz.prog Tryz.f8 Rows.modelCopiesRow.domain false) (Rows.modelCopiesSpec.post enc Tryz.prog Tryz.f8 false true false false) := by
  refine returnsInHanded_of_change (C := Tryz.checked) own started (by kernel_rfl) Tryz.func8
    (ChangeSpec.witness6 (enc := enc) (C := Tryz.checked) false ⟨#[], #[.agg #[.int .i64 0, .int .i64 0, .int .i64 0, .int .i64 0, .int .u64 0], .slice none 0 0, .slice none 0 0, .slice none 0 0], []⟩ 8 (by kernel_rfl) (by kernel_rfl) (by kernel_rfl) (by kernel_rfl)) ?_
  intro W base args ds gs before hval0 hW hcnd _
  have hval : ∀ (j : Nat) t v, Tryz.f8.params[j]? = some t → args[j]? = some v → Value.okWide Tryz.prog W .any base t v := hval0
  have hW' := hW
  obtain ⟨p, q, hA0, hV, rfl, hfz, hnd⟩ := hW
  have hA : DataW.TrodAll enc Tryz.prog W 0 (fun _ => true) true Tryz.f8.params.toList args.toList ds p := hA0
  rw [Tryz.params8] at hA hval
  obtain ⟨v0, vs0, d0, ds0, p0, q0, hargs, rfl, rfl, h0, r0⟩ := trodAll_cons hA
  obtain ⟨v1, vs1, d1, ds1, p1, q1, rfl, rfl, rfl, h1, r1⟩ := trodAll_cons r0
  obtain ⟨v2, vs2, d2, ds2, p2, q2, rfl, rfl, rfl, h2, r2⟩ := trodAll_cons r1
  obtain ⟨v3, vs3, d3, ds3, p3, q3, rfl, rfl, rfl, h3, r3⟩ := trodAll_cons r2
  obtain ⟨rfl, rfl, rfl⟩ := trodAll_nil r3
  obtain rfl : args = #[v0, v1, v2, v3] := by cases args; simp_all
  obtain ⟨rfl, rfl⟩ := trodVars_none hV
  obtain ⟨sh0, sl0, wk0, wd0, un0, rfl, rfl, rfl, wsh0, wsl0, wwk0, wwd0, wun0⟩ := open_cf (hval 0 24 v0 rfl rfl) h0
  obtain ⟨a1, len1, cap1, rfl⟩ := okWide_slice Tryz.underlying25 (hval 1 25 v1 rfl rfl)
  have k1 := h1
  have lt1 : ∀ x ∈ p1, x.block < W.heap.size := by obtain ⟨m, hm⟩ := k1; exact DataW.trod_lt m _ _ _ hm
  obtain ⟨z1, w1⟩ : ∃ z, InCalls W a1 len1 z := by
    obtain ⟨fuel, hf⟩ := h1
    exact open_calls hf
  obtain ⟨a2, len2, cap2, rfl⟩ := okWide_slice Tryz.underlying25 (hval 2 25 v2 rfl rfl)
  have k2 := h2
  have lt2 : ∀ x ∈ p2, x.block < W.heap.size := by obtain ⟨m, hm⟩ := k2; exact DataW.trod_lt m _ _ _ hm
  obtain ⟨z2, w2⟩ : ∃ z, InCalls W a2 len2 z := by
    obtain ⟨fuel, hf⟩ := h2
    exact open_calls hf
  obtain ⟨a3, len3, cap3, rfl⟩ := okWide_slice Tryz.underlying25 (hval 3 25 v3 rfl rfl)
  have k3 := h3
  have lt3 : ∀ x ∈ p3, x.block < W.heap.size := by obtain ⟨m, hm⟩ := k3; exact DataW.trod_lt m _ _ _ hm
  obtain ⟨z3, w3⟩ : ∃ z, InCalls W a3 len3 z := by
    obtain ⟨fuel, hf⟩ := h3
    exact open_calls hf
  clear hA0 hval0
  refine (walk sh0 sl0 wk0 wd0 un0 a1 len1 cap1 z1 a2 len2 cap2 z2 a3 len3 cap3 z3 W wsh0 wsl0 wwk0 wwd0 wun0 w1 w2 w3).mono fun e W' ⟨he, bel⟩ => ?_
  subst he
  exact ⟨_, rfl, _, _, _, [], _, [], hW', trodAll_mk1 (shut_bool Tryz.underlying4 _), (trodAll_cons_mk (reads_cf wsh0 wsl0 wwk0 wwd0 wun0 _ _ _) (trodAll_cons_mk (Below.trod laidOut (by kernel_rfl) (of_decide_eq_true (by kernel_rfl)) k1 bel lt1) (trodAll_cons_mk (Below.trod laidOut (by kernel_rfl) (of_decide_eq_true (by kernel_rfl)) k2 bel lt2) (trodAll_cons_mk (Below.trod laidOut (by kernel_rfl) (of_decide_eq_true (by kernel_rfl)) k3 bel lt3) trodAll_mk0)))), rfl, bel.frame _, fun h => by cases h⟩

theorem over : Rows.modelCopiesRow.holds Tryz.pinned (OpenSpec.ofChange Rows.modelCopiesSpec) :=
  OpenClaim.holds_of_wide 8 Tryz.f8 rfl rfl rfl rfl rfl rfl rfl ⟨rfl, rfl, rfl, rfl, rfl⟩ rfl rfl rfl rfl rfl (by kernel_rfl) Tryz.func8 (by kernel_rfl)
    (of_decide_eq_true (by kernel_rfl)) (by unfold Func.isWrapper; first | (rw [if_pos (by decide +kernel)]; kernel_rfl) | (rw [if_neg (by decide +kernel)]; exact ⟨rfl, rfl⟩))
    (fun os started H enc _ => lifted os started H enc)

/-- The statement. -/
theorem proved : Rows.ModelCopiesSaid := over
#print axioms proved
end Go.Proofs.YtklolepmmabijaaGreat.modelCopies
