/-
  weighbridgelaw11.ModelBatch returns true for every input, and leaves its arguments as they were. No condition but that the arguments are values of their types.
-/
import Derived.Test.YtklolepmmabijaaGreatRows
import Derived.Test.YtklolepmmabijaaGreatMd2
import Derived.WalkKit
import Derived.ProofKit
import Derived.OpenShut
import Derived.ChangeOld
import Derived.Below
namespace Go.Proofs.YtklolepmmabijaaGreat.modelBatch
open Go.ChangeShapes Go.WideShapes Go.ChangeAt Go.RowKit
set_option linter.unusedVariables false
set_option linter.unusedSimpArgs false

set_option maxRecDepth 100000 in
set_option maxHeartbeats 8000000 in
theorem walk (sh0 sl0 wk0 wd0 un0 : Int) (a1 : Option Addr) (len1 cap1 : Nat) (z1 : Nat → Cl) (a2 : Int) (w : World) (wsh0 : (Lit.int .i64 sh0).wf = true) (wsl0 : (Lit.int .i64 sl0).wf = true) (wwk0 : (Lit.int .i64 wk0).wf = true) (wwd0 : (Lit.int .i64 wd0).wf = true) (wun0 : (Lit.int .u64 un0).wf = true) (w1 : InCalls w a1 len1 z1) (w2 : (Lit.int .i64 a2).wf = true) :
    Calls Tryz.prog 7 #[.agg #[.int .i64 sh0, .int .i64 sl0, .int .i64 wk0, .int .i64 wd0, .int .u64 un0], .slice a1 len1 cap1, .int .i64 a2] w fun e w' => e = .returned (.bool true) ∧ Below w.heap.size w w' := by
  have W1 := Lib.hid w1
  have km := Lib.hid (fun W => mMade ⟨sh0, sl0, wk0, wd0, un0⟩ (U64.of_wf wun0) true W)
  have hM0 := Lib.hid (madeM_ok ⟨sh0, sl0, wk0, wd0, un0⟩ true)
  have hA2 : Hid (i64ok a2) := w2
  clear w1 w2 wsh0 wsl0 wwk0 wwd0 wun0
  generalize madeM ⟨sh0, sl0, wk0, wd0, un0⟩ true = M0 at *
  go_enter Tryz.func7, Tryz.ntmps7
  go_wp2_with fail
  refine (km.out _).mono ?_
  rintro e v1 ⟨b, x, rfl, O1, P1, h1⟩
  have H1 := Lib.hid (h1.from ((Only.refl [] w).alloc _))
  clear h1 km
  go_wp2_with fail
  refine (mAwake _).mono ?_
  rintro e v2 ⟨rfl, o2⟩
  have H2 := Lib.hid (And.intro (H1.out.only0 o2) hM0.out)
  clear o2 H1 hM0
  go_wp2_with fail
  go_loopg [9] (len1 + 1) (fun gk si wr => ∃ (p : Nat) (M : Md) (O P : List Nat), si = .int .i64 (p : Int) ∧ p ≤ len1 ∧ p ≤ 60 ∧ len1 + 1 ≤ gk + p ∧ Hid (Ms w wr b x M O P ∧ M.ok (4 + p) (64 + 16 * p)))
  case atStart => exact ⟨0, M0, O1, P1, rfl, by omega, by omega, by omega, H2⟩
  case round =>
    obtain ⟨p, M, O, P, rfl, hp, hp1, hg, hS⟩ := hrel
    clear H2
    by_cases hc : p < len1 ∧ p < 60
    · have c1 : (p : Int) < (len1 : Int) := by omega
      have c2 : (p : Int) < 60 := by omega
      obtain ⟨hdok, ad, bb, o, s, rfl, hadd, r0, r1, r2, r3⟩ := W1.out.at_ hS.out.1.only hc.1
      obtain ⟨d, ed⟩ : ∃ d, z1 p = d := ⟨_, rfl⟩
      rw [ed] at r0 r1 r2 r3 hdok
      have kc := sCall d wr
      have hdn := Lib.hid (Cl.near_ok hdok)
      clear ed hdok
      go_wp2_with fail
      refine kc.mono ?_
      rintro e u1 ⟨rfl, o1⟩
      have hst := Lib.hid ((hS.out.1.only0 o1).step d.near hdn.out _ _ hS.out.2 (by omega) (by omega))
      have hok2 := Lib.hid (hS.out.2.todo hdn.out (by omega))
      clear kc o1 r0 r1 r2 r3
      generalize d.near = dn at *
      go_wp2_with fail
      refine hst.out.mono ?_
      rintro e u2 ⟨rfl, O2, P2, h2⟩
      have H3 := Lib.hid (And.intro h2 hok2.out)
      clear h2 hst hok2
      go_wp2_with fail
      go_roundg (len1 + 1 - (p + 1))
      case measure => omega
      case rel => exact ⟨p + 1, _, O2, P2, by simp, by omega, by omega, by omega, H3.out.1, H3.out.2.mono (by omega) (by omega)⟩
    · have hcd : (decide ((p : Int) < (len1 : Int)) = false ∧ ¬ ((p : Int) < (len1 : Int))) ∨ ((p : Int) < (len1 : Int) ∧ decide ((p : Int) < 60) = false) := by
        have hce : ¬ p < len1 ∨ (p < len1 ∧ ¬ p < 60) := by omega
        rcases hce with h9 | h9
        · exact .inl ⟨decide_eq_false (by omega), by omega⟩
        · exact .inr ⟨by omega, decide_eq_false (by omega)⟩
      clear hc
      have hMk := Lib.hid (hS.out.2.mono (k' := 64) (j' := 1024) (by omega) (by omega))
      have H5 := Lib.hid hS.out.1
      have hcp := Lib.hid (mCopy wr b M O hS.out.1.duo.fl)
      have kM6 := fun W => sMod a2 6 (by decide) (by decide) W
      have kM18 := fun W => sMod a2 18 (by decide) (by decide) W
      have b18 := modI_lt a2 (n := 18) (by decide)
      have hfork : (decide (0 < modI a2 6) = true ∧ 0 < modI a2 6) ∨ (decide (0 < modI a2 6) = false ∧ ¬ 0 < modI a2 6) := by
        by_cases h9 : 0 < modI a2 6
        · exact .inl ⟨decide_eq_true h9, h9⟩
        · exact .inr ⟨decide_eq_false h9, h9⟩
      generalize modI a2 6 = g6 at *
      obtain ⟨nw, enw⟩ : ∃ nw, modI a2 18 = nw := ⟨_, rfl⟩
      rw [enw] at kM18 b18
      clear enw hS hp hp1 hg
      rcases hcd with ⟨h1, h2⟩ | ⟨h1, h2⟩
      all_goals
        rcases hfork with ⟨g1, g2⟩ | ⟨g1, g2⟩
        · go_wp2_with fail
          refine (kM6 _).mono ?_
          rintro e u1 ⟨rfl, rfl⟩
          go_wp2_with fail
          refine (kM18 _).mono ?_
          rintro e u1 ⟨rfl, rfl⟩
          obtain ⟨nv, rfl⟩ : ∃ nv, nv = nw := ⟨_, rfl⟩
          have hnv : Hid (i64ok nv) := i64_of (by omega)
          go_wp2_with fail
          clear g1 g2 h1 h2 kM6 kM18 b18
          refine hcp.out.mono ?_
          rintro e u2 ⟨b1, rfl, O1, k1, o1, n1⟩
          have kc2 := mCopy u2 b M O (H5.out.only0 o1).duo.fl
          have K1 := Lib.hid (And.intro k1 (And.intro o1 n1))
          clear k1 o1 n1
          go_wp2_with fail
          refine kc2.mono ?_
          rintro e u3 ⟨b2, rfl, O2, k3, o3, n3⟩
          have T2 := Lib.hid (H5.out.tri K1.out.1 K1.out.2.1 K1.out.2.2 k3 o3 n3)
          clear kc2 k3 o3 n3 K1 hcp H5
          by_cases hin : 1 ≤ nv ∧ nv ≤ 16
          · obtain ⟨n, rfl⟩ : ∃ n : Nat, nv = (n : Int) := ⟨nv.toNat, by omega⟩
            have hn1 : 1 ≤ n := by omega
            have hn16 : n ≤ 16 := by omega
            have ht : M.todo ⟨5, 0, (n : Int), 0⟩ = M.bat n := by unfold Md.todo; rw [if_neg (by simp), if_neg (by simp), if_neg (by simp), if_neg (by simp), if_pos rfl, if_pos hin]; rfl
            have kD := mDo _ b1 M O1 T2.out.p.fl ⟨5, 0, (n : Int), 0⟩ ⟨i64_of (by simp only; omega), i64_of (by simp only; omega), hnv.out, i64_of (by simp only; omega)⟩ _ _ hMk.out (by omega) (by omega)
            unfold Told at kD
            rw [ht] at kD
            have hnn := M.bat_n n
            have hl16 := M.bat_len n
            have hnz := M.bat_nv n
            obtain ⟨D, eD⟩ : ∃ D, M.bat n = D := ⟨_, rfl⟩
            rw [eD] at kD hnn hl16 hnz
            obtain ⟨Mn, e0, xs, n0, v0⟩ := D
            simp only at kD hnn hl16 hnz
            obtain ⟨rfl, rfl⟩ := hnz
            have hz0 : 0 ≤ M.n ∧ M.n ≤ 2000 := by have := hMk.out.n0; have := hMk.out.n1; omega
            have ED := Lib.hid (And.intro eD hnn)
            have i1 : decide ((n : Int) < 1) = false := decide_eq_false (by omega)
            have i2 : decide ((16 : Int) < (n : Int)) = false := decide_eq_false (by omega)
            have i3 : ¬ ((n : Int) < 1) := by omega
            have i4 : ¬ ((16 : Int) < (n : Int)) := by omega
            clear hin ht eD hnn
            go_wp2_with fail
            refine kD.mono ?_
            rintro e u5 ⟨A4, q4, rfl, t4⟩
            have lt2 := T2.out.q.lt
            obtain ⟨O1', T5, p4, n4, o4⟩ := T2.out.goP t4
            have oB : Only [] u5 (u5.alloc (.cells #[.int .i64 e0, .slice A4 xs.length q4, .int .i64 0, .int .u64 0] 50)) := (Only.refl [] u5).alloc _
            have rb := RBox.new u5 e0 (.slice A4 xs.length q4) 0 0
            have T6 := T5.on oB
            have HB := Lib.hid (And.intro T6 (And.intro rb (And.intro (fun hk => by have := T5.q.lt u5.heap.size hk; omega : u5.heap.size ∉ O2) (And.intro (p4.only oB (by simp)) (fun g hg hk => by have := (n4 g hg).1; have := lt2 g hk; omega : ∀ g, (Value.slice A4 xs.length q4).ownBlock = some g → g ∉ O2)))))
            have B0 := Lib.hid (Bz.start T6.q.fl)
            have sB : (u5.alloc (.cells #[.int .i64 e0, .slice A4 xs.length q4, .int .i64 0, .int .u64 0] 50)).heap.size = u5.heap.size + 1 := by simp
            clear kD t4 T5 T6 p4 n4 oB o4 rb lt2 T2
            go_wp2_with fail
            generalize u5.alloc (.cells #[.int .i64 e0, .slice A4 xs.length q4, .int .i64 0, .int .u64 0] 50) = U5 at *
            obtain ⟨NR, eNR⟩ : ∃ NR, u5.heap.size = NR := ⟨_, rfl⟩
            rw [eNR] at HB sB ⊢
            clear eNR
            rw [sB] at B0
            generalize U5.alloc (.cells #[.int .i64 0, .slice none 0 0, .int .i64 0, .int .u64 0] 50) = W0 at *
            obtain ⟨NA, eNA⟩ : ∃ NA, NR + 1 = NA := ⟨_, rfl⟩
            rw [eNA] at B0 ⊢
            clear eNA sB
            go_loopg [14] (n + 1) (fun gk si wr => ∃ (p : Nat) (A : Option Addr) (cap : Nat) (O' : List Nat), si = .int .i64 (p : Int) ∧ p ≤ n ∧ n + 1 ≤ gk + p ∧ Hid (Bz U5 W0 b2 O2 NA (M.bat p).1 (M.bat p).2.e (.slice A (M.bat p).2.ps.length cap) (M.bat p).2.ps O' wr))
            case atStart => exact ⟨0, none, 0, O2, rfl, by omega, by omega, B0⟩
            case round =>
              obtain ⟨p, A, cap, O', rfl, hp, hg, HZ⟩ := hrel
              clear B0
              have hlen := M.bat_len p
              have hS1 := Lib.hid (fun he => M.bat_succ (p := p) he)
              have hT1 := Lib.hid (fun he => M.bat_stay (p := p) he n hp)
              have hok := Lib.hid (hMk.out.bat p)
              obtain ⟨D, eD⟩ : ∃ D, M.bat p = D := ⟨_, rfl⟩
              rw [eD] at HZ hlen hS1 hT1 hok
              have EP := Lib.hid eD
              clear eD
              obtain ⟨M1, f0, ys, n0, v0⟩ := D
              simp only at HZ hlen hS1 hT1 hok
              obtain ⟨d0, d1, d2, d3⟩ := HZ.out.all.c
              by_cases hlp : p < n ∧ f0 = 0
              · obtain ⟨hpl, rfl⟩ := hlp
                have hpl' : (p : Int) < (n : Int) := by omega
                have HS1 := Lib.hid (hS1.out rfl)
                have HW := Lib.hid HZ.out.sz
                have hto : M1.todo ⟨4, 0, 0, 0⟩ = (M1.one, M1.oneR) := by unfold Md.todo; rw [if_neg (by simp), if_neg (by simp), if_neg (by simp), if_pos rfl]
                have kD := mDo wr b2 M1 O' HZ.out.md ⟨4, 0, 0, 0⟩ (i64s _ _ _ _ (by decide)) _ _ hok.out (by omega) (by omega)
                unfold Told at kD
                rw [hto] at kD
                have hnv2 := oneR_nv M1
                have hl1 := M1.oneR_len
                obtain ⟨R1, eR⟩ : ∃ R1, M1.oneR = R1 := ⟨_, rfl⟩
                rw [eR] at kD hnv2 hl1 HS1
                obtain ⟨E1, zs, n1, v1⟩ := R1
                simp only at kD hnv2 hl1 HS1
                obtain ⟨rfl, rfl⟩ := hnv2
                clear hS1 hT1 hto eR
                go_wp2_with fail
                refine kD.mono ?_
                rintro e W1 ⟨A1, cap1, rfl, t1⟩
                obtain ⟨Oq, bt1, r1, n1⟩ := HZ.out.took t1
                clear kD t1 d0 d1 d2 d3 HZ
                have oA : Only [] W1 (W1.alloc (.cells #[.int .i64 E1, .slice A1 zs.length cap1, .int .i64 0, .int .u64 0] 50)) := (Only.refl [] W1).alloc _
                have bt2 := bt1.on oA
                obtain ⟨d0, d1, d2, d3⟩ := bt2.all.c
                have g0 := bt2.all.fr 0
                have bt3 := bt2.setE E1
                obtain ⟨_, q1, _, _⟩ := bt3.all.c
                have rb := RBox.new W1 E1 (.slice A1 zs.length cap1) 0 0
                obtain ⟨w0', _, _, _⟩ := rb.c
                have on3 : Only [NA] (W1.alloc (.cells #[.int .i64 E1, .slice A1 zs.length cap1, .int .i64 0, .int .u64 0] 50)) ((W1.alloc (.cells #[.int .i64 E1, .slice A1 zs.length cap1, .int .i64 0, .int .u64 0] 50)).setCell ⟨NA, 0, none⟩ (.int .i64 E1)) := (Only.refl [NA] _).setCell (by simp) _
                have hne : W1.heap.size ≠ NA := by have := bt1.all.lt; omega
                obtain ⟨_, q2, _, _⟩ := (rb.only on3 (by simpa using hne)).c
                have r3 : PRow ((W1.alloc (.cells #[.int .i64 E1, .slice A1 zs.length cap1, .int .i64 0, .int .u64 0] 50)).setCell ⟨NA, 0, none⟩ (.int .i64 E1)) (.slice A1 zs.length cap1) zs := (r1.only oA (by simp)).only on3 (fun g hg hk => by
                  simp at hk
                  subst hk
                  have h2 := n1 _ hg
                  have h3 := bt1.la.2
                  have h4 := HW.out
                  omega)
                have HX := Lib.hid (And.intro bt3 r3)
                clear bt1 bt2 bt3 r1 n1 rb on3 r3 oA
                go_wp2_with (first
                  | (at_builtin
                     refine wpList_append_pk Tryz.underlying48 rfl (.tmp 99) (.tmp 101) rfl (.slice A ys.length cap) ys rfl HX.out.1.row A1 zs.length cap1 zs rfl rfl (PSrc.of_row HX.out.2) (ys.length + zs.length) rfl (by omega) ?_
                     intro A' cap' W4 r4 g4 l4
                     rw [← List.length_append] at r4 l4 ⊢
                     obtain ⟨all4, bt4⟩ := HX.out.1.app g4 r4 l4
                     obtain ⟨_, d1, _, _⟩ := all4.c
                     have g1 := all4.fr 1
                     have BT := Lib.hid bt4
                     clear all4 bt4 r4 g4 l4 HX))
                go_roundg (n + 1 - (p + 1))
                case measure => omega
                case rel =>
                  refine ⟨p + 1, A', cap', Oq, by simp, by omega, by omega, ?_⟩
                  rw [HS1.out]
                  have h9 := BT
                  simp only [List.length_append] at h9 ⊢
                  exact h9
              · have hend : M.bat n = (M1, ⟨f0, ys, n0, v0⟩) := by
                  by_cases hpn : p < n
                  · exact hT1.out (fun h => hlp ⟨hpn, h⟩)
                  · obtain rfl : p = n := by omega
                    exact EP.out
                have heq : (M1, (⟨f0, ys, n0, v0⟩ : Rt)) = (Mn, ⟨e0, xs, 0, 0⟩) := by rw [← hend, ED.out.1]
                have hcd : ((p : Int) < (n : Int) ∧ (f0 == 0) = false) ∨ (¬ ((p : Int) < (n : Int)) ∧ decide ((p : Int) < (n : Int)) = false) := by
                  by_cases hpn : p < n
                  · exact .inl ⟨by omega, by simpa using fun h => hlp ⟨hpn, h⟩⟩
                  · exact .inr ⟨by omega, decide_eq_false (by omega)⟩
                injection heq with hq1 hq2
                injection hq2 with hq2 hq3 hq4 hq5
                subst hq1 hq2 hq3 hq4 hq5
                have BF := HZ.out.last (v := .bool false) HB.out.1 HB.out.2.1 HB.out.2.2.1 HB.out.2.2.2.1 HB.out.2.2.2.2
                have st : Hid (Bf w wr.drew b M O b1 O1' b2 O' M1 NR NA f0 ys A4 q4 A cap) := BF.on (Only.refl [] wr).drew
                have hls := starts_len hok.out.s
                obtain ⟨⟨z0, z1, z2, z3⟩, x0, x1, x2, x3⟩ := BF.cs
                have hy1 : M1.n = M.n + (ys.length : Int) := ED.out.2
                obtain ⟨y, ey⟩ : ∃ y, M1.n = y := ⟨_, rfl⟩
                obtain ⟨z, ez⟩ : ∃ z, M.n = z := ⟨_, rfl⟩
                have kA : Hid (∀ W, MdOf b1 M1 W O1' → Calls Tryz.prog 16 #[.pointer (some ⟨b1, 0, none⟩)] W fun e w' => e = .returned (.int .i64 y) ∧ w' = W) := fun W hW => by have := mServed W b1 M1 O1' hW; rw [ey] at this; exact this
                have kB : Hid (∀ W, MdOf b2 M1 W O' → Calls Tryz.prog 16 #[.pointer (some ⟨b2, 0, none⟩)] W fun e w' => e = .returned (.int .i64 y) ∧ w' = W) := fun W hW => by have := mServed W b2 M1 O' hW; rw [ey] at this; exact this
                have kM : Hid (∀ W, MdOf b M W O → Calls Tryz.prog 16 #[.pointer (some ⟨b, 0, none⟩)] W fun e w' => e = .returned (.int .i64 z) ∧ w' = W) := fun W hW => by have := mServed W b M O hW; rw [ez] at this; exact this
                have hyz : IntKind.i64.wrap (z + (ys.length : Int)) = y := by rw [← ey, hy1, ← ez]; rw [IntKind.wrap_i64]; omega
                have v1 : (M1.S.v == M1.S.v) = true := by simp
                have y1 : (y == y) = true := by simp
                have kP : Hid (∀ W v1 v2, RowIs W v1 (startsK M1.S.l) → RowIs W v2 (startsK M1.S.l) → Calls Tryz.prog 23 #[v1, v2] W fun e w' => e = .returned (.bool true) ∧ Only [] W w') := fun W v1 v2 h1 h2 => by
                  have := hPlain W v1 v2 _ _ h1 h2 (by omega) (by omega)
                  simpa using this
                have mk1 : True := trivial
                have mk2 : True := trivial
                have mk3 : True := trivial
                have mk4 : True := trivial
                have mk5 : True := trivial
                clear BF hy1 ey ez hz0 HZ hS1 hT1 hok EP ED HB hlp hend hMk
                rcases hcd with ⟨h1, h2⟩ | ⟨h1, h2⟩
                all_goals
                  go_wp2_with fail
                  go_region_held3 (fun w' => (w'.cell? ⟨NR, 0, none⟩ = some (.int .i64 f0) ∧ w'.cell? ⟨NR, 1, none⟩ = some (.slice A4 ys.length q4) ∧ w'.cell? ⟨NR, 2, none⟩ = some (.int .i64 0) ∧ w'.cell? ⟨NR, 3, none⟩ = some (.int .u64 0)) ∧ w'.cell? ⟨NA, 0, none⟩ = some (.int .i64 f0) ∧ w'.cell? ⟨NA, 1, none⟩ = some (.slice A ys.length cap) ∧ w'.cell? ⟨NA, 2, none⟩ = some (.int .i64 0) ∧ w'.cell? ⟨NA, 3, none⟩ = some (.int .u64 0))
                    (first | (exact st.out.cs) | go_keep)
                    (first
                      | (go_at_call 21
                         refine (hRet _ ⟨f0, ys, 0, 0⟩ A4 A q4 cap st.out.r1 st.out.r2 (by simp only; omega)).mono ?_
                         rintro e u6 ⟨rfl, o6⟩
                         have st := Lib.hid (st.out.on o6)
                         clear o6)
                      | (clear mk1; go_at_call 15; refine (mV _ b1 M1 O1' st.out.p).mono ?_; rintro e u ⟨rfl, rfl⟩)
                      | (go_at_call 15; refine (mV _ b2 M1 O' st.out.q).mono ?_; rintro e u ⟨rfl, rfl⟩)
                      | (clear mk2; go_at_call 16; refine (kA.out _ st.out.p).mono ?_; rintro e u ⟨rfl, rfl⟩)
                      | (clear mk3; go_at_call 16; refine (kB.out _ st.out.q).mono ?_; rintro e u ⟨rfl, rfl⟩)
                      | (clear mk4; go_at_call 16; refine (kA.out _ st.out.p).mono ?_; rintro e u ⟨rfl, rfl⟩)
                      | (go_at_call 16; refine (kM.out _ st.out.m).mono ?_; rintro e u ⟨rfl, rfl⟩)
                      | (clear mk5; go_at_call 17; refine (mStarts _ b1 M1 O1' st.out.p).mono ?_; rintro e u ⟨A6, k6, rfl, r6, _, o1⟩; have st := Lib.hid (st.out.on o1); have r6 := Lib.hid r6; clear o1)
                      | (go_at_call 17; refine (mStarts _ b2 M1 O' st.out.q).mono ?_; rintro e u ⟨A7, k7, rfl, r7, _, o2⟩; have st := Lib.hid (st.out.on o2); have r6 := Lib.hid (r6.out.keep (fun g hg => o2.block g (r6.out.lt hg) (by simp))); have r7 := Lib.hid r7; clear o2)
                      | (go_at_call 23; refine (kP.out _ _ _ r6.out r7.out).mono ?_; rintro e u ⟨rfl, o3⟩; have st := Lib.hid (st.out.on o3); clear o3))
                  all_goals
                    go_wp2_with fail
                    go_ret
                    exact ⟨rfl, st.out.only.below (Nat.le_refl _) (by simp)⟩
          · have ht : M.todo ⟨5, 0, nv, 0⟩ = (M, Rt.code 1) := by unfold Md.todo; rw [if_neg (by simp), if_neg (by simp), if_neg (by simp), if_neg (by simp), if_pos rfl, if_neg hin]
            have kD := mDo _ b1 M O1 T2.out.p.fl ⟨5, 0, nv, 0⟩ ⟨i64_of (by simp only; omega), i64_of (by simp only; omega), hnv.out, i64_of (by simp only; omega)⟩ _ _ hMk.out (by omega) (by omega)
            unfold Told at kD
            rw [ht] at kD
            simp only [Rt.code, List.length_nil] at kD
            have hio : (decide (nv < 1) = true ∧ nv < 1) ∨ (decide (nv < 1) = false ∧ ¬ nv < 1 ∧ decide (16 < nv) = true ∧ 16 < nv) := by
              by_cases h9 : nv < 1
              · exact .inl ⟨decide_eq_true h9, h9⟩
              · exact .inr ⟨decide_eq_false h9, h9, decide_eq_true (by omega), by omega⟩
            have v1 : (M.S.v == M.S.v) = true := by simp
            clear hin ht
            rcases hio with ⟨i1, i2⟩ | ⟨i1, i2, i3, i4⟩
            all_goals
              go_wp2_with fail
              refine kD.mono ?_
              rintro e u5 ⟨A4, q4, rfl, t4⟩
              obtain ⟨O1', T5, p4, n4, _⟩ := T2.out.goP t4
              have oB : Only [] u5 (u5.alloc (.cells #[.int .i64 1, .slice A4 0 q4, .int .i64 0, .int .u64 0] 50)) := (Only.refl [] u5).alloc _
              have T6 := Lib.hid (T5.on oB)
              have kR := hRet _ ⟨1, [], 0, 0⟩ A4 none q4 0 (p4.only oB (by simp)) (PRow.nil _) (by simp)
              simp only [List.length_nil] at kR
              obtain ⟨z0, z1, z2, z3⟩ := (RBox.new u5 1 (.slice A4 0 q4) 0 0).c
              clear kD t4 T5 p4 n4 oB
              go_wp2_with fail
              refine kR.mono ?_
              rintro e u6 ⟨rfl, o6⟩
              have T7 := Lib.hid (T6.out.on o6)
              have kV1 := mV _ b1 M O1' T7.out.p.fl
              have kV2 := mV _ b M O T7.out.m.fl
              clear kR o6 z0 z1 z2 z3 T6
              go_wp2_with fail
              refine kV1.mono ?_
              rintro e u7 ⟨rfl, rfl⟩
              go_wp2_with fail
              refine kV2.mono ?_
              rintro e u7 ⟨rfl, rfl⟩
              go_wp2_with fail
              go_ret
              exact ⟨rfl, T7.out.m.only.below (Nat.le_refl _) (by simp)⟩
        · go_wp2_with fail
          refine (kM6 _).mono ?_
          rintro e u1 ⟨rfl, rfl⟩
          obtain ⟨nv, rfl⟩ : ∃ nv, nv = a2 := ⟨_, rfl⟩
          have hnv := hA2
          go_wp2_with fail
          clear g1 g2 h1 h2 kM6 kM18 b18
          refine hcp.out.mono ?_
          rintro e u2 ⟨b1, rfl, O1, k1, o1, n1⟩
          have kc2 := mCopy u2 b M O (H5.out.only0 o1).duo.fl
          have K1 := Lib.hid (And.intro k1 (And.intro o1 n1))
          clear k1 o1 n1
          go_wp2_with fail
          refine kc2.mono ?_
          rintro e u3 ⟨b2, rfl, O2, k3, o3, n3⟩
          have T2 := Lib.hid (H5.out.tri K1.out.1 K1.out.2.1 K1.out.2.2 k3 o3 n3)
          clear kc2 k3 o3 n3 K1 hcp H5
          by_cases hin : 1 ≤ nv ∧ nv ≤ 16
          · obtain ⟨n, rfl⟩ : ∃ n : Nat, nv = (n : Int) := ⟨nv.toNat, by omega⟩
            have hn1 : 1 ≤ n := by omega
            have hn16 : n ≤ 16 := by omega
            have ht : M.todo ⟨5, 0, (n : Int), 0⟩ = M.bat n := by unfold Md.todo; rw [if_neg (by simp), if_neg (by simp), if_neg (by simp), if_neg (by simp), if_pos rfl, if_pos hin]; rfl
            have kD := mDo _ b1 M O1 T2.out.p.fl ⟨5, 0, (n : Int), 0⟩ ⟨i64_of (by simp only; omega), i64_of (by simp only; omega), hnv.out, i64_of (by simp only; omega)⟩ _ _ hMk.out (by omega) (by omega)
            unfold Told at kD
            rw [ht] at kD
            have hnn := M.bat_n n
            have hl16 := M.bat_len n
            have hnz := M.bat_nv n
            obtain ⟨D, eD⟩ : ∃ D, M.bat n = D := ⟨_, rfl⟩
            rw [eD] at kD hnn hl16 hnz
            obtain ⟨Mn, e0, xs, n0, v0⟩ := D
            simp only at kD hnn hl16 hnz
            obtain ⟨rfl, rfl⟩ := hnz
            have hz0 : 0 ≤ M.n ∧ M.n ≤ 2000 := by have := hMk.out.n0; have := hMk.out.n1; omega
            have ED := Lib.hid (And.intro eD hnn)
            have i1 : decide ((n : Int) < 1) = false := decide_eq_false (by omega)
            have i2 : decide ((16 : Int) < (n : Int)) = false := decide_eq_false (by omega)
            have i3 : ¬ ((n : Int) < 1) := by omega
            have i4 : ¬ ((16 : Int) < (n : Int)) := by omega
            clear hin ht eD hnn
            go_wp2_with fail
            refine kD.mono ?_
            rintro e u5 ⟨A4, q4, rfl, t4⟩
            have lt2 := T2.out.q.lt
            obtain ⟨O1', T5, p4, n4, o4⟩ := T2.out.goP t4
            have oB : Only [] u5 (u5.alloc (.cells #[.int .i64 e0, .slice A4 xs.length q4, .int .i64 0, .int .u64 0] 50)) := (Only.refl [] u5).alloc _
            have rb := RBox.new u5 e0 (.slice A4 xs.length q4) 0 0
            have T6 := T5.on oB
            have HB := Lib.hid (And.intro T6 (And.intro rb (And.intro (fun hk => by have := T5.q.lt u5.heap.size hk; omega : u5.heap.size ∉ O2) (And.intro (p4.only oB (by simp)) (fun g hg hk => by have := (n4 g hg).1; have := lt2 g hk; omega : ∀ g, (Value.slice A4 xs.length q4).ownBlock = some g → g ∉ O2)))))
            have B0 := Lib.hid (Bz.start T6.q.fl)
            have sB : (u5.alloc (.cells #[.int .i64 e0, .slice A4 xs.length q4, .int .i64 0, .int .u64 0] 50)).heap.size = u5.heap.size + 1 := by simp
            clear kD t4 T5 T6 p4 n4 oB o4 rb lt2 T2
            go_wp2_with fail
            generalize u5.alloc (.cells #[.int .i64 e0, .slice A4 xs.length q4, .int .i64 0, .int .u64 0] 50) = U5 at *
            obtain ⟨NR, eNR⟩ : ∃ NR, u5.heap.size = NR := ⟨_, rfl⟩
            rw [eNR] at HB sB ⊢
            clear eNR
            rw [sB] at B0
            generalize U5.alloc (.cells #[.int .i64 0, .slice none 0 0, .int .i64 0, .int .u64 0] 50) = W0 at *
            obtain ⟨NA, eNA⟩ : ∃ NA, NR + 1 = NA := ⟨_, rfl⟩
            rw [eNA] at B0 ⊢
            clear eNA sB
            go_loopg [14] (n + 1) (fun gk si wr => ∃ (p : Nat) (A : Option Addr) (cap : Nat) (O' : List Nat), si = .int .i64 (p : Int) ∧ p ≤ n ∧ n + 1 ≤ gk + p ∧ Hid (Bz U5 W0 b2 O2 NA (M.bat p).1 (M.bat p).2.e (.slice A (M.bat p).2.ps.length cap) (M.bat p).2.ps O' wr))
            case atStart => exact ⟨0, none, 0, O2, rfl, by omega, by omega, B0⟩
            case round =>
              obtain ⟨p, A, cap, O', rfl, hp, hg, HZ⟩ := hrel
              clear B0
              have hlen := M.bat_len p
              have hS1 := Lib.hid (fun he => M.bat_succ (p := p) he)
              have hT1 := Lib.hid (fun he => M.bat_stay (p := p) he n hp)
              have hok := Lib.hid (hMk.out.bat p)
              obtain ⟨D, eD⟩ : ∃ D, M.bat p = D := ⟨_, rfl⟩
              rw [eD] at HZ hlen hS1 hT1 hok
              have EP := Lib.hid eD
              clear eD
              obtain ⟨M1, f0, ys, n0, v0⟩ := D
              simp only at HZ hlen hS1 hT1 hok
              obtain ⟨d0, d1, d2, d3⟩ := HZ.out.all.c
              by_cases hlp : p < n ∧ f0 = 0
              · obtain ⟨hpl, rfl⟩ := hlp
                have hpl' : (p : Int) < (n : Int) := by omega
                have HS1 := Lib.hid (hS1.out rfl)
                have HW := Lib.hid HZ.out.sz
                have hto : M1.todo ⟨4, 0, 0, 0⟩ = (M1.one, M1.oneR) := by unfold Md.todo; rw [if_neg (by simp), if_neg (by simp), if_neg (by simp), if_pos rfl]
                have kD := mDo wr b2 M1 O' HZ.out.md ⟨4, 0, 0, 0⟩ (i64s _ _ _ _ (by decide)) _ _ hok.out (by omega) (by omega)
                unfold Told at kD
                rw [hto] at kD
                have hnv2 := oneR_nv M1
                have hl1 := M1.oneR_len
                obtain ⟨R1, eR⟩ : ∃ R1, M1.oneR = R1 := ⟨_, rfl⟩
                rw [eR] at kD hnv2 hl1 HS1
                obtain ⟨E1, zs, n1, v1⟩ := R1
                simp only at kD hnv2 hl1 HS1
                obtain ⟨rfl, rfl⟩ := hnv2
                clear hS1 hT1 hto eR
                go_wp2_with fail
                refine kD.mono ?_
                rintro e W1 ⟨A1, cap1, rfl, t1⟩
                obtain ⟨Oq, bt1, r1, n1⟩ := HZ.out.took t1
                clear kD t1 d0 d1 d2 d3 HZ
                have oA : Only [] W1 (W1.alloc (.cells #[.int .i64 E1, .slice A1 zs.length cap1, .int .i64 0, .int .u64 0] 50)) := (Only.refl [] W1).alloc _
                have bt2 := bt1.on oA
                obtain ⟨d0, d1, d2, d3⟩ := bt2.all.c
                have g0 := bt2.all.fr 0
                have bt3 := bt2.setE E1
                obtain ⟨_, q1, _, _⟩ := bt3.all.c
                have rb := RBox.new W1 E1 (.slice A1 zs.length cap1) 0 0
                obtain ⟨w0', _, _, _⟩ := rb.c
                have on3 : Only [NA] (W1.alloc (.cells #[.int .i64 E1, .slice A1 zs.length cap1, .int .i64 0, .int .u64 0] 50)) ((W1.alloc (.cells #[.int .i64 E1, .slice A1 zs.length cap1, .int .i64 0, .int .u64 0] 50)).setCell ⟨NA, 0, none⟩ (.int .i64 E1)) := (Only.refl [NA] _).setCell (by simp) _
                have hne : W1.heap.size ≠ NA := by have := bt1.all.lt; omega
                obtain ⟨_, q2, _, _⟩ := (rb.only on3 (by simpa using hne)).c
                have r3 : PRow ((W1.alloc (.cells #[.int .i64 E1, .slice A1 zs.length cap1, .int .i64 0, .int .u64 0] 50)).setCell ⟨NA, 0, none⟩ (.int .i64 E1)) (.slice A1 zs.length cap1) zs := (r1.only oA (by simp)).only on3 (fun g hg hk => by
                  simp at hk
                  subst hk
                  have h2 := n1 _ hg
                  have h3 := bt1.la.2
                  have h4 := HW.out
                  omega)
                have HX := Lib.hid (And.intro bt3 r3)
                clear bt1 bt2 bt3 r1 n1 rb on3 r3 oA
                go_wp2_with (first
                  | (at_builtin
                     refine wpList_append_pk Tryz.underlying48 rfl (.tmp 99) (.tmp 101) rfl (.slice A ys.length cap) ys rfl HX.out.1.row A1 zs.length cap1 zs rfl rfl (PSrc.of_row HX.out.2) (ys.length + zs.length) rfl (by omega) ?_
                     intro A' cap' W4 r4 g4 l4
                     rw [← List.length_append] at r4 l4 ⊢
                     obtain ⟨all4, bt4⟩ := HX.out.1.app g4 r4 l4
                     obtain ⟨_, d1, _, _⟩ := all4.c
                     have g1 := all4.fr 1
                     have BT := Lib.hid bt4
                     clear all4 bt4 r4 g4 l4 HX))
                go_roundg (n + 1 - (p + 1))
                case measure => omega
                case rel =>
                  refine ⟨p + 1, A', cap', Oq, by simp, by omega, by omega, ?_⟩
                  rw [HS1.out]
                  have h9 := BT
                  simp only [List.length_append] at h9 ⊢
                  exact h9
              · have hend : M.bat n = (M1, ⟨f0, ys, n0, v0⟩) := by
                  by_cases hpn : p < n
                  · exact hT1.out (fun h => hlp ⟨hpn, h⟩)
                  · obtain rfl : p = n := by omega
                    exact EP.out
                have heq : (M1, (⟨f0, ys, n0, v0⟩ : Rt)) = (Mn, ⟨e0, xs, 0, 0⟩) := by rw [← hend, ED.out.1]
                have hcd : ((p : Int) < (n : Int) ∧ (f0 == 0) = false) ∨ (¬ ((p : Int) < (n : Int)) ∧ decide ((p : Int) < (n : Int)) = false) := by
                  by_cases hpn : p < n
                  · exact .inl ⟨by omega, by simpa using fun h => hlp ⟨hpn, h⟩⟩
                  · exact .inr ⟨by omega, decide_eq_false (by omega)⟩
                injection heq with hq1 hq2
                injection hq2 with hq2 hq3 hq4 hq5
                subst hq1 hq2 hq3 hq4 hq5
                have BF := HZ.out.last (v := .bool false) HB.out.1 HB.out.2.1 HB.out.2.2.1 HB.out.2.2.2.1 HB.out.2.2.2.2
                have st : Hid (Bf w wr.drew b M O b1 O1' b2 O' M1 NR NA f0 ys A4 q4 A cap) := BF.on (Only.refl [] wr).drew
                have hls := starts_len hok.out.s
                obtain ⟨⟨z0, z1, z2, z3⟩, x0, x1, x2, x3⟩ := BF.cs
                have hy1 : M1.n = M.n + (ys.length : Int) := ED.out.2
                obtain ⟨y, ey⟩ : ∃ y, M1.n = y := ⟨_, rfl⟩
                obtain ⟨z, ez⟩ : ∃ z, M.n = z := ⟨_, rfl⟩
                have kA : Hid (∀ W, MdOf b1 M1 W O1' → Calls Tryz.prog 16 #[.pointer (some ⟨b1, 0, none⟩)] W fun e w' => e = .returned (.int .i64 y) ∧ w' = W) := fun W hW => by have := mServed W b1 M1 O1' hW; rw [ey] at this; exact this
                have kB : Hid (∀ W, MdOf b2 M1 W O' → Calls Tryz.prog 16 #[.pointer (some ⟨b2, 0, none⟩)] W fun e w' => e = .returned (.int .i64 y) ∧ w' = W) := fun W hW => by have := mServed W b2 M1 O' hW; rw [ey] at this; exact this
                have kM : Hid (∀ W, MdOf b M W O → Calls Tryz.prog 16 #[.pointer (some ⟨b, 0, none⟩)] W fun e w' => e = .returned (.int .i64 z) ∧ w' = W) := fun W hW => by have := mServed W b M O hW; rw [ez] at this; exact this
                have hyz : IntKind.i64.wrap (z + (ys.length : Int)) = y := by rw [← ey, hy1, ← ez]; rw [IntKind.wrap_i64]; omega
                have v1 : (M1.S.v == M1.S.v) = true := by simp
                have y1 : (y == y) = true := by simp
                have kP : Hid (∀ W v1 v2, RowIs W v1 (startsK M1.S.l) → RowIs W v2 (startsK M1.S.l) → Calls Tryz.prog 23 #[v1, v2] W fun e w' => e = .returned (.bool true) ∧ Only [] W w') := fun W v1 v2 h1 h2 => by
                  have := hPlain W v1 v2 _ _ h1 h2 (by omega) (by omega)
                  simpa using this
                have mk1 : True := trivial
                have mk2 : True := trivial
                have mk3 : True := trivial
                have mk4 : True := trivial
                have mk5 : True := trivial
                clear BF hy1 ey ez hz0 HZ hS1 hT1 hok EP ED HB hlp hend hMk
                rcases hcd with ⟨h1, h2⟩ | ⟨h1, h2⟩
                all_goals
                  go_wp2_with fail
                  go_region_held3 (fun w' => (w'.cell? ⟨NR, 0, none⟩ = some (.int .i64 f0) ∧ w'.cell? ⟨NR, 1, none⟩ = some (.slice A4 ys.length q4) ∧ w'.cell? ⟨NR, 2, none⟩ = some (.int .i64 0) ∧ w'.cell? ⟨NR, 3, none⟩ = some (.int .u64 0)) ∧ w'.cell? ⟨NA, 0, none⟩ = some (.int .i64 f0) ∧ w'.cell? ⟨NA, 1, none⟩ = some (.slice A ys.length cap) ∧ w'.cell? ⟨NA, 2, none⟩ = some (.int .i64 0) ∧ w'.cell? ⟨NA, 3, none⟩ = some (.int .u64 0))
                    (first | (exact st.out.cs) | go_keep)
                    (first
                      | (go_at_call 21
                         refine (hRet _ ⟨f0, ys, 0, 0⟩ A4 A q4 cap st.out.r1 st.out.r2 (by simp only; omega)).mono ?_
                         rintro e u6 ⟨rfl, o6⟩
                         have st := Lib.hid (st.out.on o6)
                         clear o6)
                      | (clear mk1; go_at_call 15; refine (mV _ b1 M1 O1' st.out.p).mono ?_; rintro e u ⟨rfl, rfl⟩)
                      | (go_at_call 15; refine (mV _ b2 M1 O' st.out.q).mono ?_; rintro e u ⟨rfl, rfl⟩)
                      | (clear mk2; go_at_call 16; refine (kA.out _ st.out.p).mono ?_; rintro e u ⟨rfl, rfl⟩)
                      | (clear mk3; go_at_call 16; refine (kB.out _ st.out.q).mono ?_; rintro e u ⟨rfl, rfl⟩)
                      | (clear mk4; go_at_call 16; refine (kA.out _ st.out.p).mono ?_; rintro e u ⟨rfl, rfl⟩)
                      | (go_at_call 16; refine (kM.out _ st.out.m).mono ?_; rintro e u ⟨rfl, rfl⟩)
                      | (clear mk5; go_at_call 17; refine (mStarts _ b1 M1 O1' st.out.p).mono ?_; rintro e u ⟨A6, k6, rfl, r6, _, o1⟩; have st := Lib.hid (st.out.on o1); have r6 := Lib.hid r6; clear o1)
                      | (go_at_call 17; refine (mStarts _ b2 M1 O' st.out.q).mono ?_; rintro e u ⟨A7, k7, rfl, r7, _, o2⟩; have st := Lib.hid (st.out.on o2); have r6 := Lib.hid (r6.out.keep (fun g hg => o2.block g (r6.out.lt hg) (by simp))); have r7 := Lib.hid r7; clear o2)
                      | (go_at_call 23; refine (kP.out _ _ _ r6.out r7.out).mono ?_; rintro e u ⟨rfl, o3⟩; have st := Lib.hid (st.out.on o3); clear o3))
                  all_goals
                    go_wp2_with fail
                    go_ret
                    exact ⟨rfl, st.out.only.below (Nat.le_refl _) (by simp)⟩
          · have ht : M.todo ⟨5, 0, nv, 0⟩ = (M, Rt.code 1) := by unfold Md.todo; rw [if_neg (by simp), if_neg (by simp), if_neg (by simp), if_neg (by simp), if_pos rfl, if_neg hin]
            have kD := mDo _ b1 M O1 T2.out.p.fl ⟨5, 0, nv, 0⟩ ⟨i64_of (by simp only; omega), i64_of (by simp only; omega), hnv.out, i64_of (by simp only; omega)⟩ _ _ hMk.out (by omega) (by omega)
            unfold Told at kD
            rw [ht] at kD
            simp only [Rt.code, List.length_nil] at kD
            have hio : (decide (nv < 1) = true ∧ nv < 1) ∨ (decide (nv < 1) = false ∧ ¬ nv < 1 ∧ decide (16 < nv) = true ∧ 16 < nv) := by
              by_cases h9 : nv < 1
              · exact .inl ⟨decide_eq_true h9, h9⟩
              · exact .inr ⟨decide_eq_false h9, h9, decide_eq_true (by omega), by omega⟩
            have v1 : (M.S.v == M.S.v) = true := by simp
            clear hin ht
            rcases hio with ⟨i1, i2⟩ | ⟨i1, i2, i3, i4⟩
            all_goals
              go_wp2_with fail
              refine kD.mono ?_
              rintro e u5 ⟨A4, q4, rfl, t4⟩
              obtain ⟨O1', T5, p4, n4, _⟩ := T2.out.goP t4
              have oB : Only [] u5 (u5.alloc (.cells #[.int .i64 1, .slice A4 0 q4, .int .i64 0, .int .u64 0] 50)) := (Only.refl [] u5).alloc _
              have T6 := Lib.hid (T5.on oB)
              have kR := hRet _ ⟨1, [], 0, 0⟩ A4 none q4 0 (p4.only oB (by simp)) (PRow.nil _) (by simp)
              simp only [List.length_nil] at kR
              obtain ⟨z0, z1, z2, z3⟩ := (RBox.new u5 1 (.slice A4 0 q4) 0 0).c
              clear kD t4 T5 p4 n4 oB
              go_wp2_with fail
              refine kR.mono ?_
              rintro e u6 ⟨rfl, o6⟩
              have T7 := Lib.hid (T6.out.on o6)
              have kV1 := mV _ b1 M O1' T7.out.p.fl
              have kV2 := mV _ b M O T7.out.m.fl
              clear kR o6 z0 z1 z2 z3 T6
              go_wp2_with fail
              refine kV1.mono ?_
              rintro e u7 ⟨rfl, rfl⟩
              go_wp2_with fail
              refine kV2.mono ?_
              rintro e u7 ⟨rfl, rfl⟩
              go_wp2_with fail
              go_ret
              exact ⟨rfl, T7.out.m.only.below (Nat.le_refl _) (by simp)⟩

/-! ### The step from the walk to the statement -/
set_option maxRecDepth 100000 in
theorem lifted (os : Os) (started : os.Started) (H : Type) (enc : TypeId × Value → H) :
    ReturnsInHanded {} Tryz.checked os 7 .any (Rows.modelBatchSpec.pre6 enc Tryz.prog Tryz.f7 Rows.modelBatchRow.domain false) (Rows.modelBatchSpec.post enc Tryz.prog Tryz.f7 false true false false) := by
  refine returnsInHanded_of_change (C := Tryz.checked) own started (by kernel_rfl) Tryz.func7
    (ChangeSpec.witness6 (enc := enc) (C := Tryz.checked) false ⟨#[], #[.agg #[.int .i64 0, .int .i64 0, .int .i64 0, .int .i64 0, .int .u64 0], .slice none 0 0, .int .i64 0], []⟩ 8 (by kernel_rfl) (by kernel_rfl) (by kernel_rfl) (by kernel_rfl)) ?_
  intro W base args ds gs before hval0 hW hcnd _
  have hval : ∀ (j : Nat) t v, Tryz.f7.params[j]? = some t → args[j]? = some v → Value.okWide Tryz.prog W .any base t v := hval0
  have hW' := hW
  obtain ⟨p, q, hA0, hV, rfl, hfz, hnd⟩ := hW
  have hA : DataW.TrodAll enc Tryz.prog W 0 (fun _ => true) true Tryz.f7.params.toList args.toList ds p := hA0
  rw [Tryz.params7] at hA hval
  obtain ⟨v0, vs0, d0, ds0, p0, q0, hargs, rfl, rfl, h0, r0⟩ := trodAll_cons hA
  obtain ⟨v1, vs1, d1, ds1, p1, q1, rfl, rfl, rfl, h1, r1⟩ := trodAll_cons r0
  obtain ⟨v2, vs2, d2, ds2, p2, q2, rfl, rfl, rfl, h2, r2⟩ := trodAll_cons r1
  obtain ⟨rfl, rfl, rfl⟩ := trodAll_nil r2
  obtain rfl : args = #[v0, v1, v2] := by cases args; simp_all
  obtain ⟨rfl, rfl⟩ := trodVars_none hV
  obtain ⟨sh0, sl0, wk0, wd0, un0, rfl, rfl, rfl, wsh0, wsl0, wwk0, wwd0, wun0⟩ := open_cf (hval 0 24 v0 rfl rfl) h0
  obtain ⟨a1, len1, cap1, rfl⟩ := okWide_slice Tryz.underlying25 (hval 1 25 v1 rfl rfl)
  have k1 := h1
  have lt1 : ∀ x ∈ p1, x.block < W.heap.size := by obtain ⟨m, hm⟩ := k1; exact DataW.trod_lt m _ _ _ hm
  obtain ⟨z1, w1⟩ : ∃ z, InCalls W a1 len1 z := by
    obtain ⟨fuel, hf⟩ := h1
    exact open_calls hf
  obtain ⟨a2, rfl, rfl, rfl, w2⟩ := open_int Tryz.underlying3 (hval 2 3 v2 rfl rfl) h2
  clear hA0 hval0
  refine (walk sh0 sl0 wk0 wd0 un0 a1 len1 cap1 z1 a2 W wsh0 wsl0 wwk0 wwd0 wun0 w1 w2).mono fun e W' ⟨he, bel⟩ => ?_
  subst he
  exact ⟨_, rfl, _, _, _, [], _, [], hW', trodAll_mk1 (shut_bool Tryz.underlying4 _), (trodAll_cons_mk (reads_cf wsh0 wsl0 wwk0 wwd0 wun0 _ _ _) (trodAll_cons_mk (Below.trod laidOut (by kernel_rfl) (of_decide_eq_true (by kernel_rfl)) k1 bel lt1) (trodAll_cons_mk (shut_int Tryz.underlying3 w2) trodAll_mk0))), rfl, bel.frame _, fun h => by cases h⟩

theorem over : Rows.modelBatchRow.holds Tryz.pinned (OpenSpec.ofChange Rows.modelBatchSpec) :=
  OpenClaim.holds_of_wide 7 Tryz.f7 rfl rfl rfl rfl rfl rfl rfl ⟨rfl, rfl, rfl, rfl, rfl⟩ rfl rfl rfl rfl rfl (by kernel_rfl) Tryz.func7 (by kernel_rfl)
    (of_decide_eq_true (by kernel_rfl)) (by unfold Func.isWrapper; first | (rw [if_pos (by decide +kernel)]; kernel_rfl) | (rw [if_neg (by decide +kernel)]; exact ⟨rfl, rfl⟩))
    (fun os started H enc _ => lifted os started H enc)

/-- The statement. -/
theorem proved : Rows.ModelBatchSaid := over
#print axioms proved
end Go.Proofs.YtklolepmmabijaaGreat.modelBatch
