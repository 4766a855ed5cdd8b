/-
  weighbridgelaw11.ModelRoom returns true for every input, and leaves its arguments as they were. No condition but that the arguments are values of their types.
-/
import Derived.Test.YtklolepmmabijaaRows
import Derived.Test.YtklolepmmabijaaMdPs
import Derived.WalkKit
import Derived.ProofKit
import Derived.OpenShut
import Derived.ChangeOld
import Derived.Below
namespace Go.Proofs.Ytklolepmmabijaa.modelRoom
open Go.ChangeShapes Go.WideShapes Go.ChangeAt Go.RowKit
set_option linter.unusedVariables false
set_option linter.unusedSimpArgs false

set_option maxRecDepth 100000 in
set_option maxHeartbeats 8000000 in
theorem walk (sh0 sl0 wk0 wd0 un0 : Int) (a1 : Int) (a2 : Int) (w : World) (wsh0 : (Lit.int .i64 sh0).wf = true) (wsl0 : (Lit.int .i64 sl0).wf = true) (wwk0 : (Lit.int .i64 wk0).wf = true) (wwd0 : (Lit.int .i64 wd0).wf = true) (wun0 : (Lit.int .u64 un0).wf = true) (w1 : (Lit.int .i64 a1).wf = true) (w2 : (Lit.int .i64 a2).wf = true) :
    Calls Try.prog 4 #[.agg #[.int .i64 sh0, .int .i64 sl0, .int .i64 wk0, .int .i64 wd0, .int .u64 un0], .int .i64 a1, .int .i64 a2] w fun e w' => e = .returned (.bool true) ∧ Below w.heap.size w w' := by
  have hun : U64 un0 := U64.of_wf wun0
  have km0 : ∀ W, Calls Try.prog 14 #[.agg #[.int .i64 sh0, .int .i64 sl0, .int .i64 wk0, .int .i64 wd0, .int .u64 un0], .bool false] W fun e w' => ∃ b x, e = .returned (.tuple #[.pointer (some ⟨b, 0, none⟩), .pointer (some ⟨x, 0, none⟩)]) ∧ ∃ O P, Ms W w' b x ⟨(⟨sh0, sl0, wk0, wd0, un0⟩ : Cf).near, Sq.new, 0⟩ O P := fun W => mMade ⟨sh0, sl0, wk0, wd0, un0⟩ hun false W
  have kC0 := fun W => sConfig ⟨sh0, sl0, wk0, wd0, un0⟩ hun W
  have hr := Cf.near_right ⟨sh0, sl0, wk0, wd0, un0⟩
  have g0 := GBox.new w ⟨sh0, sl0, wk0, wd0, un0⟩
  have o0 : Only [] w (w.alloc (.cells #[.int .i64 sh0, .int .i64 sl0, .int .i64 wk0, .int .i64 wd0, .int .u64 un0] 24)) := (Only.refl [] w).alloc _
  have hfe := ret_e
  clear wsh0 wsl0 wwk0 wwd0 wun0
  generalize (⟨sh0, sl0, wk0, wd0, un0⟩ : Cf).near = d at *
  obtain ⟨sh, sl, wk, wd, un⟩ := d
  have hnew := newM_ok hr
  obtain ⟨hs1, hs4, hl1, hl4, _, _, _, _, _, _⟩ := hr
  simp only at hs1 hs4 hl1 hl4 km0 kC0
  obtain ⟨n, rfl⟩ : ∃ n : Nat, sl = (n : Int) := ⟨sl.toNat, by omega⟩
  have hn1 : 1 ≤ n := by omega
  have hn4 : n ≤ 4 := by omega
  have hnm : Hid (n = (n - 1) + 1) := by show n = (n - 1) + 1; omega
  obtain ⟨m, em⟩ : ∃ m, n - 1 = m := ⟨_, rfl⟩
  rw [em] at hnm
  clear em
  obtain ⟨x0, x1, x2, x3, x4⟩ := g0.c
  simp only at x0 x1 x2 x3 x4
  have km := Lib.hid km0
  have kC := Lib.hid kC0
  have HG := Lib.hid (And.intro g0 o0)
  have HK := Lib.hid hnew
  clear g0 o0 hun km0 kC0 hl1 hl4 hnew
  go_enter Try.func4, Try.ntmps4
  go_wp2_with fail
  generalize w.alloc (.cells #[.int .i64 sh0, .int .i64 sl0, .int .i64 wk0, .int .i64 wd0, .int .u64 un0] 24) = W at *
  obtain ⟨N, eN⟩ : ∃ N, w.heap.size = N := ⟨_, rfl⟩
  rw [eN] at HG x0 x1 x2 x3 x4 ⊢
  have HN := Lib.hid eN
  clear eN
  refine (km.out _).mono ?_
  rintro e v1 ⟨b, x, rfl, O, P, h1⟩
  have g1 := HG.out.1.only0 h1.only
  obtain ⟨x0, x1, x2, x3, x4⟩ := g1.c
  simp only at x0 x1 x2 x3 x4
  have H1 := Lib.hid (And.intro h1 g1)
  clear h1 g1 km
  go_wp2_with fail
  refine (kC.out _).mono ?_
  rintro e v2 ⟨rfl, o2⟩
  have h2 := H1.out.1.only0 o2
  have g2 := H1.out.2.only0 o2
  have nO : N ∉ O := fun hk => by have := H1.out.1.new N (by simp [hk]); have := HG.out.1.lt; omega
  have oS : Only [N] v2 (((((v2.setCell ⟨N, 0, none⟩ (.int .i64 sh)).setCell ⟨N, 1, none⟩ (.int .i64 (n : Int))).setCell ⟨N, 2, none⟩ (.int .i64 wk)).setCell ⟨N, 3, none⟩ (.int .i64 wd)).setCell ⟨N, 4, none⟩ (.int .u64 un)) := only_cf v2 N _ _ _ _ _
  have mo : Mo w (((((v2.setCell ⟨N, 0, none⟩ (.int .i64 sh)).setCell ⟨N, 1, none⟩ (.int .i64 (n : Int))).setCell ⟨N, 2, none⟩ (.int .i64 wk)).setCell ⟨N, 3, none⟩ (.int .i64 wd)).setCell ⟨N, 4, none⟩ (.int .u64 un)) b ⟨⟨sh, (n : Int), wk, wd, un⟩, Sq.new, 0⟩ O := ⟨(rep_md b _).only h2.duo.fl oS (fun k hk hk2 => by simp at hk2; subst hk2; exact nO hk), fun k hk => by have := h2.new k (by simp [hk]); have := HG.out.2.size; omega, (HG.out.2.trans' h2.only).trans oS (fun k hk => .inr (by simp at hk; subst hk; have := HN.out; omega))⟩
  have H2 := Lib.hid (And.intro mo (And.intro (g2.put ⟨sh, (n : Int), wk, wd, un⟩) nO))
  obtain ⟨x0, x1, x2, x3, x4⟩ := g2.c
  simp only at x0 x1 x2 x3 x4
  have f0 := g2.fr 0
  have f1 := g2.fr 1
  have f2 := g2.fr 2
  have f3 := g2.fr 3
  have f4 := g2.fr 4
  clear kC o2 h2 g2 nO oS mo H1 HG
  go_wp2_with fail
  generalize (((((v2.setCell ⟨N, 0, none⟩ (.int .i64 sh)).setCell ⟨N, 1, none⟩ (.int .i64 (n : Int))).setCell ⟨N, 2, none⟩ (.int .i64 wk)).setCell ⟨N, 3, none⟩ (.int .i64 wd)).setCell ⟨N, 4, none⟩ (.int .u64 un)) = V at *
  refine (mAwake _).mono ?_
  rintro e v3 ⟨rfl, o3⟩
  have H3 := Lib.hid (And.intro (H2.out.1.on o3) (And.intro (H2.out.2.1.only0 o3) H2.out.2.2))
  have ks := Lib.hid (sMod a1 sh (by omega) (by omega) v3)
  have kt := Lib.hid (sMod a2 1000 (by decide) (by decide) v3)
  have bs := modI_lt a1 (n := sh) (by omega)
  have bt := modI_lt a2 (n := 1000) (by decide)
  generalize modI a1 sh = s at *
  generalize modI a2 1000 = q at *
  obtain ⟨y0, y1, y2, y3, y4⟩ := H3.out.2.1.c
  simp only at y0 y1 y2 y3 y4
  clear o3 H2 x0 x1 x2 x3 x4 f0 f1 f2 f3 f4
  go_wp2_with fail
  refine ks.out.mono ?_
  rintro e v4 ⟨rfl, rfl⟩
  go_wp2_with fail
  refine kt.out.mono ?_
  rintro e v5 ⟨rfl, rfl⟩
  have oB : Only [] v5 (v5.alloc (.cells #[.int .i64 1, .int .i64 0, .int .i64 1, .int .i64 1] 44)) := (Only.refl [] v5).alloc _
  have rB := CBox.new v5 ⟨1, 0, 1, 1⟩
  have mB := H3.out.1.on oB
  have H4 : Hid (Rm w (v5.alloc (.cells #[.int .i64 1, .int .i64 0, .int .i64 1, .int .i64 1] 44)) b N v5.heap.size ⟨sh, (n : Int), wk, wd, un⟩ ⟨⟨sh, (n : Int), wk, wd, un⟩, Sq.new, 0⟩ (inSh s sh 0) 0 (2 * 0) (32 * 0) O) := ⟨mB, Em.new _, HK.out, rfl, H3.out.2.1.only0 oB, rB, H3.out.2.2, fun hk => by have := (rep_md b _).lt H3.out.1.fl _ hk; omega, fun e => by have := H3.out.2.1.lt; omega, H3.out.1.only.size⟩
  clear oB rB mB H3 HK ks kt y0 y1 y2 y3 y4
  go_wp2_with fail
  generalize v5.alloc (.cells #[.int .i64 1, .int .i64 0, .int .i64 1, .int .i64 1] 44) = V5 at *
  obtain ⟨NG, eG⟩ : ∃ NG, v5.heap.size = NG := ⟨_, rfl⟩
  rw [eG] at H4 ⊢
  clear eG
  go_loopg [10] (n + 1) (fun gk si wr => ∃ (p : Nat) (M : Md) (f : Int) (O : List Nat), si = .int .i64 (p : Int) ∧ p ≤ n ∧ n + 1 ≤ gk + p ∧ Hid (Rm w wr b N NG ⟨sh, (n : Int), wk, wd, un⟩ M (inSh s sh p) f (2 * p) (32 * p) O))
  case atStart => exact ⟨0, _, 0, O, rfl, by omega, by omega, H4⟩
  case round =>
    obtain ⟨p, M, f, O, rfl, hp, hg, hS⟩ := hrel
    clear H4
    obtain ⟨y0, y1, _, _, _⟩ := hS.out.g.c
    simp only at y0 y1
    by_cases hpl : p < n
    · have hpl' : (p : Int) < (n : Int) := by omega
      have hml := small_mul (p := (p : Int)) (by omega) (by omega) hs1 hs4
      have hmw : IntKind.i64.wrap ((p : Int) * sh) = (p : Int) * sh := by rw [IntKind.wrap_i64]; omega
      have hfw : IntKind.i64.wrap (s + (p : Int) * sh) = s + (p : Int) * sh := by rw [IntKind.wrap_i64]; omega
      obtain ⟨g, eg⟩ : ∃ g, s + (p : Int) * sh = g := ⟨_, rfl⟩
      have hfar : g ∉ inSh s sh p := by rw [← eg]; exact far_in bs.1 bs.2 (Int.le_refl _)
      have hfall : g.tmod sh = s := by rw [← eg]; exact fall bs.1 bs.2 (by omega)
      have hperm : (g :: inSh s sh p).Perm (inSh s sh (p + 1)) := by rw [← eg]; exact inSh_succ s sh p
      have hg0 : 0 ≤ g ∧ g ≤ 1048576 := by omega
      have hok1 : (⟨1, g, 1, 1⟩ : Cl).ok := ⟨i64_of (by simp only; omega), i64_of (by simp only; omega), i64_of (by simp only; omega), i64_of (by simp only; omega)⟩
      obtain ⟨r0, r1, r2, r3⟩ := hS.out.r.c
      simp only at r0 r1 r2 r3
      have fr1 := hS.out.r.fr 1
      have hc := hS.out.c
      have T1 := todo_reg hS.out.em hg0 (a := 1) (by omega) (b := 1) (by omega) hfar (by rw [hc]; simp only; rw [hfall, taken_in bs.1 bs.2]; omega)
      have em2 := T1.2.of_perm hperm
      have T2 := todo_again em2 hg0 (a := 1) (by omega) (b := 1) (by omega) (hperm.mem_iff.1 (by simp))
      have S1 := hS.out.flow g
      have kD1 := S1.do ⟨1, g, 1, 1⟩ hok1 (by omega) (by omega) T1.1 em2 rfl
      obtain ⟨z0, z1, z2, z3⟩ := S1.r.c
      simp only at z0 z1 z2 z3 kD1
      have KD1 := Lib.hid kD1
      have KD2 := Lib.hid (fun W O (h : Rm w W b N NG ⟨sh, (n : Int), wk, wd, un⟩ (M.reg ⟨1, g, 1, 1⟩) (inSh s sh (p + 1)) g (2 * p + 1) (32 * p + 16) O) => h.do ⟨1, g, 1, 1⟩ hok1 (by omega) (by omega) T2 em2 rfl)
      have hgw : IntKind.i64.wrap (s + (p : Int) * sh) = g := by rw [hfw, eg]
      have HE := Lib.hid eg
      clear kD1 S1 em2 T1 T2 hc hok1 hfar hfall hperm hml hfw hg0 eg hS
      go_wp2_with fail
      refine KD1.out.mono ?_
      rintro e u1 ⟨A1, c1, rfl, O2, S2⟩
      have KD3 := KD2.out _ _ S2
      obtain ⟨z0, z1, z2, z3⟩ := S2.r.c
      simp only at z0 z1 z2 z3
      have HS2 := Lib.hid S2
      clear S2 KD1 KD2 r0 r1 r2 r3 fr1 y0 y1
      go_wp2_with fail
      refine KD3.mono ?_
      rintro e u2 ⟨A2, c2, rfl, O3, S3⟩
      have HS3 := Lib.hid S3
      clear S3 KD3 z0 z1 z2 z3 HS2
      go_wp2_with fail
      go_roundg (n + 1 - (p + 1))
      case measure => omega
      case rel => exact ⟨p + 1, _, g, O3, by simp, by omega, by omega, HS3.out⟩
    · obtain rfl : n = p := by omega
      have hpl' : ¬ ((n : Int) < (n : Int)) := by omega
      obtain ⟨t, et⟩ : ∃ t, (n : Int) + q = t := ⟨_, rfl⟩
      have hml := small_mul (p := t) (by omega) (by omega) hs1 hs4
      have hw1 : IntKind.i64.wrap ((n : Int) + q) = t := by rw [IntKind.wrap_i64]; omega
      have hw2 : IntKind.i64.wrap (t * sh) = t * sh := by rw [IntKind.wrap_i64]; omega
      obtain ⟨g, eg⟩ : ∃ g, s + t * sh = g := ⟨_, rfl⟩
      have hw3 : IntKind.i64.wrap (s + t * sh) = g := by rw [IntKind.wrap_i64]; omega
      have hfar : g ∉ inSh s sh n := by rw [← eg]; exact far_in bs.1 bs.2 (by omega)
      have hfar1 : g ∉ inSh1 s sh m := by rw [← eg]; exact far_in1 bs.1 bs.2 (by have := hnm.out; omega)
      have hfall : g.tmod sh = s := by rw [← eg]; exact fall bs.1 bs.2 (by omega)
      have hgs : g ≠ s := fun e => by have := fall_inj (i := t) (j := 0) hs1 (by rw [eg, e]; omega); omega
      have hg0 : 0 ≤ g ∧ g ≤ 1048576 := by omega
      have hok1 : (⟨1, g, 1, 1⟩ : Cl).ok := ⟨i64_of (by simp only; omega), i64_of (by simp only; omega), i64_of (by simp only; omega), i64_of (by simp only; omega)⟩
      have hok2 : (⟨2, s, 0, 0⟩ : Cl).ok := ⟨i64_of (by simp only; omega), i64_of (by simp only; omega), i64_of (by simp only; omega), i64_of (by simp only; omega)⟩
      have hg64 : i64ok g := i64_of (by omega)
      have hs64 : i64ok s := i64_of (by omega)
      obtain ⟨r0, r1, r2, r3⟩ := hS.out.r.c
      simp only at r0 r1 r2 r3
      have fr1 := hS.out.r.fr 1
      have S1 := hS.out.flow g
      have T1 := todo_full S1.em hg0 (a := 1) (by omega) (b := 1) (by omega) hfar (by rw [S1.c]; simp only; rw [hfall, taken_in bs.1 bs.2]; omega)
      have kD1 := S1.do ⟨1, g, 1, 1⟩ hok1 (by omega) (by omega) T1 S1.em rfl
      obtain ⟨z0, z1, z2, z3⟩ := S1.r.c
      simp only at z0 z1 z2 z3 kD1
      have KD1 := Lib.hid kD1
      have hno := S1.em.len_no hfar
      have KL1 : Hid (∀ W O k j, Rm w W b N NG ⟨sh, (n : Int), wk, wd, un⟩ M (inSh s sh n) g k j O → Calls Try.prog 17 #[.pointer (some ⟨b, 0, none⟩), .int .i64 g] W fun e w' => e = .returned (.int .i64 (-1)) ∧ w' = W) := fun W O k j h => by have := mLen W b M O h.mo.fl g hg64; rw [hno] at this; exact this
      have HF := Lib.hid (And.intro hfar (And.intro hfar1 (And.intro hfall (And.intro hgs (And.intro hg0 (And.intro hok1 (And.intro hok2 (And.intro hg64 hs64))))))))
      clear kD1 S1 T1 hfar hfar1 hfall hgs hg0 hok1 hok2 hg64 hs64 hno hS eg et hml
      go_wp2_with fail
      refine KD1.out.mono ?_
      rintro e u1 ⟨A1, c1, rfl, O2, S2⟩
      obtain ⟨z0, z1, z2, z3⟩ := S2.r.c
      obtain ⟨y0, y1, _, _, _⟩ := S2.g.c
      simp only at z0 z1 z2 z3 y0 y1
      have KL2 := KL1.out _ _ _ _ S2
      have HS2 := Lib.hid S2
      clear S2 KD1 KL1 r0 r1 r2 r3 fr1
      go_wp2_with fail
      refine KL2.mono ?_
      rintro e u2 ⟨rfl, rfl⟩
      clear KL2
      by_cases hsh : 1 < sh
      · have hshd : decide (1 < sh) = true := decide_eq_true hsh
        obtain ⟨y, ey, hy0, hy1, hys, hyy⟩ := next_shard bs.1 bs.2 hsh
        have hsz : ¬ sh = 0 := by omega
        have hsz2 : (sh == 0) = false := by simpa using hsz
        have oo := other_in (y := y) bs.1 bs.2 (by rw [hyy]; exact hys) 
        have T3 := todo_reg (f := y) HS2.out.em (by omega) (a := 1) (by omega) (b := 1) (by omega) (oo n).1 (by rw [HS2.out.c]; simp only; rw [hyy, taken_other bs.1 bs.2 hys]; omega)
        have KD3 := Lib.hid (fun W O (h : Rm w W b N NG ⟨sh, (n : Int), wk, wd, un⟩ M (inSh s sh n) g (2 * n + 1) (32 * n + 16) O) => h.do ⟨1, y, 1, 1⟩ ⟨i64_of (by simp only; omega), i64_of (by simp only; omega), i64_of (by simp only; omega), i64_of (by simp only; omega)⟩ (by omega) (by omega) T3.1 T3.2 rfl)
        have hJ : Hid ((y :: inSh s sh n).Perm (s :: y :: inSh1 s sh m) ∧ s ∉ (y :: inSh1 s sh m) ∧ g ∉ (y :: inSh1 s sh m) ∧ takenI (y :: inSh1 s sh m) sh s = m) := by
          refine ⟨?_, ?_, ?_, ?_⟩
          · rw [hnm.out, inSh_head]; exact List.Perm.swap _ _ _
          · simp only [List.mem_cons, not_or]; exact ⟨fun e => hys e.symm, self_in1 bs.1 bs.2 m⟩
          · simp only [List.mem_cons, not_or]; exact ⟨fun e => hys (by rw [← hyy, ← e]; exact HF.out.2.2.1), HF.out.2.1⟩
          · rw [takenI_cons (by rw [hyy]; exact hys), taken_in1 bs.1 bs.2]
        generalize y :: inSh1 s sh m = J at *
        have T3e := T3.2
        generalize y :: inSh s sh n = I2 at *
        generalize M.reg ⟨1, y, 1, 1⟩ = M2 at *
        clear T3 T3e oo
        go_wp2_with fail
        have oA : Only [] u2 (u2.alloc (.cells #[.int .i64 1, .int .i64 y, .int .i64 1, .int .i64 1] 44)) := (Only.refl [] u2).alloc _
        have kD3 := KD3.out _ _ (HS2.out.on oA)
        clear KD3 oA
        refine kD3.mono ?_
        rintro e u3 ⟨A3, c3, rfl, O3, S3⟩
        obtain ⟨z0, z1, z2, z3⟩ := S3.r.c
        simp only at z0 z1 z2 z3
        have S3 : Rm w u3 b N NG ⟨sh, (n : Int), wk, wd, un⟩ M2 I2 g (2 * n + 2) (32 * n + 32) O3 := S3
        have T4 := todo_shut S3.em S3.ok.s.srt hJ.out.1
        have kD4 := S3.do ⟨2, s, 0, 0⟩ HF.out.2.2.2.2.2.2.1 (by omega) (by omega) T4.1 T4.2 rfl
        simp only at kD4
        have hcc := S3.c
        have T5 := todo_reg (f := g) T4.2 HF.out.2.2.2.2.1 (a := 1) (by omega) (b := 1) (by omega) hJ.out.2.2.1 (by rw [rem_c, hcc]; simp only; rw [HF.out.2.2.1, hJ.out.2.2.2]; have := hnm.out; omega)
        have KD5 := Lib.hid (fun W O k j (hk : k < 1000) (hj : j + 16 ≤ 1000000) (h : Rm w W b N NG ⟨sh, (n : Int), wk, wd, un⟩ (M2.rem s) J g k j O) => h.do ⟨1, g, 1, 1⟩ HF.out.2.2.2.2.2.1 hk hj T5.1 T5.2 rfl)
        have KL5 : Hid (∀ W O k j, Rm w W b N NG ⟨sh, (n : Int), wk, wd, un⟩ ((M2.rem s).reg ⟨1, g, 1, 1⟩) (g :: J) g k j O → Calls Try.prog 17 #[.pointer (some ⟨b, 0, none⟩), .int .i64 g] W fun e w' => e = .returned (.int .i64 0) ∧ w' = W) := fun W O k j h => by have := mLen W b _ O h.mo.fl g HF.out.2.2.2.2.2.2.2.1; rw [h.em.len h.ok.s.srt (by simp)] at this; exact this
        have KL6 : Hid (∀ W O k j, Rm w W b N NG ⟨sh, (n : Int), wk, wd, un⟩ ((M2.rem s).reg ⟨1, g, 1, 1⟩) (g :: J) g k j O → Calls Try.prog 17 #[.pointer (some ⟨b, 0, none⟩), .int .i64 s] W fun e w' => e = .returned (.int .i64 (-1)) ∧ w' = W) := fun W O k j h => by have := mLen W b _ O h.mo.fl s HF.out.2.2.2.2.2.2.2.2; rw [h.em.len_no (by simp only [List.mem_cons, not_or]; exact ⟨fun e => HF.out.2.2.2.1 e.symm, hJ.out.2.1⟩)] at this; exact this
        generalize (M2.rem s).reg ⟨1, g, 1, 1⟩ = M4 at *
        generalize M2.rem s = M3 at *
        clear T4 T5 hcc S3 kD3 HS2 hJ HF
        go_wp2_with fail
        refine kD4.mono ?_
        rintro e u5 ⟨A5, c5, rfl, O5, S5⟩
        obtain ⟨z0, z1, z2, z3⟩ := S5.r.c
        simp only at z0 z1 z2 z3
        have kD5 := KD5.out _ _ _ _ (by omega) (by omega) S5
        clear kD4 S5 KD5
        go_wp2_with fail
        refine kD5.mono ?_
        rintro e u6 ⟨A6, c6, rfl, O6, S6⟩
        obtain ⟨z0, z1, z2, z3⟩ := S6.r.c
        simp only at z0 z1 z2 z3
        have kL5 := KL5.out _ _ _ _ S6
        have kL6 := KL6.out _ _ _ _ S6
        have HO := Lib.hid S6.mo.only
        clear kD5 S6 KL5 KL6
        go_wp2_with fail
        refine kL5.mono ?_
        rintro e u7 ⟨rfl, rfl⟩
        go_wp2_with fail
        refine kL6.mono ?_
        rintro e u8 ⟨rfl, rfl⟩
        go_wp2_with fail
        go_ret
        exact ⟨rfl, HO.out.below (Nat.le_refl _) (by simp)⟩
      · have hshd : decide (1 < sh) = false := decide_eq_false hsh
        have hJ : Hid ((inSh s sh n).Perm (s :: inSh1 s sh m) ∧ s ∉ inSh1 s sh m ∧ g ∉ inSh1 s sh m ∧ takenI (inSh1 s sh m) sh s = m) := ⟨by rw [hnm.out, inSh_head], self_in1 bs.1 bs.2 m, HF.out.2.1, taken_in1 bs.1 bs.2 m⟩
        generalize inSh1 s sh m = J at *
        have S3 := HS2.out
        have kD3 := hsh
        have T4 := todo_shut S3.em S3.ok.s.srt hJ.out.1
        have kD4 := S3.do ⟨2, s, 0, 0⟩ HF.out.2.2.2.2.2.2.1 (by omega) (by omega) T4.1 T4.2 rfl
        simp only at kD4
        have hcc := S3.c
        have T5 := todo_reg (f := g) T4.2 HF.out.2.2.2.2.1 (a := 1) (by omega) (b := 1) (by omega) hJ.out.2.2.1 (by rw [rem_c, hcc]; simp only; rw [HF.out.2.2.1, hJ.out.2.2.2]; have := hnm.out; omega)
        have KD5 := Lib.hid (fun W O k j (hk : k < 1000) (hj : j + 16 ≤ 1000000) (h : Rm w W b N NG ⟨sh, (n : Int), wk, wd, un⟩ (M.rem s) J g k j O) => h.do ⟨1, g, 1, 1⟩ HF.out.2.2.2.2.2.1 hk hj T5.1 T5.2 rfl)
        have KL5 : Hid (∀ W O k j, Rm w W b N NG ⟨sh, (n : Int), wk, wd, un⟩ ((M.rem s).reg ⟨1, g, 1, 1⟩) (g :: J) g k j O → Calls Try.prog 17 #[.pointer (some ⟨b, 0, none⟩), .int .i64 g] W fun e w' => e = .returned (.int .i64 0) ∧ w' = W) := fun W O k j h => by have := mLen W b _ O h.mo.fl g HF.out.2.2.2.2.2.2.2.1; rw [h.em.len h.ok.s.srt (by simp)] at this; exact this
        have KL6 : Hid (∀ W O k j, Rm w W b N NG ⟨sh, (n : Int), wk, wd, un⟩ ((M.rem s).reg ⟨1, g, 1, 1⟩) (g :: J) g k j O → Calls Try.prog 17 #[.pointer (some ⟨b, 0, none⟩), .int .i64 s] W fun e w' => e = .returned (.int .i64 (-1)) ∧ w' = W) := fun W O k j h => by have := mLen W b _ O h.mo.fl s HF.out.2.2.2.2.2.2.2.2; rw [h.em.len_no (by simp only [List.mem_cons, not_or]; exact ⟨fun e => HF.out.2.2.2.1 e.symm, hJ.out.2.1⟩)] at this; exact this
        generalize (M.rem s).reg ⟨1, g, 1, 1⟩ = M4 at *
        generalize M.rem s = M3 at *
        clear T4 T5 hcc S3 kD3 HS2 hJ HF
        go_wp2_with fail
        refine kD4.mono ?_
        rintro e u5 ⟨A5, c5, rfl, O5, S5⟩
        obtain ⟨z0, z1, z2, z3⟩ := S5.r.c
        simp only at z0 z1 z2 z3
        have kD5 := KD5.out _ _ _ _ (by omega) (by omega) S5
        clear kD4 S5 KD5
        go_wp2_with fail
        refine kD5.mono ?_
        rintro e u6 ⟨A6, c6, rfl, O6, S6⟩
        obtain ⟨z0, z1, z2, z3⟩ := S6.r.c
        simp only at z0 z1 z2 z3
        have kL5 := KL5.out _ _ _ _ S6
        have kL6 := KL6.out _ _ _ _ S6
        have HO := Lib.hid S6.mo.only
        clear kD5 S6 KL5 KL6
        go_wp2_with fail
        refine kL5.mono ?_
        rintro e u7 ⟨rfl, rfl⟩
        go_wp2_with fail
        refine kL6.mono ?_
        rintro e u8 ⟨rfl, rfl⟩
        go_wp2_with fail
        go_ret
        exact ⟨rfl, HO.out.below (Nat.le_refl _) (by simp)⟩

/-! ### The step from the walk to the statement -/
set_option maxRecDepth 100000 in
theorem lifted (os : Os) (started : os.Started) (H : Type) (enc : TypeId × Value → H) :
    ReturnsInHanded {} Try.checked os 4 .any (Rows.modelRoomSpec.pre6 enc Try.prog Try.f4 Rows.modelRoomRow.domain false) (Rows.modelRoomSpec.post enc Try.prog Try.f4 false true false false) := by
  refine returnsInHanded_of_change (C := Try.checked) own started (by kernel_rfl) Try.func4
    (ChangeSpec.witness6 (enc := enc) (C := Try.checked) false ⟨#[], #[.agg #[.int .i64 0, .int .i64 0, .int .i64 0, .int .i64 0, .int .u64 0], .int .i64 0, .int .i64 0], []⟩ 8 (by kernel_rfl) (by kernel_rfl) (by kernel_rfl) (by kernel_rfl)) ?_
  intro W base args ds gs before hval0 hW hcnd _
  have hval : ∀ (j : Nat) t v, Try.f4.params[j]? = some t → args[j]? = some v → Value.okWide Try.prog W .any base t v := hval0
  have hW' := hW
  obtain ⟨p, q, hA0, hV, rfl, hfz, hnd⟩ := hW
  have hA : DataW.TrodAll enc Try.prog W 0 (fun _ => true) true Try.f4.params.toList args.toList ds p := hA0
  rw [Try.params4] at hA hval
  obtain ⟨v0, vs0, d0, ds0, p0, q0, hargs, rfl, rfl, h0, r0⟩ := trodAll_cons hA
  obtain ⟨v1, vs1, d1, ds1, p1, q1, rfl, rfl, rfl, h1, r1⟩ := trodAll_cons r0
  obtain ⟨v2, vs2, d2, ds2, p2, q2, rfl, rfl, rfl, h2, r2⟩ := trodAll_cons r1
  obtain ⟨rfl, rfl, rfl⟩ := trodAll_nil r2
  obtain rfl : args = #[v0, v1, v2] := by cases args; simp_all
  obtain ⟨rfl, rfl⟩ := trodVars_none hV
  obtain ⟨sh0, sl0, wk0, wd0, un0, rfl, rfl, rfl, wsh0, wsl0, wwk0, wwd0, wun0⟩ := open_cf (hval 0 24 v0 rfl rfl) h0
  obtain ⟨a1, rfl, rfl, rfl, w1⟩ := open_int Try.underlying3 (hval 1 3 v1 rfl rfl) h1
  obtain ⟨a2, rfl, rfl, rfl, w2⟩ := open_int Try.underlying3 (hval 2 3 v2 rfl rfl) h2
  clear hA0 hval0
  refine (walk sh0 sl0 wk0 wd0 un0 a1 a2 W wsh0 wsl0 wwk0 wwd0 wun0 w1 w2).mono fun e W' ⟨he, bel⟩ => ?_
  subst he
  exact ⟨_, rfl, _, _, _, [], _, [], hW', trodAll_mk1 (shut_bool Try.underlying4 _), (trodAll_cons_mk (reads_cf wsh0 wsl0 wwk0 wwd0 wun0 _ _ _) (trodAll_cons_mk (shut_int Try.underlying3 w1) (trodAll_cons_mk (shut_int Try.underlying3 w2) trodAll_mk0))), rfl, bel.frame _, fun h => by cases h⟩

theorem over : Rows.modelRoomRow.holds Try.pinned (OpenSpec.ofChange Rows.modelRoomSpec) :=
  OpenClaim.holds_of_wide 4 Try.f4 rfl rfl rfl rfl rfl rfl rfl ⟨rfl, rfl, rfl, rfl, rfl⟩ rfl rfl rfl rfl rfl (by kernel_rfl) Try.func4 (by kernel_rfl)
    (of_decide_eq_true (by kernel_rfl)) (by unfold Func.isWrapper; first | (rw [if_pos (by decide +kernel)]; kernel_rfl) | (rw [if_neg (by decide +kernel)]; exact ⟨rfl, rfl⟩))
    (fun os started H enc _ => lifted os started H enc)

/-- The statement. -/
theorem proved : Rows.ModelRoomSaid := over
#print axioms proved
end Go.Proofs.Ytklolepmmabijaa.modelRoom
