/-
  Ours: batch, Do.
-/
import Derived.Test.YtklolepmmabijaaMdV
import Derived.Deep.LoopGhost
namespace Go.Proofs.Ytklolepmmabijaa
set_option maxRecDepth 100000
open Go.RowKit
set_option linter.unusedVariables false
set_option linter.unusedSimpArgs false
set_option maxRecDepth 100000

section
variable (w : World) (b : Nat) (M : Md) (O : List Nat) (h : MdOf b M w O)
include h
set_option maxHeartbeats 1000000 in
theorem mBatchIn (op f bb : Int) (n : Nat) (h1 : 1 ≤ n) (h16 : n ≤ 16) (k j : Nat) (hM : M.ok k j) (hj : j + 16 ≤ 1000000) : Calls Try.prog 31 #[.pointer (some ⟨b, 0, none⟩), .agg #[.int .i64 op, .int .i64 f, .int .i64 (n : Int), .int .i64 bb]] w fun e w' =>
    ∃ A cap, e = .returned (.agg #[.int .i64 (M.bat n).2.e, .slice A (M.bat n).2.ps.length cap, .int .i64 0, .int .u64 0]) ∧ Tl (MdOf b (M.bat n).1) w O (.slice A (M.bat n).2.ps.length cap) (M.bat n).2.ps w' := by
  have B0 := Lib.hid (bt_start w b M O h ⟨op, f, n, bb⟩)
  simp only at B0
  have kw := mWithin (n : Int) 1 16 ((w.alloc (.cells #[.int .i64 op, .int .i64 f, .int .i64 (n : Int), .int .i64 bb] 44)).alloc (.cells #[.int .i64 0, .slice none 0 0, .int .i64 0, .int .u64 0] 47))
  rw [decide_eq_true (show 1 ≤ (n : Int) ∧ (n : Int) ≤ 16 by omega)] at kw
  have HM := Lib.hid (And.intro hM hj)
  clear h hM hj
  go_enter Try.func31, Try.ntmps31
  go_wp2_with fail
  refine kw.mono ?_
  rintro e W1 ⟨rfl, rfl⟩
  clear kw
  go_wp2_with fail
  generalize ((w.alloc (.cells #[.int .i64 op, .int .i64 f, .int .i64 (n : Int), .int .i64 bb] 44)).alloc (.cells #[.int .i64 0, .slice none 0 0, .int .i64 0, .int .u64 0] 47)).alloc (.cells #[.int .i64 0, .slice none 0 0, .int .i64 0, .int .u64 0] 47) = W0 at *
  obtain ⟨N, eN⟩ : ∃ N, w.heap.size = N := ⟨_, rfl⟩
  rw [eN] at B0 ⊢
  clear eN
  go_loopg [6] (n + 1) (fun gk si wr => ∃ (p : Nat) (A : Option Addr) (cap : Nat) (O' : List Nat), si = .int .i64 (p : Int) ∧ p ≤ n ∧ n + 1 ≤ gk + p ∧ Hid (Bt (MdOf b (M.bat p).1) (fun W => CBox W N ⟨op, f, n, bb⟩) w W0 N (N + 1) (N + 2) O (M.bat p).2.e (.slice A (M.bat p).2.ps.length cap) (M.bat p).2.ps O' wr))
  case atStart => exact ⟨0, none, 0, O, rfl, by omega, by omega, B0⟩
  case round =>
    obtain ⟨p, A, cap, O', rfl, hp, hg, HB⟩ := hrel
    clear B0
    have hx : CBox wr N ⟨op, f, n, bb⟩ := HB.out.x
    obtain ⟨x0, x1, x2, x3⟩ := hx.c
    simp only at x0 x1 x2 x3
    have hlen := M.bat_len p
    have HS := Lib.hid (fun he => M.bat_succ (p := p) he)
    have HT := Lib.hid (fun he => M.bat_stay (p := p) he n hp)
    have hok := Lib.hid (HM.out.1.bat p)
    obtain ⟨D, eD⟩ : ∃ D, M.bat p = D := ⟨_, rfl⟩
    rw [eD] at HB hlen HS HT hok
    have ED := Lib.hid eD
    clear eD hx
    obtain ⟨M1, e0, xs, n0, v0⟩ := D
    simp only at HB hlen HS HT hok
    obtain ⟨d0, d1, d2, d3⟩ := HB.out.all.c
    by_cases hpl : p < n
    · have hpl' : (p : Int) < (n : Int) := by omega
      by_cases he : e0 = 0
      · subst he
        have HS1 := Lib.hid (HS.out rfl)
        have HZ := Lib.hid HB.out.sz
        clear HS HT
        have kD := mDequeue wr b M1 O' HB.out.md ⟨op, f, n, bb⟩ k (j + p) hok.out (by have := HM.out.2; omega)
        simp only at kD
        go_wp2_with fail
        refine kD.mono ?_
        rintro e W1 ⟨A1, cap1, rfl, t1⟩
        obtain ⟨O2, bt1, r1, n1⟩ := HB.out.took (rep_md b M1.one) t1
        have hl1 := M1.oneR_len
        clear kD t1 x0 x1 x2 x3 d0 d1 d2 d3 HB
        obtain ⟨E1, eE⟩ : ∃ E1, M1.oneR.e = E1 := ⟨_, rfl⟩
        obtain ⟨ys, eY⟩ : ∃ ys, M1.oneR.ps = ys := ⟨_, rfl⟩
        rw [eE, eY] at HS1
        rw [eY] at r1 hl1 n1
        rw [eE, eY]
        clear eE eY
        have oA : Only [] W1 (W1.alloc (.cells #[.int .i64 E1, .slice A1 ys.length cap1, .int .i64 0, .int .u64 0] 47)) := (Only.refl [] W1).alloc _
        have bt2 := bt1.on oA
        obtain ⟨d0, d1, d2, d3⟩ := bt2.all.c
        have g0 := bt2.all.fr 0
        have bt3 := bt2.setE E1
        obtain ⟨_, q1, _, _⟩ := bt3.all.c
        have rb := RBox.new W1 E1 (.slice A1 ys.length cap1) 0 0
        have on3 : Only [N + 2] (W1.alloc (.cells #[.int .i64 E1, .slice A1 ys.length cap1, .int .i64 0, .int .u64 0] 47)) ((W1.alloc (.cells #[.int .i64 E1, .slice A1 ys.length cap1, .int .i64 0, .int .u64 0] 47)).setCell ⟨N + 2, 0, none⟩ (.int .i64 E1)) := (Only.refl [N + 2] _).setCell (by simp) _
        have hne : W1.heap.size ≠ N + 2 := by have := bt1.all.lt; omega
        obtain ⟨_, q2, _, _⟩ := (rb.only on3 (by simpa using hne)).c
        have r3 : PRow ((W1.alloc (.cells #[.int .i64 E1, .slice A1 ys.length cap1, .int .i64 0, .int .u64 0] 47)).setCell ⟨N + 2, 0, none⟩ (.int .i64 E1)) (.slice A1 ys.length cap1) ys := (r1.only oA (by simp)).only on3 (fun g hg hk => by
          simp at hk
          subst hk
          have h2 := n1 _ hg
          have h3 := bt1.la.2
          have h4 := HZ.out
          omega)
        have HX := Lib.hid (And.intro bt3 r3)
        clear bt1 bt2 bt3 r1 n1 rb on3 r3 oA
        go_wp2_with (first
          | (at_builtin
             refine wpList_append_pk Try.underlying45 rfl (.tmp 31) (.tmp 33) rfl (.slice A xs.length cap) xs rfl HX.out.1.row A1 ys.length cap1 ys rfl rfl (PSrc.of_row HX.out.2) (xs.length + ys.length) rfl (by omega) ?_
             intro A' cap' W4 r4 g4 l4
             rw [← List.length_append] at r4 l4 ⊢
             obtain ⟨all4, bt4⟩ := HX.out.1.app g4 r4 l4
             obtain ⟨_, d1, _, _⟩ := all4.c
             have g1 := all4.fr 1
             have BT := Lib.hid bt4
             clear all4 bt4 r4 g4 l4 HX))
        go_roundg (n + 1 - (p + 1))
        case measure => omega
        case rel =>
          refine ⟨p + 1, A', cap', O2, by simp, by omega, by omega, ?_⟩
          rw [HS1.out]
          have h9 := BT
          simp only [List.length_append] at h9 ⊢
          exact h9
      · have he' : (e0 == 0) = false := by simpa using he
        have HT1 := Lib.hid (HT.out he)
        obtain ⟨q0, q1, q2, q3⟩ := HB.out.ret.c
        have g0 := HB.out.ret.fr 0
        have g1 := HB.out.ret.fr 1
        have g2 := HB.out.ret.fr 2
        have g3 := HB.out.ret.fr 3
        clear HT HS he
        go_wp2_with fail
        refine bodyPost_ret ?_ rfl ⟨A, cap, rfl, ?_⟩
        · rw [results_cell1 rfl, HT1.out]; go_simp
        · rw [HT1.out]; exact HB.out.fin _ _ _ _
    · have hpl' : ¬ ((p : Int) < (n : Int)) := by omega
      obtain rfl : p = n := by omega
      obtain ⟨q0, q1, q2, q3⟩ := HB.out.ret.c
      have g0 := HB.out.ret.fr 0
      have g1 := HB.out.ret.fr 1
      have g2 := HB.out.ret.fr 2
      have g3 := HB.out.ret.fr 3
      clear HT HS
      go_wp2_with fail
      refine bodyPost_ret ?_ rfl ⟨A, cap, rfl, ?_⟩
      · rw [results_cell1 rfl, ED.out]; go_simp
      · rw [ED.out]; exact HB.out.fin _ _ _ _
set_option maxHeartbeats 1000000 in
theorem mBatchOut (c : Cl) (ha : ¬ (1 ≤ c.a ∧ c.a ≤ 16)) : Calls Try.prog 31 #[.pointer (some ⟨b, 0, none⟩), .agg #[.int .i64 c.op, .int .i64 c.f, .int .i64 c.a, .int .i64 c.b]] w fun e w' =>
    e = .returned (.agg #[.int .i64 1, .slice none 0 0, .int .i64 0, .int .u64 0]) ∧ Tl (MdOf b M) w O (.slice none 0 0) [] w' := by
  obtain ⟨s, m, Q, h, rfl⟩ := h
  have st := Lib.hid (MFr.start h c)
  obtain ⟨r0, r1, r2, r3⟩ := st.out.ret.c
  have f0 := st.out.ret.fr 0
  have f1 := st.out.ret.fr 1
  have f2 := st.out.ret.fr 2
  have f3 := st.out.ret.fr 3
  have kw := mWithin c.a 1 16 ((w.alloc (.cells #[.int .i64 c.op, .int .i64 c.f, .int .i64 c.a, .int .i64 c.b] 44)).alloc (.cells #[.int .i64 0, .slice none 0 0, .int .i64 0, .int .u64 0] 47))
  rw [decide_eq_false ha] at kw
  clear h ha
  go_enter Try.func31, Try.ntmps31
  go_wp2_with fail
  generalize (w.alloc (.cells #[.int .i64 c.op, .int .i64 c.f, .int .i64 c.a, .int .i64 c.b] 44)).alloc (.cells #[.int .i64 0, .slice none 0 0, .int .i64 0, .int .u64 0] 47) = W at *
  obtain ⟨N, eN⟩ : ∃ N, w.heap.size = N := ⟨_, rfl⟩
  rw [eN] at r0 r1 r2 r3 f0 f1 f2 f3 st ⊢
  clear eN
  refine kw.mono ?_
  rintro e W ⟨rfl, rfl⟩
  clear kw
  go_wp2_with fail
  refine bodyPost_ret ?_ rfl ⟨rfl, ?_⟩
  · rw [results_cell1 rfl]; go_simp
  · exact st.out.fin (M' := M) _ _ _ _
end
end Go.Proofs.Ytklolepmmabijaa
