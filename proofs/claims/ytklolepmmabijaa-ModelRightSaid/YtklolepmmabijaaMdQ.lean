/-
  The document's: batch, Do.
-/
import Derived.Test.YtklolepmmabijaaMdZ
namespace Go.Proofs.Ytklolepmmabijaa
set_option maxRecDepth 100000
open Go.RowKit
set_option linter.unusedVariables false
set_option linter.unusedSimpArgs false
set_option maxRecDepth 100000

theorem Tl.ret {R : World → List Nat → Prop} {W W2 : World} {O : List Nat} {v v' : Value} {ps : List Pk} {nr : Nat} {e n x : Int} (t : Tl R W O v ps W2) (b1 : RBox W nr e v' n x) (hO : nr ∉ O) : RBox W2 nr e v' n x := by
  obtain ⟨O2, _, hw, _⟩ := t
  exact b1.only hw.1 hO
section
variable (w : World) (b : Nat) (M : Md) (O : List Nat) (h : NdOf b M w O)
include h
theorem bt_startN : Bt (NdOf b M) (fun _ => True) w ((w.alloc (.cells #[.int .i64 0, .slice none 0 0, .int .i64 0, .int .u64 0] 47)).alloc (.cells #[.int .i64 0, .slice none 0 0, .int .i64 0, .int .u64 0] 47)) w.heap.size w.heap.size (w.heap.size + 1) O 0 (.slice none 0 0) [] O ((w.alloc (.cells #[.int .i64 0, .slice none 0 0, .int .i64 0, .int .u64 0] 47)).alloc (.cells #[.int .i64 0, .slice none 0 0, .int .i64 0, .int .u64 0] 47)) := by
  have b1 := RBox.new w 0 (.slice none 0 0) 0 0
  have o1 : Only [] w (w.alloc (.cells #[.int .i64 0, .slice none 0 0, .int .i64 0, .int .u64 0] 47)) := (Only.refl [] w).alloc _
  have s1 : (w.alloc (.cells #[.int .i64 0, .slice none 0 0, .int .i64 0, .int .u64 0] 47)).heap.size = w.heap.size + 1 := by simp
  generalize w.alloc (.cells #[.int .i64 0, .slice none 0 0, .int .i64 0, .int .u64 0] 47) = W2 at *
  have b3 := RBox.new W2 0 (.slice none 0 0) 0 0
  have o3 : Only [] W2 (W2.alloc (.cells #[.int .i64 0, .slice none 0 0, .int .i64 0, .int .u64 0] 47)) := (Only.refl [] W2).alloc _
  have s3 : (W2.alloc (.cells #[.int .i64 0, .slice none 0 0, .int .i64 0, .int .u64 0] 47)).heap.size = W2.heap.size + 1 := by simp
  generalize W2.alloc (.cells #[.int .i64 0, .slice none 0 0, .int .i64 0, .int .u64 0] 47) = W3 at *
  have o := o1.trans' o3
  rw [s1] at b3
  exact ⟨rep_nd b M, fun _ _ _ => trivial, o, by omega, by omega, by omega, by omega, by omega, (rep_nd b M).lt h, trivial, b1.only0 o3, b3, (rep_nd b M).only h o (by simp), o.mono (by simp), fun k hk => .inl hk, Nat.le_refl _, PRow.nil _, by simp [Value.ownBlock]⟩
set_option maxHeartbeats 1000000 in
theorem nBatchIn (n : Nat) (h1 : 1 ≤ n) (h16 : n ≤ 16) (k j : Nat) (hM : M.ok k j) (hj : j + 16 ≤ 1000000) : Calls Try.prog 41 #[.pointer (some ⟨b, 0, none⟩), .int .i64 (n : Int)] w fun e w' =>
    ∃ A cap, e = .returned (.agg #[.int .i64 (M.bat n).2.e, .slice A (M.bat n).2.ps.length cap, .int .i64 0, .int .u64 0]) ∧ Tl (NdOf b (M.bat n).1) w O (.slice A (M.bat n).2.ps.length cap) (M.bat n).2.ps w' := by
  have B0 := Lib.hid (bt_startN w b M O h)
  have HM := Lib.hid (And.intro hM hj)
  have l1 : ¬ ((n : Int) < 1) := by omega
  have l2 : ¬ (16 < (n : Int)) := by omega
  clear h hM hj
  go_enter Try.func41, Try.ntmps41
  go_wp2_with fail
  generalize (w.alloc (.cells #[.int .i64 0, .slice none 0 0, .int .i64 0, .int .u64 0] 47)).alloc (.cells #[.int .i64 0, .slice none 0 0, .int .i64 0, .int .u64 0] 47) = W0 at *
  obtain ⟨N, eN⟩ : ∃ N, w.heap.size = N := ⟨_, rfl⟩
  rw [eN] at B0 ⊢
  clear eN l1 l2
  go_loopg [6] (n + 1) (fun gk si wr => ∃ (p : Nat) (A : Option Addr) (cap : Nat) (O' : List Nat), si = .int .i64 (p : Int) ∧ p ≤ n ∧ n + 1 ≤ gk + p ∧ Hid (Bt (NdOf b (M.bat p).1) (fun _ => True) w W0 N N (N + 1) O (M.bat p).2.e (.slice A (M.bat p).2.ps.length cap) (M.bat p).2.ps O' wr))
  case atStart => exact ⟨0, none, 0, O, rfl, by omega, by omega, B0⟩
  case round =>
    obtain ⟨p, A, cap, O', rfl, hp, hg, HB⟩ := hrel
    clear B0
    have hlen := M.bat_len p
    have HS := Lib.hid (fun he => M.bat_succ (p := p) he)
    have HT := Lib.hid (fun he => M.bat_stay (p := p) he n hp)
    have hok := Lib.hid (HM.out.1.bat p)
    obtain ⟨D, eD⟩ : ∃ D, M.bat p = D := ⟨_, rfl⟩
    rw [eD] at HB hlen HS HT hok
    have ED := Lib.hid eD
    clear eD
    obtain ⟨M1, e0, xs, n0, v0⟩ := D
    simp only at HB hlen HS HT hok
    obtain ⟨d0, d1, d2, d3⟩ := HB.out.all.c
    by_cases hpl : p < n
    · have hpl' : (p : Int) < (n : Int) := by omega
      by_cases he : e0 = 0
      · subst he
        have HS1 := Lib.hid (HS.out rfl)
        have HZ := Lib.hid HB.out.sz
        clear HS HT
        have kD := nOne wr b M1 O' HB.out.md k (j + p) hok.out (by have := HM.out.2; omega)
        go_wp2_with fail
        refine kD.mono ?_
        rintro e W1 ⟨A1, cap1, rfl, t1⟩
        obtain ⟨O2, bt1, r1, n1⟩ := HB.out.took (rep_nd b M1.one) t1
        have hl1 := M1.oneR_len
        clear kD t1 d0 d1 d2 d3 HB
        obtain ⟨E1, eE⟩ : ∃ E1, M1.oneR.e = E1 := ⟨_, rfl⟩
        obtain ⟨ys, eY⟩ : ∃ ys, M1.oneR.ps = ys := ⟨_, rfl⟩
        rw [eE, eY] at HS1
        rw [eY] at r1 hl1 n1
        rw [eE, eY]
        clear eE eY
        have oA : Only [] W1 (W1.alloc (.cells #[.int .i64 E1, .slice A1 ys.length cap1, .int .i64 0, .int .u64 0] 47)) := (Only.refl [] W1).alloc _
        have bt2 := bt1.on oA
        obtain ⟨d0, d1, d2, d3⟩ := bt2.all.c
        have g0 := bt2.all.fr 0
        have bt3 := bt2.setE E1
        obtain ⟨_, q1, _, _⟩ := bt3.all.c
        have rb := RBox.new W1 E1 (.slice A1 ys.length cap1) 0 0
        have on3 : Only [N + 1] (W1.alloc (.cells #[.int .i64 E1, .slice A1 ys.length cap1, .int .i64 0, .int .u64 0] 47)) ((W1.alloc (.cells #[.int .i64 E1, .slice A1 ys.length cap1, .int .i64 0, .int .u64 0] 47)).setCell ⟨N + 1, 0, none⟩ (.int .i64 E1)) := (Only.refl [N + 1] _).setCell (by simp) _
        have hne : W1.heap.size ≠ N + 1 := by have := bt1.all.lt; omega
        obtain ⟨_, q2, _, _⟩ := (rb.only on3 (by simpa using hne)).c
        have r3 : PRow ((W1.alloc (.cells #[.int .i64 E1, .slice A1 ys.length cap1, .int .i64 0, .int .u64 0] 47)).setCell ⟨N + 1, 0, none⟩ (.int .i64 E1)) (.slice A1 ys.length cap1) ys := (r1.only oA (by simp)).only on3 (fun g hg hk => by
          simp at hk
          subst hk
          have h2 := n1 _ hg
          have h3 := bt1.la.2
          have h4 := HZ.out
          omega)
        have HX := Lib.hid (And.intro bt3 r3)
        clear bt1 bt2 bt3 r1 n1 rb on3 r3 oA
        go_wp2_with (first
          | (at_builtin
             refine wpList_append_pk Try.underlying45 rfl (.tmp 32) (.tmp 34) rfl (.slice A xs.length cap) xs rfl HX.out.1.row A1 ys.length cap1 ys rfl rfl (PSrc.of_row HX.out.2) (xs.length + ys.length) rfl (by omega) ?_
             intro A' cap' W4 r4 g4 l4
             rw [← List.length_append] at r4 l4 ⊢
             obtain ⟨all4, bt4⟩ := HX.out.1.app g4 r4 l4
             obtain ⟨_, d1, _, _⟩ := all4.c
             have g1 := all4.fr 1
             have BT := Lib.hid bt4
             clear all4 bt4 r4 g4 l4 HX))
        go_roundg (n + 1 - (p + 1))
        case measure => omega
        case rel =>
          refine ⟨p + 1, A', cap', O2, by simp, by omega, by omega, ?_⟩
          rw [HS1.out]
          have h9 := BT
          simp only [List.length_append] at h9 ⊢
          exact h9
      · have he' : (e0 == 0) = false := by simpa using he
        have HT1 := Lib.hid (HT.out he)
        obtain ⟨q0, q1, q2, q3⟩ := HB.out.ret.c
        have g0 := HB.out.ret.fr 0
        have g1 := HB.out.ret.fr 1
        have g2 := HB.out.ret.fr 2
        have g3 := HB.out.ret.fr 3
        clear HT HS he
        go_wp2_with fail
        refine bodyPost_ret ?_ rfl ⟨A, cap, rfl, ?_⟩
        · rw [results_cell1 rfl, HT1.out]; go_simp
        · rw [HT1.out]; exact HB.out.fin _ _ _ _
    · have hpl' : ¬ ((p : Int) < (n : Int)) := by omega
      obtain rfl : p = n := by omega
      obtain ⟨q0, q1, q2, q3⟩ := HB.out.ret.c
      have g0 := HB.out.ret.fr 0
      have g1 := HB.out.ret.fr 1
      have g2 := HB.out.ret.fr 2
      have g3 := HB.out.ret.fr 3
      clear HT HS
      go_wp2_with fail
      refine bodyPost_ret ?_ rfl ⟨A, cap, rfl, ?_⟩
      · rw [results_cell1 rfl, ED.out]; go_simp
      · rw [ED.out]; exact HB.out.fin _ _ _ _
set_option maxHeartbeats 1000000 in
theorem nBatchOut (a : Int) (ha : ¬ (1 ≤ a ∧ a ≤ 16)) : Calls Try.prog 41 #[.pointer (some ⟨b, 0, none⟩), .int .i64 a] w fun e w' =>
    e = .returned (.agg #[.int .i64 1, .slice none 0 0, .int .i64 0, .int .u64 0]) ∧ Tl (NdOf b M) w O (.slice none 0 0) [] w' := by
  obtain ⟨s, Q, rfl, st0⟩ := nfr_start w b M O h
  have st := Lib.hid st0
  clear h st0
  go_enter Try.func41, Try.ntmps41
  by_cases l1 : a < 1
  · have d1 : decide (a < 1) = true := decide_eq_true l1
    clear ha
    go_wp2_with fail
    refine (nCode 1 _).mono ?_
    rintro e W3 ⟨rfl, o3⟩
    have ST3 := Lib.hid (st.out.on o3)
    obtain ⟨r0, r1, r2, r3⟩ := ST3.out.ret.c
    have f0 := ST3.out.ret.fr 0
    have f1 := ST3.out.ret.fr 1
    have f2 := ST3.out.ret.fr 2
    have f3 := ST3.out.ret.fr 3
    clear o3 st
    go_wp2_with fail
    refine bodyPost_ret ?_ rfl ⟨rfl, ?_⟩
    · rw [results_cell1 rfl]; go_simp
    · exact ST3.out.fin (M' := M) _ _ _ _
  · have d1 : decide (a < 1) = false := decide_eq_false l1
    have l2 : 16 < a := by omega
    have d2 : decide (16 < a) = true := decide_eq_true l2
    clear ha
    go_wp2_with fail
    refine (nCode 1 _).mono ?_
    rintro e W3 ⟨rfl, o3⟩
    have ST3 := Lib.hid (st.out.on o3)
    obtain ⟨r0, r1, r2, r3⟩ := ST3.out.ret.c
    have f0 := ST3.out.ret.fr 0
    have f1 := ST3.out.ret.fr 1
    have f2 := ST3.out.ret.fr 2
    have f3 := ST3.out.ret.fr 3
    clear o3 st
    go_wp2_with fail
    refine bodyPost_ret ?_ rfl ⟨rfl, ?_⟩
    · rw [results_cell1 rfl]; go_simp
    · exact ST3.out.fin (M' := M) _ _ _ _
end
end Go.Proofs.Ytklolepmmabijaa
