/-
  The document's: Do.
-/
import Derived.Test.YtklolepmmabijaaMdQ
namespace Go.Proofs.Ytklolepmmabijaa
set_option maxRecDepth 100000
open Go.RowKit
set_option linter.unusedVariables false
set_option linter.unusedSimpArgs false
set_option maxRecDepth 100000

section
variable (w : World) (b : Nat) (M : Md) (O : List Nat) (h : NdOf b M w O)
include h
set_option maxHeartbeats 1000000 in
theorem nDo1 (f a bb : Int) (hc : (⟨1, f, a, bb⟩ : Cl).ok) (k j : Nat) (hM : M.ok k j) (hk : k < 1000) : Calls Try.prog 26 #[.pointer (some ⟨b, 0, none⟩), .agg #[.int .i64 1, .int .i64 f, .int .i64 a, .int .i64 bb]] w (Told (NdOf b) M ⟨1, f, a, bb⟩ w O) := by
  have ht : M.todo ⟨1, f, a, bb⟩ = (M.regM ⟨1, f, a, bb⟩, Rt.code (M.regE ⟨1, f, a, bb⟩)) := by unfold Md.todo; rw [if_pos rfl]; rfl
  unfold Told
  rw [ht]
  obtain ⟨s, Q, rfl, st0⟩ := nfr_call w b M O h ⟨1, f, a, bb⟩
  simp only at st0
  have st := Lib.hid st0
  have hx : CBox _ w.heap.size ⟨1, f, a, bb⟩ := st0.x
  obtain ⟨x0, x1, x2, x3⟩ := hx.c
  simp only at x0 x1 x2 x3
  obtain ⟨r0, r1, r2, r3⟩ := st0.ret.c
  have f0 := st0.ret.fr 0
  have f1 := st0.ret.fr 1
  have f2 := st0.ret.fr 2
  have f3 := st0.ret.fr 3
  obtain ⟨c0, _, _, _, _, c5, c6⟩ := st0.md.blk.c
  clear hx st0
  have k0 := nRegister _ b M (b :: Q) ⟨s, Q, st.out.md, rfl⟩ ⟨1, f, a, bb⟩ hc k j hM hk
  simp only at k0
  clear h hM hc hk ht
  go_enter Try.func26, Try.ntmps26
  go_wp2_with fail
  generalize (w.alloc (.cells #[.int .i64 1, .int .i64 f, .int .i64 a, .int .i64 bb] 44)).alloc (.cells #[.int .i64 0, .slice none 0 0, .int .i64 0, .int .u64 0] 47) = W at *
  obtain ⟨N, eN⟩ : ∃ N, w.heap.size = N := ⟨_, rfl⟩
  rw [eN] at x0 x1 x2 x3 r0 r1 r2 r3 f0 f1 f2 f3 st ⊢
  have HN := Lib.hid eN
  clear eN
  refine k0.mono ?_
  rintro e W1 ⟨rfl, O', m1, w1⟩
  have st1 : Hid (∃ s' Q', NFr (fun W => CBox W N ⟨1, f, a, bb⟩) w W N (N + 1) b (b :: Q) (M.regM ⟨1, f, a, bb⟩).c (M.regM ⟨1, f, a, bb⟩).S (M.regM ⟨1, f, a, bb⟩).n s' Q' W1) := by
    obtain ⟨s', Q', m1, rfl⟩ := m1
    have o := st.out
    exact ⟨s', Q', o.xk, o.o0, o.lN, o.lr, o.hO, o.xk o.x w1.1 (o.out o.lN.1 o.lN.2), o.ret.only w1.1 (o.out o.lr.1 o.lr.2), m1, o.wt.trans w1⟩
  obtain ⟨s', Q', st1⟩ := st1.out
  have st := Lib.hid st1
  clear m1 w1 k0 st1
  go_wp2_with fail
  refine (nCode _ _).mono ?_
  rintro e W3 ⟨rfl, o3⟩
  have ST := Lib.hid (st.out.on o3)
  clear r0 r1 r2 r3 f0 f1 f2 f3
  obtain ⟨r0, r1, r2, r3⟩ := ST.out.ret.c
  have f0 := ST.out.ret.fr 0
  have f1 := ST.out.ret.fr 1
  have f2 := ST.out.ret.fr 2
  have f3 := ST.out.ret.fr 3
  clear o3 st
  go_wp2_with fail
  refine bodyPost_ret ?_ rfl ⟨none, 0, rfl, ?_⟩
  · rw [results_cell1 rfl]; unfold Rt.code; go_simp
  · exact ST.out.fin (M' := M.regM ⟨1, f, a, bb⟩) _ _ _ _
set_option maxHeartbeats 1000000 in
theorem nDo2 (f a bb : Int) : Calls Try.prog 26 #[.pointer (some ⟨b, 0, none⟩), .agg #[.int .i64 2, .int .i64 f, .int .i64 a, .int .i64 bb]] w (Told (NdOf b) M ⟨2, f, a, bb⟩ w O) := by
  have ht : M.todo ⟨2, f, a, bb⟩ = (M.rem f, Rt.code (M.S.remE f)) := by unfold Md.todo; rw [if_neg (by simp), if_pos rfl]
  unfold Told
  rw [ht]
  obtain ⟨s, Q, rfl, st0⟩ := nfr_call w b M O h ⟨2, f, a, bb⟩
  simp only at st0
  have st := Lib.hid st0
  have hx : CBox _ w.heap.size ⟨2, f, a, bb⟩ := st0.x
  obtain ⟨x0, x1, x2, x3⟩ := hx.c
  simp only at x0 x1 x2 x3
  obtain ⟨r0, r1, r2, r3⟩ := st0.ret.c
  have f0 := st0.ret.fr 0
  have f1 := st0.ret.fr 1
  have f2 := st0.ret.fr 2
  have f3 := st0.ret.fr 3
  obtain ⟨c0, _, _, _, _, c5, c6⟩ := st0.md.blk.c
  clear hx st0
  clear h ht
  go_enter Try.func26, Try.ntmps26
  go_wp2_with fail
  generalize (w.alloc (.cells #[.int .i64 2, .int .i64 f, .int .i64 a, .int .i64 bb] 44)).alloc (.cells #[.int .i64 0, .slice none 0 0, .int .i64 0, .int .u64 0] 47) = W at *
  obtain ⟨N, eN⟩ : ∃ N, w.heap.size = N := ⟨_, rfl⟩
  rw [eN] at x0 x1 x2 x3 r0 r1 r2 r3 f0 f1 f2 f3 st ⊢
  have HN := Lib.hid eN
  clear eN
  go_still_tail 6, (by kernel_rfl)
  change wpList _ _ _ _ _ W.drew
  have k0 := zRemove W.drew s M.S Q (st.out.on (Only.refl [] W).drew).md.sq f
  go_wp2_with fail
  refine k0.mono ?_
  rintro e W1 ⟨rfl, t1⟩
  obtain ⟨Q2, st1⟩ := (st.out.on (Only.refl [] W).drew).turn t1
  have st := Lib.hid st1
  clear t1 k0 st1
  go_wp2_with fail
  refine (nCode _ _).mono ?_
  rintro e W3 ⟨rfl, o3⟩
  have ST := Lib.hid (st.out.on o3)
  clear r0 r1 r2 r3 f0 f1 f2 f3
  obtain ⟨r0, r1, r2, r3⟩ := ST.out.ret.c
  have f0 := ST.out.ret.fr 0
  have f1 := ST.out.ret.fr 1
  have f2 := ST.out.ret.fr 2
  have f3 := ST.out.ret.fr 3
  clear o3 st
  go_wp2_with fail
  refine bodyPost_ret ?_ rfl ⟨none, 0, rfl, ?_⟩
  · rw [results_cell1 rfl]; unfold Rt.code; go_simp
  · exact ST.out.fin (M' := M.rem f) _ _ _ _
set_option maxHeartbeats 1000000 in
theorem nDo3 (f a bb : Int) (hc : (⟨3, f, a, bb⟩ : Cl).ok) : Calls Try.prog 26 #[.pointer (some ⟨b, 0, none⟩), .agg #[.int .i64 3, .int .i64 f, .int .i64 a, .int .i64 bb]] w (Told (NdOf b) M ⟨3, f, a, bb⟩ w O) := by
  have ht : M.todo ⟨3, f, a, bb⟩ = (if 1 ≤ a ∧ a ≤ 65536 then (M.arr ⟨f, a, bb⟩, Rt.code (M.S.arrE ⟨f, a, bb⟩)) else (M, Rt.code 3)) := by unfold Md.todo; rw [if_neg (by simp), if_neg (by simp), if_pos rfl]
  unfold Told
  rw [ht]
  obtain ⟨s, Q, rfl, st0⟩ := nfr_call w b M O h ⟨3, f, a, bb⟩
  simp only at st0
  have st := Lib.hid st0
  have hx : CBox _ w.heap.size ⟨3, f, a, bb⟩ := st0.x
  obtain ⟨x0, x1, x2, x3⟩ := hx.c
  simp only at x0 x1 x2 x3
  obtain ⟨r0, r1, r2, r3⟩ := st0.ret.c
  have f0 := st0.ret.fr 0
  have f1 := st0.ret.fr 1
  have f2 := st0.ret.fr 2
  have f3 := st0.ret.fr 3
  obtain ⟨c0, _, _, _, _, c5, c6⟩ := st0.md.blk.c
  clear hx st0
  have HC := Lib.hid hc
  clear h ht hc
  by_cases ha : 1 ≤ a ∧ a ≤ 65536
  · rw [if_pos ha]
    have l1 : ¬ (a < 1) := by omega
    have l2 : ¬ (65536 < a) := by omega
    clear ha
    go_enter Try.func26, Try.ntmps26
    go_wp2_with fail
    generalize (w.alloc (.cells #[.int .i64 3, .int .i64 f, .int .i64 a, .int .i64 bb] 44)).alloc (.cells #[.int .i64 0, .slice none 0 0, .int .i64 0, .int .u64 0] 47) = W at *
    obtain ⟨N, eN⟩ : ∃ N, w.heap.size = N := ⟨_, rfl⟩
    rw [eN] at x0 x1 x2 x3 r0 r1 r2 r3 f0 f1 f2 f3 st ⊢
    have HN := Lib.hid eN
    clear eN
    clear l1 l2
    go_still_tail 11, (by kernel_rfl)
    change wpList _ _ _ _ _ W.drew
    have k0 := zArrive W.drew s M.S Q (st.out.on (Only.refl [] W).drew).md.sq ⟨f, a, bb⟩ ⟨HC.out.2.1, HC.out.2.2.1, HC.out.2.2.2⟩
    simp only at k0
    go_wp2_with fail
    refine k0.mono ?_
    rintro e W1 ⟨rfl, t1⟩
    obtain ⟨Q2, st1⟩ := (st.out.on (Only.refl [] W).drew).turn t1
    have st := Lib.hid st1
    clear t1 k0 st1
    go_wp2_with fail
    refine (nCode _ _).mono ?_
    rintro e W3 ⟨rfl, o3⟩
    have ST := Lib.hid (st.out.on o3)
    clear r0 r1 r2 r3 f0 f1 f2 f3
    obtain ⟨r0, r1, r2, r3⟩ := ST.out.ret.c
    have f0 := ST.out.ret.fr 0
    have f1 := ST.out.ret.fr 1
    have f2 := ST.out.ret.fr 2
    have f3 := ST.out.ret.fr 3
    clear o3 st
    go_wp2_with fail
    refine bodyPost_ret ?_ rfl ⟨none, 0, rfl, ?_⟩
    · rw [results_cell1 rfl]; unfold Rt.code; go_simp
    · exact ST.out.fin (M' := M.arr ⟨f, a, bb⟩) _ _ _ _
  · rw [if_neg ha]
    by_cases l1 : a < 1
    · have d1 : decide (a < 1) = true := decide_eq_true l1
      clear ha
      go_enter Try.func26, Try.ntmps26
      go_wp2_with fail
      generalize (w.alloc (.cells #[.int .i64 3, .int .i64 f, .int .i64 a, .int .i64 bb] 44)).alloc (.cells #[.int .i64 0, .slice none 0 0, .int .i64 0, .int .u64 0] 47) = W at *
      obtain ⟨N, eN⟩ : ∃ N, w.heap.size = N := ⟨_, rfl⟩
      rw [eN] at x0 x1 x2 x3 r0 r1 r2 r3 f0 f1 f2 f3 st ⊢
      have HN := Lib.hid eN
      clear eN
      refine (nCode _ _).mono ?_
      rintro e W3 ⟨rfl, o3⟩
      have ST := Lib.hid (st.out.on o3)
      clear r0 r1 r2 r3 f0 f1 f2 f3
      obtain ⟨r0, r1, r2, r3⟩ := ST.out.ret.c
      have f0 := ST.out.ret.fr 0
      have f1 := ST.out.ret.fr 1
      have f2 := ST.out.ret.fr 2
      have f3 := ST.out.ret.fr 3
      clear o3 st
      go_wp2_with fail
      refine bodyPost_ret ?_ rfl ⟨none, 0, rfl, ?_⟩
      · rw [results_cell1 rfl]; unfold Rt.code; go_simp
      · exact ST.out.fin (M' := M) _ _ _ _
    · have d1 : decide (a < 1) = false := decide_eq_false l1
      have l2 : 65536 < a := by omega
      have d2 : decide (65536 < a) = true := decide_eq_true l2
      clear ha
      go_enter Try.func26, Try.ntmps26
      go_wp2_with fail
      generalize (w.alloc (.cells #[.int .i64 3, .int .i64 f, .int .i64 a, .int .i64 bb] 44)).alloc (.cells #[.int .i64 0, .slice none 0 0, .int .i64 0, .int .u64 0] 47) = W at *
      obtain ⟨N, eN⟩ : ∃ N, w.heap.size = N := ⟨_, rfl⟩
      rw [eN] at x0 x1 x2 x3 r0 r1 r2 r3 f0 f1 f2 f3 st ⊢
      have HN := Lib.hid eN
      clear eN
      refine (nCode _ _).mono ?_
      rintro e W3 ⟨rfl, o3⟩
      have ST := Lib.hid (st.out.on o3)
      clear r0 r1 r2 r3 f0 f1 f2 f3
      obtain ⟨r0, r1, r2, r3⟩ := ST.out.ret.c
      have f0 := ST.out.ret.fr 0
      have f1 := ST.out.ret.fr 1
      have f2 := ST.out.ret.fr 2
      have f3 := ST.out.ret.fr 3
      clear o3 st
      go_wp2_with fail
      refine bodyPost_ret ?_ rfl ⟨none, 0, rfl, ?_⟩
      · rw [results_cell1 rfl]; unfold Rt.code; go_simp
      · exact ST.out.fin (M' := M) _ _ _ _
set_option maxHeartbeats 1000000 in
theorem nDo4 (f a bb : Int) (k j : Nat) (hM : M.ok k j) (hj : j + 16 ≤ 1000000) : Calls Try.prog 26 #[.pointer (some ⟨b, 0, none⟩), .agg #[.int .i64 4, .int .i64 f, .int .i64 a, .int .i64 bb]] w (Told (NdOf b) M ⟨4, f, a, bb⟩ w O) := by
  have ht : M.todo ⟨4, f, a, bb⟩ = (M.one, M.oneR) := by unfold Md.todo; rw [if_neg (by simp), if_neg (by simp), if_neg (by simp), if_pos rfl]
  unfold Told
  rw [ht]
  obtain ⟨s, Q, rfl, st0⟩ := nfr_call w b M O h ⟨4, f, a, bb⟩
  simp only at st0
  have st := Lib.hid st0
  have hx : CBox _ w.heap.size ⟨4, f, a, bb⟩ := st0.x
  obtain ⟨x0, x1, x2, x3⟩ := hx.c
  simp only at x0 x1 x2 x3
  obtain ⟨r0, r1, r2, r3⟩ := st0.ret.c
  have f0 := st0.ret.fr 0
  have f1 := st0.ret.fr 1
  have f2 := st0.ret.fr 2
  have f3 := st0.ret.fr 3
  obtain ⟨c0, _, _, _, _, c5, c6⟩ := st0.md.blk.c
  clear hx st0
  have k0 := nOne _ b M (b :: Q) ⟨s, Q, st.out.md, rfl⟩ k j hM (by omega)
  have HV := Lib.hid (oneR_nv M)
  clear h hM hj ht
  go_enter Try.func26, Try.ntmps26
  go_wp2_with fail
  generalize (w.alloc (.cells #[.int .i64 4, .int .i64 f, .int .i64 a, .int .i64 bb] 44)).alloc (.cells #[.int .i64 0, .slice none 0 0, .int .i64 0, .int .u64 0] 47) = W at *
  obtain ⟨N, eN⟩ : ∃ N, w.heap.size = N := ⟨_, rfl⟩
  rw [eN] at x0 x1 x2 x3 r0 r1 r2 r3 f0 f1 f2 f3 st ⊢
  have HN := Lib.hid eN
  clear eN
  refine k0.mono ?_
  rintro e W2 ⟨A, cap, rfl, t2⟩
  have o := st.out
  have rb : RBox W2 (N + 1) 0 (.slice none 0 0) 0 0 := t2.ret o.ret (o.out o.lr.1 o.lr.2)
  clear r0 r1 r2 r3 f0 f1 f2 f3
  obtain ⟨r0, r1, r2, r3⟩ := rb.c
  have f0 := rb.fr 0
  have f1 := rb.fr 1
  have f2 := rb.fr 2
  have f3 := rb.fr 3
  have T2 := Lib.hid t2
  clear t2 rb o k0
  go_wp2_with fail
  refine bodyPost_ret ?_ rfl ⟨A, cap, rfl, ?_⟩
  · rw [results_cell1 rfl, HV.out.1, HV.out.2]; go_simp
  · have o := st.out
    exact Tl.boxed (rep_nd b _) o.o0 T2.out (N := N + 1) o.lr.1 o.lr.2 o.hO (only_ret _ _ _ _ _ _)
set_option maxHeartbeats 1000000 in
theorem nDo5 (f a bb : Int) (k j : Nat) (hM : M.ok k j) (hj : j + 16 ≤ 1000000) : Calls Try.prog 26 #[.pointer (some ⟨b, 0, none⟩), .agg #[.int .i64 5, .int .i64 f, .int .i64 a, .int .i64 bb]] w (Told (NdOf b) M ⟨5, f, a, bb⟩ w O) := by
  have ht : M.todo ⟨5, f, a, bb⟩ = (if 1 ≤ a ∧ a ≤ 16 then M.bat a.toNat else (M, Rt.code 1)) := by unfold Md.todo; rw [if_neg (by simp), if_neg (by simp), if_neg (by simp), if_neg (by simp), if_pos rfl]
  unfold Told
  rw [ht]
  by_cases ha : 1 ≤ a ∧ a ≤ 16
  · rw [if_pos ha]
    obtain ⟨n, rfl⟩ : ∃ n : Nat, a = (n : Int) := ⟨a.toNat, by omega⟩
    rw [Int.toNat_natCast]
    clear ht
    obtain ⟨s, Q, rfl, st0⟩ := nfr_call w b M O h ⟨5, f, (n : Int), bb⟩
    simp only at st0
    have st := Lib.hid st0
    have hx : CBox _ w.heap.size ⟨5, f, (n : Int), bb⟩ := st0.x
    obtain ⟨x0, x1, x2, x3⟩ := hx.c
    simp only at x0 x1 x2 x3
    obtain ⟨r0, r1, r2, r3⟩ := st0.ret.c
    have f0 := st0.ret.fr 0
    have f1 := st0.ret.fr 1
    have f2 := st0.ret.fr 2
    have f3 := st0.ret.fr 3
    obtain ⟨c0, _, _, _, _, c5, c6⟩ := st0.md.blk.c
    clear hx st0
    have k0 := nBatchIn _ b M (b :: Q) ⟨s, Q, st.out.md, rfl⟩ n (by omega) (by omega) k j hM hj
    have HV := Lib.hid (M.bat_nv n)
    clear h hM hj ha
    go_enter Try.func26, Try.ntmps26
    go_wp2_with fail
    generalize (w.alloc (.cells #[.int .i64 5, .int .i64 f, .int .i64 (n : Int), .int .i64 bb] 44)).alloc (.cells #[.int .i64 0, .slice none 0 0, .int .i64 0, .int .u64 0] 47) = W at *
    obtain ⟨N, eN⟩ : ∃ N, w.heap.size = N := ⟨_, rfl⟩
    rw [eN] at x0 x1 x2 x3 r0 r1 r2 r3 f0 f1 f2 f3 st ⊢
    have HN := Lib.hid eN
    clear eN
    refine k0.mono ?_
    rintro e W2 ⟨A, cap, rfl, t2⟩
    have o := st.out
    have rb : RBox W2 (N + 1) 0 (.slice none 0 0) 0 0 := t2.ret o.ret (o.out o.lr.1 o.lr.2)
    clear r0 r1 r2 r3 f0 f1 f2 f3
    obtain ⟨r0, r1, r2, r3⟩ := rb.c
    have f0 := rb.fr 0
    have f1 := rb.fr 1
    have f2 := rb.fr 2
    have f3 := rb.fr 3
    have T2 := Lib.hid t2
    clear t2 rb o k0
    go_wp2_with fail
    refine bodyPost_ret ?_ rfl ⟨A, cap, rfl, ?_⟩
    · rw [results_cell1 rfl, HV.out.1, HV.out.2]; go_simp
    · have o := st.out
      exact Tl.boxed (rep_nd b _) o.o0 T2.out (N := N + 1) o.lr.1 o.lr.2 o.hO (only_ret _ _ _ _ _ _)
  · rw [if_neg ha]
    clear ht
    obtain ⟨s, Q, rfl, st0⟩ := nfr_call w b M O h ⟨5, f, a, bb⟩
    simp only at st0
    have st := Lib.hid st0
    have hx : CBox _ w.heap.size ⟨5, f, a, bb⟩ := st0.x
    obtain ⟨x0, x1, x2, x3⟩ := hx.c
    simp only at x0 x1 x2 x3
    obtain ⟨r0, r1, r2, r3⟩ := st0.ret.c
    have f0 := st0.ret.fr 0
    have f1 := st0.ret.fr 1
    have f2 := st0.ret.fr 2
    have f3 := st0.ret.fr 3
    obtain ⟨c0, _, _, _, _, c5, c6⟩ := st0.md.blk.c
    clear hx st0
    have k0 := nBatchOut _ b M (b :: Q) ⟨s, Q, st.out.md, rfl⟩ a ha
    clear h hM hj ha
    go_enter Try.func26, Try.ntmps26
    go_wp2_with fail
    generalize (w.alloc (.cells #[.int .i64 5, .int .i64 f, .int .i64 a, .int .i64 bb] 44)).alloc (.cells #[.int .i64 0, .slice none 0 0, .int .i64 0, .int .u64 0] 47) = W at *
    obtain ⟨N, eN⟩ : ∃ N, w.heap.size = N := ⟨_, rfl⟩
    rw [eN] at x0 x1 x2 x3 r0 r1 r2 r3 f0 f1 f2 f3 st ⊢
    have HN := Lib.hid eN
    clear eN
    refine k0.mono ?_
    rintro e W2 ⟨rfl, t2⟩
    have o := st.out
    have rb : RBox W2 (N + 1) 0 (.slice none 0 0) 0 0 := t2.ret o.ret (o.out o.lr.1 o.lr.2)
    clear r0 r1 r2 r3 f0 f1 f2 f3
    obtain ⟨r0, r1, r2, r3⟩ := rb.c
    have f0 := rb.fr 0
    have f1 := rb.fr 1
    have f2 := rb.fr 2
    have f3 := rb.fr 3
    have T2 := Lib.hid t2
    clear t2 rb o k0
    go_wp2_with fail
    refine bodyPost_ret ?_ rfl ⟨none, 0, rfl, ?_⟩
    · rw [results_cell1 rfl]; unfold Rt.code; go_simp
    · have o := st.out
      exact Tl.boxed (rep_nd b _) o.o0 T2.out (N := N + 1) o.lr.1 o.lr.2 o.hO (only_ret _ _ _ _ _ _)
set_option maxHeartbeats 1000000 in
theorem nDo6 (f a bb : Int) : Calls Try.prog 26 #[.pointer (some ⟨b, 0, none⟩), .agg #[.int .i64 6, .int .i64 f, .int .i64 a, .int .i64 bb]] w (Told (NdOf b) M ⟨6, f, a, bb⟩ w O) := by
  have ht : M.todo ⟨6, f, a, bb⟩ = (M, ⟨0, [], M.n, M.S.v⟩) := by unfold Md.todo; rw [if_neg (by simp), if_neg (by simp), if_neg (by simp), if_neg (by simp), if_neg (by simp), if_pos rfl]
  unfold Told
  rw [ht]
  obtain ⟨s, Q, rfl, st0⟩ := nfr_call w b M O h ⟨6, f, a, bb⟩
  simp only at st0
  have st := Lib.hid st0
  have hx : CBox _ w.heap.size ⟨6, f, a, bb⟩ := st0.x
  obtain ⟨x0, x1, x2, x3⟩ := hx.c
  simp only at x0 x1 x2 x3
  obtain ⟨r0, r1, r2, r3⟩ := st0.ret.c
  have f0 := st0.ret.fr 0
  have f1 := st0.ret.fr 1
  have f2 := st0.ret.fr 2
  have f3 := st0.ret.fr 3
  obtain ⟨c0, _, _, _, _, c5, c6⟩ := st0.md.blk.c
  clear hx st0
  obtain ⟨u, es, hr, eq⟩ := st.out.md.sq
  obtain ⟨_, q1, _⟩ := hr.blk.c
  clear h ht hr eq
  go_enter Try.func26, Try.ntmps26
  go_wp2_with fail
  generalize (w.alloc (.cells #[.int .i64 6, .int .i64 f, .int .i64 a, .int .i64 bb] 44)).alloc (.cells #[.int .i64 0, .slice none 0 0, .int .i64 0, .int .u64 0] 47) = W at *
  obtain ⟨N, eN⟩ : ∃ N, w.heap.size = N := ⟨_, rfl⟩
  rw [eN] at x0 x1 x2 x3 r0 r1 r2 r3 f0 f1 f2 f3 st ⊢
  have HN := Lib.hid eN
  clear eN
  go_still_tail 12, (by kernel_rfl)
  change wpList _ _ _ _ _ W.drew
  have ST := Lib.hid (st.out.on (Only.refl [] W).drew)
  clear r0 r1 r2 r3 f0 f1 f2 f3
  obtain ⟨r0, r1, r2, r3⟩ := ST.out.ret.c
  have f0 := ST.out.ret.fr 0
  have f1 := ST.out.ret.fr 1
  have f2 := ST.out.ret.fr 2
  have f3 := ST.out.ret.fr 3
  clear st
  generalize W.drew = W' at *
  go_wp2_with fail
  refine bodyPost_ret ?_ rfl ⟨none, 0, rfl, ?_⟩
  · rw [results_cell1 rfl]; go_simp
  · exact ST.out.fin (M' := M) _ _ _ _
set_option maxHeartbeats 1000000 in
theorem nDo0 (op f a bb : Int) (hop : ¬ (1 ≤ op ∧ op ≤ 6)) : Calls Try.prog 26 #[.pointer (some ⟨b, 0, none⟩), .agg #[.int .i64 op, .int .i64 f, .int .i64 a, .int .i64 bb]] w (Told (NdOf b) M ⟨op, f, a, bb⟩ w O) := by
  have e1 : ¬ op = 1 := by omega
  have e2 : ¬ op = 2 := by omega
  have e3 : ¬ op = 3 := by omega
  have e4 : ¬ op = 4 := by omega
  have e5 : ¬ op = 5 := by omega
  have e6 : ¬ op = 6 := by omega
  have ht : M.todo ⟨op, f, a, bb⟩ = (M, Rt.code 2) := by
    unfold Md.todo
    rw [if_neg e1, if_neg e2, if_neg e3, if_neg e4, if_neg e5, if_neg e6]
  unfold Told
  rw [ht]
  obtain ⟨s, Q, rfl, st0⟩ := nfr_call w b M O h ⟨op, f, a, bb⟩
  simp only at st0
  have st := Lib.hid st0
  have hx : CBox _ w.heap.size ⟨op, f, a, bb⟩ := st0.x
  obtain ⟨x0, x1, x2, x3⟩ := hx.c
  simp only at x0 x1 x2 x3
  obtain ⟨r0, r1, r2, r3⟩ := st0.ret.c
  have f0 := st0.ret.fr 0
  have f1 := st0.ret.fr 1
  have f2 := st0.ret.fr 2
  have f3 := st0.ret.fr 3
  obtain ⟨c0, _, _, _, _, c5, c6⟩ := st0.md.blk.c
  clear hx st0
  have e1' : (op == 1) = false := by simpa using e1
  have e2' : (op == 2) = false := by simpa using e2
  have e3' : (op == 3) = false := by simpa using e3
  have e4' : (op == 4) = false := by simpa using e4
  have e5' : (op == 5) = false := by simpa using e5
  have e6' : (op == 6) = false := by simpa using e6
  clear h ht hop
  go_enter Try.func26, Try.ntmps26
  go_wp2_with fail
  generalize (w.alloc (.cells #[.int .i64 op, .int .i64 f, .int .i64 a, .int .i64 bb] 44)).alloc (.cells #[.int .i64 0, .slice none 0 0, .int .i64 0, .int .u64 0] 47) = W at *
  obtain ⟨N, eN⟩ : ∃ N, w.heap.size = N := ⟨_, rfl⟩
  rw [eN] at x0 x1 x2 x3 r0 r1 r2 r3 f0 f1 f2 f3 st ⊢
  have HN := Lib.hid eN
  clear eN
  refine (nCode _ _).mono ?_
  rintro e W3 ⟨rfl, o3⟩
  have ST := Lib.hid (st.out.on o3)
  clear r0 r1 r2 r3 f0 f1 f2 f3
  obtain ⟨r0, r1, r2, r3⟩ := ST.out.ret.c
  have f0 := ST.out.ret.fr 0
  have f1 := ST.out.ret.fr 1
  have f2 := ST.out.ret.fr 2
  have f3 := ST.out.ret.fr 3
  clear o3 st
  go_wp2_with fail
  refine bodyPost_ret ?_ rfl ⟨none, 0, rfl, ?_⟩
  · rw [results_cell1 rfl]; unfold Rt.code; go_simp
  · exact ST.out.fin (M' := M) _ _ _ _
theorem nDo (c : Cl) (hc : c.ok) (k j : Nat) (hM : M.ok k j) (hk : k < 1000) (hj : j + 16 ≤ 1000000) : Calls Try.prog 26 #[.pointer (some ⟨b, 0, none⟩), .agg #[.int .i64 c.op, .int .i64 c.f, .int .i64 c.a, .int .i64 c.b]] w (Told (NdOf b) M c w O) := by
  obtain ⟨op, f, a, bb⟩ := c
  simp only
  by_cases hop : 1 ≤ op ∧ op ≤ 6
  · have : op = 1 ∨ op = 2 ∨ op = 3 ∨ op = 4 ∨ op = 5 ∨ op = 6 := by omega
    rcases this with rfl | rfl | rfl | rfl | rfl | rfl
    · exact nDo1 w b M O h f a bb hc k j hM hk
    · exact nDo2 w b M O h f a bb
    · exact nDo3 w b M O h f a bb hc
    · exact nDo4 w b M O h f a bb k j hM hj
    · exact nDo5 w b M O h f a bb k j hM hj
    · exact nDo6 w b M O h f a bb
  · exact nDo0 w b M O h op f a bb hop
end
end Go.Proofs.Ytklolepmmabijaa
