/-
  Ours: Do.
-/
import Derived.Test.YtklolepmmabijaaMdW
import Derived.Laws.EntriesVeiled
namespace Go.Proofs.Ytklolepmmabijaa
set_option maxRecDepth 100000
open Go.RowKit
set_option linter.unusedVariables false
set_option linter.unusedSimpArgs false
set_option maxRecDepth 100000

/-- What a call tells, and comes to. -/
def Told (R : Md → World → List Nat → Prop) (M : Md) (c : Cl) (w : World) (O : List Nat) (e : Ending) (w' : World) : Prop :=
  ∃ A cap, e = .returned (.agg #[.int .i64 (M.todo c).2.e, .slice A (M.todo c).2.ps.length cap, .int .i64 (M.todo c).2.n, .int .u64 (M.todo c).2.v]) ∧ Tl (R (M.todo c).1) w O (.slice A (M.todo c).2.ps.length cap) (M.todo c).2.ps w'
theorem oneR_nv (M : Md) : M.oneR.n = 0 ∧ M.oneR.v = 0 := by
  unfold Md.oneR
  split <;> exact ⟨rfl, rfl⟩
/-- The world in which the list of calls is laid. -/
def doW (w : World) (op f a bb : Int) : World := ((w.alloc (.cells #[.int .i64 op, .int .i64 f, .int .i64 a, .int .i64 bb] 44)).alloc (.cells #[.int .i64 0, .slice none 0 0, .int .i64 0, .int .u64 0] 47)).alloc (.cells #[.nilFunc, .func (.func 27) #[] #[], .func (.func 28) #[] #[], .func (.func 29) #[] #[], .func (.func 30) #[] #[], .func (.func 31) #[] #[], .func (.func 32) #[] #[]] 65)
theorem only_do (w : World) (op f a bb : Int) : Only [] w (doW w op f a bb) ∧ CBox (doW w op f a bb) w.heap.size ⟨op, f, a, bb⟩ ∧ RBox (doW w op f a bb) (w.heap.size + 1) 0 (.slice none 0 0) 0 0 ∧ (doW w op f a bb).heap[w.heap.size + 2]? = some (.cells #[.nilFunc, .func (.func 27) #[] #[], .func (.func 28) #[] #[], .func (.func 29) #[] #[], .func (.func 30) #[] #[], .func (.func 31) #[] #[], .func (.func 32) #[] #[]] 65 (0, 0)) := by
  unfold doW
  have b1 := CBox.new w ⟨op, f, a, bb⟩
  have o1 : Only [] w (w.alloc (.cells #[.int .i64 op, .int .i64 f, .int .i64 a, .int .i64 bb] 44)) := (Only.refl [] w).alloc _
  have s1 : (w.alloc (.cells #[.int .i64 op, .int .i64 f, .int .i64 a, .int .i64 bb] 44)).heap.size = w.heap.size + 1 := by simp
  simp only at b1
  generalize w.alloc (.cells #[.int .i64 op, .int .i64 f, .int .i64 a, .int .i64 bb] 44) = W1 at *
  have b2 := RBox.new W1 0 (.slice none 0 0) 0 0
  have o2 : Only [] W1 (W1.alloc (.cells #[.int .i64 0, .slice none 0 0, .int .i64 0, .int .u64 0] 47)) := (Only.refl [] W1).alloc _
  have s2 : (W1.alloc (.cells #[.int .i64 0, .slice none 0 0, .int .i64 0, .int .u64 0] 47)).heap.size = W1.heap.size + 1 := by simp
  generalize W1.alloc (.cells #[.int .i64 0, .slice none 0 0, .int .i64 0, .int .u64 0] 47) = W2 at *
  rw [s1] at b2
  have e2 : W2.heap.size = w.heap.size + 2 := by omega
  have o3 : Only [] W2 (W2.alloc (.cells #[.nilFunc, .func (.func 27) #[] #[], .func (.func 28) #[] #[], .func (.func 29) #[] #[], .func (.func 30) #[] #[], .func (.func 31) #[] #[], .func (.func 32) #[] #[]] 65)) := (Only.refl [] W2).alloc _
  refine ⟨(o1.trans' o2).trans' o3, (b1.only0 o2).only0 o3, b2.only0 o3, ?_⟩
  rw [← e2]
  exact heap_alloc_new W2 _
section
variable (w : World) (b : Nat) (M : Md) (O : List Nat) (h : MdOf b M w O)
include h
theorem mTo1 (f a bb : Int) (hc : (⟨1, f, a, bb⟩ : Cl).ok) (k j : Nat) (hM : M.ok k j) (hk : k < 1000) : Calls Try.prog 27 #[.pointer (some ⟨b, 0, none⟩), .agg #[.int .i64 1, .int .i64 f, .int .i64 a, .int .i64 bb]] w (Told (MdOf b) M ⟨1, f, a, bb⟩ w O) := by
  have ht : M.todo ⟨1, f, a, bb⟩ = (if M.regE ⟨1, f, a, bb⟩ = 0 then M.reg ⟨1, f, a, bb⟩ else M, Rt.code (M.regE ⟨1, f, a, bb⟩)) := by unfold Md.todo; rw [if_pos rfl]
  refine (mRegister w b M O h ⟨1, f, a, bb⟩ hc k j hM hk).mono fun e w' q => ?_
  unfold Told
  rw [ht]
  exact ⟨none, 0, q.1, q.2⟩
theorem mTo2 (f a bb : Int) (hc : (⟨2, f, a, bb⟩ : Cl).ok) : Calls Try.prog 28 #[.pointer (some ⟨b, 0, none⟩), .agg #[.int .i64 2, .int .i64 f, .int .i64 a, .int .i64 bb]] w (Told (MdOf b) M ⟨2, f, a, bb⟩ w O) := by
  have ht : M.todo ⟨2, f, a, bb⟩ = (M.rem f, Rt.code (M.S.remE f)) := by unfold Md.todo; rw [if_neg (by simp), if_pos rfl]
  refine (mShut w b M O h ⟨2, f, a, bb⟩ hc).mono fun e w' q => ?_
  unfold Told
  rw [ht]
  exact ⟨none, 0, q.1, q.2⟩
theorem mTo3 (f a bb : Int) (hc : (⟨3, f, a, bb⟩ : Cl).ok) : Calls Try.prog 29 #[.pointer (some ⟨b, 0, none⟩), .agg #[.int .i64 3, .int .i64 f, .int .i64 a, .int .i64 bb]] w (Told (MdOf b) M ⟨3, f, a, bb⟩ w O) := by
  have ht : M.todo ⟨3, f, a, bb⟩ = (if 1 ≤ a ∧ a ≤ 65536 then (M.arr ⟨f, a, bb⟩, Rt.code (M.S.arrE ⟨f, a, bb⟩)) else (M, Rt.code 3)) := by unfold Md.todo; rw [if_neg (by simp), if_neg (by simp), if_pos rfl]
  refine (mEnqueue w b M O h ⟨3, f, a, bb⟩ hc).mono fun e w' q => ?_
  unfold Told
  rw [ht]
  simp only at q
  by_cases ha : 1 ≤ a ∧ a ≤ 65536
  · rw [if_pos ha, if_pos ha] at q
    rw [if_pos ha]
    exact ⟨none, 0, q.1, q.2⟩
  · rw [if_neg ha, if_neg ha] at q
    rw [if_neg ha]
    exact ⟨none, 0, q.1, q.2⟩
theorem mTo4 (f a bb : Int) (k j : Nat) (hM : M.ok k j) (hj : j + 16 ≤ 1000000) : Calls Try.prog 30 #[.pointer (some ⟨b, 0, none⟩), .agg #[.int .i64 4, .int .i64 f, .int .i64 a, .int .i64 bb]] w (Told (MdOf b) M ⟨4, f, a, bb⟩ w O) := by
  have ht : M.todo ⟨4, f, a, bb⟩ = (M.one, M.oneR) := by unfold Md.todo; rw [if_neg (by simp), if_neg (by simp), if_neg (by simp), if_pos rfl]
  refine (mDequeue w b M O h ⟨4, f, a, bb⟩ k j hM (by omega)).mono fun e w' q => ?_
  unfold Told
  rw [ht]
  obtain ⟨A, cap, q1, q2⟩ := q
  have hnv := oneR_nv M
  refine ⟨A, cap, ?_, q2⟩
  simp only [hnv.1, hnv.2]
  exact q1
theorem mTo5 (f a bb : Int) (k j : Nat) (hM : M.ok k j) (hj : j + 16 ≤ 1000000) : Calls Try.prog 31 #[.pointer (some ⟨b, 0, none⟩), .agg #[.int .i64 5, .int .i64 f, .int .i64 a, .int .i64 bb]] w (Told (MdOf b) M ⟨5, f, a, bb⟩ w O) := by
  have ht : M.todo ⟨5, f, a, bb⟩ = (if 1 ≤ a ∧ a ≤ 16 then M.bat a.toNat else (M, Rt.code 1)) := by unfold Md.todo; rw [if_neg (by simp), if_neg (by simp), if_neg (by simp), if_neg (by simp), if_pos rfl]
  unfold Told
  rw [ht]
  by_cases ha : 1 ≤ a ∧ a ≤ 16
  · rw [if_pos ha]
    obtain ⟨n, rfl⟩ : ∃ n : Nat, a = (n : Int) := ⟨a.toNat, by omega⟩
    rw [Int.toNat_natCast]
    refine (mBatchIn w b M O h 5 f bb n (by omega) (by omega) k j hM hj).mono fun e w' q => ?_
    obtain ⟨A, cap, q1, q2⟩ := q
    have hnv := M.bat_nv n
    refine ⟨A, cap, ?_, q2⟩
    rw [hnv.1, hnv.2]
    exact q1
  · rw [if_neg ha]
    refine (mBatchOut w b M O h ⟨5, f, a, bb⟩ ha).mono fun e w' q => ⟨none, 0, q.1, q.2⟩
theorem mTo6 (f a bb : Int) : Calls Try.prog 32 #[.pointer (some ⟨b, 0, none⟩), .agg #[.int .i64 6, .int .i64 f, .int .i64 a, .int .i64 bb]] w (Told (MdOf b) M ⟨6, f, a, bb⟩ w O) := by
  have ht : M.todo ⟨6, f, a, bb⟩ = (M, ⟨0, [], M.n, M.S.v⟩) := by unfold Md.todo; rw [if_neg (by simp), if_neg (by simp), if_neg (by simp), if_neg (by simp), if_neg (by simp), if_pos rfl]
  refine (mStats w b M O h ⟨6, f, a, bb⟩).mono fun e w' q => ?_
  unfold Told
  rw [ht]
  exact ⟨none, 0, q.1, q.2⟩
-- DO
set_option maxHeartbeats 1000000 in
theorem mDo1 (f a bb : Int) (hc : (⟨1, f, a, bb⟩ : Cl).ok) (k j : Nat) (hM : M.ok k j) (hk : k < 1000) : Calls Try.prog 16 #[.pointer (some ⟨b, 0, none⟩), .agg #[.int .i64 1, .int .i64 f, .int .i64 a, .int .i64 bb]] w (Told (MdOf b) M ⟨1, f, a, bb⟩ w O) := by
  have oA := only_do w 1 f a bb
  have k0 := mTo1 _ b M O ((rep_md b M).only h (oA.1.drew) (by simp)) f a bb hc k j hM hk
  have hO := (rep_md b M).lt h
  have b0 := oA.2.1
  have b1 := oA.2.2.1
  have b2 := oA.2.2.2
  obtain ⟨x0, x1, x2, x3⟩ := b0.c
  have y : (doW w 1 f a bb).cell? ⟨w.heap.size + 2, 1, none⟩ = some (.func (.func 27) #[] #[]) := by rw [cell_of_row _ _ 1 _ _ _ b2]; rfl
  have HK := Lib.hid (And.intro oA.1 (And.intro b1 hO))
  have kw := mWithin 1 1 6 (doW w 1 f a bb)
  rw [decide_eq_true (show (1 : Int) ≤ 1 ∧ (1 : Int) ≤ 6 by omega)] at kw
  simp only at x0 x1 x2 x3
  clear h oA b0 b1 b2 hO
  go_enter Try.func16, Try.ntmps16
  go_wp2_with fail
  refine kw.mono ?_
  rintro e W1 ⟨rfl, rfl⟩
  generalize doW w 1 f a bb = W at *
  obtain ⟨N, eN⟩ : ∃ N, w.heap.size = N := ⟨_, rfl⟩
  rw [eN] at x0 x1 x2 x3 y HK ⊢
  have HN := Lib.hid eN
  clear kw eN
  go_wp2_with fail
  go_still_tail 6, (by kernel_rfl)
  change wpList _ _ _ _ _ W.drew
  go_wp2_with fail
  refine k0.mono ?_
  rintro e W2 ⟨A, cap, rfl, t2⟩
  obtain ⟨r, er⟩ : ∃ r, (M.todo ⟨1, f, a, bb⟩).2 = r := ⟨_, rfl⟩
  rw [er] at t2 ⊢
  have ER := Lib.hid er
  obtain ⟨o1, b1, hO⟩ := HK.out
  have rb : RBox W2 (N + 1) 0 (.slice none 0 0) 0 0 := by
    obtain ⟨O2, _, hw, _⟩ := t2
    exact (b1.only0 (Only.refl [] W).drew).only hw.1 (fun hk => by have := hO _ hk; have := HN.out; omega)
  obtain ⟨d0, d1, d2, d3⟩ := rb.c
  have f0 := rb.fr 0
  have f1 := rb.fr 1
  have f2 := rb.fr 2
  have f3 := rb.fr 3
  have T2 := Lib.hid t2
  clear er t2 rb o1 b1 hO k0 x0 x1 x2 x3 y
  go_wp2_with fail
  refine bodyPost_ret ?_ rfl ⟨A, cap, rfl, ?_⟩
  · rw [results_cell1 rfl, ER.out]; go_simp
  · rw [ER.out]
    obtain ⟨o1, b1, hO⟩ := HK.out
    exact Tl.boxed (rep_md b _) o1.drew T2.out (N := N + 1) (by have := HN.out; omega) b1.lt (by rw [HN.out]; exact hO) (only_ret _ _ _ _ _ _)
set_option maxHeartbeats 1000000 in
theorem mDo2 (f a bb : Int) (hc : (⟨2, f, a, bb⟩ : Cl).ok) : Calls Try.prog 16 #[.pointer (some ⟨b, 0, none⟩), .agg #[.int .i64 2, .int .i64 f, .int .i64 a, .int .i64 bb]] w (Told (MdOf b) M ⟨2, f, a, bb⟩ w O) := by
  have oA := only_do w 2 f a bb
  have k0 := mTo2 _ b M O ((rep_md b M).only h (oA.1.drew) (by simp)) f a bb hc
  have hO := (rep_md b M).lt h
  have b0 := oA.2.1
  have b1 := oA.2.2.1
  have b2 := oA.2.2.2
  obtain ⟨x0, x1, x2, x3⟩ := b0.c
  have y : (doW w 2 f a bb).cell? ⟨w.heap.size + 2, 2, none⟩ = some (.func (.func 28) #[] #[]) := by rw [cell_of_row _ _ 2 _ _ _ b2]; rfl
  have HK := Lib.hid (And.intro oA.1 (And.intro b1 hO))
  have kw := mWithin 2 1 6 (doW w 2 f a bb)
  rw [decide_eq_true (show (1 : Int) ≤ 2 ∧ (2 : Int) ≤ 6 by omega)] at kw
  simp only at x0 x1 x2 x3
  clear h oA b0 b1 b2 hO
  go_enter Try.func16, Try.ntmps16
  go_wp2_with fail
  refine kw.mono ?_
  rintro e W1 ⟨rfl, rfl⟩
  generalize doW w 2 f a bb = W at *
  obtain ⟨N, eN⟩ : ∃ N, w.heap.size = N := ⟨_, rfl⟩
  rw [eN] at x0 x1 x2 x3 y HK ⊢
  have HN := Lib.hid eN
  clear kw eN
  go_wp2_with fail
  go_still_tail 6, (by kernel_rfl)
  change wpList _ _ _ _ _ W.drew
  go_wp2_with fail
  refine k0.mono ?_
  rintro e W2 ⟨A, cap, rfl, t2⟩
  obtain ⟨r, er⟩ : ∃ r, (M.todo ⟨2, f, a, bb⟩).2 = r := ⟨_, rfl⟩
  rw [er] at t2 ⊢
  have ER := Lib.hid er
  obtain ⟨o1, b1, hO⟩ := HK.out
  have rb : RBox W2 (N + 1) 0 (.slice none 0 0) 0 0 := by
    obtain ⟨O2, _, hw, _⟩ := t2
    exact (b1.only0 (Only.refl [] W).drew).only hw.1 (fun hk => by have := hO _ hk; have := HN.out; omega)
  obtain ⟨d0, d1, d2, d3⟩ := rb.c
  have f0 := rb.fr 0
  have f1 := rb.fr 1
  have f2 := rb.fr 2
  have f3 := rb.fr 3
  have T2 := Lib.hid t2
  clear er t2 rb o1 b1 hO k0 x0 x1 x2 x3 y
  go_wp2_with fail
  refine bodyPost_ret ?_ rfl ⟨A, cap, rfl, ?_⟩
  · rw [results_cell1 rfl, ER.out]; go_simp
  · rw [ER.out]
    obtain ⟨o1, b1, hO⟩ := HK.out
    exact Tl.boxed (rep_md b _) o1.drew T2.out (N := N + 1) (by have := HN.out; omega) b1.lt (by rw [HN.out]; exact hO) (only_ret _ _ _ _ _ _)
set_option maxHeartbeats 1000000 in
theorem mDo3 (f a bb : Int) (hc : (⟨3, f, a, bb⟩ : Cl).ok) : Calls Try.prog 16 #[.pointer (some ⟨b, 0, none⟩), .agg #[.int .i64 3, .int .i64 f, .int .i64 a, .int .i64 bb]] w (Told (MdOf b) M ⟨3, f, a, bb⟩ w O) := by
  have oA := only_do w 3 f a bb
  have k0 := mTo3 _ b M O ((rep_md b M).only h (oA.1.drew) (by simp)) f a bb hc
  have hO := (rep_md b M).lt h
  have b0 := oA.2.1
  have b1 := oA.2.2.1
  have b2 := oA.2.2.2
  obtain ⟨x0, x1, x2, x3⟩ := b0.c
  have y : (doW w 3 f a bb).cell? ⟨w.heap.size + 2, 3, none⟩ = some (.func (.func 29) #[] #[]) := by rw [cell_of_row _ _ 3 _ _ _ b2]; rfl
  have HK := Lib.hid (And.intro oA.1 (And.intro b1 hO))
  have kw := mWithin 3 1 6 (doW w 3 f a bb)
  rw [decide_eq_true (show (1 : Int) ≤ 3 ∧ (3 : Int) ≤ 6 by omega)] at kw
  simp only at x0 x1 x2 x3
  clear h oA b0 b1 b2 hO
  go_enter Try.func16, Try.ntmps16
  go_wp2_with fail
  refine kw.mono ?_
  rintro e W1 ⟨rfl, rfl⟩
  generalize doW w 3 f a bb = W at *
  obtain ⟨N, eN⟩ : ∃ N, w.heap.size = N := ⟨_, rfl⟩
  rw [eN] at x0 x1 x2 x3 y HK ⊢
  have HN := Lib.hid eN
  clear kw eN
  go_wp2_with fail
  go_still_tail 6, (by kernel_rfl)
  change wpList _ _ _ _ _ W.drew
  go_wp2_with fail
  refine k0.mono ?_
  rintro e W2 ⟨A, cap, rfl, t2⟩
  obtain ⟨r, er⟩ : ∃ r, (M.todo ⟨3, f, a, bb⟩).2 = r := ⟨_, rfl⟩
  rw [er] at t2 ⊢
  have ER := Lib.hid er
  obtain ⟨o1, b1, hO⟩ := HK.out
  have rb : RBox W2 (N + 1) 0 (.slice none 0 0) 0 0 := by
    obtain ⟨O2, _, hw, _⟩ := t2
    exact (b1.only0 (Only.refl [] W).drew).only hw.1 (fun hk => by have := hO _ hk; have := HN.out; omega)
  obtain ⟨d0, d1, d2, d3⟩ := rb.c
  have f0 := rb.fr 0
  have f1 := rb.fr 1
  have f2 := rb.fr 2
  have f3 := rb.fr 3
  have T2 := Lib.hid t2
  clear er t2 rb o1 b1 hO k0 x0 x1 x2 x3 y
  go_wp2_with fail
  refine bodyPost_ret ?_ rfl ⟨A, cap, rfl, ?_⟩
  · rw [results_cell1 rfl, ER.out]; go_simp
  · rw [ER.out]
    obtain ⟨o1, b1, hO⟩ := HK.out
    exact Tl.boxed (rep_md b _) o1.drew T2.out (N := N + 1) (by have := HN.out; omega) b1.lt (by rw [HN.out]; exact hO) (only_ret _ _ _ _ _ _)
set_option maxHeartbeats 1000000 in
theorem mDo4 (f a bb : Int) (k j : Nat) (hM : M.ok k j) (hj : j + 16 ≤ 1000000) : Calls Try.prog 16 #[.pointer (some ⟨b, 0, none⟩), .agg #[.int .i64 4, .int .i64 f, .int .i64 a, .int .i64 bb]] w (Told (MdOf b) M ⟨4, f, a, bb⟩ w O) := by
  have oA := only_do w 4 f a bb
  have k0 := mTo4 _ b M O ((rep_md b M).only h (oA.1.drew) (by simp)) f a bb k j hM hj
  have hO := (rep_md b M).lt h
  have b0 := oA.2.1
  have b1 := oA.2.2.1
  have b2 := oA.2.2.2
  obtain ⟨x0, x1, x2, x3⟩ := b0.c
  have y : (doW w 4 f a bb).cell? ⟨w.heap.size + 2, 4, none⟩ = some (.func (.func 30) #[] #[]) := by rw [cell_of_row _ _ 4 _ _ _ b2]; rfl
  have HK := Lib.hid (And.intro oA.1 (And.intro b1 hO))
  have kw := mWithin 4 1 6 (doW w 4 f a bb)
  rw [decide_eq_true (show (1 : Int) ≤ 4 ∧ (4 : Int) ≤ 6 by omega)] at kw
  simp only at x0 x1 x2 x3
  clear h oA b0 b1 b2 hO
  go_enter Try.func16, Try.ntmps16
  go_wp2_with fail
  refine kw.mono ?_
  rintro e W1 ⟨rfl, rfl⟩
  generalize doW w 4 f a bb = W at *
  obtain ⟨N, eN⟩ : ∃ N, w.heap.size = N := ⟨_, rfl⟩
  rw [eN] at x0 x1 x2 x3 y HK ⊢
  have HN := Lib.hid eN
  clear kw eN
  go_wp2_with fail
  go_still_tail 6, (by kernel_rfl)
  change wpList _ _ _ _ _ W.drew
  go_wp2_with fail
  refine k0.mono ?_
  rintro e W2 ⟨A, cap, rfl, t2⟩
  obtain ⟨r, er⟩ : ∃ r, (M.todo ⟨4, f, a, bb⟩).2 = r := ⟨_, rfl⟩
  rw [er] at t2 ⊢
  have ER := Lib.hid er
  obtain ⟨o1, b1, hO⟩ := HK.out
  have rb : RBox W2 (N + 1) 0 (.slice none 0 0) 0 0 := by
    obtain ⟨O2, _, hw, _⟩ := t2
    exact (b1.only0 (Only.refl [] W).drew).only hw.1 (fun hk => by have := hO _ hk; have := HN.out; omega)
  obtain ⟨d0, d1, d2, d3⟩ := rb.c
  have f0 := rb.fr 0
  have f1 := rb.fr 1
  have f2 := rb.fr 2
  have f3 := rb.fr 3
  have T2 := Lib.hid t2
  clear er t2 rb o1 b1 hO k0 x0 x1 x2 x3 y
  go_wp2_with fail
  refine bodyPost_ret ?_ rfl ⟨A, cap, rfl, ?_⟩
  · rw [results_cell1 rfl, ER.out]; go_simp
  · rw [ER.out]
    obtain ⟨o1, b1, hO⟩ := HK.out
    exact Tl.boxed (rep_md b _) o1.drew T2.out (N := N + 1) (by have := HN.out; omega) b1.lt (by rw [HN.out]; exact hO) (only_ret _ _ _ _ _ _)
set_option maxHeartbeats 1000000 in
theorem mDo5 (f a bb : Int) (k j : Nat) (hM : M.ok k j) (hj : j + 16 ≤ 1000000) : Calls Try.prog 16 #[.pointer (some ⟨b, 0, none⟩), .agg #[.int .i64 5, .int .i64 f, .int .i64 a, .int .i64 bb]] w (Told (MdOf b) M ⟨5, f, a, bb⟩ w O) := by
  have oA := only_do w 5 f a bb
  have k0 := mTo5 _ b M O ((rep_md b M).only h (oA.1.drew) (by simp)) f a bb k j hM hj
  have hO := (rep_md b M).lt h
  have b0 := oA.2.1
  have b1 := oA.2.2.1
  have b2 := oA.2.2.2
  obtain ⟨x0, x1, x2, x3⟩ := b0.c
  have y : (doW w 5 f a bb).cell? ⟨w.heap.size + 2, 5, none⟩ = some (.func (.func 31) #[] #[]) := by rw [cell_of_row _ _ 5 _ _ _ b2]; rfl
  have HK := Lib.hid (And.intro oA.1 (And.intro b1 hO))
  have kw := mWithin 5 1 6 (doW w 5 f a bb)
  rw [decide_eq_true (show (1 : Int) ≤ 5 ∧ (5 : Int) ≤ 6 by omega)] at kw
  simp only at x0 x1 x2 x3
  clear h oA b0 b1 b2 hO
  go_enter Try.func16, Try.ntmps16
  go_wp2_with fail
  refine kw.mono ?_
  rintro e W1 ⟨rfl, rfl⟩
  generalize doW w 5 f a bb = W at *
  obtain ⟨N, eN⟩ : ∃ N, w.heap.size = N := ⟨_, rfl⟩
  rw [eN] at x0 x1 x2 x3 y HK ⊢
  have HN := Lib.hid eN
  clear kw eN
  go_wp2_with fail
  go_still_tail 6, (by kernel_rfl)
  change wpList _ _ _ _ _ W.drew
  go_wp2_with fail
  refine k0.mono ?_
  rintro e W2 ⟨A, cap, rfl, t2⟩
  obtain ⟨r, er⟩ : ∃ r, (M.todo ⟨5, f, a, bb⟩).2 = r := ⟨_, rfl⟩
  rw [er] at t2 ⊢
  have ER := Lib.hid er
  obtain ⟨o1, b1, hO⟩ := HK.out
  have rb : RBox W2 (N + 1) 0 (.slice none 0 0) 0 0 := by
    obtain ⟨O2, _, hw, _⟩ := t2
    exact (b1.only0 (Only.refl [] W).drew).only hw.1 (fun hk => by have := hO _ hk; have := HN.out; omega)
  obtain ⟨d0, d1, d2, d3⟩ := rb.c
  have f0 := rb.fr 0
  have f1 := rb.fr 1
  have f2 := rb.fr 2
  have f3 := rb.fr 3
  have T2 := Lib.hid t2
  clear er t2 rb o1 b1 hO k0 x0 x1 x2 x3 y
  go_wp2_with fail
  refine bodyPost_ret ?_ rfl ⟨A, cap, rfl, ?_⟩
  · rw [results_cell1 rfl, ER.out]; go_simp
  · rw [ER.out]
    obtain ⟨o1, b1, hO⟩ := HK.out
    exact Tl.boxed (rep_md b _) o1.drew T2.out (N := N + 1) (by have := HN.out; omega) b1.lt (by rw [HN.out]; exact hO) (only_ret _ _ _ _ _ _)
set_option maxHeartbeats 1000000 in
theorem mDo6 (f a bb : Int) : Calls Try.prog 16 #[.pointer (some ⟨b, 0, none⟩), .agg #[.int .i64 6, .int .i64 f, .int .i64 a, .int .i64 bb]] w (Told (MdOf b) M ⟨6, f, a, bb⟩ w O) := by
  have oA := only_do w 6 f a bb
  have k0 := mTo6 _ b M O ((rep_md b M).only h (oA.1.drew) (by simp)) f a bb 
  have hO := (rep_md b M).lt h
  have b0 := oA.2.1
  have b1 := oA.2.2.1
  have b2 := oA.2.2.2
  obtain ⟨x0, x1, x2, x3⟩ := b0.c
  have y : (doW w 6 f a bb).cell? ⟨w.heap.size + 2, 6, none⟩ = some (.func (.func 32) #[] #[]) := by rw [cell_of_row _ _ 6 _ _ _ b2]; rfl
  have HK := Lib.hid (And.intro oA.1 (And.intro b1 hO))
  have kw := mWithin 6 1 6 (doW w 6 f a bb)
  rw [decide_eq_true (show (1 : Int) ≤ 6 ∧ (6 : Int) ≤ 6 by omega)] at kw
  simp only at x0 x1 x2 x3
  clear h oA b0 b1 b2 hO
  go_enter Try.func16, Try.ntmps16
  go_wp2_with fail
  refine kw.mono ?_
  rintro e W1 ⟨rfl, rfl⟩
  generalize doW w 6 f a bb = W at *
  obtain ⟨N, eN⟩ : ∃ N, w.heap.size = N := ⟨_, rfl⟩
  rw [eN] at x0 x1 x2 x3 y HK ⊢
  have HN := Lib.hid eN
  clear kw eN
  go_wp2_with fail
  go_still_tail 6, (by kernel_rfl)
  change wpList _ _ _ _ _ W.drew
  go_wp2_with fail
  refine k0.mono ?_
  rintro e W2 ⟨A, cap, rfl, t2⟩
  obtain ⟨r, er⟩ : ∃ r, (M.todo ⟨6, f, a, bb⟩).2 = r := ⟨_, rfl⟩
  rw [er] at t2 ⊢
  have ER := Lib.hid er
  obtain ⟨o1, b1, hO⟩ := HK.out
  have rb : RBox W2 (N + 1) 0 (.slice none 0 0) 0 0 := by
    obtain ⟨O2, _, hw, _⟩ := t2
    exact (b1.only0 (Only.refl [] W).drew).only hw.1 (fun hk => by have := hO _ hk; have := HN.out; omega)
  obtain ⟨d0, d1, d2, d3⟩ := rb.c
  have f0 := rb.fr 0
  have f1 := rb.fr 1
  have f2 := rb.fr 2
  have f3 := rb.fr 3
  have T2 := Lib.hid t2
  clear er t2 rb o1 b1 hO k0 x0 x1 x2 x3 y
  go_wp2_with fail
  refine bodyPost_ret ?_ rfl ⟨A, cap, rfl, ?_⟩
  · rw [results_cell1 rfl, ER.out]; go_simp
  · rw [ER.out]
    obtain ⟨o1, b1, hO⟩ := HK.out
    exact Tl.boxed (rep_md b _) o1.drew T2.out (N := N + 1) (by have := HN.out; omega) b1.lt (by rw [HN.out]; exact hO) (only_ret _ _ _ _ _ _)
-- END DO
set_option maxHeartbeats 1000000 in
theorem mDo0 (op f a bb : Int) (hop : ¬ (1 ≤ op ∧ op ≤ 6)) : Calls Try.prog 16 #[.pointer (some ⟨b, 0, none⟩), .agg #[.int .i64 op, .int .i64 f, .int .i64 a, .int .i64 bb]] w (Told (MdOf b) M ⟨op, f, a, bb⟩ w O) := by
  have ht : M.todo ⟨op, f, a, bb⟩ = (M, Rt.code 2) := by
    unfold Md.todo
    rw [if_neg (by show ¬ op = 1; omega), if_neg (by show ¬ op = 2; omega), if_neg (by show ¬ op = 3; omega), if_neg (by show ¬ op = 4; omega), if_neg (by show ¬ op = 5; omega), if_neg (by show ¬ op = 6; omega)]
  unfold Told
  rw [ht]
  have oA := only_do w op f a bb
  have h2 : MdOf b M (doW w op f a bb) O := (rep_md b M).only h oA.1 (by simp)
  have hO := (rep_md b M).lt h
  have b1 := oA.2.2.1
  obtain ⟨d0, d1, d2, d3⟩ := b1.c
  have f0 := b1.fr 0
  have f1 := b1.fr 1
  have f2 := b1.fr 2
  have f3 := b1.fr 3
  have HK := Lib.hid (And.intro oA.1 (And.intro b1 (And.intro hO h2)))
  have kw := mWithin op 1 6 (doW w op f a bb)
  rw [decide_eq_false hop] at kw
  clear h oA b1 hO h2 hop ht
  go_enter Try.func16, Try.ntmps16
  go_wp2_with fail
  refine kw.mono ?_
  rintro e W1 ⟨rfl, rfl⟩
  generalize doW w op f a bb = W at *
  obtain ⟨N, eN⟩ : ∃ N, w.heap.size = N := ⟨_, rfl⟩
  rw [eN] at d0 d1 d2 d3 f0 f1 f2 f3 HK ⊢
  have HN := Lib.hid eN
  clear kw eN
  go_wp2_with fail
  refine bodyPost_ret ?_ rfl ⟨none, 0, rfl, ?_⟩
  · rw [results_cell1 rfl]; unfold Rt.code; go_simp
  · obtain ⟨o1, b1, hO, h2⟩ := HK.out
    exact Tl.boxed (rep_md b _) o1 (Tl.plain h2 (Went.refl _ _)) (N := N + 1) (by have := HN.out; omega) b1.lt (by rw [HN.out]; exact hO) (only_ret _ _ _ _ _ _)
theorem mDo (c : Cl) (hc : c.ok) (k j : Nat) (hM : M.ok k j) (hk : k < 1000) (hj : j + 16 ≤ 1000000) : Calls Try.prog 16 #[.pointer (some ⟨b, 0, none⟩), .agg #[.int .i64 c.op, .int .i64 c.f, .int .i64 c.a, .int .i64 c.b]] w (Told (MdOf b) M c w O) := by
  obtain ⟨op, f, a, bb⟩ := c
  simp only
  by_cases hop : 1 ≤ op ∧ op ≤ 6
  · have : op = 1 ∨ op = 2 ∨ op = 3 ∨ op = 4 ∨ op = 5 ∨ op = 6 := by omega
    rcases this with rfl | rfl | rfl | rfl | rfl | rfl
    · exact mDo1 w b M O h f a bb hc k j hM hk
    · exact mDo2 w b M O h f a bb hc
    · exact mDo3 w b M O h f a bb hc
    · exact mDo4 w b M O h f a bb k j hM hj
    · exact mDo5 w b M O h f a bb k j hM hj
    · exact mDo6 w b M O h f a bb
  · exact mDo0 w b M O h op f a bb hop
end
end Go.Proofs.Ytklolepmmabijaa
