/-
  awake.
-/
import Derived.Test.YtklolepmmabijaaMdX
namespace Go.Proofs.Ytklolepmmabijaa
set_option maxRecDepth 100000
open Go.RowKit
set_option linter.unusedVariables false
set_option linter.unusedSimpArgs false
set_option maxRecDepth 100000

/-- The error of an answer that is not laid anywhere. -/
theorem ret_e (e : Int) (a b c : Value) (W : World) : (Instr.field 47 (.agg #[.int .i64 e, a, b, c]) 0).run Try.prog W = .ok (.int .i64 e) W := by
  have a1 := Try.isAgg27
  simp [Instr.field, run_underlying Try.underlying47, asAgg, part, go_sem, Result.andThen, a1]
def mwC : Cf := ⟨2, 1, 1, 0, 100⟩
def mw0 : Md := ⟨mwC, Sq.new, 0⟩
def mw1 : Md := (mw0.todo ⟨1, 1, 1, 2⟩).1
def mw2 : Md := (mw1.todo ⟨3, 1, 5, 9⟩).1
def mw3 : Md := (mw2.todo ⟨4, 0, 0, 0⟩).1
def mw4 : Md := (mw3.todo ⟨4, 0, 0, 0⟩).1
def mw5 : Md := (mw4.todo ⟨7, 0, 0, 0⟩).1
theorem mw_facts : ((mw0.todo ⟨1, 1, 1, 2⟩).2.e = 0 ∧ (mw1.todo ⟨3, 1, 5, 9⟩).2.e = 0 ∧ (mw2.todo ⟨4, 0, 0, 0⟩).2.e = 0 ∧ (mw2.todo ⟨4, 0, 0, 0⟩).2.ps.length = 1 ∧ (mw2.todo ⟨4, 0, 0, 0⟩).2.ps = [⟨1, 5, 9⟩]) ∧ (mw3.todo ⟨4, 0, 0, 0⟩).2.e = 10 ∧ (mw4.todo ⟨7, 0, 0, 0⟩).2.e = 2 ∧ mw5.S.v = 500 ∧ mw5.n = 1 := by decide +kernel
theorem i64s (a b c d : Int) (h : 0 ≤ a ∧ a ≤ 1000000 ∧ 0 ≤ b ∧ b ≤ 1000000 ∧ 0 ≤ c ∧ c ≤ 1000000 ∧ 0 ≤ d ∧ d ≤ 1000000) : (⟨a, b, c, d⟩ : Cl).ok := ⟨i64_of (by simp only; omega), i64_of (by simp only; omega), i64_of (by simp only; omega), i64_of (by simp only; omega)⟩
theorem mwC_right : mwC.right := by constructor <;> decide
theorem mw0_ok : mw0.ok 0 0 := ⟨mwC_right, Sq.ok.new, by intro e he; simp [mw0, Sq.new] at he, Nat.le_refl _, Int.le_refl _, Int.le_refl _⟩
theorem mw1_ok : mw1.ok 1 16 := mw0_ok.todo (i64s _ _ _ _ (by decide)) (by decide)
theorem mw2_ok : mw2.ok 2 32 := mw1_ok.todo (i64s _ _ _ _ (by decide)) (by decide)
theorem mw3_ok : mw3.ok 3 48 := mw2_ok.todo (i64s _ _ _ _ (by decide)) (by decide)
theorem mw4_ok : mw4.ok 4 64 := mw3_ok.todo (i64s _ _ _ _ (by decide)) (by decide)
/-- Ours alone, in new memory. -/
structure Mo (w0 wr : World) (b : Nat) (M : Md) (O : List Nat) : Prop where
  fl : MdOf b M wr O
  new : ∀ k ∈ O, w0.heap.size ≤ k
  only : Only [] w0 wr
section
variable {w0 wr w' : World} {b : Nat} {M M' : Md} {O : List Nat} {v : Value} {ps : List Pk}
theorem Mo.on (h : Mo w0 wr b M O) (ho : Only [] wr w') : Mo w0 w' b M O := ⟨(rep_md b M).only h.fl ho (by simp), h.new, h.only.trans' ho⟩
theorem Mo.went {O' : List Nat} (h : Mo w0 wr b M O) (hd : MdOf b M' w' O') (hw : Went wr O w' O') : Mo w0 w' b M' O' :=
  ⟨hd, fun k hk => (hw.2 k hk).elim (h.new k) (fun h2 => Nat.le_trans h.only.size h2), h.only.trans hw.1 (fun k hk => .inr (h.new k hk))⟩
theorem Mo.tl (h : Mo w0 wr b M O) (t : Tl (MdOf b M') wr O v ps w') : ∃ O', Mo w0 w' b M' O' ∧ PRow w' v ps ∧ ∀ g, v.ownBlock = some g → wr.heap.size ≤ g ∧ g ∉ O' := by
  obtain ⟨O', r, g, hp, hn⟩ := t
  exact ⟨O', h.went r g, hp, hn⟩
end
set_option maxHeartbeats 4000000 in
theorem mAwake (w : World) : Calls Try.prog 7 #[] w fun e w' => e = .returned (.bool true) ∧ Only [] w w' := by
  obtain ⟨⟨f1, f2, f3, f4, f5⟩, f6, f7, f8, f9⟩ := mw_facts
  have hpk : ∀ W, (binOp .eql 58 (.agg #[.int .i64 1, .int .i64 5, .int .i64 9]) (.agg #[.int .i64 1, .int .i64 5, .int .i64 9])).run Try.prog W = .ok (.bool true) W := fun W => by
    have := pk_eql ⟨1, 5, 9⟩ ⟨1, 5, 9⟩ W
    simpa using this
  have hfe := ret_e
  go_enter Try.func7, Try.ntmps7
  go_wp2_with fail
  refine (mNew mwC mwC_right w).mono ?_
  rintro e w1 ⟨b, rfl, O1, h1, o1, n1⟩
  have S1 : Hid (Mo w w1 b mw0 O1) := ⟨h1, n1, o1⟩
  have k1 := mDo w1 b mw0 O1 h1 ⟨1, 1, 1, 2⟩ (i64s _ _ _ _ (by decide)) 0 0 mw0_ok (by decide) (by decide)
  unfold Told at k1
  rw [f1] at k1
  clear h1 o1 n1 f1
  go_wp2_with fail
  refine k1.mono ?_
  rintro e w2 ⟨A2, c2, rfl, t2⟩
  obtain ⟨O2, s2, _⟩ := S1.out.tl t2
  have S2 : Hid (Mo w w2 b mw1 O2) := s2
  have k2 := mDo w2 b mw1 O2 s2.fl ⟨3, 1, 5, 9⟩ (i64s _ _ _ _ (by decide)) 1 16 mw1_ok (by decide) (by decide)
  unfold Told at k2
  rw [f2] at k2
  clear k1 t2 s2 S1 f2
  go_wp2_with fail
  refine k2.mono ?_
  rintro e w3 ⟨A3, c3, rfl, t3⟩
  obtain ⟨O3, s3, _⟩ := S2.out.tl t3
  have S3 : Hid (Mo w w3 b mw2 O3) := s3
  have k3 := mDo w3 b mw2 O3 s3.fl ⟨4, 0, 0, 0⟩ (i64s _ _ _ _ (by decide)) 2 32 mw2_ok (by decide) (by decide)
  unfold Told at k3
  rw [f3, f4, f5] at k3
  clear k2 t3 s3 S2 f3 f4 f5
  go_wp2_with fail
  refine k3.mono ?_
  rintro e w4 ⟨A4, c4, rfl, t4⟩
  obtain ⟨O4, s4, p4, t4b⟩ := S3.out.tl t4
  have oR : ∀ (a c d : Value), Only [] w4 (w4.alloc (.cells #[a, .slice A4 1 c4, c, d] 47)) := fun a c d => (Only.refl [] w4).alloc _
  obtain ⟨g, cap, e4, -, -, hg, -, hc⟩ := p4.at_ (by decide)
  injection e4 with e4 e6 e5
  subst e4
  clear t4b e6
  obtain ⟨x0, x1, x2⟩ := hc 0 (by decide)
  simp only [Nat.zero_mul, Nat.zero_add] at x0 x1 x2
  change _ = some (Value.int .i64 1) at x0
  change _ = some (Value.int .i64 5) at x1
  change _ = some (Value.int .i64 9) at x2
  have k4 := fun W (ho : Only [] w4 W) => mDo W b mw3 O4 (s4.on ho).fl ⟨4, 0, 0, 0⟩ (i64s _ _ _ _ (by decide)) 3 48 mw3_ok (by decide) (by decide)
  unfold Told at k4
  rw [f6] at k4
  have S4 : Hid (Mo w w4 b mw3 O4) := s4
  have K4 := Lib.hid k4
  clear k3 t4 s4 p4 hc S3 f6 k4 e5
  go_wp2_with fail
  refine (K4.out _ ((Only.refl [] w4).alloc _)).mono ?_
  rintro e w5 ⟨A5, c5, rfl, t5⟩
  obtain ⟨O5, s5, _⟩ := (S4.out.on ((Only.refl [] w4).alloc _)).tl t5
  have S5 : Hid (Mo w w5 b mw4 O5) := s5
  have k5 := mDo w5 b mw4 O5 s5.fl ⟨7, 0, 0, 0⟩ (i64s _ _ _ _ (by decide)) 4 64 mw4_ok (by decide) (by decide)
  unfold Told at k5
  rw [f7] at k5
  clear t5 s5 S4 K4 f7 x0 x1 x2 oR
  go_wp2_with fail
  refine k5.mono ?_
  rintro e w6 ⟨A6, c6, rfl, t6⟩
  obtain ⟨O6, s6, _⟩ := S5.out.tl t6
  have S6 : Hid (Mo w w6 b mw5 O6) := s6
  have k6 := mV w6 b mw5 O6 s6.fl
  have k7 := mServed w6 b mw5 O6 s6.fl
  rw [f8] at k6
  rw [f9] at k7
  clear k5 t6 s6 S5 f8 f9
  go_wp2_with fail
  refine k6.mono ?_
  rintro e w7 ⟨rfl, rfl⟩
  go_wp2_with fail
  refine k7.mono ?_
  rintro e w7 ⟨rfl, rfl⟩
  go_wp2_with fail
  go_ret
  exact ⟨rfl, S6.out.only⟩
end Go.Proofs.Ytklolepmmabijaa
