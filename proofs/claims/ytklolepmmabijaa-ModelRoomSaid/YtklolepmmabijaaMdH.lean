/-
  The statements' words: Config, Call, Ready, Ret; NewModel.
-/
import Derived.Test.YtklolepmmabijaaMdD
import Derived.Test.YtklolepmmabijaaGmL
namespace Go.Proofs.Ytklolepmmabijaa
set_option maxRecDepth 100000
open Go.RowKit
set_option linter.unusedVariables false
set_option linter.unusedSimpArgs false
set_option maxRecDepth 100000

/-! ### Config -/
def Cf.near (c : Cf) : Cf := ⟨1 + modI c.sh 4, 1 + modI c.sl 4, 1 + modI c.wk 6, modI c.wd 12, if c.un % 4 = 3 then 1 + c.un % 4611686018427387904 else 1 + c.un % 5000⟩
theorem Cf.near_right (c : Cf) : c.near.right := by
  have b1 := modI_lt c.sh (n := 4) (by decide)
  have b2 := modI_lt c.sl (n := 4) (by decide)
  have b3 := modI_lt c.wk (n := 6) (by decide)
  have b4 := modI_lt c.wd (n := 12) (by decide)
  unfold Cf.near
  refine ⟨?_, ?_, ?_, ?_, ?_, ?_, ?_, ?_, ?_, ?_⟩ <;> simp only
  case refine_9 => split <;> omega
  case refine_10 => split <;> omega
  all_goals omega
/-- A block that holds a config. -/
def GBox (w : World) (b : Nat) (c : Cf) : Prop := w.heap[b]? = some (.cells #[.int .i64 c.sh, .int .i64 c.sl, .int .i64 c.wk, .int .i64 c.wd, .int .u64 c.un] 24 (0, 0))
section
variable {w w' : World} {b : Nat} {C : Cf}
theorem GBox.c (h : GBox w b C) : w.cell? ⟨b, 0, none⟩ = some (.int .i64 C.sh) ∧ w.cell? ⟨b, 1, none⟩ = some (.int .i64 C.sl) ∧ w.cell? ⟨b, 2, none⟩ = some (.int .i64 C.wk) ∧ w.cell? ⟨b, 3, none⟩ = some (.int .i64 C.wd) ∧ w.cell? ⟨b, 4, none⟩ = some (.int .u64 C.un) :=
  ⟨by rw [cell_of_row w b 0 _ _ _ h]; rfl, by rw [cell_of_row w b 1 _ _ _ h]; rfl, by rw [cell_of_row w b 2 _ _ _ h]; rfl, by rw [cell_of_row w b 3 _ _ _ h]; rfl, by rw [cell_of_row w b 4 _ _ _ h]; rfl⟩
theorem GBox.fr (h : GBox w b C) (j : Nat) : w.frozen? ⟨b, j, none⟩ = false := frozen_of_row w b j _ _ h
theorem GBox.only {S : List Nat} (h : GBox w b C) (ho : Only S w w') (hS : b ∉ S) : GBox w' b C := ho.get h hS
theorem GBox.only0 (h : GBox w b C) (ho : Only [] w w') : GBox w' b C := h.only ho (by simp)
theorem GBox.new (w : World) (C : Cf) : GBox (w.alloc (.cells #[.int .i64 C.sh, .int .i64 C.sl, .int .i64 C.wk, .int .i64 C.wd, .int .u64 C.un] 24)) w.heap.size C := heap_alloc_new w _
theorem GBox.lt (h : GBox w b C) : b < w.heap.size := (Array.getElem?_eq_some_iff.1 h).1
end
theorem only_cf (w : World) (N : Nat) (a b c d e : Value) : Only [N] w (((((w.setCell ⟨N, 0, none⟩ a).setCell ⟨N, 1, none⟩ b).setCell ⟨N, 2, none⟩ c).setCell ⟨N, 3, none⟩ d).setCell ⟨N, 4, none⟩ e) :=
  (((((Only.refl [N] w).setCell (by simp) _).setCell (by simp) _).setCell (by simp) _).setCell (by simp) _).setCell (by simp) _
set_option maxHeartbeats 1000000 in
theorem sConfig (c : Cf) (hu : U64 c.un) (w : World) : Calls Try.prog 15 #[.agg #[.int .i64 c.sh, .int .i64 c.sl, .int .i64 c.wk, .int .i64 c.wd, .int .u64 c.un]] w fun e w' =>
    e = .returned (.agg #[.int .i64 c.near.sh, .int .i64 c.near.sl, .int .i64 c.near.wk, .int .i64 c.near.wd, .int .u64 c.near.un]) ∧ Only [] w w' := by
  have k1 := fun W => sMod c.sh 4 (by decide) (by decide) W
  have k2 := fun W => sMod c.sl 4 (by decide) (by decide) W
  have k3 := fun W => sMod c.wk 6 (by decide) (by decide) W
  have k4 := fun W => sMod c.wd 12 (by decide) (by decide) W
  have b1 := modI_lt c.sh (n := 4) (by decide)
  have b2 := modI_lt c.sl (n := 4) (by decide)
  have b3 := modI_lt c.wk (n := 6) (by decide)
  have b4 := modI_lt c.wd (n := 12) (by decide)
  have K1 := Lib.hid k1
  have K2 := Lib.hid k2
  have K3 := Lib.hid k3
  have K4 := Lib.hid k4
  obtain ⟨u0, u1⟩ := hu
  unfold Cf.near
  clear k1 k2 k3 k4
  have g0 : GBox ((w.alloc (.cells #[.int .i64 c.sh, .int .i64 c.sl, .int .i64 c.wk, .int .i64 c.wd, .int .u64 c.un] 24)).alloc (.cells #[.int .i64 0, .int .i64 0, .int .i64 0, .int .i64 0, .int .u64 0] 24)) w.heap.size c := (GBox.new w c).only0 ((Only.refl [] _).alloc _)
  have g1 : GBox ((w.alloc (.cells #[.int .i64 c.sh, .int .i64 c.sl, .int .i64 c.wk, .int .i64 c.wd, .int .u64 c.un] 24)).alloc (.cells #[.int .i64 0, .int .i64 0, .int .i64 0, .int .i64 0, .int .u64 0] 24)) (w.heap.size + 1) ⟨0, 0, 0, 0, 0⟩ := by
    have := GBox.new (w.alloc (.cells #[.int .i64 c.sh, .int .i64 c.sl, .int .i64 c.wk, .int .i64 c.wd, .int .u64 c.un] 24)) ⟨0, 0, 0, 0, 0⟩
    simpa using this
  obtain ⟨x0, x1, x2, x3, x4⟩ := g0.c
  obtain ⟨y0, y1, y2, y3, y4⟩ := g1.c
  simp only at y0 y1 y2 y3 y4
  have f0 := g1.fr 0
  have f1 := g1.fr 1
  have f2 := g1.fr 2
  have f3 := g1.fr 3
  have f4 := g1.fr 4
  clear g0 g1
  have o : Only [] w ((w.alloc (.cells #[.int .i64 c.sh, .int .i64 c.sl, .int .i64 c.wk, .int .i64 c.wd, .int .u64 c.un] 24)).alloc (.cells #[.int .i64 0, .int .i64 0, .int .i64 0, .int .i64 0, .int .u64 0] 24)) := ((Only.refl [] w).alloc _).alloc _
  rcases Decidable.em (c.un % 4 = 3) with h3 | h3
  all_goals
    have h3' : (c.un % 4 == 3) = decide (c.un % 4 = 3) := by simp [BEq.beq]
    simp only [h3, decide_true, decide_false, if_true, if_false] at h3' ⊢
    go_enter Try.func15, Try.ntmps15
    go_wp2_with fail
    generalize (w.alloc (.cells #[.int .i64 c.sh, .int .i64 c.sl, .int .i64 c.wk, .int .i64 c.wd, .int .u64 c.un] 24)).alloc (.cells #[.int .i64 0, .int .i64 0, .int .i64 0, .int .i64 0, .int .u64 0] 24) = W at *
    obtain ⟨N, eN⟩ : ∃ N, w.heap.size = N := ⟨_, rfl⟩
    rw [eN] at x0 x1 x2 x3 x4 y0 y1 y2 y3 y4 f0 f1 f2 f3 f4 ⊢
    have HN := Lib.hid eN
    clear eN
    go_still_tail 17, (by kernel_rfl)
    still_call (K1.out _)
    repeat still_step
    still_call (K2.out _)
    repeat still_step
    still_call (K3.out _)
    repeat still_step
    still_call (K4.out _)
    repeat still_step
    refine wpStill_nil ?_
    change wpList _ _ _ _ _ W.drew
    have HO := Lib.hid o.drew
    have y0 : W.drew.cell? ⟨N + 1, 0, none⟩ = some (.int .i64 0) := y0
    have y1 : W.drew.cell? ⟨N + 1, 1, none⟩ = some (.int .i64 0) := y1
    have y2 : W.drew.cell? ⟨N + 1, 2, none⟩ = some (.int .i64 0) := y2
    have y3 : W.drew.cell? ⟨N + 1, 3, none⟩ = some (.int .i64 0) := y3
    have y4 : W.drew.cell? ⟨N + 1, 4, none⟩ = some (.int .u64 0) := y4
    have f0 : W.drew.frozen? ⟨N + 1, 0, none⟩ = false := f0
    have f1 : W.drew.frozen? ⟨N + 1, 1, none⟩ = false := f1
    have f2 : W.drew.frozen? ⟨N + 1, 2, none⟩ = false := f2
    have f3 : W.drew.frozen? ⟨N + 1, 3, none⟩ = false := f3
    have f4 : W.drew.frozen? ⟨N + 1, 4, none⟩ = false := f4
    clear o
    generalize W.drew = W' at *
    go_wp2_with fail
    refine bodyPost_ret ?_ rfl ⟨rfl, ?_⟩
    · rw [results_cell1 rfl]; go_simp
    · exact HO.out.trans (only_cf _ _ _ _ _ _ _) (by have := HN.out; simp; omega)
end Go.Proofs.Ytklolepmmabijaa
