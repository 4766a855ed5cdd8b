/-
  The statements' words: Call, one case.
-/
import Derived.Test.YtklolepmmabijaaGreatMdJ
namespace Go.Proofs.YtklolepmmabijaaGreat
set_option maxRecDepth 100000
open Go.RowKit
set_option linter.unusedVariables false
set_option linter.unusedSimpArgs false
set_option maxRecDepth 100000

set_option maxHeartbeats 2000000 in
theorem sCallE (c : Cl) (w : World) (h : modI c.f 23 ≠ 22) (hE : c.near = ⟨3, modI c.f 5, 1 + modI c.a 9, modI c.b 1000⟩) (q0 : modI c.op 10 ≠ 0) (q1 : modI c.op 10 ≠ 1) (q6 : modI c.op 10 ≠ 6) (q7 : modI c.op 10 ≠ 7) (q8 : modI c.op 10 ≠ 8) (q9 : modI c.op 10 ≠ 9) (q13 : modI c.a 13 ≠ 12) : Calls Tryz.prog 12 #[.agg #[.int .i64 c.op, .int .i64 c.f, .int .i64 c.a, .int .i64 c.b]] w fun e w' => e = .returned (.agg #[.int .i64 c.near.op, .int .i64 c.near.f, .int .i64 c.near.a, .int .i64 c.near.b]) ∧ Only [] w w' := by
  obtain ⟨o, bA, bB, hsz⟩ := clW_is w c
  obtain ⟨x0, x1, x2, x3⟩ := bA.c
  obtain ⟨y0, y1, y2, y3⟩ := bB.c
  simp only at y0 y1 y2 y3
  have f0 := bB.fr 0
  have f1 := bB.fr 1
  have f2 := bB.fr 2
  have f3 := bB.fr 3
  have md := Lib.hid (fun (v n : Int) (h : 0 < n) (hn : n ≤ 1000000) (w : World) => sMod v n h hn w)
  have lA := bA.lt
  have lB := bB.lt
  have HA := Lib.hid (And.intro bA bB)
  have h' : (modI c.f 23 == 22) = false := by simpa using h
  have u5 := modI_lt c.f (n := 5) (by decide)
  have a5 := modI_lt c.a (n := 5) (by decide)
  have b3 := modI_lt c.b (n := 3) (by decide)
  have a9 := modI_lt c.a (n := 9) (by decide)
  have a65 := modI_lt c.a (n := 65536) (by decide)
  have HE := Lib.hid hE
  clear hE
  obtain ⟨t, et⟩ : ∃ t, modI c.op 10 = t := ⟨_, rfl⟩
  rw [et] at q0 q1 q6 q7 q8 q9
  have q0' : (t == 0) = false := by simpa using q0
  have q1' : (t == 1) = false := by simpa using q1
  have q6' : (t == 6) = false := by simpa using q6
  have q7' : (t == 7) = false := by simpa using q7
  have q8' : (t == 8) = false := by simpa using q8
  have q9' : (t == 9) = false := by simpa using q9
  clear q0 q1 q6 q7 q8 q9
  have kO := fun W => sMod c.op 10 (by decide) (by decide) W
  rw [et] at kO
  have KO := Lib.hid kO
  clear h et kO
  go_enter Tryz.func12, Tryz.ntmps12
  go_wp2_with fail
  refine (md.out c.f 23 (by decide) (by decide) (clW w c)).mono ?_
  rintro e W0 ⟨rfl, rfl⟩
  generalize clW w c = W at *
  obtain ⟨N, eN⟩ : ∃ N, w.heap.size = N := ⟨_, rfl⟩
  rw [eN] at x0 x1 x2 x3 y0 y1 y2 y3 f0 f1 f2 f3 lA lB hsz HA ⊢
  have HN := Lib.hid (And.intro o eN)
  clear eN o bA bB
  go_wp2_with fail
  refine (md.out _ _ (by decide) (by decide) _).mono ?_
  rintro e W ⟨rfl, rfl⟩
  have oX : Only [] W (W.alloc (.cells #[.int .i64 0, .int .i64 (modI c.f 5), .int .i64 0, .int .i64 0] 33)) := (Only.refl [] W).alloc _
  have bX : CBox (W.alloc (.cells #[.int .i64 0, .int .i64 (modI c.f 5), .int .i64 0, .int .i64 0] 33)) W.heap.size ⟨0, modI c.f 5, 0, 0⟩ := CBox.new W ⟨0, modI c.f 5, 0, 0⟩
  obtain ⟨bA, bB⟩ := HA.out
  have bA2 := bA.only0 oX
  have bB2 := bB.only0 oX
  have HO := Lib.hid (HN.out.1.trans' oX)
  go_wp2_with fail
  refine (KO.out _).mono ?_
  rintro e W0 ⟨rfl, rfl⟩
  clear KO x0 x1 x2 x3 y0 y1 y2 y3 f0 f1 f2 f3 lA lB HA
  generalize W.alloc (.cells #[.int .i64 0, .int .i64 (modI c.f 5), .int .i64 0, .int .i64 0] 33) = U at *
  rw [hsz] at bX
  obtain ⟨x0, x1, x2, x3⟩ := bA2.c
  obtain ⟨y0, y1, y2, y3⟩ := bB2.c
  obtain ⟨z0, z1, z2, z3⟩ := bX.c
  simp only at y0 y1 y2 y3 z0 z1 z2 z3
  have f0 := bB2.fr 0
  have f1 := bB2.fr 1
  have f2 := bB2.fr 2
  have f3 := bB2.fr 3
  have g0 := bX.fr 0
  have g1 := bX.fr 1
  have g2 := bX.fr 2
  have g3 := bX.fr 3
  have lA := bA2.lt
  have lB := bB2.lt
  have lX := bX.lt
  clear bA bB bA2 bB2 bX oX hsz
  have b1k := modI_lt c.b (n := 1000) (by decide)
  have t13' : (modI c.a 13 == 12) = false := by simpa using q13
  clear q13
  go_wp2_with fail
  go_region_with (first | (go_at_call 14; refine (md.out _ _ (by decide) (by decide) _).mono ?_; rintro e u ⟨rfl, rfl⟩))
  all_goals
    go_wp2_with (go_at_call 14; refine (md.out _ _ (by decide) (by decide) _).mono ?_; rintro e u ⟨rfl, rfl⟩)
    refine bodyPost_ret ?_ rfl ⟨rfl, ?_⟩
    · rw [results_cell1 rfl, HE.out]; go_simp
    · have h9 := HN.out.2
      repeat' (first | with_reducible exact HO.out | with_reducible refine Only.setCell ?_ (.inr ?_) _ | with_reducible refine Only.drew ?_)
      all_goals (simp only; omega)
end Go.Proofs.YtklolepmmabijaaGreat
