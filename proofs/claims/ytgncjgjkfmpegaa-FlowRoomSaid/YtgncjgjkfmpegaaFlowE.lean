/-
  awake.
-/
import Derived.Test.YtgncjgjkfmpegaaFlowH
namespace Go.Proofs.Ytgncjgjkfmpegaa
set_option maxRecDepth 100000
open Go.RowKit
set_option linter.unusedVariables false
set_option linter.unusedSimpArgs false
set_option maxRecDepth 100000

def awF0 : Fl := Fl.new 10 2
def awF1 : Fl := awF0.arr 7 ⟨0, 3, 0⟩
def awF2 : Fl := awF1.arr 9 ⟨0, 1, 0⟩
def awF3 : Fl := awF2.srv
theorem pk_ok (a : Int) (h : -9223372036854775808 ≤ a ∧ a ≤ 9223372036854775807) : (⟨0, a, 0⟩ : Pk).ok := ⟨(show i64ok 0 from i64_of (by omega)), i64_of h, (show i64ok 0 from i64_of (by omega))⟩
set_option maxHeartbeats 2000000 in
theorem fAwake (w : World) : Calls Try.prog 10 #[] w fun e w' => e = .returned (.bool true) ∧ Only [] w w' := by
  have r2 : room 2 = 2 := by decide
  have t0 : awF0.takes = true := by decide
  have t1 : awF1.takes = true := by decide
  have t2 : awF2.takes = false := by decide
  have e2 : awF2.arr 9 ⟨0, 0, 0⟩ = awF2 := by unfold Fl.arr; rw [if_pos (by decide)]
  have h2 : awF2.hd = ⟨0, 3, 0⟩ := by decide
  have o2 : awF2.out = 37 := by decide
  have a2 : awF2.any = true := by decide
  have s3 : awF3.st = 37 := by decide
  have a3 : awF3.any = true := by decide
  have l3 : awF3.l.length = 1 := by decide
  have n0 := flNew w 10 2 ⟨by omega, by omega⟩
  rw [r2] at n0
  change Calls _ _ _ _ (fun e w' => e = _ ∧ FlowOf w' w.heap.size awF0 _ ∧ _) at n0
  go_enter Try.func10, Try.ntmps10
  go_wp2_with fail
  refine n0.mono ?_
  rintro e w1 ⟨rfl, h1, o1⟩
  have k1 := flArrive w1 w.heap.size awF0 _ h1 7 ⟨by omega, by omega⟩ ⟨0, 3, 0⟩ (pk_ok 3 (by omega))
  rw [t0] at k1
  change Calls _ _ _ _ (fun e w' => e = _ ∧ FTo _ _ _ awF1 _) at k1
  have O1 := Lib.hid o1
  clear n0 h1 o1
  go_wp2_with fail
  refine k1.mono ?_
  rintro e w2 ⟨rfl, Q2, h2', g2⟩
  have k2 := flArrive w2 w.heap.size awF1 _ h2' 9 ⟨by omega, by omega⟩ ⟨0, 1, 0⟩ (pk_ok 1 (by omega))
  rw [t1] at k2
  change Calls _ _ _ _ (fun e w' => e = _ ∧ FTo _ _ _ awF2 _) at k2
  have G2 := Lib.hid g2
  clear k1 h2' g2
  go_wp2_with fail
  refine k2.mono ?_
  rintro e w3 ⟨rfl, Q3, h3, g3⟩
  have k3 := flArrive w3 w.heap.size awF2 _ h3 9 ⟨by omega, by omega⟩ ⟨0, 0, 0⟩ (pk_ok 0 (by omega))
  rw [t2, e2] at k3
  have G3 := Lib.hid (G2.out.trans g3)
  clear k2 h3 g3 G2
  go_wp2_with fail
  refine k3.mono ?_
  rintro e w4 ⟨rfl, Q4, h4, g4⟩
  have k4 := flServe w4 w.heap.size awF2 _ h4
  rw [h2, o2, a2] at k4
  change Calls _ _ _ _ (fun e w' => e = _ ∧ FTo _ _ _ awF3 _) at k4
  have G4 := Lib.hid (G3.out.trans g4)
  clear k3 h4 g4 G3
  go_wp2_with fail
  refine k4.mono ?_
  rintro e w5 ⟨rfl, Q5, h5, g5⟩
  have o6 : Only [] w5 (w5.alloc (.cells #[.int .i64 0, .int .i64 3, .int .i64 0] 32)) := (Only.refl [] w5).alloc _
  have k5 := flStart _ w.heap.size awF3 _ (h5.only0 o6)
  have k6 := flLen _ w.heap.size awF3 _ (h5.only0 o6)
  rw [s3, a3] at k5
  rw [l3] at k6
  have G5 : Hid (Only [] w (w5.alloc (.cells #[.int .i64 0, .int .i64 3, .int .i64 0] 32))) := O1.out.trans ((G4.out.trans g5).1.alloc _) (by simp)
  clear k4 h5 g5 G4 o6
  go_wp2_with fail
  refine k5.mono ?_
  rintro e w6 ⟨rfl, rfl⟩
  clear k5
  go_wp2_with fail
  refine k6.mono ?_
  rintro e w6 ⟨rfl, rfl⟩
  clear k6
  go_wp2_with fail
  go_ret
  exact ⟨rfl, G5.out⟩
end Go.Proofs.Ytgncjgjkfmpegaa
