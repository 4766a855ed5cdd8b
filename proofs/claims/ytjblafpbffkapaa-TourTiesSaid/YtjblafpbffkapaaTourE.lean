/-
  The statements' awake.
-/
import Derived.Test.YtjblafpbffkapaaTourS
namespace Go.Proofs.Ytjblafpbffkapaa
set_option maxRecDepth 100000
open Go.RowKit Go.ChangeMaps Go.MapKept
set_option linter.unusedVariables false
set_option linter.unusedSimpArgs false

def awH : Nat → Bool := fup (fup (fun _ => false) 2 true) 0 true
def awG : Nat → It := fup (fup (fun _ => ⟨0, 0⟩) 2 ⟨5, 0⟩) 0 ⟨5, 1⟩
theorem aw1 : nodeM 3 awH awG 1 = 2 := by decide +kernel
theorem aw2 : nodeM 3 awH awG 2 = 0 := by decide +kernel
theorem aw3 : nodeM 3 awH awG 3 = 2 := by decide +kernel

set_option maxRecDepth 100000 in
set_option maxHeartbeats 2000000 in
theorem tAwake (w : World) : Calls Try.prog 10 #[] w fun e w' => e = .returned (.bool true) ∧ Only [] w w' := by
  have he := item_eql ⟨5, 0⟩ ⟨5, 0⟩
  have hg := item_guard
  simp only [decide_true] at he
  go_enter Try.func10, Try.ntmps10
  go_wp2_with fail
  refine (tNew _ 3).mono ?_
  rintro e w1 ⟨tb, rfl, ib, nb, h1, f1, o1⟩
  have ec : clampM 3 = 3 := by decide
  rw [ec] at h1
  have s1 := tSet w1 tb ib nb 3 _ _ h1 2 ⟨5, 0⟩
  have S1 := Lib.hid (s1.mono (fun e w' h => h.1 (by decide)))
  have F1 := Lib.hid (And.intro f1 o1)
  clear s1 h1 ec f1 o1
  go_wp2_with fail
  refine S1.out.mono ?_
  rintro e w2 ⟨rfl, h2, o2⟩
  have s2 := tSet w2 tb ib nb 3 _ _ h2 0 ⟨5, 1⟩
  have S2 := Lib.hid (s2.mono (fun e w' h => h.1 (by decide)))
  have O2 : Hid (Only [] w w2) := F1.out.2.trans o2 (fun k hk => .inr (F1.out.1 k (by simp at hk ⊢; rcases hk with h | h <;> simp [h])))
  clear s2 h2 o2 S1
  go_wp2_with fail
  refine S2.out.mono ?_
  rintro e w3 ⟨rfl, h3, o3⟩
  have h3 : TourOf w3 tb ib nb 3 awH awG := h3
  have O3 : Hid (Only [] w w3) := O2.out.trans o3 (fun k hk => .inr (F1.out.1 k (by simp at hk ⊢; rcases hk with h | h <;> simp [h])))
  have wi := tWin w3 tb ib nb 3 _ _ h3
  rw [aw1] at wi
  have q1 : winI 2 = 2 := rfl
  have q2 : winX 2 awG = ⟨5, 0⟩ := rfl
  have q3 : winB 2 = true := rfl
  rw [q1, q2, q3] at wi
  have WI := Lib.hid wi
  have H3 := Lib.hid h3
  clear wi h3 o3 O2 S2 q1 q2 q3
  go_wp2_with fail
  refine WI.out.mono ?_
  rintro e w4 ⟨rfl, o4⟩
  have o5 : Only [] w3 (w4.alloc (.cells #[.int .u64 5, .int .i64 0] 43)) := o4.alloc _
  have h5 := H3.out.only0 o5
  have n2 := tNode _ tb ib nb 3 _ _ h5 2 (i64ok_of (by omega))
  have n3 := tNode _ tb ib nb 3 _ _ h5 3 (i64ok_of (by omega))
  have n4 := tLen _ tb ib nb 3 _ _ h5
  rw [aw2] at n2
  rw [aw3] at n3
  have NN := Lib.hid (And.intro n2 (And.intro n3 n4))
  have O5 := Lib.hid (O3.out.trans' o5)
  clear n2 n3 n4 o4 o5 h5
  go_wp2_with fail
  refine NN.out.1.mono ?_
  rintro e w5 ⟨rfl, rfl⟩
  go_wp2_with fail
  refine NN.out.2.1.mono ?_
  rintro e w5 ⟨rfl, rfl⟩
  go_wp2_with fail
  refine NN.out.2.2.mono ?_
  rintro e w5 ⟨rfl, rfl⟩
  go_wp2_with fail
  go_ret
  exact ⟨rfl, O5.out⟩
end Go.Proofs.Ytjblafpbffkapaa
