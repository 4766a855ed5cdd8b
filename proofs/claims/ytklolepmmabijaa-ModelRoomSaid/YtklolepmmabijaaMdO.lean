/-
  The statements' words: Ready.
-/
import Derived.Test.YtklolepmmabijaaMdL
namespace Go.Proofs.Ytklolepmmabijaa
set_option maxRecDepth 100000
open Go.RowKit
set_option linter.unusedVariables false
set_option linter.unusedSimpArgs false
set_option maxRecDepth 100000

set_option maxHeartbeats 1000000 in
theorem sReady (n : Nat) (hn : n ≤ 100) (w : World) : Calls Try.prog 25 #[.int .i64 (n : Int)] w fun e w' => ∃ A cap, e = .returned (.slice A n cap) ∧ cE.Row w' (.slice A n cap) (readyL n) ∧ (∀ k, (Value.slice A n cap).ownBlock = some k → w.heap.size ≤ k) ∧ Only [] w w' := by
  go_enter Try.func25, Try.ntmps25
  go_wp2_with fail
  go_loopg [3, 4] (n + 1) (fun gk sl si wr => ∃ (p : Nat) (A1 : Option Addr) (cap1 : Nat), si = .int .i64 (p : Int) ∧ sl = .slice A1 p cap1 ∧ p ≤ n ∧ n + 1 ≤ gk + p ∧ Hid (cE.Row wr (.slice A1 p cap1) (readyL p)) ∧ Hid (∀ k, (Value.slice A1 p cap1).ownBlock = some k → w.heap.size ≤ k) ∧ Hid (Only [] w wr))
  case atStart => exact ⟨0, none, 0, rfl, rfl, by omega, by omega, El.Row.nil _, fun k hk => by simp [Value.ownBlock] at hk, Only.refl _ _⟩
  case round =>
    obtain ⟨p, A1, cap1, rfl, rfl, hp, hg, hR, hF, ho⟩ := hrel
    by_cases hpl : p < n
    · have hpl' : (p : Int) < (n : Int) := by omega
      obtain ⟨m, em⟩ : ∃ m : Nat, p % 2 = m := ⟨_, rfl⟩
      have hm2 : m ≤ 1 := by omega
      have er : Int.tmod (p : Int) 2 = (m : Int) := by rw [Int.tmod_eq_emod_of_nonneg (by omega)]; omega
      have oB : Only [] wr (wr.alloc (.cells #[.int .i64 1, .int .i64 (p : Int), .int .i64 (1 + (p : Int)), .int .i64 (2 + (m : Int))] 44)) := (Only.refl [] wr).alloc _
      have HB := Lib.hid (And.intro oB (And.intro (El.Src.box (E := cE) (x := (⟨1, p, 1 + (p : Int), 2 + (m : Int)⟩ : Cl)) (heap_alloc_new wr _)) (hR.out.only0 oB)))
      have HM : Hid (readyC p = ⟨1, p, 1 + (p : Int), 2 + (m : Int)⟩) := by show readyC p = _; unfold readyC; rw [em]
      clear oB em
      go_wp2_with (first
        | (at_builtin
           refine El.wpList_append (E := cE) Try.underlying62 rfl (.tmp 10) (.tmp 18) rfl (.slice A1 p cap1) (readyL p) rfl HB.out.2.2 _ 1 1 [⟨1, p, 1 + (p : Int), 2 + (m : Int)⟩] rfl rfl HB.out.2.1 (p + 1) (by rw [readyL_len]) (by omega) ?_
           intro A2 cap2 w2 r2 g2 l2
           have R2 := Lib.hid (And.intro r2 (And.intro g2 l2))
           clear r2 g2 l2))
      go_roundg (n + 1 - (p + 1))
      case measure => omega
      case rel =>
        obtain ⟨r2, g2, l2⟩ := R2.out
        have hsz := ho.out.size
        refine ⟨p + 1, A2, cap2, by simp, rfl, by omega, by omega, ?_, fun k hk => ?_, ?_⟩
        · rw [readyL_succ, HM.out]; exact r2
        · rcases l2 with l2 | l2
          · exact hF.out k (l2 ▸ hk)
          · rw [l2] at hk
            simp at hk
            omega
        · exact (ho.out.trans' HB.out.1).grown g2 (fun k hk => .inr (hF.out k hk))
    · have hpl' : ¬ ((p : Int) < (n : Int)) := by omega
      obtain rfl : p = n := by omega
      go_wp2_with fail
      go_ret
      exact ⟨A1, cap1, rfl, hR.out, hF.out, ho.out⟩
end Go.Proofs.Ytklolepmmabijaa
