/-
  Events held against each other in rows: Same, Plain.
-/
import Derived.Test.YtmgmfihjojhilaaRcU
import Derived.StillTailTactics
namespace Go.Proofs.Ytmgmfihjojhilaa
set_option maxRecDepth 100000
open Go.RowKit
set_option linter.unusedVariables false
set_option linter.unusedSimpArgs false
set_option maxRecDepth 100000

theorem ePlain1 (x y : Ev) (w : World) : Calls Try.prog 59 #[.agg #[.int .i64 x.who, .int .i64 x.kind, .int .i64 x.lc.k, .int .i64 x.lc.a, .int .i64 x.lc.b], .agg #[.int .i64 y.who, .int .i64 y.kind, .int .i64 y.lc.k, .int .i64 y.lc.a, .int .i64 y.lc.b]] w
    fun e w' => e = .returned (.bool (decide (x = y))) ∧ Only [] w w' := by
  have q := ev_eql x y
  generalize decide (x = y) = d at *
  go_enter Try.func59, Try.ntmps59
  go_wp2
  go_ret
  exact ⟨rfl, by first | exact Only.refl _ _ | exact (Only.refl _ _).alloc _ | exact ((Only.refl _ _).alloc _).alloc _⟩
set_option maxHeartbeats 2000000 in
theorem eSame (w : World) (A A' : Option Addr) (n c c' : Nat) (xs : List Ev) (hn : xs.length = n) (hm : n ≤ 1000) (h : Evs w A xs) (h' : Evs w A' xs) :
    Calls Try.prog 58 #[.slice A n c, .slice A' n c', .func (.func 59) #[] #[]] w fun e w' => e = .returned (.bool true) ∧ Only [] w w' := by
  have R1 := Lib.hid h
  have R2 := Lib.hid h'
  have HN := Lib.hid hn
  clear h h' hn
  go_enter Try.func58, Try.ntmps58
  go_wp2_with fail
  go_loopg [7] (n + 1) (fun gk si wr => ∃ k : Nat, si = .int .i64 (k : Int) ∧ k ≤ n ∧ n + 1 ≤ gk + k ∧ Hid (Only [] w wr))
  case atStart => exact ⟨0, rfl, by omega, by omega, Only.refl [] w⟩
  case round =>
    obtain ⟨k, rfl, hk, hg, O⟩ := hrel
    by_cases hlt : k < n
    · have hlt' : (k : Int) < (n : Int) := by omega
      obtain ⟨g1, rfl, x0, x1, x2, x3, x4⟩ := (R1.out.only0 O.out).at_ (k := k) (by have := HN.out; omega)
      obtain ⟨g2, rfl, y0, y1, y2, y3, y4⟩ := (R2.out.only0 O.out).at_ (k := k) (by have := HN.out; omega)
      have p1 := Lib.hid (fun (V : World) => ePlain1 (evs xs k) (evs xs k) V)
      rw [decide_eq_true rfl] at p1
      generalize evs xs k = e1 at *
      go_wp2_with fail
      go_still_tail 9, (by kernel_rfl)
      change wpList _ _ _ _ _ wr.drew
      go_wp2_with fail
      refine (p1.out _).mono ?_
      rintro e w5 ⟨rfl, o5⟩
      have O5 : Hid (Only [] w w5) := O.out.drew.trans' o5
      clear p1 o5
      go_wp2_with fail
      go_roundg (n + 1 - (k + 1))
      case measure => omega
      case rel => exact ⟨k + 1, by simp, by omega, by omega, O5⟩
    · have hpl' : decide ((k : Int) < (n : Int)) = false := decide_eq_false (by omega)
      have hpl'' : ¬ ((k : Int) < (n : Int)) := by omega
      go_wp2_with fail
      go_ret
      exact ⟨rfl, O.out⟩
theorem ePlain (w : World) (A A' : Option Addr) (n c c' : Nat) (xs : List Ev) (hn : xs.length = n) (hm : n ≤ 1000) (h : Evs w A xs) (h' : Evs w A' xs) :
    Calls Try.prog 54 #[.slice A n c, .slice A' n c'] w fun e w' => e = .returned (.bool true) ∧ Only [] w w' := by
  have hs := eSame w A A' n c c' xs hn hm h h'
  clear h h'
  go_enter Try.func54, Try.ntmps54
  go_wp2_with fail
  refine hs.mono ?_
  rintro e w2 ⟨rfl, o2⟩
  go_wp2_with fail
  go_ret
  exact ⟨rfl, o2⟩
end Go.Proofs.Ytmgmfihjojhilaa
