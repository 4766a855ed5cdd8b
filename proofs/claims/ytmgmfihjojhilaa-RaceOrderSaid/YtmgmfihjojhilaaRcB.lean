/-
  Right of both; the document's Conflict, own, found; within.
-/
import Derived.Test.YtmgmfihjojhilaaRcA
namespace Go.Proofs.Ytmgmfihjojhilaa
set_option maxRecDepth 100000
open Go.RowKit
set_option linter.unusedVariables false
set_option linter.unusedSimpArgs false
set_option maxRecDepth 100000

theorem okL_no {xs : List Ev} {p : Nat} (hp : p < xs.length) (h : okE (evs xs p) = false) : okL xs = false := by
  rcases ho : okL xs
  · rfl
  · rw [okL_iff.1 ho p hp] at h; cases h
theorem okE_no {e : Ev} (h : e.who < 0 ∨ 63 < e.who ∨ e.kind < 1 ∨ 6 < e.kind) : okE e = false := by
  rcases ho : okE e
  · rfl
  · have := okE_iff.1 ho; omega
theorem okL_snoc {xs : List Ev} {p : Nat} (hj : ∀ i, i < p → okE (evs xs i) = true) (h : okE (evs xs p) = true) : ∀ i, i < p + 1 → okE (evs xs i) = true := fun i hi => by
  by_cases e : i = p
  · subst e; exact h
  · exact hj i (by omega)
set_option maxHeartbeats 2000000 in
theorem rRight (A : Option Addr) (m c : Nat) (xs : List Ev) (w : World) (hm : xs.length = m) (hb : m ≤ 1000) (h : Evs w A xs) :
    Calls Try.prog 16 #[.slice A m c] w fun e w' => e = .returned (.bool (okL xs)) ∧ w' = w := by
  have H := Lib.hid (And.intro h hm)
  clear h hm
  go_enter Try.func16, Try.ntmps16
  go_wp2_with fail
  go_loopg [3] (m + 1) (fun gk si wr => ∃ p : Nat, si = .int .i64 (p : Int) ∧ p ≤ m ∧ m + 1 ≤ gk + p ∧ Hid (∀ i, i < p → okE (evs xs i) = true) ∧ wr = w)
  case atStart => exact ⟨0, rfl, by omega, by omega, fun i hi => absurd hi (by omega), rfl⟩
  case round =>
    obtain ⟨p, rfl, hp, hg, hj, rfl⟩ := hrel
    by_cases hpl : p < m
    · have h1 : (p : Int) < (m : Int) := by omega
      obtain ⟨g, rfl, c0, c1, c2, c3, c4⟩ := H.out.1.at_ (k := p) (by have := H.out.2; omega)
      have N0 := Lib.hid (fun (h : okE (evs xs p) = false) => okL_no (by have := H.out.2; omega) h)
      have Y0 := Lib.hid (fun (h : okE (evs xs p) = true) => okL_snoc hj.out h)
      clear c2 c3 c4
      generalize evs xs p = e at *
      by_cases b1 : e.who < 0
      · have F := Lib.hid (N0.out (okE_no (.inl b1)))
        clear N0 Y0
        generalize e.who = a at *
        generalize e.kind = k at *
        go_wp2_with fail
        go_ret
        exact ⟨by rw [F.out]; rfl, rfl⟩
      by_cases b2 : 63 < e.who
      · have F := Lib.hid (N0.out (okE_no (.inr (.inl b2))))
        clear N0 Y0
        generalize e.who = a at *
        generalize e.kind = k at *
        have b1' : decide (a < 0) = false := decide_eq_false b1
        go_wp2_with fail
        go_ret
        exact ⟨by rw [F.out]; rfl, rfl⟩
      by_cases b3 : e.kind < 1
      · have F := Lib.hid (N0.out (okE_no (.inr (.inr (.inl b3)))))
        clear N0 Y0
        generalize e.who = a at *
        generalize e.kind = k at *
        have b1' : decide (a < 0) = false := decide_eq_false b1
        have b2' : decide (63 < a) = false := decide_eq_false b2
        go_wp2_with fail
        go_ret
        exact ⟨by rw [F.out]; rfl, rfl⟩
      by_cases b4 : 6 < e.kind
      · have F := Lib.hid (N0.out (okE_no (.inr (.inr (.inr b4)))))
        clear N0 Y0
        generalize e.who = a at *
        generalize e.kind = k at *
        have b1' : decide (a < 0) = false := decide_eq_false b1
        have b2' : decide (63 < a) = false := decide_eq_false b2
        have b3' : decide (k < 1) = false := decide_eq_false b3
        go_wp2_with fail
        go_ret
        exact ⟨by rw [F.out]; rfl, rfl⟩
      have J := Lib.hid (Y0.out (okE_iff.2 ⟨by omega, by omega, by omega, by omega⟩))
      clear N0 Y0
      generalize e.who = a at *
      generalize e.kind = k at *
      have b1' : decide (a < 0) = false := decide_eq_false b1
      have b2' : decide (63 < a) = false := decide_eq_false b2
      have b3' : decide (k < 1) = false := decide_eq_false b3
      have b4' : decide (6 < k) = false := decide_eq_false b4
      go_wp2_with fail
      go_roundg (m + 1 - (p + 1))
      case measure => omega
      case rel => exact ⟨p + 1, by simp, by omega, by omega, J, rfl⟩
    · have h1 : ¬ ((p : Int) < (m : Int)) := by omega
      have h2 : decide ((p : Int) < (m : Int)) = false := decide_eq_false h1
      have T := Lib.hid (okL_iff.2 fun i hi => hj.out i (by have := H.out.2; omega))
      go_wp2_with fail
      go_ret
      exact ⟨by rw [T.out]; rfl, rfl⟩
theorem atom_or {k : Int} : (1 ≤ k ∧ k ≤ 6) ↔ (atomK k = true ∨ plainK k = true) := by
  simp [atomK, plainK]; omega
set_option maxHeartbeats 2000000 in
theorem cRight (A : Option Addr) (m c : Nat) (xs : List Ev) (w : World) (hm : xs.length = m) (hb : m ≤ 1000) (h : Evs w A xs) :
    Calls Try.prog 15 #[.slice A m c] w fun e w' => e = .returned (.bool (okL xs)) ∧ Only [] w w' := by
  have H := Lib.hid (And.intro h hm)
  clear h hm
  go_enter Try.func15, Try.ntmps15
  go_wp2_with fail
  go_loopg [7] (m + 1) (fun gk si wr => ∃ p : Nat, si = .int .i64 (p : Int) ∧ p ≤ m ∧ m + 1 ≤ gk + p ∧ Hid (∀ i, i < p → okE (evs xs i) = true) ∧ Hid (Only [] w wr))
  case atStart => exact ⟨0, rfl, by omega, by omega, fun i hi => absurd hi (by omega), Only.refl _ _⟩
  case round =>
    obtain ⟨p, rfl, hp, hg, hj, O⟩ := hrel
    by_cases hpl : p < m
    · have h1 : (p : Int) < (m : Int) := by omega
      obtain ⟨g, rfl, c0, c1, c2, c3, c4⟩ := (H.out.1.only0 O.out).at_ (k := p) (by have := H.out.2; omega)
      have N0 := Lib.hid (fun (h : okE (evs xs p) = false) => okL_no (by have := H.out.2; omega) h)
      have Y0 := Lib.hid (fun (h : okE (evs xs p) = true) => okL_snoc hj.out h)
      have O2 : Hid (∀ o, Only [] w (wr.alloc o)) := fun o => O.out.alloc o
      generalize evs xs p = e at *
      have ka := Lib.hid (fun w => kAtomic e.kind w)
      have kp := Lib.hid (fun w => kPlain e.kind w)
      by_cases b1 : e.who < 0
      · have F := Lib.hid (N0.out (okE_no (.inl b1)))
        clear N0 Y0
        go_wp2_with fail
        go_ret
        exact ⟨by rw [F.out]; rfl, O2.out _⟩
      by_cases b2 : 63 < e.who
      · have F := Lib.hid (N0.out (okE_no (.inr (.inl b2))))
        clear N0 Y0
        have b1' : decide (e.who < 0) = false := decide_eq_false b1
        go_wp2_with fail
        go_ret
        exact ⟨by rw [F.out]; rfl, O2.out _⟩
      have b1' : decide (e.who < 0) = false := decide_eq_false b1
      have b2' : decide (63 < e.who) = false := decide_eq_false b2
      have HI := Lib.hid (atom_or (k := e.kind))
      rcases ea : atomK e.kind
      · rcases ep : plainK e.kind
        · have F := Lib.hid (N0.out (okE_no (by
            have : ¬ (1 ≤ e.kind ∧ e.kind ≤ 6) := fun h => by rcases HI.out.1 h with h | h <;> simp_all
            omega)))
          rw [ea] at ka
          rw [ep] at kp
          clear N0 Y0 ea ep
          go_wp2_with (first | (refine (ka.out _).mono ?_; rintro e w1 ⟨rfl, rfl⟩) | (refine (kp.out _).mono ?_; rintro e w1 ⟨rfl, rfl⟩))
          go_ret
          exact ⟨by rw [F.out]; rfl, O2.out _⟩
        · have J := Lib.hid (Y0.out (okE_iff.2 ⟨by omega, by omega, HI.out.2 (.inr ep)⟩))
          rw [ea] at ka
          rw [ep] at kp
          clear N0 Y0 ea ep
          go_wp2_with (first | (refine (ka.out _).mono ?_; rintro e w1 ⟨rfl, rfl⟩) | (refine (kp.out _).mono ?_; rintro e w1 ⟨rfl, rfl⟩))
          go_roundg (m + 1 - (p + 1))
          case measure => omega
          case rel => exact ⟨p + 1, by simp, by omega, by omega, J, O2.out _⟩
      · have J := Lib.hid (Y0.out (okE_iff.2 ⟨by omega, by omega, HI.out.2 (.inl ea)⟩))
        rw [ea] at ka
        clear N0 Y0 ea
        go_wp2_with (refine (ka.out _).mono ?_; rintro e w1 ⟨rfl, rfl⟩)
        go_roundg (m + 1 - (p + 1))
        case measure => omega
        case rel => exact ⟨p + 1, by simp, by omega, by omega, J, O2.out _⟩
    · have h1 : ¬ ((p : Int) < (m : Int)) := by omega
      have h2 : decide ((p : Int) < (m : Int)) = false := decide_eq_false h1
      have T := Lib.hid (okL_iff.2 fun i hi => hj.out i (by have := H.out.2; omega))
      go_wp2_with fail
      go_ret
      exact ⟨by rw [T.out]; rfl, O.out⟩
end Go.Proofs.Ytmgmfihjojhilaa
