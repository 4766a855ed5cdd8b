/-
  What follows for fronts of a list; the statements' plain arithmetic.
-/
import Derived.Test.YtmgmfihjojhilaaRcT
namespace Go.Proofs.Ytmgmfihjojhilaa
set_option maxRecDepth 100000
open Go.RowKit
set_option linter.unusedVariables false
set_option linter.unusedSimpArgs false
set_option maxRecDepth 100000

theorem conf_turned (a b : Ev) : confB b a = confB a b := by
  unfold confB
  rw [Bool.or_comm (plainK b.kind), Bool.or_comm (writesK b.kind)]
  have h1 : (b.who != a.who) = (a.who != b.who) := bne_comm
  have h2 : decide (b.lc = a.lc) = decide (a.lc = b.lc) := by by_cases e : a.lc = b.lc <;> simp [e, eq_comm]
  rw [h1, h2]
theorem conf_self (a : Ev) : confB a a = false := by simp [confB]
theorem conf_atomic {a b : Ev} (h1 : a.kind < 5) (h2 : b.kind < 5) : confB a b = false := by
  have e1 : plainK a.kind = false := by simp [plainK]; omega
  have e2 : plainK b.kind = false := by simp [plainK]; omega
  simp [confB, e1, e2]
theorem evs_take {xs : List Ev} {q i : Nat} (h : i < q) : evs (xs.take q) i = evs xs i := by
  unfold evs
  rw [List.getD_eq_getElem?_getD, List.getD_eq_getElem?_getD, List.getElem?_take, if_pos h]
theorem okL_take {xs : List Ev} (h : okL xs = true) (q : Nat) : okL (xs.take q) = true := by
  unfold okL at h ⊢
  rw [List.all_eq_true] at h ⊢
  exact fun x hx => h x (List.mem_of_mem_take hx)
theorem raceB_front {l l' : Nat → Ev} {n i j : Nat} (h : ∀ k, k < n → l k = l' k) (hi : i < n) (hj : j < n) : raceB l i j = raceB l' i j := by
  unfold raceB
  rw [clk_front h hi, clk_front h hj, h i hi, h j hj]
theorem FirstIs.congr {l l' : Nat → Ev} {n : Nat} {a b : Int} {ok : Bool} (h : ∀ k, k < n → l k = l' k) (hF : FirstIs l n a b ok) : FirstIs l' n a b ok := by
  rcases hF with ⟨h1, h2, h3, h4⟩ | ⟨h1, i, j, h2, h3, h4, h5, h6, h7, h8⟩
  · exact .inl ⟨h1, h2, h3, fun j hj i hi => by rw [← raceB_front h (by omega) hj]; exact h4 j hj i hi⟩
  · exact .inr ⟨h1, i, j, h2, h3, h4, h5, by rw [← raceB_front h (by omega) h5]; exact h6, fun j' hj i' hi => by rw [← raceB_front h (by omega) (by omega)]; exact h7 j' hj i' hi, fun i' hi => by rw [← raceB_front h (by omega) h5]; exact h8 i' hi⟩
theorem FirstIs.none_front {l : Nat → Ev} {m q : Nat} {a b a' b' : Int} {ok' : Bool} (h : FirstIs l m a b false) (hq : q ≤ m) (h' : FirstIs l q a' b' ok') : ok' = false := by
  rcases h with ⟨_, _, _, h4⟩ | ⟨h1, _⟩
  · rcases h' with ⟨g, _⟩ | ⟨g, i, j, _, _, g3, g4, g5, _⟩
    · exact g
    · rw [h4 j (by omega) i g3] at g5; cases g5
  · cases h1
theorem FirstIs.some_front {l : Nat → Ev} {m q i j : Nat} {a' b' : Int} {ok' : Bool} (h : FirstIs l m (i : Int) (j : Int) true) (hq : q ≤ m) (h' : FirstIs l q a' b' ok') : (j < q → ok' = true ∧ a' = (i : Int) ∧ b' = (j : Int)) ∧ (¬ j < q → ok' = false) := by
  rcases h with ⟨h1, _⟩ | ⟨_, i2, j2, e1, e2, h3, h4, h5, h6, h7⟩
  · cases h1
  · obtain rfl : i = i2 := by omega
    obtain rfl : j = j2 := by omega
    constructor
    · intro hj
      obtain ⟨u1, u2, u3⟩ := FirstIs.unique h' (.inr ⟨rfl, i, j, rfl, rfl, h3, hj, h5, h6, h7⟩)
      exact ⟨u3, u1, u2⟩
    · intro hj
      obtain ⟨u1, u2, u3⟩ := FirstIs.unique h' (.inl ⟨rfl, rfl, rfl, fun j' hj' i' hi' => h6 j' (by omega) i' hi'⟩)
      exact u3
theorem FirstL.ok_is {xs : List Ev} {a b : Int} {ok : Bool} (h : FirstL xs a b ok) (hk : okL xs = true) : FirstIs (evs xs) xs.length a b ok := by
  rcases h with ⟨_, h⟩ | ⟨h, _⟩
  · exact h
  · rw [hk] at h; cases h
theorem FirstIs.form {l : Nat → Ev} {m : Nat} {a b : Int} (h : FirstIs l m a b true) : ∃ i j : Nat, a = (i : Int) ∧ b = (j : Int) ∧ i < j ∧ j < m ∧ confB (l i) (l j) = true ∧ leqB (clk l i) (clk l j) = false := by
  rcases h with ⟨h1, _⟩ | ⟨_, i, j, e1, e2, h3, h4, h5, _⟩
  · cases h1
  · have : confB (l i) (l j) = true ∧ leqB (clk l i) (clk l j) = false := by simpa [raceB] using h5
    exact ⟨i, j, e1, e2, h3, h4, this.1, this.2⟩
theorem befB_nat {xs : List Ev} (hk : okL xs = true) {i j : Nat} (hi : i < xs.length) (hj : j < xs.length) : befB xs (i : Int) (j : Int) = (decide (i ≠ j) && leqB (clk (evs xs) i) (clk (evs xs) j)) := by
  unfold befB
  rw [hk]
  have e1 : inB (i : Int) xs.length = true := by simp [inB, hi]
  have e2 : inB (j : Int) xs.length = true := by simp [inB, hj]
  rw [e1, e2]
  simp only [Int.toNat_natCast, Bool.true_and, Bool.and_true]
  congr 1
  by_cases e : i = j
  · subst e; simp
  · have : ¬ ((i : Int) = (j : Int)) := by omega
    simp [e, this]
theorem clkN_ok {xs : List Ev} (h : okL xs = true) : clkN xs = xs.length := by unfold clkN; rw [h, if_pos rfl]
/-- Clocks of events that may be: with what a cut of them wants. -/
theorem cClocksF (A : Option Addr) (m c : Nat) (xs : List Ev) (w : World) (hm : xs.length = m) (hb : m ≤ 100) (h : Evs w A xs) (hok : okL xs = true) (hlc : ∀ i, i < m → (evs xs i).lc.ok) :
    Calls Try.prog 18 #[.slice A m c] w fun e w' => ∃ A2 c2, e = .returned (.slice A2 m c2) ∧ (Rd w' A2 m (clk (evs xs)) ∧ m ≤ c2 ∧ ((A2 = none ∧ m = 0 ∧ c2 = 0) ∨ ∃ g, A2 = some ⟨g, 0, none⟩)) ∧ Only [] w w' := by
  have hO : ∀ i, i < m → okE (evs xs i) = true := fun i hi => okL_iff.1 hok i (by omega)
  refine (cClocks A m c xs w hm hb h hok hlc).mono fun e w' q => ?_
  obtain ⟨A2, c2, q1, hs, q2⟩ := q
  refine ⟨A2, c2, q1, ⟨q2.row.rd (fun k hk => (clk_fits hO (by omega) hk).1), ?_⟩, q2.only⟩
  rcases q2.row.row.2 with ⟨e, e2⟩ | ⟨g, cap, cur, e, _, _, hnc, _⟩
  · injection e with e0 e1 e3
    exact ⟨by omega, .inl ⟨e0, e1, e3⟩⟩
  · injection e with e0 e1 e3
    exact ⟨by omega, .inr ⟨g, e0⟩⟩
end Go.Proofs.Ytmgmfihjojhilaa
