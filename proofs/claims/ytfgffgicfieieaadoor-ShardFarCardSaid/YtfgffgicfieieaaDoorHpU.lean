/-
  Contracts of the heap's two ways: upward, downward.
-/
import Derived.Test.YtfgffgicfieieaaDoorHpA
namespace Go.Proofs.YtfgffgicfieieaaDoor
set_option maxRecDepth 100000
open Go.RowKit Go.ChangeMaps Go.MapKept
set_option linter.unusedVariables false
set_option linter.unusedSimpArgs false

theorem halfway (i : Nat) (h : 0 < i) : ((i : Int) - 1) / 2 = (((i - 1) / 2 : Nat) : Int) := by omega

/-- Which way the item at i must go up, and whether it must. -/
def upOK (xs : List It) (i : Nat) : Bool := decide (0 < i) && (gOf xs i).lt (gOf xs ((i - 1) / 2))

set_option maxRecDepth 100000 in
set_option maxHeartbeats 1000000 in
theorem hupward (w : World) (hb mb : Nat) (v : Value) (xs : List It) (h : HeapIs w hb v mb xs) (i : Nat) (hi : i < xs.length) (hs : xs.length ≤ 1000000) :
    Calls Tryd.prog 61 #[.pointer (some ⟨hb, 0, none⟩), .int .i64 (i : Int)] w fun e w' =>
      e = .returned (.tuple #[.int .i64 (((i - 1) / 2 : Nat) : Int), .bool (upOK xs i)]) ∧ Only [] w w' := by
  unfold upOK
  have hm : i ≤ 1000000 := by omega
  rcases Nat.eq_zero_or_pos i with h0 | h0
  · subst h0
    clear h hi
    go_enter Tryd.func61, Tryd.ntmps61
    go_wp2
    go_ret2
    exact ⟨rfl, Only.refl _ _⟩
  · have hh := halfway i h0
    have hc := hahead w hb mb v xs h i ((i - 1) / 2) hi (by omega)
    rw [← hh] at hc
    have hlt : (0 : Int) < (i : Int) := by omega
    have hp : (0 : Int) ≤ ((i : Int) - 1) / 2 := by omega
    have H := Lib.hid hh
    rw [← hh]
    clear h hh hi
    have e1 : decide (0 < i) = true := by simpa using h0
    rw [e1, Bool.true_and]
    generalize (gOf xs i).lt (gOf xs ((i - 1) / 2)) = b at hc ⊢
    go_enter Tryd.func61, Tryd.ntmps61
    go_wp2_with fail
    refine hc.mono ?_
    rintro e w' ⟨rfl, ho⟩
    go_wp2_with fail
    go_ret2
    exact ⟨rfl, ho⟩

/-- Which child of i comes first; and whether it is ahead of i. -/
def kid (xs : List It) (i : Nat) : Nat := if 2 * i + 2 < xs.length ∧ (gOf xs (2 * i + 2)).lt (gOf xs (2 * i + 1)) = true then 2 * i + 2 else 2 * i + 1
def downOK (xs : List It) (i : Nat) : Bool := decide (kid xs i < xs.length) && (gOf xs (kid xs i)).lt (gOf xs i)

set_option maxRecDepth 100000 in
set_option maxHeartbeats 2000000 in
theorem hdownward (w : World) (hb mb : Nat) (v : Value) (xs : List It) (h : HeapIs w hb v mb xs) (i : Nat) (hi : i < xs.length) (hs : xs.length ≤ 1000000) :
    Calls Tryd.prog 87 #[.pointer (some ⟨hb, 0, none⟩), .int .i64 (i : Int)] w fun e w' =>
      e = .returned (.tuple #[.int .i64 ((kid xs i : Nat) : Int), .bool (downOK xs i)]) ∧ Only [] w w' := by
  have hm : i ≤ 1000000 := by omega
  obtain ⟨A, cap, ev⟩ := h.row.form
  have c0 := h.c0
  rw [ev] at c0
  have ho0 : Only [] w w := Only.refl _ _
  have hlen : ∀ W, Only [] w W → W.cell? ⟨hb, 0, none⟩ = some (.slice A xs.length cap) := fun W ho => by rw [← ev]; exact (h.only0 ho).c0
  have ha := fun W (ho : Only [] w W) (a b : Nat) (ha : a < xs.length) (hb' : b < xs.length) => hahead W hb mb v xs (h.only0 ho) a b ha hb'
  clear h ev
  unfold downOK kid
  by_cases h1 : 2 * i + 2 < xs.length
  · have t1 : (2 : Int) * (i : Int) + 1 + 1 < (xs.length : Int) := by omega
    have e2 : ((2 * i + 2 : Nat) : Int) = 2 * (i : Int) + 1 + 1 := by omega
    have e1 : ((2 * i + 1 : Nat) : Int) = 2 * (i : Int) + 1 := by omega
    have a1 := ha w ho0 (2 * i + 2) (2 * i + 1) h1 (by omega)
    rw [e1, e2] at a1
    rcases hb1 : (gOf xs (2 * i + 2)).lt (gOf xs (2 * i + 1)) with _ | _
    · have e3 : (if 2 * i + 2 < xs.length ∧ false = true then 2 * i + 2 else 2 * i + 1) = 2 * i + 1 := if_neg (by simp)
      rw [e3]
      rw [hb1] at a1
      have a2 := fun W ho => ha W ho (2 * i + 1) i (by omega) hi
      rw [e1] at a2
      have t2 : (2 : Int) * (i : Int) + 1 < (xs.length : Int) := by omega
      have e4 : decide (2 * i + 1 < xs.length) = true := by simp; omega
      rw [e1, e4, Bool.true_and]
      generalize (gOf xs (2 * i + 1)).lt (gOf xs i) = bb at a2 ⊢
      generalize xs.length = n at *
      have K1 := Lib.hid e1
      have K2 := Lib.hid e2
      clear e1 e2 e3 e4 ha hb1 h1 hi
      go_enter Tryd.func87, Tryd.ntmps87
      go_wp2_with fail
      refine a1.mono ?_
      rintro e w1 ⟨rfl, o1⟩
      have c1 := hlen w1 o1
      go_wp2_with fail
      refine (a2 _ o1).mono ?_
      rintro e w2 ⟨rfl, o2⟩
      go_wp2_with fail
      go_ret2
      exact ⟨rfl, o1.trans' o2⟩
    · have e3 : (if 2 * i + 2 < xs.length ∧ true = true then 2 * i + 2 else 2 * i + 1) = 2 * i + 2 := if_pos ⟨h1, rfl⟩
      rw [e3]
      rw [hb1] at a1
      have a2 := fun W ho => ha W ho (2 * i + 2) i (by omega) hi
      rw [e2] at a2
      have e4 : decide (2 * i + 2 < xs.length) = true := by simp; omega
      rw [e2, e4, Bool.true_and]
      generalize (gOf xs (2 * i + 2)).lt (gOf xs i) = bb at a2 ⊢
      generalize xs.length = n at *
      have K1 := Lib.hid e1
      have K2 := Lib.hid e2
      clear e1 e2 e3 e4 ha hb1 h1 hi
      go_enter Tryd.func87, Tryd.ntmps87
      go_wp2_with fail
      refine a1.mono ?_
      rintro e w1 ⟨rfl, o1⟩
      have c1 := hlen w1 o1
      go_wp2_with fail
      refine (a2 _ o1).mono ?_
      rintro e w2 ⟨rfl, o2⟩
      go_wp2_with fail
      go_ret2
      exact ⟨rfl, o1.trans' o2⟩
  · have e3 : (if 2 * i + 2 < xs.length ∧ (gOf xs (2 * i + 2)).lt (gOf xs (2 * i + 1)) = true then 2 * i + 2 else 2 * i + 1) = 2 * i + 1 := if_neg (fun e => h1 e.1)
    rw [e3]
    have t1 : decide ((2 : Int) * (i : Int) + 1 + 1 < (xs.length : Int)) = false := decide_eq_false (by omega)
    have e1 : ((2 * i + 1 : Nat) : Int) = 2 * (i : Int) + 1 := by omega
    by_cases h2 : 2 * i + 1 < xs.length
    · have a2 := fun W ho => ha W ho (2 * i + 1) i h2 hi
      rw [e1] at a2
      have t2 : (2 : Int) * (i : Int) + 1 < (xs.length : Int) := by omega
      have e4 : decide (2 * i + 1 < xs.length) = true := by simp; omega
      rw [e1, e4, Bool.true_and]
      generalize (gOf xs (2 * i + 1)).lt (gOf xs i) = bb at a2 ⊢
      generalize xs.length = n at *
      have K1 := Lib.hid e1
      clear e1 e3 e4 ha h1 h2 hi
      go_enter Tryd.func87, Tryd.ntmps87
      go_wp2_with fail
      refine (a2 _ ho0).mono ?_
      rintro e w2 ⟨rfl, o2⟩
      go_wp2_with fail
      go_ret2
      exact ⟨rfl, o2⟩
    · have t2 : decide ((2 : Int) * (i : Int) + 1 < (xs.length : Int)) = false := decide_eq_false (by omega)
      have e4 : decide (2 * i + 1 < xs.length) = false := by simp; omega
      rw [e1, e4, Bool.false_and]
      generalize xs.length = n at *
      have K1 := Lib.hid e1
      clear e1 e3 e4 ha h1 h2 hi
      go_enter Tryd.func87, Tryd.ntmps87
      go_wp2_with fail
      go_ret2
      exact ⟨rfl, ho0⟩
end Go.Proofs.YtfgffgicfieieaaDoor
