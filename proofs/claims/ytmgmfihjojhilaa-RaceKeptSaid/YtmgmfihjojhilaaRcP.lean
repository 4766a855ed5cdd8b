/-
  Clocks and First of any events, both; two rows of clocks held against each other.
-/
import Derived.Test.YtmgmfihjojhilaaRcK
import Derived.Test.YtmgmfihjojhilaaRcL
import Derived.Test.YtmgmfihjojhilaaRcO
import Derived.StillTailTactics
namespace Go.Proofs.Ytmgmfihjojhilaa
set_option maxRecDepth 100000
open Go.RowKit
set_option linter.unusedVariables false
set_option linter.unusedSimpArgs false
set_option maxRecDepth 100000

/-- A row's address leads to these lists. -/
def Rd (w : World) (A : Option Addr) (n : Nat) (cs : Nat → List Int) : Prop :=
  ∀ k, k < n → ∃ gr B m c, A = some ⟨gr, 0, none⟩ ∧ w.cell? ⟨gr, k, none⟩ = some (.slice B m c) ∧ Nums 0 w B (cs k) ∧ (cs k).length = m ∧ m ≤ 64
theorem Rd.only0 {w w' : World} {A : Option Addr} {n : Nat} {cs : Nat → List Int} (h : Rd w A n cs) (ho : Only [] w w') : Rd w' A n cs := fun k hk => by
  obtain ⟨gr, B, m, c, e, hc, hn, hl, hm⟩ := h k hk
  exact ⟨gr, B, m, c, e, (ho.cell (World.block_lt_of_cell? _ _ hc) (by simp)).trans hc, hn.only0 ho, hl, hm⟩
theorem Rd.less {w : World} {A : Option Addr} {n m : Nat} {cs : Nat → List Int} (h : Rd w A n cs) (hm : m ≤ n) : Rd w A m cs := fun k hk => h k (by omega)
theorem Rd.congr {w : World} {A : Option Addr} {n : Nat} {cs ds : Nat → List Int} (h : Rd w A n cs) (he : ∀ k, k < n → cs k = ds k) : Rd w A n ds := fun k hk => by rw [← he k hk]; exact h k hk
theorem CRow.rd {S : Nat} {w : World} {A : Option Addr} {p cap : Nat} {hs : List Sl} {cs : Nat → List Int} (h : CRow S w A p cap hs cs p) (h64 : ∀ k, k < p → (cs k).length ≤ 64) : Rd w A p cs := fun k hk => by
  obtain ⟨gr, g, ⟨B, m, c⟩, e, hc, _, t⟩ := h.at_ hk
  exact ⟨gr, B, m, c, e, hc, t.nums.zero, t.len, by have := h64 k hk; have h9 : _ = m := t.len; omega⟩
/-- How many clocks are told. -/
def clkN (xs : List Ev) : Nat := if okL xs = true then xs.length else 0
theorem cClocksR (A : Option Addr) (m c : Nat) (xs : List Ev) (w : World) (hm : xs.length = m) (hb : m ≤ 100) (h : Evs w A xs) (hlc : ∀ i, i < m → (evs xs i).lc.ok) :
    Calls Try.prog 18 #[.slice A m c] w fun e w' => ∃ A2 c2, e = .returned (.slice A2 (clkN xs) c2) ∧ Rd w' A2 (clkN xs) (clk (evs xs)) ∧ Only [] w w' := by
  rcases hok : okL xs
  · refine (cClocksNo A m c xs w hm hb h hok).mono fun e w' q => ⟨none, 0, ?_, fun k hk => ?_, q.2⟩
    · rw [q.1]; unfold clkN; rw [hok]; rfl
    · unfold clkN at hk; rw [hok] at hk; simp at hk
  · have hO : ∀ i, i < m → okE (evs xs i) = true := fun i hi => okL_iff.1 hok i (by omega)
    refine (cClocks A m c xs w hm hb h hok hlc).mono fun e w' q => ?_
    obtain ⟨A2, c2, q1, hs, q2⟩ := q
    have e9 : clkN xs = m := by unfold clkN; rw [hok, if_pos rfl, hm]
    rw [e9]
    exact ⟨A2, c2, q1, q2.row.rd (fun k hk => (clk_fits hO (by omega) hk).1), q2.only⟩
theorem rClocksR (A : Option Addr) (m c : Nat) (xs : List Ev) (w : World) (hm : xs.length = m) (hb : m ≤ 100) (h : Evs w A xs) :
    Calls Try.prog 19 #[.slice A m c] w fun e w' => ∃ A2 c2, e = .returned (.slice A2 (clkN xs) c2) ∧ Rd w' A2 (clkN xs) (clk (evs xs)) ∧ Only [] w w' := by
  rcases hok : okL xs
  · refine (rClocksNo A m c xs w hm hb h hok).mono fun e w' q => ⟨none, 0, ?_, fun k hk => ?_, q.2⟩
    · rw [q.1]; unfold clkN; rw [hok]; rfl
    · unfold clkN at hk; rw [hok] at hk; simp at hk
  · have hO : ∀ i, i < m → okE (evs xs i) = true := fun i hi => okL_iff.1 hok i (by omega)
    refine (rClocks A m c xs w hm hb h hok).mono fun e w' q => ?_
    obtain ⟨A2, c2, q1, hs, q2⟩ := q
    have e9 : clkN xs = m := by unfold clkN; rw [hok, if_pos rfl, hm]
    rw [e9]
    exact ⟨A2, c2, q1, q2.row.rd (fun k hk => (clk_fits hO (by omega) hk).1), q2.only⟩
theorem cFirst (A : Option Addr) (m c : Nat) (xs : List Ev) (w : World) (a b : Int) (ok : Bool) (hm : xs.length = m) (hb : m ≤ 100) (h : Evs w A xs) (hlc : ∀ i, i < m → (evs xs i).lc.ok) (hF : FirstL xs a b ok) :
    Calls Try.prog 12 #[.slice A m c] w fun e w' => e = .returned (.tuple #[.int .i64 a, .int .i64 b, .bool ok]) ∧ Only [] w w' := by
  rcases hF with ⟨hok, hF⟩ | ⟨hok, rfl, rfl, rfl⟩
  · exact cFirstOk A m c xs w a b ok hm hb h hok hlc (hm ▸ hF)
  · exact cFirstNo A m c xs w hm hb h hok
theorem rFirst (A : Option Addr) (m c : Nat) (xs : List Ev) (w : World) (a b : Int) (ok : Bool) (hm : xs.length = m) (hb : m ≤ 100) (h : Evs w A xs) (hF : FirstL xs a b ok) :
    Calls Try.prog 13 #[.slice A m c] w fun e w' => e = .returned (.tuple #[.int .i64 a, .int .i64 b, .bool ok]) ∧ Only [] w w' := by
  rcases hF with ⟨hok, hF⟩ | ⟨hok, rfl, rfl, rfl⟩
  · exact rFirstOk A m c xs w a b ok hm hb h hok (hm ▸ hF)
  · exact rFirstNo A m c xs w hm hb h hok

/-! ### Same, clocks -/
set_option maxHeartbeats 2000000 in
theorem hSame (w : World) (A A' : Option Addr) (n c c' : Nat) (cs : Nat → List Int) (hm : n ≤ 1000) (h : Rd w A n cs) (h' : Rd w A' n cs) :
    Calls Try.prog 39 #[.slice A n c, .slice A' n c', .func (.func 28) #[] #[]] w fun e w' => e = .returned (.bool true) ∧ Only [] w w' := by
  have R1 := Lib.hid h
  have R2 := Lib.hid h'
  clear h h'
  go_enter Try.func39, Try.ntmps39
  go_wp2_with fail
  go_loopg [7] (n + 1) (fun gk si wr => ∃ k : Nat, si = .int .i64 (k : Int) ∧ k ≤ n ∧ n + 1 ≤ gk + k ∧ Hid (Only [] w wr))
  case atStart => exact ⟨0, rfl, by omega, by omega, Only.refl [] w⟩
  case round =>
    obtain ⟨k, rfl, hk, hg, O⟩ := hrel
    by_cases hlt : k < n
    · have hlt' : (k : Int) < (n : Int) := by omega
      obtain ⟨g1, B1, m1, c1, rfl, x1, n1, l1, b1⟩ := (R1.out.only0 O.out) k hlt
      obtain ⟨g2, B2, m2, c2, rfl, x2, n2, l2, b2⟩ := (R2.out.only0 O.out) k hlt
      obtain rfl : m1 = m2 := by omega
      have pl := Lib.hid (iPlain wr.drew B1 B2 m1 c1 c2 (cs k) l1 (by omega) (n1.only0 (Only.refl [] wr).drew) (n2.only0 (Only.refl [] wr).drew))
      clear n1 n2 l1 l2
      go_wp2_with fail
      go_still_tail 9, (by kernel_rfl)
      change wpList _ _ _ _ _ wr.drew
      go_wp2_with fail
      refine pl.out.mono ?_
      rintro e w5 ⟨rfl, o5⟩
      have O5 : Hid (Only [] w w5) := O.out.drew.trans' o5
      clear pl o5
      go_wp2_with fail
      go_roundg (n + 1 - (k + 1))
      case measure => omega
      case rel => exact ⟨k + 1, by simp, by omega, by omega, O5⟩
    · have hpl' : decide ((k : Int) < (n : Int)) = false := decide_eq_false (by omega)
      have hpl'' : ¬ ((k : Int) < (n : Int)) := by omega
      go_wp2_with fail
      go_ret
      exact ⟨rfl, O.out⟩
theorem hClocks (w : World) (A A' : Option Addr) (n c c' : Nat) (cs : Nat → List Int) (hm : n ≤ 1000) (h : Rd w A n cs) (h' : Rd w A' n cs) :
    Calls Try.prog 17 #[.slice A n c, .slice A' n c'] w fun e w' => e = .returned (.bool true) ∧ Only [] w w' := by
  have hs := hSame w A A' n c c' cs hm h h'
  clear h h'
  go_enter Try.func17, Try.ntmps17
  go_wp2_with fail
  refine hs.mono ?_
  rintro e w2 ⟨rfl, o2⟩
  go_wp2_with fail
  go_ret
  exact ⟨rfl, o2⟩
end Go.Proofs.Ytmgmfihjojhilaa
