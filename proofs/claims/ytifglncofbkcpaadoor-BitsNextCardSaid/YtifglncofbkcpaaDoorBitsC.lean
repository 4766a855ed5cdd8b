/-
  Contracts of the document's own Bit and One (at every number and index), and of Same and Plain over two lists of integers that are alike: they return true, and change nothing.
-/
import Derived.Test.YtifglncofbkcpaaDoorBitsB
import Derived.WalkSmall
import Derived.BigQuiet
import Derived.Deep.QuietTactic
import Derived.Deep.Draws
import Derived.OwnWalk
import Derived.Laws.OwnMore
import Derived.Laws.AppendOwnNone
namespace Go.Proofs.YtifglncofbkcpaaDoor
open Go.ChangeShapes Go.WideShapes Go.ChangeAt Go.RowKit
set_option linter.unusedVariables false

theorem half_pow (b k : Nat) : ((b / 2 ^ k : Nat) : Int) / 2 = ((b / 2 ^ (k + 1) : Nat) : Int) := by
  rw [Nat.pow_succ, ← Nat.div_div_eq_div_mul]
  omega
theorem bit_test (b n : Nat) (hn : n < 64) : (((b / 2 ^ n : Nat) : Int) % 2 == 1) = hasB b n := by
  unfold hasB
  rw [decide_eq_true (by omega), Bool.true_and, Nat.testBit_eq_decide_div_mod_eq, Int.toNat_natCast]
  generalize b / 2 ^ n = q
  have e : (q : Int) % 2 = ((q % 2 : Nat) : Int) := by omega
  have h : q % 2 = 0 ∨ q % 2 = 1 := by omega
  rw [e]
  rcases h with h | h <;> rw [h] <;> rfl
set_option maxHeartbeats 400000 in
theorem rbit_in (b n : Nat) (w : World) (hb : b < 18446744073709551616) (hn : n < 64) :
    Calls Tryd.prog 15 #[.int .u64 b, .int .i64 n] w fun e w' => e = .returned (.bool (hasB b n)) ∧ w = w' := by
  go_enter Tryd.func15, Tryd.ntmps15
  go_wp2
  go_loop [0, 5] (fun v i => ∃ k : Nat, k ≤ n ∧ i = .int .i64 k ∧ v = .int .u64 ((b / 2 ^ k : Nat) : Int)) (fun _ i => n - (intOf i).toNat)
  case atStart => exact ⟨0, Nat.zero_le _, rfl, by simp⟩
  case round =>
    obtain ⟨k, hk, rfl, rfl⟩ := hrel
    by_cases e : k = n
    · subst e
      have t := bit_test b k hn
      have q0 : b / 2 ^ k < 18446744073709551616 := Nat.lt_of_le_of_lt (Nat.div_le_self _ _) hb
      generalize b / 2 ^ k = q at *
      go_wp2
      go_ret
      exact ⟨rfl, rfl⟩
    · have t : ((k : Int) == (n : Int)) = false := by simp; omega
      have H := Lib.hid (half_pow b k)
      have q0 : b / 2 ^ k < 18446744073709551616 := Nat.lt_of_le_of_lt (Nat.div_le_self _ _) hb
      generalize b / 2 ^ k = q at *
      go_wp2
      go_round
      case rel => exact ⟨k + 1, by omega, by go_num, by rw [← H.out]⟩
      case measure => simp [intOf]; omega
set_option maxHeartbeats 400000 in
theorem rbit_out (b : Nat) (i : Int) (w : World) (hb : b < 18446744073709551616) (hi : i < 0 ∨ 64 ≤ i) :
    Calls Tryd.prog 15 #[.int .u64 b, .int .i64 i] w fun e w' => e = .returned (.bool (hasB b i)) ∧ w = w' := by
  have e : hasB b i = false := by unfold hasB; rw [decide_eq_false (by omega), Bool.false_and]
  rw [e]
  clear e
  go_enter Tryd.func15, Tryd.ntmps15
  go_wp2
  go_loop [0, 5] (fun v j => ∃ k q : Nat, k ≤ 64 ∧ q < 18446744073709551616 ∧ j = .int .i64 k ∧ v = .int .u64 (q : Int)) (fun _ j => 64 - (intOf j).toNat)
  case atStart => exact ⟨0, b, by omega, hb, rfl, rfl⟩
  case round =>
    obtain ⟨k, q, hk, hq, rfl, rfl⟩ := hrel
    by_cases e : k < 64
    · have t : ((k : Int) == i) = false := by simp; omega
      clear hi
      go_wp2
      go_round
      case rel => exact ⟨k + 1, q / 2, by omega, by omega, by go_num, by go_num⟩
      case measure => simp [intOf]; omega
    · clear hi
      go_wp2
      go_ret
      exact ⟨rfl, rfl⟩
theorem rbit_any (b : Nat) (i : Int) (w : World) (hb : b < 18446744073709551616) :
    Calls Tryd.prog 15 #[.int .u64 b, .int .i64 i] w fun e w' => e = .returned (.bool (hasB b i)) ∧ w = w' := by
  by_cases h : 0 ≤ i ∧ i < 64
  · obtain ⟨n, rfl⟩ := Int.eq_ofNat_of_zero_le h.1
    exact rbit_in b n w hb (by omega)
  · exact rbit_out b i w hb (by omega)

theorem twice_pow (k : Nat) (hk : k < 63) : 2 * ((2 ^ k : Nat) : Int) = ((2 ^ (k + 1) : Nat) : Int) ∧ 2 ^ k ≤ 4611686018427387904 := by
  refine ⟨by rw [Nat.pow_succ]; omega, ?_⟩
  have : 2 ^ k ≤ 2 ^ 62 := Nat.pow_le_pow_right (by decide) (by omega)
  exact this
set_option maxHeartbeats 400000 in
theorem rone_any (i : Int) (w : World) :
    Calls Tryd.prog 14 #[.int .i64 i] w fun e w' => e = .returned (.int .u64 (oneM i)) ∧ w = w' := by
  by_cases h : 0 ≤ i ∧ i < 64
  · obtain ⟨n, rfl⟩ := Int.eq_ofNat_of_zero_le h.1
    have hn : n < 64 := by omega
    have e : oneM n = 2 ^ n := by unfold oneM; rw [if_pos h]; simp
    rw [e]
    clear e h
    obtain ⟨p, hp⟩ : ∃ p : Nat, p = 2 ^ n := ⟨_, rfl⟩
    rw [← hp]
    have HP := Lib.hid hp
    clear hp
    go_enter Tryd.func14, Tryd.ntmps14
    go_wp2
    go_loop [3, 4] (fun v i => ∃ k : Nat, k ≤ n ∧ i = .int .i64 k ∧ v = .int .u64 ((2 ^ k : Nat) : Int)) (fun _ i => n - (intOf i).toNat)
    case atStart => exact ⟨0, Nat.zero_le _, rfl, rfl⟩
    case round =>
      obtain ⟨k, hk, rfl, rfl⟩ := hrel
      by_cases e : k < n
      · obtain ⟨h1, h2⟩ := twice_pow k (by omega)
        have H := Lib.hid h1
        clear h1
        generalize 2 ^ k = q at *
        go_wp2
        go_round
        case rel => exact ⟨k + 1, by omega, by go_num, by rw [← H.out]⟩
        case measure => simp [intOf]; omega
      · obtain rfl : k = n := by omega
        rw [← HP.out]
        clear HP
        go_wp2
        go_ret
        exact ⟨rfl, rfl⟩
  · have e : oneM i = 0 := by unfold oneM; rw [if_neg h]
    rw [e]
    by_cases h0 : i < 0
    · clear h e
      go_enter Tryd.func14, Tryd.ntmps14
      go_wp2
      go_ret
      exact ⟨rfl, rfl⟩
    · have h1 : 63 < i := by omega
      clear h e
      go_enter Tryd.func14, Tryd.ntmps14
      go_wp2
      go_ret
      exact ⟨rfl, rfl⟩

/-! ### Lists of integers in memory -/
/-- A slice's address leads to these numbers. -/
def CellsAt (w : World) (a : Option Addr) (l : List Nat) : Prop := l ≠ [] → ∃ g, a = some ⟨g, 0, none⟩ ∧ g < w.heap.size ∧ ∀ k, k < l.length → w.cell? ⟨g, k, none⟩ = some (.int .i64 (l.getD k 0 : Nat))
theorem CellsAt.below {w w' : World} {a : Option Addr} {l : List Nat} (h : CellsAt w a l) (hb : Below w.heap.size w w') : CellsAt w' a l := fun hl => by
  obtain ⟨g, rfl, hg, hc⟩ := h hl
  exact ⟨g, rfl, Nat.lt_of_lt_of_le hg hb.size, fun k hk => (hb.cell hg).trans (hc k hk)⟩
theorem Tab.below {w w' : World} (h : Tab w) (hb : Below w.heap.size w w') : Tab w' := fun j hj =>
  (hb.cell (World.block_lt_of_cell? w _ (h j hj))).trans (h j hj)
theorem own_shape {w : World} {base : Nat} {e : TypeId} {v : Value} {l : List Nat} (h : w.ownsRow base e 1 v l.length (l.map fun n : Nat => Value.int .i64 n)) : ∃ a cap, v = .slice a l.length cap ∧ CellsAt w a l := by
  have h2 := h.2
  rcases h2 with ⟨rfl, hl⟩ | ⟨g, cap, cur, rfl, _, hh, _⟩
  · have : l = [] := List.eq_nil_of_length_eq_zero hl
    subst this
    exact ⟨none, 0, rfl, fun h => absurd rfl h⟩
  · refine ⟨_, cap, rfl, fun _ => ⟨g, rfl, lt_of_block hh, fun k hk => ?_⟩⟩
    rw [h.cellAt k (by omega)]
    simp [List.getD_eq_getElem?_getD, List.getElem?_eq_getElem hk]

set_option maxHeartbeats 400000 in
theorem eq_any (x y : Int) (w : World) :
    Calls Tryd.prog 22 #[.int .i64 x, .int .i64 y] w fun e w' => e = .returned (.bool (x == y)) ∧ w = w' := by
  go_enter Tryd.func22, Tryd.ntmps22
  go_wp2
  go_ret
  exact ⟨rfl, rfl⟩
def Drawn (w w' : World) : Prop := ∃ n, w' = w.drewN n
theorem Drawn.cell {w w' : World} (h : Drawn w w') (a : Addr) : w'.cell? a = w.cell? a := by obtain ⟨n, rfl⟩ := h; rfl
theorem Drawn.more {w w' : World} (h : Drawn w w') (m : Nat) : Drawn w (w'.drewN m) := by obtain ⟨n, rfl⟩ := h; exact ⟨n + m, by simp⟩
theorem Drawn.below {w w' : World} (h : Drawn w w') : Below w.heap.size w w' := by
  obtain ⟨n, rfl⟩ := h
  exact below_drewN (Below.refl _ _) n
end Go.Proofs.YtifglncofbkcpaaDoor
