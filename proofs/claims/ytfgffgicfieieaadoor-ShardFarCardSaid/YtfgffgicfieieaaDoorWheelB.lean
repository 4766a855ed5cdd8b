/-
  Contracts of math/bits.TrailingZeros64, of With, Without, Next of package bits, and of the document's Bit, One, Bits.
-/
import Derived.Test.YtfgffgicfieieaaDoorRows
import Derived.Test.YtfgffgicfieieaaDoorBitsM
import Derived.WalkKit
import Derived.ProofKit
import Derived.OpenShut
import Derived.IntWalk
import Derived.Lib.Hide
import Derived.Laws.Bits64b
import Derived.Lib.BitFns
import Derived.Lib.Strings
import Derived.Lib.Slices
import Derived.Lib.Small
import Derived.Lib.Walk
import Derived.WalkSmall
import Derived.BigQuiet
import Derived.Deep.QuietTactic
import Derived.Deep.Draws
import Derived.OwnWalk
import Derived.Laws.OwnMore
import Derived.Laws.AppendOwnNone
namespace Go.Proofs.YtfgffgicfieieaaDoor
set_option maxRecDepth 100000
open Go.ChangeShapes Go.WideShapes Go.ChangeAt Go.RowKit
set_option linter.unusedVariables false
set_option linter.unusedSimpArgs false

/-- The table of math/bits lies where it belongs. -/
def Tab (w : World) : Prop := ∀ j, j < 64 → w.cell? ⟨0, j, none⟩ = some (.int .u8 (Lib.deBruijn64tab.getD j 0))
set_option maxHeartbeats 1000000 in
theorem tz_core (x k idx : Nat) (w : World) (hx0 : ((x : Int) == 0) = false)
    (key : IntKind.u64.wrap (bits BinOp.and IntKind.u64 (x : Int) (IntKind.u64.wrap (-(x : Int))) * 285870213051353865) / 288230376151711744 = (idx : Int))
    (hi : idx < 64) (hk : k < 64) (hcell : w.cell? ⟨0, idx, none⟩ = some (.int .u8 k)) :
    Calls Tryd.prog 81 #[.int .u64 x] w fun e w' => e = .returned (.int .i64 k) ∧ w = w' := by
  go_enter Tryd.func81, Tryd.ntmps81
  go_wp2_with (simp only [key])
  go_ret
  exact ⟨rfl, rfl⟩
theorem tz_key (x a : Nat) (hx : x < 18446744073709551616) (hx0 : x ≠ 0) (hlow : x &&& (18446744073709551616 - x) = a) :
    IntKind.u64.wrap (bits BinOp.and IntKind.u64 (x : Int) (IntKind.u64.wrap (-(x : Int))) * 285870213051353865) / 288230376151711744 = ((a * 285870213051353865 % 18446744073709551616 / 288230376151711744 : Nat) : Int) := by
  have e1 : IntKind.u64.wrap (-(x : Int)) = ((18446744073709551616 - x : Nat) : Int) := by rw [IntKind.wrap_u64]; omega
  rw [e1, bits_and_u64_nat x _ hx (by omega), hlow, IntKind.wrap_u64]
  omega
theorem tz_any (x : Nat) (w : World) (hx0 : x ≠ 0) (hx : x < 18446744073709551616) (hT : Tab w) :
    Calls Tryd.prog 81 #[.int .u64 x] w fun e w' => e = .returned (.int .i64 (Lib.ctz 64 x)) ∧ w = w' := by
  obtain ⟨hlow, hk⟩ := Lib.lowest_bit 64 x hx0 hx
  obtain ⟨hi, htab⟩ := Lib.deBruijn64_at _ hk
  have hcell := hT _ hi
  rw [htab] at hcell
  exact tz_core x _ _ w (by simp; omega) (tz_key x _ hx hx0 hlow) hi hk hcell
/-- The number with one bit; 0 of none. Whether a bit is set. With it, and without it. -/
def oneM (i : Int) : Nat := if 0 ≤ i ∧ i < 64 then 2 ^ i.toNat else 0
def hasB (b : Nat) (i : Int) : Bool := decide (0 ≤ i ∧ i < 64) && b.testBit i.toNat
def withM (b : Nat) (i : Int) : Nat := b ||| oneM i
def withoutM (b : Nat) (i : Int) : Nat := b &&& (18446744073709551615 - oneM i)
theorem oneM_lt (i : Int) : oneM i < 18446744073709551616 := by
  unfold oneM
  split
  · have : 2 ^ i.toNat < 2 ^ 64 := Nat.pow_lt_pow_right (by decide) (by omega)
    exact this
  · omega
theorem withM_lt (b : Nat) (i : Int) (hb : b < 18446744073709551616) : withM b i < 18446744073709551616 := Nat.or_lt_two_pow (n := 64) hb (oneM_lt i)
theorem withoutM_lt (b : Nat) (i : Int) (hb : b < 18446744073709551616) : withoutM b i < 18446744073709551616 := Nat.lt_of_le_of_lt Nat.and_le_left hb
theorem wrap_pow (i : Int) (h0 : 0 ≤ i) (h1 : i < 64) : IntKind.u64.wrap (2 ^ i.toNat) = (oneM i : Int) := by
  have e : oneM i = 2 ^ i.toNat := by unfold oneM; rw [if_pos ⟨h0, h1⟩]
  have l := oneM_lt i
  rw [e] at l ⊢
  have e2 : ((2 ^ i.toNat : Nat) : Int) = (2 : Int) ^ i.toNat := by rw [Int.natCast_pow]; rfl
  rw [← e2, IntKind.wrap_u64]
  omega
theorem wrap_below (i : Int) (h0 : 0 ≤ i) (h1 : i < 64) : IntKind.u64.wrap (IntKind.u64.wrap (2 ^ i.toNat) - 1) = ((2 ^ held i - 1 : Nat) : Int) := by
  have e : oneM i = 2 ^ i.toNat := by unfold oneM; rw [if_pos ⟨h0, h1⟩]
  have e3 : held i = i.toNat := by unfold held; rw [if_neg (by omega), if_pos (by omega)]
  have l := oneM_lt i
  have p := Nat.two_pow_pos i.toNat
  rw [wrap_pow i h0 h1, e3, e, IntKind.wrap_u64]
  rw [e] at l
  omega
set_option maxHeartbeats 400000 in
theorem bit_any (i : Int) (w : World) :
    Calls Tryd.prog 91 #[.int .i64 i] w fun e w' => e = .returned (.int .u64 (oneM i)) ∧ w = w' := by
  by_cases h : 0 ≤ i ∧ i < 64
  · obtain ⟨h0, h1⟩ := h
    have e := wrap_pow i h0 h1
    go_enter Tryd.func91, Tryd.ntmps91
    go_wp2
    go_ret
    exact ⟨rfl, rfl⟩
  · have e : oneM i = 0 := by unfold oneM; rw [if_neg h]
    rw [e]
    by_cases h0 : i < 0
    · clear h e
      go_enter Tryd.func91, Tryd.ntmps91
      go_wp2
      go_ret
      exact ⟨rfl, rfl⟩
    · have h1 : 64 ≤ i := by omega
      clear h e
      go_enter Tryd.func91, Tryd.ntmps91
      go_wp2
      go_ret
      exact ⟨rfl, rfl⟩
theorem wrap_held (n : Nat) (hn : n ≤ 64) : IntKind.u64.wrap (IntKind.u64.wrap (2 ^ n) - 1) = ((2 ^ n - 1 : Nat) : Int) := by
  by_cases h : n = 64
  · subst h; decide
  · have e := wrap_below (n : Int) (by omega) (by omega)
    have e3 : held (n : Int) = n := by unfold held; rw [if_neg (by omega), if_pos (by omega)]; simp
    rw [e3, Int.toNat_natCast] at e
    exact e
set_option maxHeartbeats 400000 in
theorem below_any (i : Int) (w : World) :
    Calls Tryd.prog 80 #[.int .i64 i] w fun e w' => e = .returned (.int .u64 ((2 ^ held i - 1 : Nat) : Int)) ∧ w = w' := by
  have m : min (max i 0) 64 = (held i : Int) := by unfold held; split <;> (try split) <;> omega
  have hn := held_le i
  have e := wrap_held (held i) hn
  obtain ⟨v, hv⟩ : ∃ v : Int, ((2 ^ held i - 1 : Nat) : Int) = v := ⟨_, rfl⟩
  rw [hv] at e ⊢
  clear hv
  generalize held i = n at *
  go_enter Tryd.func80, Tryd.ntmps80
  go_wp2
  go_ret
  exact ⟨rfl, rfl⟩
set_option maxHeartbeats 400000 in
theorem with_any (b : Nat) (i : Int) (w : World) (hb : b < 18446744073709551616) :
    Calls Tryd.prog 76 #[.int .u64 b, .int .i64 i] w fun e w' => e = .returned (.int .u64 (withM b i)) ∧ w = w' := by
  have e : bits .or .u64 (b : Int) (oneM i : Int) = (withM b i : Int) := u64_or_nat b (oneM i) hb (oneM_lt i)
  go_enter Tryd.func76, Tryd.ntmps76
  go_wp2_with (go_at_call 91; refine (bit_any _ _).mono ?_; rintro e w' ⟨rfl, rfl⟩)
  go_ret
  exact ⟨rfl, rfl⟩
set_option maxHeartbeats 400000 in
theorem without_any (b : Nat) (i : Int) (w : World) (hb : b < 18446744073709551616) :
    Calls Tryd.prog 86 #[.int .u64 b, .int .i64 i] w fun e w' => e = .returned (.int .u64 (withoutM b i)) ∧ w = w' := by
  have e : bits .andNot .u64 (b : Int) (oneM i : Int) = (withoutM b i : Int) := u64_andNot_nat b (oneM i) hb (oneM_lt i)
  go_enter Tryd.func86, Tryd.ntmps86
  go_wp2_with (go_at_call 91; refine (bit_any _ _).mono ?_; rintro e w' ⟨rfl, rfl⟩)
  go_ret
  exact ⟨rfl, rfl⟩
theorem pow_held (i : Int) : 2 ^ held i - 1 < 18446744073709551616 := by
  have : 2 ^ held i ≤ 2 ^ 64 := Nat.pow_le_pow_right (by decide) (held_le i)
  omega
set_option maxHeartbeats 400000 in
theorem next_any (b : Nat) (f : Int) (w : World) (hb : b < 18446744073709551616) (hT : Tab w) :
    Calls Tryd.prog 63 #[.int .u64 b, .int .i64 f] w fun e w' => e = .returned (.int .i64 (nextM b f)) ∧ w = w' := by
  obtain ⟨n0, n1⟩ := next_rest b f hb
  have hl : b &&& (18446744073709551615 - (2 ^ held f - 1)) < 18446744073709551616 := Nat.lt_of_le_of_lt Nat.and_le_left hb
  have e : bits .andNot .u64 (b : Int) ((2 ^ held f - 1 : Nat) : Int) = ((b &&& (18446744073709551615 - (2 ^ held f - 1)) : Nat) : Int) := u64_andNot_nat b _ hb (pow_held f)
  have hbelow := below_any f w
  generalize b &&& (18446744073709551615 - (2 ^ held f - 1)) = r at *
  generalize ((2 ^ held f - 1 : Nat) : Int) = m at *
  by_cases h0 : r = 0
  · rw [n0 h0]
    rw [h0] at e
    clear n0 n1 hl h0
    go_enter Tryd.func63, Tryd.ntmps63
    go_wp2_with (go_at_call 80; refine hbelow.mono ?_; rintro e w' ⟨rfl, rfl⟩)
    go_ret
    exact ⟨rfl, rfl⟩
  · rw [n1 h0]
    have ht := tz_any r w h0 hl hT
    have t : ((r : Int) == 0) = false := by simp; omega
    clear n0 n1 hT
    go_enter Tryd.func63, Tryd.ntmps63
    go_wp2_with (first | (go_at_call 80; refine hbelow.mono ?_; rintro e w' ⟨rfl, rfl⟩) | (go_at_call 81; refine ht.mono ?_; rintro e w' ⟨rfl, rfl⟩))
    go_ret
    exact ⟨rfl, rfl⟩
theorem half_pow (b k : Nat) : ((b / 2 ^ k : Nat) : Int) / 2 = ((b / 2 ^ (k + 1) : Nat) : Int) := by
  rw [Nat.pow_succ, ← Nat.div_div_eq_div_mul]
  omega
theorem bit_test (b n : Nat) (hn : n < 64) : (((b / 2 ^ n : Nat) : Int) % 2 == 1) = hasB b n := by
  unfold hasB
  rw [decide_eq_true (by omega), Bool.true_and, Nat.testBit_eq_decide_div_mod_eq, Int.toNat_natCast]
  generalize b / 2 ^ n = q
  have e : (q : Int) % 2 = ((q % 2 : Nat) : Int) := by omega
  have h : q % 2 = 0 ∨ q % 2 = 1 := by omega
  rw [e]
  rcases h with h | h <;> rw [h] <;> rfl
theorem twice_pow (k : Nat) (hk : k < 63) : 2 * ((2 ^ k : Nat) : Int) = ((2 ^ (k + 1) : Nat) : Int) ∧ 2 ^ k ≤ 4611686018427387904 := by
  refine ⟨by rw [Nat.pow_succ]; omega, ?_⟩
  have : 2 ^ k ≤ 2 ^ 62 := Nat.pow_le_pow_right (by decide) (by omega)
  exact this
set_option maxHeartbeats 400000 in
theorem rone_any (i : Int) (w : World) :
    Calls Tryd.prog 79 #[.int .i64 i] w fun e w' => e = .returned (.int .u64 (oneM i)) ∧ w = w' := by
  by_cases h : 0 ≤ i ∧ i < 64
  · obtain ⟨n, rfl⟩ := Int.eq_ofNat_of_zero_le h.1
    have hn : n < 64 := by omega
    have e : oneM n = 2 ^ n := by unfold oneM; rw [if_pos h]; simp
    rw [e]
    clear e h
    obtain ⟨p, hp⟩ : ∃ p : Nat, p = 2 ^ n := ⟨_, rfl⟩
    rw [← hp]
    have HP := Lib.hid hp
    clear hp
    go_enter Tryd.func79, Tryd.ntmps79
    go_wp2
    go_loop [3, 4] (fun v i => ∃ k : Nat, k ≤ n ∧ i = .int .i64 k ∧ v = .int .u64 ((2 ^ k : Nat) : Int)) (fun _ i => n - (intOf i).toNat)
    case atStart => exact ⟨0, Nat.zero_le _, rfl, rfl⟩
    case round =>
      obtain ⟨k, hk, rfl, rfl⟩ := hrel
      by_cases e : k < n
      · obtain ⟨h1, h2⟩ := twice_pow k (by omega)
        have H := Lib.hid h1
        clear h1
        generalize 2 ^ k = q at *
        go_wp2
        go_round
        case rel => exact ⟨k + 1, by omega, by go_num, by rw [← H.out]⟩
        case measure => simp [intOf]; omega
      · obtain rfl : k = n := by omega
        rw [← HP.out]
        clear HP
        go_wp2
        go_ret
        exact ⟨rfl, rfl⟩
  · have e : oneM i = 0 := by unfold oneM; rw [if_neg h]
    rw [e]
    by_cases h0 : i < 0
    · clear h e
      go_enter Tryd.func79, Tryd.ntmps79
      go_wp2
      go_ret
      exact ⟨rfl, rfl⟩
    · have h1 : 63 < i := by omega
      clear h e
      go_enter Tryd.func79, Tryd.ntmps79
      go_wp2
      go_ret
      exact ⟨rfl, rfl⟩
/-- A slice's address leads to these numbers. -/
def CellsAt (w : World) (a : Option Addr) (l : List Nat) : Prop := l ≠ [] → ∃ g, a = some ⟨g, 0, none⟩ ∧ g < w.heap.size ∧ ∀ k, k < l.length → w.cell? ⟨g, k, none⟩ = some (.int .i64 (l.getD k 0 : Nat))
theorem CellsAt.below {w w' : World} {a : Option Addr} {l : List Nat} (h : CellsAt w a l) (hb : Below w.heap.size w w') : CellsAt w' a l := fun hl => by
  obtain ⟨g, rfl, hg, hc⟩ := h hl
  exact ⟨g, rfl, Nat.lt_of_lt_of_le hg hb.size, fun k hk => (hb.cell hg).trans (hc k hk)⟩
theorem Tab.below {w w' : World} (h : Tab w) (hb : Below w.heap.size w w') : Tab w' := fun j hj =>
  (hb.cell (World.block_lt_of_cell? w _ (h j hj))).trans (h j hj)
theorem own_shape {w : World} {base : Nat} {e : TypeId} {v : Value} {l : List Nat} (h : w.ownsRow base e 1 v l.length (l.map fun n : Nat => Value.int .i64 n)) : ∃ a cap, v = .slice a l.length cap ∧ CellsAt w a l := by
  have h2 := h.2
  rcases h2 with ⟨rfl, hl⟩ | ⟨g, cap, cur, rfl, _, hh, _⟩
  · have : l = [] := List.eq_nil_of_length_eq_zero hl
    subst this
    exact ⟨none, 0, rfl, fun h => absurd rfl h⟩
  · refine ⟨_, cap, rfl, fun _ => ⟨g, rfl, lt_of_block hh, fun k hk => ?_⟩⟩
    rw [h.cellAt k (by omega)]
    simp [List.getD_eq_getElem?_getD, List.getElem?_eq_getElem hk]
/-- A list in new memory. -/
def Fresh (l : List Nat) (w : World) (e : Ending) (w' : World) : Prop := ∃ a cap, e = .returned (.slice a l.length cap) ∧ CellsAt w' a l ∧ Below w.heap.size w w'
/-- What has been gathered so far. -/
def Owns (w : World) (base : Nat) (v : Value) (l : List Nat) : Prop := w.ownsRow base 3 1 v l.length (l.map fun n : Nat => Value.int .i64 n)
theorem Owns.fresh {w w' : World} {v : Value} {l : List Nat} (h : Owns w' w.heap.size v l) (hb : Below w.heap.size w w') : Fresh l w (.returned v) w' := by
  obtain ⟨a, cap, rfl, hc⟩ := own_shape h
  exact ⟨a, cap, rfl, hc, hb⟩
theorem info_int : (Tryd.prog.info? 3).map (fun i => (i.zero, i.size, i.bytes)) = some (some (.int .i64 0), 1, 8) := by kernel_rfl
/-- One number more: what the append leaves. -/
theorem Owns.snoc {w1 : World} {base : Nat} {v' : Value} {l : List Nat} {x : Nat} (h' : w1.ownsRow base 3 1 v' (l.length + 1) (l.map (fun n : Nat => Value.int .i64 n) ++ [.int .i64 (x : Int)])) : Owns w1 base v' (l ++ [x]) := by
  unfold Owns
  simpa using h'
theorem below_snoc {w wr w1 : World} {base : Nat} {v : Value} {l : List Nat} {o : Obj} (hb : Below base w wr) (hs : base ≤ wr.heap.size) (ho : Owns wr base v l) (hg : (wr.alloc o).grownBy w1 v.ownBlock) : Below base w w1 := by
  have h1 := hb.alloc hs o
  exact h1.grown hg (by simp; omega) (fun g e => (ho.lt g e).1)
end Go.Proofs.YtfgffgicfieieaaDoor
