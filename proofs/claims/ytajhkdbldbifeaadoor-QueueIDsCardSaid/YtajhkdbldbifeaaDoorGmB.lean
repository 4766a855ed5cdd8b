/-
  Contracts of math/bits.TrailingZeros64, of With, Without, Next of package bits, and of the document's Bit, One, Bits.
  Contracts of the wheel's Level and Bucket, and of the document's.
-/
import Derived.Test.YtajhkdbldbifeaaDoorRows
import Derived.Test.YtajhkdbldbifeaaDoorGmM
import Derived.WalkKit
import Derived.ProofKit
import Derived.OpenShut
import Derived.IntWalk
import Derived.Lib.Hide
import Derived.Laws.Bits64b
import Derived.Lib.BitFns
import Derived.Lib.Strings
import Derived.Lib.Slices
import Derived.Lib.Small
import Derived.Lib.Walk
import Derived.WalkSmall
import Derived.BigQuiet
import Derived.Deep.QuietTactic
import Derived.Deep.Draws
import Derived.OwnWalk
import Derived.Laws.OwnMore
import Derived.Laws.AppendOwnNone
namespace Go.Proofs.YtajhkdbldbifeaaDoor
set_option maxRecDepth 100000
open Go.ChangeShapes Go.WideShapes Go.ChangeAt Go.RowKit
set_option linter.unusedVariables false
set_option linter.unusedSimpArgs false

/-- The table of math/bits lies where it belongs. -/
def Tab (w : World) : Prop := ∀ j, j < 64 → w.cell? ⟨0, j, none⟩ = some (.int .u8 (Lib.deBruijn64tab.getD j 0))
set_option maxHeartbeats 1000000 in
theorem tz_core (x k idx : Nat) (w : World) (hx0 : ((x : Int) == 0) = false)
    (key : IntKind.u64.wrap (bits BinOp.and IntKind.u64 (x : Int) (IntKind.u64.wrap (-(x : Int))) * 285870213051353865) / 288230376151711744 = (idx : Int))
    (hi : idx < 64) (hk : k < 64) (hcell : w.cell? ⟨0, idx, none⟩ = some (.int .u8 k)) :
    Calls Tryd.prog 82 #[.int .u64 x] w fun e w' => e = .returned (.int .i64 k) ∧ w = w' := by
  go_enter Tryd.func82, Tryd.ntmps82
  go_wp2_with (simp only [key])
  go_ret
  exact ⟨rfl, rfl⟩
theorem tz_key (x a : Nat) (hx : x < 18446744073709551616) (hx0 : x ≠ 0) (hlow : x &&& (18446744073709551616 - x) = a) :
    IntKind.u64.wrap (bits BinOp.and IntKind.u64 (x : Int) (IntKind.u64.wrap (-(x : Int))) * 285870213051353865) / 288230376151711744 = ((a * 285870213051353865 % 18446744073709551616 / 288230376151711744 : Nat) : Int) := by
  have e1 : IntKind.u64.wrap (-(x : Int)) = ((18446744073709551616 - x : Nat) : Int) := by rw [IntKind.wrap_u64]; omega
  rw [e1, bits_and_u64_nat x _ hx (by omega), hlow, IntKind.wrap_u64]
  omega
theorem tz_any (x : Nat) (w : World) (hx0 : x ≠ 0) (hx : x < 18446744073709551616) (hT : Tab w) :
    Calls Tryd.prog 82 #[.int .u64 x] w fun e w' => e = .returned (.int .i64 (Lib.ctz 64 x)) ∧ w = w' := by
  obtain ⟨hlow, hk⟩ := Lib.lowest_bit 64 x hx0 hx
  obtain ⟨hi, htab⟩ := Lib.deBruijn64_at _ hk
  have hcell := hT _ hi
  rw [htab] at hcell
  exact tz_core x _ _ w (by simp; omega) (tz_key x _ hx hx0 hlow) hi hk hcell
/-- The number with one bit; 0 of none. Whether a bit is set. With it, and without it. -/
def oneM (i : Int) : Nat := if 0 ≤ i ∧ i < 64 then 2 ^ i.toNat else 0
def hasB (b : Nat) (i : Int) : Bool := decide (0 ≤ i ∧ i < 64) && b.testBit i.toNat
def withM (b : Nat) (i : Int) : Nat := b ||| oneM i
def withoutM (b : Nat) (i : Int) : Nat := b &&& (18446744073709551615 - oneM i)
theorem oneM_lt (i : Int) : oneM i < 18446744073709551616 := by
  unfold oneM
  split
  · have : 2 ^ i.toNat < 2 ^ 64 := Nat.pow_lt_pow_right (by decide) (by omega)
    exact this
  · omega
theorem withM_lt (b : Nat) (i : Int) (hb : b < 18446744073709551616) : withM b i < 18446744073709551616 := Nat.or_lt_two_pow (n := 64) hb (oneM_lt i)
theorem withoutM_lt (b : Nat) (i : Int) (hb : b < 18446744073709551616) : withoutM b i < 18446744073709551616 := Nat.lt_of_le_of_lt Nat.and_le_left hb
theorem wrap_pow (i : Int) (h0 : 0 ≤ i) (h1 : i < 64) : IntKind.u64.wrap (2 ^ i.toNat) = (oneM i : Int) := by
  have e : oneM i = 2 ^ i.toNat := by unfold oneM; rw [if_pos ⟨h0, h1⟩]
  have l := oneM_lt i
  rw [e] at l ⊢
  have e2 : ((2 ^ i.toNat : Nat) : Int) = (2 : Int) ^ i.toNat := by rw [Int.natCast_pow]; rfl
  rw [← e2, IntKind.wrap_u64]
  omega
theorem wrap_below (i : Int) (h0 : 0 ≤ i) (h1 : i < 64) : IntKind.u64.wrap (IntKind.u64.wrap (2 ^ i.toNat) - 1) = ((2 ^ held i - 1 : Nat) : Int) := by
  have e : oneM i = 2 ^ i.toNat := by unfold oneM; rw [if_pos ⟨h0, h1⟩]
  have e3 : held i = i.toNat := by unfold held; rw [if_neg (by omega), if_pos (by omega)]
  have l := oneM_lt i
  have p := Nat.two_pow_pos i.toNat
  rw [wrap_pow i h0 h1, e3, e, IntKind.wrap_u64]
  rw [e] at l
  omega
set_option maxHeartbeats 400000 in
theorem bit_any (i : Int) (w : World) :
    Calls Tryd.prog 79 #[.int .i64 i] w fun e w' => e = .returned (.int .u64 (oneM i)) ∧ w = w' := by
  by_cases h : 0 ≤ i ∧ i < 64
  · obtain ⟨h0, h1⟩ := h
    have e := wrap_pow i h0 h1
    go_enter Tryd.func79, Tryd.ntmps79
    go_wp2
    go_ret
    exact ⟨rfl, rfl⟩
  · have e : oneM i = 0 := by unfold oneM; rw [if_neg h]
    rw [e]
    by_cases h0 : i < 0
    · clear h e
      go_enter Tryd.func79, Tryd.ntmps79
      go_wp2
      go_ret
      exact ⟨rfl, rfl⟩
    · have h1 : 64 ≤ i := by omega
      clear h e
      go_enter Tryd.func79, Tryd.ntmps79
      go_wp2
      go_ret
      exact ⟨rfl, rfl⟩
theorem wrap_held (n : Nat) (hn : n ≤ 64) : IntKind.u64.wrap (IntKind.u64.wrap (2 ^ n) - 1) = ((2 ^ n - 1 : Nat) : Int) := by
  by_cases h : n = 64
  · subst h; decide
  · have e := wrap_below (n : Int) (by omega) (by omega)
    have e3 : held (n : Int) = n := by unfold held; rw [if_neg (by omega), if_pos (by omega)]; simp
    rw [e3, Int.toNat_natCast] at e
    exact e
set_option maxHeartbeats 400000 in
theorem below_any (i : Int) (w : World) :
    Calls Tryd.prog 81 #[.int .i64 i] w fun e w' => e = .returned (.int .u64 ((2 ^ held i - 1 : Nat) : Int)) ∧ w = w' := by
  have m : min (max i 0) 64 = (held i : Int) := by unfold held; split <;> (try split) <;> omega
  have hn := held_le i
  have e := wrap_held (held i) hn
  obtain ⟨v, hv⟩ : ∃ v : Int, ((2 ^ held i - 1 : Nat) : Int) = v := ⟨_, rfl⟩
  rw [hv] at e ⊢
  clear hv
  generalize held i = n at *
  go_enter Tryd.func81, Tryd.ntmps81
  go_wp2
  go_ret
  exact ⟨rfl, rfl⟩
set_option maxHeartbeats 400000 in
theorem with_any (b : Nat) (i : Int) (w : World) (hb : b < 18446744073709551616) :
    Calls Tryd.prog 67 #[.int .u64 b, .int .i64 i] w fun e w' => e = .returned (.int .u64 (withM b i)) ∧ w = w' := by
  have e : bits .or .u64 (b : Int) (oneM i : Int) = (withM b i : Int) := u64_or_nat b (oneM i) hb (oneM_lt i)
  go_enter Tryd.func67, Tryd.ntmps67
  go_wp2_with (go_at_call 79; refine (bit_any _ _).mono ?_; rintro e w' ⟨rfl, rfl⟩)
  go_ret
  exact ⟨rfl, rfl⟩
set_option maxHeartbeats 400000 in
theorem without_any (b : Nat) (i : Int) (w : World) (hb : b < 18446744073709551616) :
    Calls Tryd.prog 73 #[.int .u64 b, .int .i64 i] w fun e w' => e = .returned (.int .u64 (withoutM b i)) ∧ w = w' := by
  have e : bits .andNot .u64 (b : Int) (oneM i : Int) = (withoutM b i : Int) := u64_andNot_nat b (oneM i) hb (oneM_lt i)
  go_enter Tryd.func73, Tryd.ntmps73
  go_wp2_with (go_at_call 79; refine (bit_any _ _).mono ?_; rintro e w' ⟨rfl, rfl⟩)
  go_ret
  exact ⟨rfl, rfl⟩
theorem pow_held (i : Int) : 2 ^ held i - 1 < 18446744073709551616 := by
  have : 2 ^ held i ≤ 2 ^ 64 := Nat.pow_le_pow_right (by decide) (held_le i)
  omega
set_option maxHeartbeats 400000 in
theorem next_any (b : Nat) (f : Int) (w : World) (hb : b < 18446744073709551616) (hT : Tab w) :
    Calls Tryd.prog 71 #[.int .u64 b, .int .i64 f] w fun e w' => e = .returned (.int .i64 (nextM b f)) ∧ w = w' := by
  obtain ⟨n0, n1⟩ := next_rest b f hb
  have hl : b &&& (18446744073709551615 - (2 ^ held f - 1)) < 18446744073709551616 := Nat.lt_of_le_of_lt Nat.and_le_left hb
  have e : bits .andNot .u64 (b : Int) ((2 ^ held f - 1 : Nat) : Int) = ((b &&& (18446744073709551615 - (2 ^ held f - 1)) : Nat) : Int) := u64_andNot_nat b _ hb (pow_held f)
  have hbelow := below_any f w
  generalize b &&& (18446744073709551615 - (2 ^ held f - 1)) = r at *
  generalize ((2 ^ held f - 1 : Nat) : Int) = m at *
  by_cases h0 : r = 0
  · rw [n0 h0]
    rw [h0] at e
    clear n0 n1 hl h0
    go_enter Tryd.func71, Tryd.ntmps71
    go_wp2_with (go_at_call 81; refine hbelow.mono ?_; rintro e w' ⟨rfl, rfl⟩)
    go_ret
    exact ⟨rfl, rfl⟩
  · rw [n1 h0]
    have ht := tz_any r w h0 hl hT
    have t : ((r : Int) == 0) = false := by simp; omega
    clear n0 n1 hT
    go_enter Tryd.func71, Tryd.ntmps71
    go_wp2_with (first | (go_at_call 81; refine hbelow.mono ?_; rintro e w' ⟨rfl, rfl⟩) | (go_at_call 82; refine ht.mono ?_; rintro e w' ⟨rfl, rfl⟩))
    go_ret
    exact ⟨rfl, rfl⟩
theorem half_pow (b k : Nat) : ((b / 2 ^ k : Nat) : Int) / 2 = ((b / 2 ^ (k + 1) : Nat) : Int) := by
  rw [Nat.pow_succ, ← Nat.div_div_eq_div_mul]
  omega
theorem bit_test (b n : Nat) (hn : n < 64) : (((b / 2 ^ n : Nat) : Int) % 2 == 1) = hasB b n := by
  unfold hasB
  rw [decide_eq_true (by omega), Bool.true_and, Nat.testBit_eq_decide_div_mod_eq, Int.toNat_natCast]
  generalize b / 2 ^ n = q
  have e : (q : Int) % 2 = ((q % 2 : Nat) : Int) := by omega
  have h : q % 2 = 0 ∨ q % 2 = 1 := by omega
  rw [e]
  rcases h with h | h <;> rw [h] <;> rfl
theorem twice_pow (k : Nat) (hk : k < 63) : 2 * ((2 ^ k : Nat) : Int) = ((2 ^ (k + 1) : Nat) : Int) ∧ 2 ^ k ≤ 4611686018427387904 := by
  refine ⟨by rw [Nat.pow_succ]; omega, ?_⟩
  have : 2 ^ k ≤ 2 ^ 62 := Nat.pow_le_pow_right (by decide) (by omega)
  exact this
/-- A slice's address leads to these numbers. -/
def CellsAt (w : World) (a : Option Addr) (l : List Nat) : Prop := l ≠ [] → ∃ g, a = some ⟨g, 0, none⟩ ∧ g < w.heap.size ∧ ∀ k, k < l.length → w.cell? ⟨g, k, none⟩ = some (.int .i64 (l.getD k 0 : Nat))
theorem CellsAt.below {w w' : World} {a : Option Addr} {l : List Nat} (h : CellsAt w a l) (hb : Below w.heap.size w w') : CellsAt w' a l := fun hl => by
  obtain ⟨g, rfl, hg, hc⟩ := h hl
  exact ⟨g, rfl, Nat.lt_of_lt_of_le hg hb.size, fun k hk => (hb.cell hg).trans (hc k hk)⟩
theorem Tab.below {w w' : World} (h : Tab w) (hb : Below w.heap.size w w') : Tab w' := fun j hj =>
  (hb.cell (World.block_lt_of_cell? w _ (h j hj))).trans (h j hj)
theorem own_shape {w : World} {base : Nat} {e : TypeId} {v : Value} {l : List Nat} (h : w.ownsRow base e 1 v l.length (l.map fun n : Nat => Value.int .i64 n)) : ∃ a cap, v = .slice a l.length cap ∧ CellsAt w a l := by
  have h2 := h.2
  rcases h2 with ⟨rfl, hl⟩ | ⟨g, cap, cur, rfl, _, hh, _⟩
  · have : l = [] := List.eq_nil_of_length_eq_zero hl
    subst this
    exact ⟨none, 0, rfl, fun h => absurd rfl h⟩
  · refine ⟨_, cap, rfl, fun _ => ⟨g, rfl, lt_of_block hh, fun k hk => ?_⟩⟩
    rw [h.cellAt k (by omega)]
    simp [List.getD_eq_getElem?_getD, List.getElem?_eq_getElem hk]
/-- A list in new memory. -/
def Fresh (l : List Nat) (w : World) (e : Ending) (w' : World) : Prop := ∃ a cap, e = .returned (.slice a l.length cap) ∧ CellsAt w' a l ∧ Below w.heap.size w w'
/-- What has been gathered so far. -/
def Owns (w : World) (base : Nat) (v : Value) (l : List Nat) : Prop := w.ownsRow base 3 1 v l.length (l.map fun n : Nat => Value.int .i64 n)
theorem Owns.fresh {w w' : World} {v : Value} {l : List Nat} (h : Owns w' w.heap.size v l) (hb : Below w.heap.size w w') : Fresh l w (.returned v) w' := by
  obtain ⟨a, cap, rfl, hc⟩ := own_shape h
  exact ⟨a, cap, rfl, hc, hb⟩
theorem info_int : (Tryd.prog.info? 3).map (fun i => (i.zero, i.size, i.bytes)) = some (some (.int .i64 0), 1, 8) := by kernel_rfl
/-- One number more: what the append leaves. -/
theorem Owns.snoc {w1 : World} {base : Nat} {v' : Value} {l : List Nat} {x : Nat} (h' : w1.ownsRow base 3 1 v' (l.length + 1) (l.map (fun n : Nat => Value.int .i64 n) ++ [.int .i64 (x : Int)])) : Owns w1 base v' (l ++ [x]) := by
  unfold Owns
  simpa using h'
theorem below_snoc {w wr w1 : World} {base : Nat} {v : Value} {l : List Nat} {o : Obj} (hb : Below base w wr) (hs : base ≤ wr.heap.size) (ho : Owns wr base v l) (hg : (wr.alloc o).grownBy w1 v.ownBlock) : Below base w w1 := by
  have h1 := hb.alloc hs o
  exact h1.grown hg (by simp; omega) (fun g e => (ho.lt g e).1)
end Go.Proofs.YtajhkdbldbifeaaDoor

namespace Go.Proofs.YtajhkdbldbifeaaDoor
set_option maxRecDepth 100000
open Go.ChangeShapes Go.WideShapes Go.ChangeAt Go.RowKit
set_option linter.unusedVariables false
set_option linter.unusedSimpArgs false

/-- A width, held. -/
def wid (width : Int) : Nat := (min (max width 0) 40).toNat
theorem wid_le (width : Int) : wid width ≤ 40 := by unfold wid; omega
theorem wid_is (width : Int) : min (max width 0) 40 = (wid width : Int) := by unfold wid; omega
theorem wid_nat {wd : Nat} (h : wd ≤ 40) : wid (wd : Int) = wd := by unfold wid; omega
theorem wid_wid (width : Int) : wid (wid width : Int) = wid width := wid_nat (wid_le width)

theorem clamp_any (width : Int) (w : World) : Calls Tryd.prog 58 #[.int .i64 width] w fun e w' => e = .returned (.int .i64 (wid width : Int)) ∧ w = w' := by
  have m := wid_is width
  have hn := wid_le width
  generalize wid width = n at *
  go_enter Tryd.func58, Tryd.ntmps58
  go_wp2
  go_ret
  exact ⟨rfl, rfl⟩
theorem rwidth_any (width : Int) (w : World) : Calls Tryd.prog 24 #[.int .i64 width] w fun e w' => e = .returned (.int .i64 (wid width : Int)) ∧ w = w' := by
  have m := wid_is width
  have hn := wid_le width
  generalize wid width = n at *
  go_enter Tryd.func24, Tryd.ntmps24
  go_wp2
  go_ret
  exact ⟨rfl, rfl⟩
theorem isLevel_any (l : Int) (w : World) : Calls Tryd.prog 47 #[.int .i64 l] w fun e w' => e = .returned (.bool (decide (0 ≤ l ∧ l ≤ 2))) ∧ w = w' := by
  by_cases h0 : 0 ≤ l
  · by_cases h1 : l < 3
    · have e : decide (0 ≤ l ∧ l ≤ 2) = true := decide_eq_true (by omega)
      rw [e]
      clear e
      go_enter Tryd.func47, Tryd.ntmps47
      go_wp2
      go_ret
      exact ⟨rfl, rfl⟩
    · have e : decide (0 ≤ l ∧ l ≤ 2) = false := decide_eq_false (by omega)
      rw [e]
      clear e
      have h1' : 3 ≤ l := by omega
      go_enter Tryd.func47, Tryd.ntmps47
      go_wp2
      go_ret
      exact ⟨rfl, rfl⟩
  · have e : decide (0 ≤ l ∧ l ≤ 2) = false := decide_eq_false (by omega)
    rw [e]
    clear e
    have h1' : l < 0 := by omega
    go_enter Tryd.func47, Tryd.ntmps47
    go_wp2
    go_ret
    exact ⟨rfl, rfl⟩
theorem from_any (L : Nat) (hL : L ≤ 3) (width : Int) (w : World) : Calls Tryd.prog 62 #[.int .i64 (L : Int), .int .i64 width] w fun e w' => e = .returned (.int .u64 ((wid width + 6 * L : Nat) : Int)) ∧ w = w' := by
  have hn := wid_le width
  have hc := clamp_any width w
  generalize wid width = n at *
  go_enter Tryd.func62, Tryd.ntmps62
  go_wp2_with (go_at_call 58; refine hc.mono ?_; rintro e w' ⟨rfl, rfl⟩)
  go_ret
  exact ⟨by simp, rfl⟩

set_option maxHeartbeats 400000 in
theorem bucket_in (key width : Int) (L : Nat) (hL : L < 3) (h0 : 0 ≤ key) (h1 : key ≤ 18446744073709551615) (w : World) :
    Calls Tryd.prog 75 #[.int .u64 key, .int .i64 (L : Int), .int .i64 width] w fun e w' => e = .returned (.int .i64 (bkM (wid width) key L)) ∧ w = w' := by
  have hn := wid_le width
  have hf := from_any L (by omega) width w
  have hb := bkM_rng (wid width) key L
  have hi := isLevel_any (L : Int) w
  have hd : decide (0 ≤ (L : Int) ∧ (L : Int) ≤ 2) = true := decide_eq_true (by omega)
  rw [hd] at hi
  have hk : key / 2 ^ (wid width + 6 * L) % 64 = bkM (wid width) key L := by
    rw [pow_split]
    unfold bkM
    rw [Int.pow_mul]
    rfl
  have hk' : (key / 2 ^ (wid width + 6 * L)).tmod 64 = bkM (wid width) key L := by
    rw [Int.tmod_eq_emod_of_nonneg (Int.ediv_nonneg h0 (Int.pow_nonneg (by decide)))]; exact hk
  have hw : wrap64 (bkM (wid width) key L) = bkM (wid width) key L := by unfold wrap64; omega
  generalize wid width = n at *
  generalize bkM n key L = q at *
  clear hd hk
  go_enter Tryd.func75, Tryd.ntmps75
  go_wp2_with (first | (go_at_call 47; refine hi.mono ?_; rintro e w' ⟨rfl, rfl⟩) | (go_at_call 62; refine hf.mono ?_; rintro e w' ⟨rfl, rfl⟩))
  go_ret
  exact ⟨by simp [hk', hw], rfl⟩
theorem bucket_out (key width l : Int) (hl : l < 0 ∨ 2 < l) (w : World) :
    Calls Tryd.prog 75 #[.int .u64 key, .int .i64 l, .int .i64 width] w fun e w' => e = .returned (.int .i64 (-1)) ∧ w = w' := by
  have hi := isLevel_any l w
  have hd : decide (0 ≤ l ∧ l ≤ 2) = false := decide_eq_false (by omega)
  rw [hd] at hi
  clear hd hl
  go_enter Tryd.func75, Tryd.ntmps75
  go_wp2_with (go_at_call 47; refine hi.mono ?_; rintro e w' ⟨rfl, rfl⟩)
  go_ret
  exact ⟨rfl, rfl⟩

/-- By how many lowest bits: alike but for them? -/
def alike (wd : Nat) (base key : Int) (L : Nat) : Bool := decide (base / 2 ^ (wd + 6 * (L + 1)) = key / 2 ^ (wd + 6 * (L + 1)))
theorem alike_iff (wd : Nat) (base key : Int) : (alike wd base key 0 = true ↔ uu wd base / 64 = uu wd key / 64) ∧ (alike wd base key 1 = true ↔ uu wd base / 4096 = uu wd key / 4096) ∧ (alike wd base key 2 = true ↔ uu wd base / 262144 = uu wd key / 262144) := by
  unfold alike
  refine ⟨?_, ?_, ?_⟩ <;> rw [decide_eq_true_eq, pow_split, pow_split] <;> simp
theorem levM_at {wd : Nat} {base key : Int} (h : base ≤ key) {k : Nat} (hk : k < 3) (ha : alike wd base key k = true) (hb : ∀ j, j < k → alike wd base key j = false) : levM wd base key = (k : Int) := by
  obtain ⟨a0, a1, a2⟩ := alike_iff wd base key
  obtain ⟨i0, i1, i2, i3⟩ := levM_is (wd := wd) h
  have h3 : k = 0 ∨ k = 1 ∨ k = 2 := by omega
  rcases h3 with rfl | rfl | rfl
  · exact i0 (a0.1 ha)
  · refine i1 (fun e => ?_) (a1.1 ha)
    have := hb 0 (by omega); rw [a0.2 e] at this; cases this
  · refine i2 (fun e => ?_) (a2.1 ha)
    have := hb 1 (by omega); rw [a1.2 e] at this; cases this
theorem levM_far {wd : Nat} {base key : Int} (h : base ≤ key) (hb : ∀ j, j < 3 → alike wd base key j = false) : levM wd base key = 3 := by
  obtain ⟨a0, a1, a2⟩ := alike_iff wd base key
  refine (levM_is (wd := wd) h).2.2.2 (fun e => ?_)
  have := hb 2 (by omega); rw [a2.2 e] at this; cases this
theorem xor_zero (a b : Nat) : a ^^^ b = 0 ↔ a = b := by
  constructor
  · intro h
    apply Nat.eq_of_testBit_eq
    intro i
    have := congrArg (fun n => n.testBit i) h
    simp only [Nat.testBit_xor, Nat.zero_testBit] at this
    revert this
    cases a.testBit i <;> cases b.testBit i <;> simp
  · rintro rfl
    exact Nat.xor_self a
theorem xor_test (base key : Int) (b0 : 0 ≤ base) (b1 : base ≤ 18446744073709551615) (k0 : 0 ≤ key) (k1 : key ≤ 18446744073709551615) : ∃ X : Int, bits .xor .u64 base key = X ∧ 0 ≤ X ∧ X ≤ 18446744073709551615 ∧ ∀ wd L : Nat, (X / 2 ^ (wd + 6 * (L + 1)) == 0) = alike wd base key L := by
  obtain ⟨b, rfl⟩ := Int.eq_ofNat_of_zero_le b0
  obtain ⟨k, rfl⟩ := Int.eq_ofNat_of_zero_le k0
  refine ⟨((b ^^^ k : Nat) : Int), u64_xor_nat b k (by omega) (by omega), by omega, ?_, fun wd L => ?_⟩
  · have : b ^^^ k < 2 ^ 64 := Nat.xor_lt_two_pow (by omega) (by omega)
    omega
  · unfold alike
    generalize wd + 6 * (L + 1) = n
    have ep : ((2 : Int) ^ n) = ((2 ^ n : Nat) : Int) := by rw [Int.natCast_pow]; rfl
    have hx : (b ^^^ k) / 2 ^ n = 0 ↔ b / 2 ^ n = k / 2 ^ n := by
      rw [← Nat.shiftRight_eq_div_pow, ← Nat.shiftRight_eq_div_pow, ← Nat.shiftRight_eq_div_pow, Nat.shiftRight_xor_distrib, xor_zero]
    rw [ep]
    simp only [← Int.natCast_ediv, Int.ofNat_eq_natCast]
    by_cases c : b / 2 ^ n = k / 2 ^ n
    · have c2 : ((((b ^^^ k) / 2 ^ n : Nat) : Int) == 0) = true := by rw [hx.2 c]; rfl
      rw [c2, decide_eq_true (by rw [c])]
    · have c1 : ¬ ((b ^^^ k) / 2 ^ n : Nat) = 0 := fun e => c (hx.1 e)
      have c2 : ((((b ^^^ k) / 2 ^ n : Nat) : Int) == 0) = false := beq_eq_false_iff_ne.2 (by omega)
      rw [c2, decide_eq_false (by omega)]

set_option maxHeartbeats 1000000 in
theorem level_any (base key width : Int) (b0 : 0 ≤ base) (b1 : base ≤ 18446744073709551615) (k0 : 0 ≤ key) (k1 : key ≤ 18446744073709551615) (w : World) :
    Calls Tryd.prog 48 #[.int .u64 base, .int .u64 key, .int .i64 width] w fun e w' => e = .returned (.int .i64 (levM (wid width) base key)) ∧ w = w' := by
  by_cases hlt : key < base
  · have e : levM (wid width) base key = -1 := by unfold levM; rw [if_pos hlt]
    rw [e]
    clear e
    go_enter Tryd.func48, Tryd.ntmps48
    go_wp2
    go_ret
    exact ⟨rfl, rfl⟩
  · have hle : base ≤ key := by omega
    obtain ⟨X, hX, x0, x1, hT⟩ := xor_test base key b0 b1 k0 k1
    have hn := wid_le width
    have hf : ∀ L : Nat, L < 3 → Calls Tryd.prog 62 #[.int .i64 ((L : Int) + 1), .int .i64 width] w fun e w' => e = .returned (.int .u64 ((wid width + 6 * (L + 1) : Nat) : Int)) ∧ w = w' := fun L hL => from_any (L + 1) (by omega) width w
    have HF := Lib.hid hf
    have HT := Lib.hid hT
    have ha : Hid (∀ k, k < 3 → alike (wid width) base key k = true → (∀ j, j < k → alike (wid width) base key j = false) → levM (wid width) base key = (k : Int)) := fun k h1 h2 h3 => levM_at hle h1 h2 h3
    have hb : Hid ((∀ j, j < 3 → alike (wid width) base key j = false) → levM (wid width) base key = 3) := fun h => levM_far hle h
    clear hf hT hlt
    generalize wid width = n at *
    generalize levM n base key = v at *
    go_enter Tryd.func48, Tryd.ntmps48
    go_wp2
    go_loop [11] (fun i => ∃ k : Nat, k ≤ 3 ∧ i = .int .i64 k ∧ Hid (∀ j, j < k → alike n base key j = false)) (fun i => 3 - (intOf i).toNat)
    case atStart => exact ⟨0, by omega, rfl, fun j hj => absurd hj (by omega)⟩
    case round =>
      obtain ⟨k, hk, rfl, HK⟩ := hrel
      by_cases h3 : k < 3
      · have hf := HF.out k h3
        have ht := HT.out n k
        rcases hal : alike n base key k with _ | _
        · rw [hal] at ht
          go_wp2_with (go_at_call 62; refine hf.mono ?_; rintro e w' ⟨rfl, rfl⟩)
          go_round
          case rel => exact ⟨k + 1, by omega, by go_num, fun j hj => by
            rcases Nat.lt_or_ge j k with h | h
            · exact HK.out j h
            · obtain rfl : j = k := by omega
              exact hal⟩
          case measure => simp [intOf]; omega
        · rw [hal] at ht
          have hv := Lib.hid (ha.out k h3 hal HK.out)
          go_wp2_with (go_at_call 62; refine hf.mono ?_; rintro e w' ⟨rfl, rfl⟩)
          go_ret
          exact ⟨by rw [hv.out]; rfl, rfl⟩
      · obtain rfl : k = 3 := by omega
        have hv := Lib.hid (hb.out HK.out)
        go_wp2
        go_ret
        exact ⟨by rw [hv.out]; rfl, rfl⟩

/-! ### the document's -/
end Go.Proofs.YtajhkdbldbifeaaDoor
