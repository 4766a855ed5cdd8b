/-
  Contracts of Same and Plain over two lists of integers that are alike (they return true, and change nothing), of the document's own Bits, and of bits.All: both return the set bits, rising, in new memory.
-/
import Derived.Test.YtifglncofbkcpaaDoorBitsC
namespace Go.Proofs.YtifglncofbkcpaaDoor
open Go.ChangeShapes Go.WideShapes Go.ChangeAt Go.RowKit
set_option linter.unusedVariables false

set_option maxHeartbeats 1000000 in
theorem same_full (g g' n c c' : Nat) (l : List Nat) (w : World) (hn : l.length = n) (hm : n ≤ 64) (h : ∀ k, k < n → w.cell? ⟨g, k, none⟩ = some (.int .i64 (l.getD k 0 : Nat))) (h' : ∀ k, k < n → w.cell? ⟨g', k, none⟩ = some (.int .i64 (l.getD k 0 : Nat))) :
    Calls Tryd.prog 21 #[.slice (some ⟨g, 0, none⟩) n c, .slice (some ⟨g', 0, none⟩) n c', .func (.func 22) #[] #[]] w fun e w' => e = .returned (.bool true) ∧ Drawn w w' := by
  clear hn
  go_enter Tryd.func21, Tryd.ntmps21
  go_wp2
  go_loopw [7] (fun i wr => ∃ k : Nat, k ≤ n ∧ i = .int .i64 k ∧ Drawn w wr) (fun i _ => n - (intOf i).toNat)
  case atStart => exact ⟨0, Nat.zero_le _, rfl, 0, rfl⟩
  case round =>
    obtain ⟨k, hk, rfl, hd⟩ := hrel
    by_cases hlt : k < n
    · have c1 := (hd.cell _).trans (h k hlt)
      have c2 := (hd.cell _).trans (h' k hlt)
      clear h h'
      generalize l.getD k 0 = x at *
      go_wp2_with fail
      go_quiet ((go_at_call 22; exact Calls.quiet_of_same ((eq_any _ _ _).mono fun _ _ q => ⟨q.1, q.2.symm⟩)))
      go_wp2
      go_roundw
      case rel => exact ⟨k + 1, by omega, by go_num, hd.more _⟩
      case measure => simp [intOf]; omega
    · go_wp2
      go_ret
      exact ⟨rfl, hd⟩

set_option maxHeartbeats 1000000 in
theorem same_none (a a' : Option Addr) (c c' : Nat) (w : World) :
    Calls Tryd.prog 21 #[.slice a 0 c, .slice a' 0 c', .func (.func 22) #[] #[]] w fun e w' => e = .returned (.bool true) ∧ Drawn w w' := by
  go_enter Tryd.func21, Tryd.ntmps21
  go_wp2
  go_loop [7] (fun i => i = .int .i64 0) (fun _ => 0)
  case atStart => rfl
  case round =>
    obtain rfl := hrel
    go_wp2
    go_ret
    exact ⟨rfl, 0, rfl⟩

/-- Plain, over two lists that are alike: it returns true, and what was there is as it was. -/
theorem plain_any (a a' : Option Addr) (c c' : Nat) (l : List Nat) (w : World) (hm : l.length ≤ 64) (h : CellsAt w a l) (h' : CellsAt w a' l) :
    Calls Tryd.prog 11 #[.slice a l.length c, .slice a' l.length c'] w fun e w' => e = .returned (.bool true) ∧ Below w.heap.size w w' := by
  have hs : Calls Tryd.prog 21 #[.slice a l.length c, .slice a' l.length c', .func (.func 22) #[] #[]] w fun e w' => e = .returned (.bool true) ∧ Drawn w w' := by
    by_cases e : l = []
    · subst e
      exact same_none a a' c c' w
    · obtain ⟨g, rfl, _, hc⟩ := h e
      obtain ⟨g', rfl, _, hc'⟩ := h' e
      exact same_full g g' l.length c c' l w rfl hm hc hc'
  generalize l.length = n at *
  clear h h'
  go_enter Tryd.func11, Tryd.ntmps11
  go_wp2_with fail
  refine hs.mono ?_
  rintro e w' ⟨rfl, hd⟩
  have hb := hd.below
  clear hd
  go_wp2
  go_ret
  exact ⟨rfl, hb⟩

/-- A list in new memory. -/
def Fresh (l : List Nat) (w : World) (e : Ending) (w' : World) : Prop := ∃ a cap, e = .returned (.slice a l.length cap) ∧ CellsAt w' a l ∧ Below w.heap.size w w'
/-- What has been gathered so far. -/
def Owns (w : World) (base : Nat) (v : Value) (l : List Nat) : Prop := w.ownsRow base 3 1 v l.length (l.map fun n : Nat => Value.int .i64 n)
theorem Owns.fresh {w w' : World} {v : Value} {l : List Nat} (h : Owns w' w.heap.size v l) (hb : Below w.heap.size w w') : Fresh l w (.returned v) w' := by
  obtain ⟨a, cap, rfl, hc⟩ := own_shape h
  exact ⟨a, cap, rfl, hc, hb⟩
theorem info_int : (Tryd.prog.info? 3).map (fun i => (i.zero, i.size, i.bytes)) = some (some (.int .i64 0), 1, 8) := by kernel_rfl
/-- One number more: what the append leaves. -/
theorem Owns.snoc {w1 : World} {base : Nat} {v' : Value} {l : List Nat} {x : Nat} (h' : w1.ownsRow base 3 1 v' (l.length + 1) (l.map (fun n : Nat => Value.int .i64 n) ++ [.int .i64 (x : Int)])) : Owns w1 base v' (l ++ [x]) := by
  unfold Owns
  simpa using h'
theorem below_snoc {w wr w1 : World} {base : Nat} {v : Value} {l : List Nat} {o : Obj} (hb : Below base w wr) (hs : base ≤ wr.heap.size) (ho : Owns wr base v l) (hg : (wr.alloc o).grownBy w1 v.ownBlock) : Below base w w1 := by
  have h1 := hb.alloc hs o
  exact h1.grown hg (by simp; omega) (fun g e => (ho.lt g e).1)

set_option maxHeartbeats 1000000 in
theorem rbits_any (b : Nat) (w : World) (hb : b < 18446744073709551616) :
    Calls Tryd.prog 9 #[.int .u64 b] w (Fresh (upTo b 64) w) := by
  obtain ⟨i0, hi, hz0, hz1, hz2⟩ := info_parts info_int
  go_enter Tryd.func9, Tryd.ntmps9
  go_wp2
  go_loopw [3, 4] (fun v i wr => ∃ k : Nat, k ≤ 64 ∧ i = .int .i64 k ∧ Owns wr w.heap.size v (upTo b k) ∧ Below w.heap.size w wr) (fun _ i _ => 64 - (intOf i).toNat)
  case atStart => exact ⟨0, by omega, rfl, World.ownsRow_nil _ _ _ _, Below.refl _ _⟩
  case round =>
    obtain ⟨k, hk, rfl, ho, hbel⟩ := hrel
    by_cases hlt : k < 64
    · have hl := upTo_len b k
      have hsz := hbel.size
      by_cases hbit : b.testBit k = true
      · have t : hasB b k = true := by unfold hasB; rw [decide_eq_true (by omega), Bool.true_and, Int.toNat_natCast, hbit]
        have hu : upTo b (k + 1) = upTo b k ++ [k] := by rw [upTo_succ, if_pos hbit]
        have HU := Lib.hid hu
        clear hu
        go_wp2_with (first | (go_at_call 15; refine (rbit_any _ _ _ hb).mono ?_; rintro e w' ⟨rfl, rfl⟩) | (at_builtin; refine wpList_append_own _ rfl _ _ 23 rfl w.heap.size 3 i0 (.int .i64 0) 1 8 Tryd.underlying23 hi hz0 hz1 hz2 rfl (by decide) _ _ _ rfl (ho.alloc _) ⟨wr.heap.size, 0, none⟩ 1 1 [.int .i64 (k : Int)] rfl rfl ?c1 ?c2 ?c3 ?c4 ?c5 ?_))
        case c1 =>
          intro j u hj
          match j, hj with
          | 0, hj => simp at hj; subst hj; simp [Addr.add]
        case c2 => intro u hu; simp at hu; subst hu; rfl
        case c3 => unfold maxLen; omega
        case c4 => omega
        case c5 => simp; omega
        · intro v' w1 hown' hgrow _
          have R := Owns.snoc hown'
          have B := below_snoc hbel hsz ho hgrow
          clear hown' hgrow ho hbel
          go_wp2
          go_roundw
          case rel => exact ⟨k + 1, by omega, by go_num, by rw [HU.out]; exact R, B⟩
          case measure => simp [intOf]; omega
      · have t : hasB b k = false := by unfold hasB; rw [decide_eq_true (by omega), Bool.true_and, Int.toNat_natCast]; simpa using hbit
        have hu : upTo b (k + 1) = upTo b k := by rw [upTo_succ, if_neg hbit]
        have HU := Lib.hid hu
        clear hu
        go_wp2_with (go_at_call 15; refine (rbit_any _ _ _ hb).mono ?_; rintro e w' ⟨rfl, rfl⟩)
        go_roundw
        case rel => exact ⟨k + 1, by omega, by go_num, by rw [HU.out]; exact ho, hbel⟩
        case measure => simp [intOf]; omega
    · obtain rfl : k = 64 := by omega
      have F := ho.fresh hbel
      clear ho hbel
      go_wp2
      go_ret
      exact F

theorem next_at (b k : Nat) (hk : k ≤ 64) : (nextM b k = -1 ∧ upTo b 64 = upTo b k) ∨ ∃ m : Nat, k ≤ m ∧ m < 64 ∧ nextM b k = (m : Int) ∧ upTo b (m + 1) = upTo b k ++ [m] := by
  rcases nextM_cases b k with ⟨e, h⟩ | ⟨m, hm, e, hb, hf, h⟩
  · exact .inl ⟨e, upTo_skip b k 64 hk fun j h1 h2 => h j h2 (by omega)⟩
  · exact .inr ⟨m, by omega, hm, e, upTo_next b k m (by omega) hb fun j h1 h2 => h j h2 (by omega)⟩

def gap (z : Int) : Nat := if z < 0 then 0 else 65 - z.toNat
theorem gap_next (b m : Nat) (hm : m < 64) : gap (nextM b ((m : Int) + 1)) < gap (m : Int) := by
  have hn : nextM b ((m : Int) + 1) = -1 ∨ (m : Int) + 1 ≤ nextM b ((m : Int) + 1) := by
    rcases nextM_cases b ((m : Int) + 1) with ⟨e, _⟩ | ⟨q, _, e, _, hq, _⟩
    · exact .inl e
    · exact .inr (by rw [e]; exact hq)
  generalize nextM b ((m : Int) + 1) = z at *
  unfold gap
  split <;> split <;> omega

set_option maxHeartbeats 1000000 in
theorem all_any (b : Nat) (w : World) (hb : b < 18446744073709551616) (hT : Tab w) :
    Calls Tryd.prog 12 #[.int .u64 b] w (Fresh (upTo b 64) w) := by
  obtain ⟨i0, hi, hz0, hz1, hz2⟩ := info_parts info_int
  have hml : manyM b ≤ 64 := upTo_len b 64
  go_enter Tryd.func12, Tryd.ntmps12
  go_wp2_with (first | (go_at_call 13; refine (many_any _ _ hb).mono ?_; rintro e w' ⟨rfl, rfl⟩) | (with_reducible refine wpList_make_own _ rfl _ _ 23 rfl w.heap.size 3 i0 (.int .i64 0) 1 Tryd.underlying23 hi hz0 hz1 .i64 .i64 _ (manyM b) rfl rfl rfl ?m1 ?m2 ?m3 ?_))
  case m1 => rw [hz2]; omega
  case m2 => unfold maxLen; omega
  case m3 => exact Nat.le_refl _
  · intro w1 hown hgrow
    have B : Below w.heap.size w w1 := (Below.refl _ _).grown hgrow (Nat.le_refl _) (fun g e => by cases e)
    have O : Owns w1 w.heap.size (.slice (some ⟨w.heap.size, 0, none⟩) 0 (manyM b)) (upTo b 0) := hown
    clear hown hgrow
    go_wp2_with (go_at_call 19; refine (next_any _ _ _ hb (hT.below B)).mono ?_; rintro e w' ⟨rfl, rfl⟩)
    go_loopw [3, 4] (fun v i wr => ∃ k : Nat, k ≤ 64 ∧ i = .int .i64 (nextM b k) ∧ Owns wr w.heap.size v (upTo b k) ∧ Below w.heap.size w wr) (fun _ i _ => gap (intOf i))
    case atStart => exact ⟨0, by omega, rfl, O, B⟩
    case round =>
      clear O B
      obtain ⟨k, hk, rfl, ho, hbel⟩ := hrel
      have hl := upTo_len b k
      have hsz := hbel.size
      rcases next_at b k hk with ⟨e, hu⟩ | ⟨m, hkm, hm, e, hu⟩
      · rw [e]
        have F := ho.fresh hbel
        rw [← hu] at F
        clear ho hbel e hu
        go_wp2
        go_ret
        exact F
      · rw [e]
        have HU := Lib.hid hu
        clear hu e
        have tm : ((m : Int) != -1) = true := by simp
        go_wp2_with (at_builtin; refine wpList_append_own _ rfl _ _ 23 rfl w.heap.size 3 i0 (.int .i64 0) 1 8 Tryd.underlying23 hi hz0 hz1 hz2 rfl (by decide) _ _ _ rfl (ho.alloc _) ⟨wr.heap.size, 0, none⟩ 1 1 [.int .i64 (m : Int)] rfl rfl ?c1 ?c2 ?c3 ?c4 ?c5 ?_)
        case c1 =>
          intro j u hj
          match j, hj with
          | 0, hj => simp at hj; subst hj; simp [Addr.add]
        case c2 => intro u hu; simp at hu; subst hu; rfl
        case c3 => unfold maxLen; omega
        case c4 => omega
        case c5 => simp; omega
        · intro v' w1 hown' hgrow _
          have R := Owns.snoc hown'
          have B := below_snoc hbel hsz ho hgrow
          rw [← HU.out] at R
          clear hown' hgrow ho hbel HU
          go_wp2_with (go_at_call 19; refine (next_any _ _ _ hb (hT.below B)).mono ?_; rintro e w' ⟨rfl, rfl⟩)
          go_roundw
          case rel => exact ⟨m + 1, by omega, by rw [Int.natCast_add]; rfl, R, B⟩
          case measure => exact gap_next b m hm
end Go.Proofs.YtifglncofbkcpaaDoor
