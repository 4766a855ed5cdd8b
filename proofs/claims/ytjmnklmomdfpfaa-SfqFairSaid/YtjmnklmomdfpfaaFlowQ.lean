/-
  Contracts of ifAny, Head, Start, Serve, on the struct's cells.
-/
import Derived.Test.YtjmnklmomdfpfaaFlowP
namespace Go.Proofs.Ytjmnklmomdfpfaa
set_option maxRecDepth 100000
open Go.RowKit
set_option linter.unusedVariables false
set_option linter.unusedSimpArgs false
set_option maxRecDepth 100000

theorem makes (fn : Fn) (first cap : Array Value) (w : World) : (Instr.makeFunc fn first cap).run Try.prog w = .ok (.func fn first cap) w := rfl
theorem PBox.fr {w : World} {b : Nat} {x : Pk} (h : PBox w b x) (j : Nat) : w.frozen? ⟨b, j, none⟩ = false := frozen_of_row _ _ _ _ _ h
theorem pos_len (m : Nat) : ((((m + 1 : Nat) : Int) == 0) = false) ∧ ¬ (((m + 1 : Nat) : Int) = 0) ∧ (((m : Int) + 1 == 0) = false) ∧ ¬ ((m : Int) + 1 = 0) := by
  refine ⟨by simp; omega, by omega, by simp; omega, by omega⟩
set_option maxHeartbeats 1000000 in
theorem fIfNone (w : World) (b : Nat) (r n s e : Int) (A : Option Addr) (cap : Nat) (h : FBlk w b r n s e (.slice A 0 cap)) (f : Value) :
    Calls Try.prog 68 #[.pointer (some ⟨b, 0, none⟩), f] w fun e' w' => e' = .returned (.tuple #[.agg #[.int .i64 0, .int .i64 0, .int .i64 0], .bool false]) ∧ Only [] w w' := by
  have o0 : Only [] w (w.alloc (.cells #[.int .i64 0, .int .i64 0, .int .i64 0] 34)) := (Only.refl [] w).alloc _
  have hl := fLen _ b r n s e A 0 cap (h.only0 o0)
  go_enter Try.func68, Try.ntmps68
  go_wp2_with fail
  refine hl.mono ?_
  rintro e' w1 ⟨rfl, rfl⟩
  clear hl
  go_wp2_with fail
  refine bodyPost_ret (v := .tuple #[.agg #[.int .i64 0, .int .i64 0, .int .i64 0], .bool false]) ?_ rfl ?_
  · rw [results_cell_tmp rfl]; go_simp
  · exact ⟨rfl, o0.alloc _⟩
set_option maxHeartbeats 1000000 in
theorem fIfFirst (w : World) (b : Nat) (r n s e : Int) (v : Value) (x : Pk) (xs : List Pk) (h : FBlk w b r n s e v) (hx : PRow w v (x :: xs)) :
    Calls Try.prog 68 #[.pointer (some ⟨b, 0, none⟩), .func (.func 93) #[v] #[]] w fun e' w' => e' = .returned (.tuple #[.agg #[.int .i64 x.f, .int .i64 x.l, .int .i64 x.m], .bool true]) ∧ Only [] w w' := by
  have o0 : Only [] w (w.alloc (.cells #[.int .i64 0, .int .i64 0, .int .i64 0] 34)) := (Only.refl [] w).alloc _
  have bz := PBox.new w ⟨0, 0, 0⟩
  have hf := fFirst _ v x xs (hx.only o0 (by simp))
  obtain ⟨A, cap, rfl⟩ := hx.form
  have hl := fLen _ b r n s e A _ cap (h.only0 o0)
  obtain ⟨p1, p2, p3, p4⟩ := pos_len xs.length
  simp only [List.length_cons] at hf hl ⊢
  clear h hx
  go_enter Try.func68, Try.ntmps68
  go_wp2_with fail
  refine hl.mono ?_
  rintro e' w1 ⟨rfl, rfl⟩
  clear hl
  go_wp2_with fail
  refine hf.mono ?_
  rintro e' w2 ⟨rfl, o2⟩
  have b2 := bz.only o2 (by simp)
  obtain ⟨z0, z1, z2⟩ := b2.c
  have f0 := b2.fr 0
  have f1 := b2.fr 1
  have f2 := b2.fr 2
  have O := Lib.hid (o0.trans' o2)
  clear hf o0 bz b2 o2
  go_wp2_with fail
  refine bodyPost_ret (v := .tuple #[.agg #[.int .i64 x.f, .int .i64 x.l, .int .i64 x.m], .bool true]) ?_ rfl ?_
  · rw [results_cell_tmp rfl]; go_simp
  · exact ⟨rfl, ((O.out.setCell (.inr (Nat.le_refl _)) _).setCell (.inr (Nat.le_refl _)) _).setCell (.inr (Nat.le_refl _)) _⟩
set_option maxHeartbeats 1000000 in
theorem fIfTake (w : World) (b : Nat) (r n s e : Int) (v : Value) (x : Pk) (xs : List Pk) (h : FBlk w b r n s e v) (hx : PRow w v (x :: xs)) (hxl : xs.length ≤ 1000) :
    Calls Try.prog 68 #[.pointer (some ⟨b, 0, none⟩), .func (.func 69) #[.pointer (some ⟨b, 4, none⟩)] #[]] w fun e' w' => e' = .returned (.tuple #[.agg #[.int .i64 x.f, .int .i64 x.l, .int .i64 x.m], .bool true]) ∧ Turn w b r n s e v xs w' := by
  have o0 : Only [] w (w.alloc (.cells #[.int .i64 0, .int .i64 0, .int .i64 0] 34)) := (Only.refl [] w).alloc _
  have bz := PBox.new w ⟨0, 0, 0⟩
  have hb := h.lt
  have hvl : ∀ g, v.ownBlock = some g → g < w.heap.size := fun g hg => hx.lt hg
  have hs0 : (w.alloc (.cells #[.int .i64 0, .int .i64 0, .int .i64 0] 34)).heap.size = w.heap.size + 1 := by simp
  have hf := fTake _ b r n s e v x xs (h.only0 o0) (hx.only o0 (by simp)) hxl
  obtain ⟨A, cap, rfl⟩ := hx.form
  have hl := fLen _ b r n s e A _ cap (h.only0 o0)
  obtain ⟨p1, p2, p3, p4⟩ := pos_len xs.length
  simp only [List.length_cons] at hf hl hvl ⊢
  clear h hx
  go_enter Try.func68, Try.ntmps68
  go_wp2_with fail
  refine hl.mono ?_
  rintro e' w1 ⟨rfl, rfl⟩
  clear hl
  go_wp2_with fail
  refine hf.mono ?_
  rintro e' w2 ⟨rfl, ht⟩
  have b2 : PBox w2 w.heap.size ⟨0, 0, 0⟩ := by
    obtain ⟨_, _, _, o2, _⟩ := ht
    refine bz.only o2 (fun hk => ?_)
    rcases List.mem_cons.1 hk with e | hk
    · omega
    · have := hvl _ (Option.mem_toList.1 hk); omega
  obtain ⟨z0, z1, z2⟩ := b2.c
  have f0 := b2.fr 0
  have f1 := b2.fr 1
  have f2 := b2.fr 2
  have T := Lib.hid (And.intro ht o0)
  clear hf o0 bz b2 ht
  go_wp2_with fail
  refine bodyPost_ret (v := .tuple #[.agg #[.int .i64 x.f, .int .i64 x.l, .int .i64 x.m], .bool true]) ?_ rfl ?_
  · rw [results_cell_tmp rfl]; go_simp
  · refine ⟨rfl, T.out.1.box T.out.2 (S := [w.heap.size]) (by simp) hb hvl ?_⟩
    exact (((Only.refl _ _).setCell (by simp) _).setCell (by simp) _).setCell (by simp) _
set_option maxHeartbeats 1000000 in
theorem fIfBegin (w : World) (b : Nat) (r n s e : Int) (A : Option Addr) (m cap : Nat) (h : FBlk w b r n s e (.slice A m cap)) :
    Calls Try.prog 81 #[.pointer (some ⟨b, 0, none⟩), .func (.func 82) #[.pointer (some ⟨b, 0, none⟩)] #[]] w fun e' w' => e' = .returned (.tuple #[.int .u64 (if m = 0 then 0 else s), .bool (decide (0 < m))]) ∧ w' = w := by
  have hl := fLen _ b r n s e A _ cap h
  have hf := fBegin _ b r n s e _ h
  clear h
  rcases m with _ | m
  · go_enter Try.func81, Try.ntmps81
    go_wp2_with fail
    refine hl.mono ?_
    rintro e' w ⟨rfl, rfl⟩
    clear hl
    go_wp2_with fail
    go_ret2
    exact ⟨rfl, rfl⟩
  · obtain ⟨p1, p2, p3, p4⟩ := pos_len m
    go_enter Try.func81, Try.ntmps81
    go_wp2_with fail
    refine hl.mono ?_
    rintro e' w ⟨rfl, rfl⟩
    clear hl
    go_wp2_with fail
    refine hf.mono ?_
    rintro e' w ⟨rfl, rfl⟩
    clear hf
    go_wp2_with fail
    go_ret2
    exact ⟨by simp, rfl⟩
theorem fStart (w : World) (b : Nat) (r n s e : Int) (A : Option Addr) (m cap : Nat) (h : FBlk w b r n s e (.slice A m cap)) :
    Calls Try.prog 64 #[.pointer (some ⟨b, 0, none⟩)] w fun e' w' => e' = .returned (.tuple #[.int .u64 (if m = 0 then 0 else s), .bool (decide (0 < m))]) ∧ w' = w := by
  have hmf := makes
  have hl := fIfBegin _ b r n s e A _ cap h
  clear h
  go_enter Try.func64, Try.ntmps64
  go_wp2_with fail
  refine hl.mono ?_
  rintro e' w ⟨rfl, rfl⟩
  clear hl
  go_wp2_with fail
  all_goals
    go_ret2
    exact ⟨rfl, rfl⟩
end Go.Proofs.Ytjmnklmomdfpfaa
