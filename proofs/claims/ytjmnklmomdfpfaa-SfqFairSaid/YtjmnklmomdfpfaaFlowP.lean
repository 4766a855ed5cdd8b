/-
  Contracts of take and ifAny; of Head, Start, New, Copy.
-/
import Derived.Test.YtjmnklmomdfpfaaFlowO
namespace Go.Proofs.Ytjmnklmomdfpfaa
set_option maxRecDepth 100000
open Go.RowKit
set_option linter.unusedVariables false
set_option linter.unusedSimpArgs false
set_option maxRecDepth 100000

section
variable {w W w2 w3 : World} {b : Nat} {r n s e : Int} {v : Value} {zs : List Pk}
/-- New blocks behind it. -/
theorem Turn.behind (h : Turn w b r n s e v zs w2) (o : Only [] w2 w3) : Turn w b r n s e v zs w3 := by
  obtain ⟨v', h1, h2, h3, h4⟩ := h
  exact ⟨v', h1.only0 o, h2.only o (by simp), h3.trans o (by simp), h4⟩
/-- Blocks that were made between w and W may turn behind it. -/
theorem Turn.box (o : Only [] w W) (h : Turn W b r n s e v zs w2) {S : List Nat} (hS : ∀ k ∈ S, w.heap.size ≤ k ∧ k < W.heap.size) (hb : b < w.heap.size) (hv : ∀ g, v.ownBlock = some g → g < w.heap.size) (ho : Only S w2 w3) : Turn w b r n s e v zs w3 := by
  obtain ⟨v', h1, h2, h3, h4⟩ := h
  refine ⟨v', h1.only ho (fun hk => by have := hS b hk; omega), h2.only ho (fun g hg hk => ?_), ?_, h4.imp id fun ⟨g, e, hg⟩ => ⟨g, e, Nat.le_trans o.size hg⟩⟩
  · have q := hS g hk
    rcases h4 with e | ⟨g', e, hg'⟩
    · have := hv g (by rw [← e]; exact hg); omega
    · rw [e] at hg; injection hg with hg; omega
  · exact ((o.mono (T := b :: v.ownBlock.toList) (by simp)).trans' h3).trans ho (fun k hk => .inr (hS k hk).1)
end
set_option maxHeartbeats 1000000 in
theorem fTake (w : World) (b : Nat) (r n s e : Int) (v : Value) (x : Pk) (xs : List Pk) (h : FBlk w b r n s e v) (hx : PRow w v (x :: xs)) (hl : xs.length ≤ 1000) :
    Calls Try.prog 69 #[.pointer (some ⟨b, 4, none⟩)] w fun e' w' => e' = .returned (.agg #[.int .i64 x.f, .int .i64 x.l, .int .i64 x.m]) ∧ Turn w b r n s e v xs w' := by
  have o0 : Only [] w (w.alloc (.cells #[.int .i64 0, .int .i64 0, .int .i64 0] 34)) := (Only.refl [] w).alloc _
  have hz := PBox.new w ⟨0, 0, 0⟩
  obtain ⟨_, _, _, _, c4⟩ := (h.only0 o0).c
  have hb := h.lt
  have hf := fFirst _ v x xs (hx.only o0 (by simp))
  have hvl : ∀ g, v.ownBlock = some g → g < w.heap.size := fun g hg => hx.lt hg
  go_enter Try.func69, Try.ntmps69
  go_wp2_with fail
  refine hf.mono ?_
  rintro e' w1 ⟨rfl, o1⟩
  have o1' := o0.trans' o1
  have hz1 := hz.only o1 (by simp)
  have o2 : Only [] w (w1.alloc (.cells #[.int .i64 x.f, .int .i64 x.l, .int .i64 x.m] 34)) := o1'.alloc _
  have bx := PBox.new w1 x
  have hz2 := hz1.only (w' := w1.alloc (.cells #[.int .i64 x.f, .int .i64 x.l, .int .i64 x.m] 34)) ((Only.refl [] w1).alloc _) (by simp)
  obtain ⟨_, _, _, _, c4a⟩ := (h.only0 o1').c
  obtain ⟨_, _, _, _, c4b⟩ := (h.only0 o2).c
  have hd := pdelete _ v x xs (hx.only o2 (by simp)) (by omega)
  have hs1 : w.heap.size < w1.heap.size := by have := o1.size; simp at this; omega
  have H := Lib.hid (And.intro h (And.intro hx o2))
  have HZ := Lib.hid (And.intro bx hz2)
  clear h hx o2 o1 o0 o1' hz hz1 hz2 bx hf c4
  go_wp2_with fail
  generalize eW : w1.alloc (.cells #[.int .i64 x.f, .int .i64 x.l, .int .i64 x.m] 34) = W at *
  have hsW : W.heap.size = w1.heap.size + 1 := by rw [← eW]; simp
  clear eW c4a
  refine hd.mono ?_
  rintro e' w3 ⟨v3, rfl, hr3, o3, hv3⟩
  obtain ⟨A3, cap3, rfl⟩ := hr3.form
  obtain ⟨hb3, ht⟩ := turn_store (H.out.1.only0 H.out.2.2) (H.out.2.1.only H.out.2.2 (by simp)) o3 hr3 hv3
  have hnk : ∀ k, w.heap.size ≤ k → k ∉ v.ownBlock.toList := fun k hk hk2 => by have := hvl k (Option.mem_toList.1 hk2); omega
  obtain ⟨_, _, _, _, c43⟩ := hb3.c
  have fr3 := hb3.fr 4
  have bx3 := HZ.out.1.only o3 (hnk _ (by omega))
  have bz3 := HZ.out.2.only o3 (hnk _ (by omega))
  obtain ⟨x0, x1, x2⟩ := bx3.c
  obtain ⟨z0, z1, z2⟩ := bz3.c
  have fz0 : w3.frozen? ⟨w.heap.size, 0, none⟩ = false := frozen_of_row _ _ _ _ _ bz3
  have fz1 : w3.frozen? ⟨w.heap.size, 1, none⟩ = false := frozen_of_row _ _ _ _ _ bz3
  have fz2 : w3.frozen? ⟨w.heap.size, 2, none⟩ = false := frozen_of_row _ _ _ _ _ bz3
  have T3 := Lib.hid ht
  have hne1 : ¬ (w.heap.size = b) := by omega
  have hne2 : ¬ (w1.heap.size = b) := by omega
  have hne3 : ¬ (w.heap.size = w1.heap.size) := by omega
  clear ht hb3 hr3 o3 hv3 bx3 bz3 hd c4b
  go_wp2_with fail
  refine bodyPost_ret (v := .agg #[.int .i64 x.f, .int .i64 x.l, .int .i64 x.m]) ?_ rfl ?_
  · rw [results_cell1 rfl]; go_simp
  · refine ⟨rfl, T3.out.box H.out.2.2 (S := [w.heap.size]) (by simp; omega) hb hvl ?_⟩
    exact (((Only.refl _ _).setCell (by simp) _).setCell (by simp) _).setCell (by simp) _
end Go.Proofs.Ytjmnklmomdfpfaa
