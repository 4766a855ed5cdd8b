/-
  What a walk over deeds keeps: a tournament and the document's, side by side, in new memory.
-/
import Derived.Test.YtjblafpbffkapaaTourT
namespace Go.Proofs.Ytjblafpbffkapaa
set_option maxRecDepth 100000
open Go.RowKit Go.ChangeMaps Go.MapKept
set_option linter.unusedVariables false
set_option linter.unusedSimpArgs false

/-- Since w: a pair in new memory; nothing else has turned. -/
structure TSound (w wr : World) (tb ib nb xb hb yb n : Nat) (hs : Nat → Bool) (g : Nat → It) : Prop where
  pair : Pairs wr tb ib nb xb hb yb n hs g
  new : ∀ b ∈ [tb, ib, nb, xb, hb, yb], w.heap.size ≤ b
  only : Only [] w wr
section
variable {w wr w2 : World} {tb ib nb xb hb yb n : Nat} {hs : Nat → Bool} {g : Nat → It}
theorem TSound.only0 (h : TSound w wr tb ib nb xb hb yb n hs g) (ho : Only [] wr w2) : TSound w w2 tb ib nb xb hb yb n hs g := ⟨h.pair.only0 ho, h.new, h.only.trans' ho⟩
theorem tMade_sound (a : Int) (w : World) : Calls Try.prog 9 #[.int .i64 a] w fun e w' => ∃ tb xb, e = .returned (.tuple #[.pointer (some ⟨tb, 0, none⟩), .pointer (some ⟨xb, 0, none⟩)]) ∧ ∃ ib nb hb yb n, TSound w w' tb ib nb xb hb yb n (fun _ => false) (fun _ => ⟨0, 0⟩) := by
  refine (tMade a w).mono ?_
  rintro e w' ⟨tb, xb, rfl, ib, nb, hb, yb, n, h1, h2, h3⟩
  exact ⟨tb, xb, rfl, ib, nb, hb, yb, n, h1, h2, h3⟩
theorem TSound.step (h : TSound w wr tb ib nb xb hb yb n hs g) (d : Dd) (hd : d.ok) (W : World) (o : Only [] wr W) :
    Calls Try.prog 13 #[.pointer (some ⟨tb, 0, none⟩), .pointer (some ⟨xb, 0, none⟩), .agg #[.int .i64 d.a, .int .u64 d.b, .int .i64 d.c]] W fun e w' => e = .returned (.bool true) ∧ (∃ hs g, TSound w w' tb ib nb xb hb yb n hs g) ∧ Only [ib, nb, hb, yb] W w' := by
  have h1 := h.only0 o
  refine (tStep W tb ib nb xb hb yb n hs g h1.pair d hd).mono ?_
  rintro e w' ⟨rfl, hs', g', hp, ho⟩
  refine ⟨rfl, ⟨hs', g', hp, h.new, h1.only.trans ho fun k hk => .inr (h.new k ?_)⟩, ho⟩
  simp at hk ⊢
  rcases hk with h | h | h | h <;> simp [h]
theorem TSound.won (h : TSound w wr tb ib nb xb hb yb n hs g) (W : World) (o : Only [] wr W) :
    Calls Try.prog 12 #[.pointer (some ⟨tb, 0, none⟩), .pointer (some ⟨xb, 0, none⟩)] W fun e w' => e = .returned (.bool true) ∧ Only [] W w' := tWon W tb ib nb xb hb yb n hs g (h.only0 o).pair
theorem TSound.len (h : TSound w wr tb ib nb xb hb yb n hs g) (W : World) (o : Only [] wr W) :
    Calls Try.prog 11 #[.pointer (some ⟨tb, 0, none⟩)] W fun e w' => e = .returned (.int .i64 (n : Int)) ∧ w' = W := tLen W tb ib nb n hs g (h.only0 o).pair.ours
theorem TSound.c0 (h : TSound w wr tb ib nb xb hb yb n hs g) : wr.cell? ⟨xb, 0, none⟩ = some (.slice (some ⟨hb, 0, none⟩) n n) := by
  obtain ⟨bs, ys, r1, -, -⟩ := h.pair.ref
  exact r1.c0
theorem TSound.c1 (h : TSound w wr tb ib nb xb hb yb n hs g) : wr.cell? ⟨xb, 1, none⟩ = some (.slice (some ⟨yb, 0, none⟩) n n) := by
  obtain ⟨bs, ys, r1, -, -⟩ := h.pair.ref
  exact r1.c1
theorem TSound.node (h : TSound w wr tb ib nb xb hb yb n hs g) (k : Int) (hk : i64ok k) (W : World) (o : Only [] wr W) :
    Calls Try.prog 14 #[.pointer (some ⟨tb, 0, none⟩), .int .i64 k] W fun e w' => e = .returned (.int .i64 (nodeM n hs g k)) ∧ w' = W := tNode W tb ib nb n hs g (h.only0 o).pair.ours k hk
theorem TSound.refnode (h : TSound w wr tb ib nb xb hb yb n hs g) (k : Int) (hk : i64ok k) (W : World) (o : Only [] wr W) :
    Calls Try.prog 15 #[.pointer (some ⟨xb, 0, none⟩), .int .i64 k] W fun e w' => e = .returned (.int .i64 (nodeM n hs g k)) ∧ Only [] W w' := rNode W xb hb yb n hs g (h.only0 o).pair.ref k hk
/-- Two pairs that have nothing in common. -/
structure TTwo (w wr : World) (tb ib nb xb hb yb n : Nat) (hs : Nat → Bool) (g : Nat → It) (tb' ib' nb' xb' hb' yb' n' : Nat) (hs' : Nat → Bool) (g' : Nat → It) : Prop where
  a : TSound w wr tb ib nb xb hb yb n hs g
  b : TSound w wr tb' ib' nb' xb' hb' yb' n' hs' g'
  ap : ∀ x ∈ [tb, ib, nb, xb, hb, yb], x ∉ [tb', ib', nb', xb', hb', yb']
variable {tb' ib' nb' xb' hb' yb' n' : Nat} {hs' : Nat → Bool} {g' : Nat → It}
theorem TTwo.swap (h : TTwo w wr tb ib nb xb hb yb n hs g tb' ib' nb' xb' hb' yb' n' hs' g') : TTwo w wr tb' ib' nb' xb' hb' yb' n' hs' g' tb ib nb xb hb yb n hs g := ⟨h.b, h.a, fun x hx hc => h.ap x hc hx⟩
theorem TTwo.only0 (h : TTwo w wr tb ib nb xb hb yb n hs g tb' ib' nb' xb' hb' yb' n' hs' g') (ho : Only [] wr w2) : TTwo w w2 tb ib nb xb hb yb n hs g tb' ib' nb' xb' hb' yb' n' hs' g' := ⟨h.a.only0 ho, h.b.only0 ho, h.ap⟩
theorem TTwo.step (h : TTwo w wr tb ib nb xb hb yb n hs g tb' ib' nb' xb' hb' yb' n' hs' g') (d : Dd) (hd : d.ok) :
    Calls Try.prog 13 #[.pointer (some ⟨tb, 0, none⟩), .pointer (some ⟨xb, 0, none⟩), .agg #[.int .i64 d.a, .int .u64 d.b, .int .i64 d.c]] wr fun e w' => e = .returned (.bool true) ∧ ∃ hs g, TTwo w w' tb ib nb xb hb yb n hs g tb' ib' nb' xb' hb' yb' n' hs' g' := by
  refine (h.a.step d hd wr (Only.refl _ _)).mono ?_
  rintro e w' ⟨rfl, ⟨hs2, g2, h2⟩, ho⟩
  refine ⟨rfl, hs2, g2, h2, ⟨h.b.pair.only ho fun x hx hc => h.ap x ?_ hx, h.b.new, h2.only⟩, h.ap⟩
  simp at hc ⊢
  rcases hc with h | h | h | h <;> simp [h]
end
end Go.Proofs.Ytjblafpbffkapaa
