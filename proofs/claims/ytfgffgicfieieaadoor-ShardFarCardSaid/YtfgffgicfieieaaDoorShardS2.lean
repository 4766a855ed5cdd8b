/-
  The statements' step: both wheels tell the same, and hold the same behind it.
-/
import Derived.Test.YtfgffgicfieieaaDoorShardH
import Derived.Test.YtfgffgicfieieaaDoorShardA
import Derived.Test.YtfgffgicfieieaaDoorWheelE
namespace Go.Proofs.YtfgffgicfieieaaDoor
set_option maxRecDepth 100000
open Go.RowKit Go.ChangeMaps Go.MapKept
set_option linter.unusedVariables false
set_option linter.unusedSimpArgs false

theorem ins_len (x : It) (l : List It) : (ins x l).length = l.length + 1 := by
  have := (ins_perm x l).length_eq
  simpa using this

/-- Two wheels, ours and the document's, that hold the same. -/
structure Pair (w : World) (wb : Nat) (S : List Nat) (xb : Nat) (T : List Nat) (wd : Nat) (base : Int) (l : List It) : Prop where
  ours : ShardOf w wb S wd base l
  ref : RefOf w xb T wd base l
  dis : ∀ b ∈ S, b ∉ T
theorem Pair.only {w w' : World} {wb xb wd : Nat} {S T U : List Nat} {base : Int} {l : List It} (h : Pair w wb S xb T wd base l) (ho : Only U w w') (hS : ∀ b ∈ S, b ∉ U) (hT : ∀ b ∈ T, b ∉ U) : Pair w' wb S xb T wd base l := ⟨h.ours.only ho hS, h.ref.only ho hT, h.dis⟩
theorem Pair.only0 {w w' : World} {wb xb wd : Nat} {S T : List Nat} {base : Int} {l : List It} (h : Pair w wb S xb T wd base l) (ho : Only [] w w') : Pair w' wb S xb T wd base l := h.only ho (by simp) (by simp)
/-- What a deed makes of a base and a list: k: the key that it names, j: its ID, q: which one of nine it is, c: its number. -/
def stepTo (k j : Int) (q : Nat) (c base : Int) (l : List It) : Int × List It :=
  match q with
  | 0 | 1 | 2 | 3 => (base, if (!hasId j l && decide (base ≤ k)) = true then ins ⟨k, j⟩ l else l)
  | 4 | 5 => (if l.isEmpty = true then base else (first l).k, l.tail)
  | 6 => (base, dropId j l)
  | 7 => (if mayGo base l (if (!l.isEmpty && c.tmod 2 == 0) = true then base + ((first l).k - base) / 2 else k) = true then (if (!l.isEmpty && c.tmod 2 == 0) = true then base + ((first l).k - base) / 2 else k) else base, l)
  | _ => (base, l)
theorem stepTo_len (k j : Int) (q : Nat) (c base : Int) (l : List It) : (stepTo k j q c base l).2.length ≤ l.length + 1 := by
  unfold stepTo
  split
  any_goals
    show (if _ then _ else _ : List It).length ≤ _
    split
    · rw [ins_len]; omega
    · omega
  any_goals (show l.tail.length ≤ _; simp; omega)
  any_goals (show (dropId j l).length ≤ _; exact Nat.le_trans (List.eraseP_sublist).length_le (Nat.le_succ _))
  all_goals (show l.length ≤ _; omega)
/-- What a deed makes of a base and a list. -/
def stepM (mf : Dd → Int) (qf : Dd → Nat) (d : Dd) (base : Int) (l : List It) : Int × List It := stepTo (nearM d.b base) (mf d) (qf d) d.c base l
/-- What is behind a step. -/
def After (w : World) (wb : Nat) (S : List Nat) (xb : Nat) (T : List Nat) (wd : Nat) (p : Int × List It) (w' : World) : Prop :=
  ∃ S' T', Pair w' wb S' xb T' wd p.1 p.2 ∧ Only (S ++ T) w w' ∧ (∀ b ∈ S', b ∈ S ∨ w.heap.size ≤ b) ∧ (∀ b ∈ T', b ∈ T ∨ w.heap.size ≤ b)
theorem After.still {w w1 w2 : World} {wb xb wd : Nat} {S T : List Nat} {p : Int × List It} (h : After w wb S xb T wd p w1) (ho : Only [] w1 w2) : After w wb S xb T wd p w2 := by
  obtain ⟨S', T', h1, h3, h4, h5⟩ := h
  exact ⟨S', T', h1.only0 ho, h3.trans ho (by simp), h4, h5⟩
/-- Ours moved, then the document's. -/
theorem After.mk {w w0 w1 w2 : World} {wb xb wd : Nat} {S T S' T' : List Nat} {base base' : Int} {l l' : List It} (hp : Pair w wb S xb T wd base l) (o0 : Only [] w w0) (h1 : ShardOf w1 wb S' wd base' l') (m1 : Moved w0 S w1 S') (h2 : RefOf w2 xb T' wd base' l') (m2 : Moved w1 T w2 T') : After w wb S xb T wd (base', l') w2 := by
  have hT1 : ∀ b ∈ T, b < w.heap.size := hp.ref.lt
  have n1 := (Moved.of_only (S := S) o0).trans m1
  have hST : ∀ b ∈ S', b ∉ T := fun b hb hc => by
    rcases n1.2 b hb with h | h
    · exact hp.dis b h hc
    · have := hT1 b hc; omega
  refine ⟨S', T', ⟨h1.only m2.1 hST, h2, fun b hb hc => ?_⟩, ?_, n1.2, fun b hb => ?_⟩
  · rcases m2.2 b hc with h | h
    · exact hST b hb h
    · have := h1.lt b hb; omega
  · exact (n1.1.mono (T := S ++ T) (by intro k hk; exact .inl (by simp [hk]))).trans m2.1 (fun k hk => .inl (by simp [hk]))
  · rcases m2.2 b hb with h | h
    · exact .inl h
    · exact .inr (Nat.le_trans n1.1.size h)
/-- The document's wheel behind what was done to ours. -/
theorem Pair.ref_after {w w0 w1 : World} {wb xb wd : Nat} {S T S' : List Nat} {base : Int} {l : List It} (hp : Pair w wb S xb T wd base l) (o0 : Only [] w w0) (m1 : Moved w0 S w1 S') : RefOf w1 xb T wd base l :=
  (hp.ref.only0 o0).only m1.1 (fun b hb hc => hp.dis b hc hb)

end Go.Proofs.YtfgffgicfieieaaDoor
