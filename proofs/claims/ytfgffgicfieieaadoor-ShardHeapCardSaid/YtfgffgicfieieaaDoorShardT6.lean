/-
  A shard beside the document's list of items.
-/
import Derived.Test.YtfgffgicfieieaaDoorShardT2
namespace Go.Proofs.YtfgffgicfieieaaDoor
set_option maxRecDepth 100000
open Go.RowKit Go.ChangeMaps Go.MapKept
set_option linter.unusedVariables false
set_option linter.unusedSimpArgs false

/-- The list alone. -/
def Ri : TypeId × List Value := (41, [])
/-- A shard and the document's list, made within the walk that began in w. -/
structure Duo (w wr : World) (sb : Nat) (S : List Nat) (xb : Nat) (T : List Nat) (wd : Nat) (base : Int) (l : List It) : Prop where
  ours : ShardOf wr sb S wd base l
  ref : ItemsOf Ri wr xb T l
  dis : ∀ b ∈ S, b ∉ T
  newS : ∀ b ∈ S, w.heap.size ≤ b
  newT : ∀ b ∈ T, w.heap.size ≤ b
  only : Only [] w wr
section
variable {w wr : World} {sb xb wd : Nat} {S T : List Nat} {base : Int} {l : List It}
theorem Duo.only0 {w2 : World} (h : Duo w wr sb S xb T wd base l) (ho : Only [] wr w2) : Duo w w2 sb S xb T wd base l :=
  ⟨h.ours.only0 ho, h.ref.only0 ho, h.dis, h.newS, h.newT, h.only.trans' ho⟩
theorem Duo.tab (h : Duo w wr sb S xb T wd base l) (hT : Tab w) : Tab wr ∧ 0 ∉ S := by
  refine ⟨hT.only0 h.only, fun hc => ?_⟩
  have h1 := h.newS _ hc
  have h2 := World.block_lt_of_cell? w _ (hT 0 (by omega))
  simp only at h2
  omega
/-- The list behind what was done to the shard. -/
theorem Duo.after {w1 : World} {S' : List Nat} (h : Duo w wr sb S xb T wd base l) (m1 : Moved wr S w1 S') : ItemsOf Ri w1 xb T l := h.ref.only m1.1 (fun b hb hc => h.dis b hc hb)
/-- The shard moved, then the list. -/
theorem Duo.mk2 {w1 w2 : World} {S' T' : List Nat} {base' : Int} {l' : List It} (hp : Duo w wr sb S xb T wd base l) (h1 : ShardOf w1 sb S' wd base' l') (m1 : Moved wr S w1 S') (h2 : ItemsOf Ri w2 xb T' l') (m2 : Moved w1 T w2 T') : Duo w w2 sb S' xb T' wd base' l' := by
  have hT1 : ∀ b ∈ T, b < wr.heap.size := hp.ref.lt
  have hST : ∀ b ∈ S', b ∉ T := fun b hb hc => by
    rcases m1.2 b hb with h | h
    · exact hp.dis b h hc
    · have := hT1 b hc; omega
  have hs := hp.only.size
  have o1 : Only [] w w1 := hp.only.trans m1.1 fun k hk => .inr (hp.newS k hk)
  refine ⟨h1.only m2.1 hST, h2, fun b hb hc => ?_, fun b hb => ?_, fun b hb => ?_, o1.trans m2.1 fun k hk => .inr (hp.newT k hk)⟩
  · rcases m2.2 b hc with h | h
    · exact hST b hb h
    · have := h1.lt b hb; omega
  · rcases m1.2 b hb with h | h
    · exact hp.newS b h
    · omega
  · rcases m2.2 b hb with h | h
    · exact hp.newT b h
    · have := o1.size; omega
theorem Duo.rows (h : Duo w wr sb S xb T wd base l) : ∃ A cap, wr.cell? ⟨xb, 0, none⟩ = some (.slice A l.length cap) ∧ RowIs wr (.slice A l.length cap) l := by
  obtain ⟨v, -, h1, -⟩ := h.ref
  obtain ⟨A, cap, ev⟩ := h1.row.form
  have c0 := h1.c0
  have hr := h1.row
  rw [ev] at c0 hr
  exact ⟨A, cap, c0, hr⟩
end
/-- The document's list, laid beside a shard. -/
theorem duo_new {w w1 : World} {sb yb wd : Nat} {S T : List Nat} (h : Sound w w1 sb S yb T wd 0 []) :
    Duo w (w1.alloc (.cells #[.slice none 0 0] 41)) sb S w1.heap.size (iown w1.heap.size (.slice none 0 0)) wd 0 [] := by
  refine ⟨h.pair.ours.only0 ((Only.refl [] w1).alloc _), ⟨_, rfl, ⟨heap_alloc_new w1 _, (show 41 ≠ 35 by decide), RowIs.nil _⟩, by simp⟩, ?_, h.newS, ?_, h.only.alloc _⟩
  · intro b hb hc
    simp [iown, Value.ownBlock] at hc
    have := h.pair.ours.lt b hb
    omega
  · intro b hb
    simp [iown, Value.ownBlock] at hb
    subst hb
    exact h.only.size
end Go.Proofs.YtfgffgicfieieaaDoor
