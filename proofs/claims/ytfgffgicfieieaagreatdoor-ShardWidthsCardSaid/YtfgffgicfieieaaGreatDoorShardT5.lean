/-
  A new shard and the document's beside it; two widths.
-/
import Derived.Test.YtfgffgicfieieaaGreatDoorShardT3
namespace Go.Proofs.YtfgffgicfieieaaGreatDoor
set_option maxRecDepth 100000
open Go.RowKit Go.ChangeMaps Go.MapKept
set_option linter.unusedVariables false
set_option linter.unusedSimpArgs false

/-- The document's, laid beside a new shard. -/
theorem sound_new {w w1 : World} {sb m : Nat} {S : List Nat} (h1 : ShardOf w1 sb S m 0 []) (h2 : ∀ b ∈ S, w.heap.size ≤ b) (h3 : Only [] w w1) :
    Sound w (w1.alloc (.cells #[.slice none 0 0, .int .u64 0, .int .i64 (m : Int), .bool true] 37)) sb S w1.heap.size (iown w1.heap.size (.slice none 0 0)) m 0 [] := by
  refine ⟨⟨h1.only0 ((Only.refl [] w1).alloc _), ⟨_, rfl, ⟨heap_alloc_new w1 _, (show 37 ≠ 41 by decide), RowIs.nil _⟩, by simp⟩, ?_⟩, h2, ?_, h3.alloc _⟩
  · intro b hb hc
    simp [iown, Value.ownBlock] at hc
    have := h1.lt b hb
    omega
  · intro b hb
    simp [iown, Value.ownBlock] at hb
    subst hb
    exact h3.size
/-- Of the greater width no more lie beyond. -/
theorem inR_wider {a b : Nat} (hab : a ≤ b) {base k : Int} (h : inR a base k = true) : inR b base k = true := by
  have h1 := inR_iff.1 h
  refine inR_iff.2 ⟨h1.1, ?_⟩
  obtain ⟨c, rfl⟩ : ∃ c, b = a + c := ⟨b - a, by omega⟩
  have e : ∀ x : Int, uu (a + c) x / 262144 = uu a x / 262144 / 2 ^ c := fun x => by
    have p1 : uu (a + c) x / 262144 = x / 2 ^ (a + c + 18) := by
      rw [pow_split (a + c) 18 x]; rfl
    have p2 : uu a x / 262144 = x / 2 ^ (a + 18) := by
      rw [pow_split a 18 x]; rfl
    rw [p1, p2, show a + c + 18 = (a + 18) + c by omega]
    have h9 : ¬ ((2 : Int) ^ (a + 18) < 0 ∧ ¬ (2 : Int) ^ c ∣ x / 2 ^ (a + 18)) := fun h => by
      have : (0 : Int) ≤ 2 ^ (a + 18) := Int.pow_nonneg (by decide)
      omega
    rw [Int.pow_add, Int.ediv_ediv, if_neg h9]
    simp
  rw [e, e, h1.2]
theorem fars_wider {a b : Nat} (hab : a ≤ b) (base : Int) (l : List It) : (fars b base l).length ≤ (fars a base l).length := by
  unfold fars
  induction l with
  | nil => simp
  | cons x l ih =>
    rw [List.filter_cons, List.filter_cons]
    rcases ha : inR a base x.k with _ | _
    · rcases hb : inR b base x.k with _ | _
      · simpa using ih
      · simp only [Bool.not_true, Bool.not_false, if_true, Bool.false_eq_true, if_false, List.length_cons]
        omega
    · rw [inR_wider hab ha]
      simpa using ih
end Go.Proofs.YtfgffgicfieieaaGreatDoor
