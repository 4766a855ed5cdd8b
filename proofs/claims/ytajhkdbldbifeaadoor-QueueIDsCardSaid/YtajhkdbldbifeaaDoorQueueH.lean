/-
  Contract of the document's All; of the laws' base and made.
-/
import Derived.Test.YtajhkdbldbifeaaDoorQueueF
import Derived.Test.YtajhkdbldbifeaaDoorQueueN
namespace Go.Proofs.YtajhkdbldbifeaaDoor
set_option maxRecDepth 100000
open Go.RowKit Go.ChangeMaps Go.MapKept
set_option linter.unusedVariables false
set_option linter.unusedSimpArgs false

/-- The list alone. -/
def Ri : TypeId × List Value := (61, [])
theorem items_new (w : World) : ItemsOf Ri (w.alloc (.cells #[.slice none 0 0] 61)) w.heap.size (iown w.heap.size (.slice none 0 0)) [] :=
  ⟨_, rfl, ⟨heap_alloc_new w _, (show 61 ≠ 24 by decide), RowIs.nil _⟩, by simp⟩
theorem items_row {R : TypeId × List Value} {w : World} {xb : Nat} {T : List Nat} {l : List It} (h : ItemsOf R w xb T l) : ∃ A cap, w.cell? ⟨xb, 0, none⟩ = some (.slice A l.length cap) ∧ RowIs w (.slice A l.length cap) l ∧ (∀ g, (Value.slice A l.length cap).ownBlock = some g → g ∈ T) := by
  obtain ⟨v, rfl, h1, -⟩ := h
  obtain ⟨A, cap, ev⟩ := h1.row.form
  have c0 := h1.c0
  have hr := h1.row
  rw [ev] at c0 hr
  exact ⟨A, cap, c0, hr, fun g hg => by rw [← ev] at hg; simp [iown, hg]⟩
/-- All items of the first p shards, and k of the next one. -/
def midL (L : Nat → List It) (p k : Nat) : List It := insAll [] (catL L p ++ (L p).take k)
theorem midL_zero (L : Nat → List It) (p : Nat) : midL L p 0 = insAll [] (catL L p) := by unfold midL; rw [List.take_zero, List.append_nil]
theorem midL_full (L : Nat → List It) (p : Nat) : midL L p (L p).length = insAll [] (catL L (p + 1)) := by unfold midL; rw [List.take_length, catL]
theorem midL_succ (L : Nat → List It) (p : Nat) {k : Nat} (hk : k < (L p).length) : midL L p (k + 1) = ins (gOf (L p) k) (midL L p k) := by
  unfold midL
  have e : (L p).take (k + 1) = (L p).take k ++ [gOf (L p) k] := by rw [List.take_add_one, gOf_get hk, List.getElem?_eq_getElem hk]; rfl
  rw [e, ← List.append_assoc, insAll_app]
  rfl
theorem midL_len (L : Nat → List It) (p k : Nat) : (midL L p k).length ≤ (catL L (p + 1)).length := by
  unfold midL
  rw [(insAll_perm _ _).length_eq, catL]
  simp
  omega
theorem catL_mono (L : Nat → List It) {p n : Nat} (h : p ≤ n) : (catL L p).length ≤ (catL L n).length := by
  induction n with
  | zero => have : p = 0 := by omega
            subst this; exact Nat.le_refl _
  | succ n ih =>
    by_cases e : p = n + 1
    · subst e; exact Nat.le_refl _
    · have := ih (by omega)
      rw [catL, List.length_append]
      omega
theorem midL_no {n : Nat} {L : Nat → List It} (h : Homes n L) {p k : Nat} (hp : p < n) (hk : k < (L p).length) : hasId (gOf (L p) k).i (midL L p k) = false := by
  rw [hasId_not]
  intro y hy e
  have hy2 := (insAll_perm _ _).subset hy
  rw [List.nil_append] at hy2
  have hi := h.idsTo (m := p + 1) (by omega)
  rw [catL] at hi
  have e2 : L p = (L p).take k ++ gOf (L p) k :: (L p).drop (k + 1) := by
    rw [gOf_get hk, ← List.drop_eq_getElem_cons hk, List.take_append_drop]
  rw [e2, ← List.append_assoc] at hi
  unfold Ids at hi
  rw [List.map_append, List.map_cons, List.nodup_append] at hi
  exact hi.2.2 y.i (List.mem_map.2 ⟨y, hy2, rfl⟩) _ (List.mem_cons_self) e

end Go.Proofs.YtajhkdbldbifeaaDoor
