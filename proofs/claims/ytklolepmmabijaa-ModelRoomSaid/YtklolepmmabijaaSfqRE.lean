/-
  The document's scheduler: Starts, Flows.
-/
import Derived.Test.YtklolepmmabijaaGmA
import Derived.Test.YtklolepmmabijaaGmI
namespace Go.Proofs.Ytklolepmmabijaa
set_option maxRecDepth 100000
open Go.RowKit
set_option linter.unusedVariables false
set_option linter.unusedSimpArgs false
set_option maxRecDepth 100000

theorem itemsK_take {S : Sq} {es : List En} (hk : es.map En.key = S.l) {p : Nat} {e : En} (he : es[p]? = some e) : itemsK (S.l.take (p + 1)) = itemsK (S.l.take p) ++ (if e.F.any then [(⟨e.F.s, e.id⟩ : It)] else []) := by
  have h1 := key_at hk he
  obtain ⟨hl, h2⟩ := List.getElem?_eq_some_iff.1 h1
  unfold itemsK
  rw [List.take_succ_eq_append_getElem hl, List.filter_append, List.map_append, h2]
  congr 1
  by_cases h : e.F.any = true
  · simp [h, itemK]
  · simp [h]
theorem items_new {S : Sq} {es : List En} (hk : es.map En.key = S.l) (hs : Srt S.l) {p : Nat} {e : En} (he : es[p]? = some e) : hasId e.id (insAll (itemsK (S.l.take p))) = false := by
  rw [hasId_not]
  intro x hx e1
  have hx2 := (insAll_perm _).subset hx
  obtain ⟨d, hd, _, rfl⟩ := itemsK_mem.1 hx2
  obtain ⟨j, hj⟩ := List.getElem?_of_mem hd
  have hjp : j < p := by
    have := (List.getElem?_eq_some_iff.1 hj).1
    simp at this
    omega
  rw [List.getElem?_take, if_pos hjp] at hj
  have := hs.lt hjp hj (key_at hk he)
  simp only [itemK] at e1
  simp only at this
  omega
end Go.Proofs.Ytklolepmmabijaa
