/-
  Own at events: an event more in a row that has room for it.
-/
import Derived.Test.YtmgmfihjojhilaaRcZ
namespace Go.Proofs.Ytmgmfihjojhilaa
set_option maxRecDepth 100000
open Go.RowKit
set_option linter.unusedVariables false
set_option linter.unusedSimpArgs false
set_option maxRecDepth 100000

theorem take_five {L : List Value} {a : Nat} {v0 v1 v2 v3 v4 : Value} (h : a + 5 ≤ L.length) : (((((L.set a v0).set (a + 1) v1).set (a + 2) v2).set (a + 3) v3).set (a + 4) v4).take (a + 5) = L.take a ++ [v0, v1, v2, v3, v4] := by
  apply List.ext_getElem?
  intro i
  rw [List.getElem?_take, List.getElem?_append, List.length_take]
  have hm : min a L.length = a := by omega
  rw [hm]
  by_cases h1 : i < a
  · rw [if_pos (by omega), if_pos h1, List.getElem?_take, if_pos h1]
    rw [List.getElem?_set_ne (by omega), List.getElem?_set_ne (by omega), List.getElem?_set_ne (by omega), List.getElem?_set_ne (by omega), List.getElem?_set_ne (by omega)]
  · rw [if_neg h1]
    by_cases h2 : i < a + 5
    · rw [if_pos h2]
      obtain ⟨j, rfl⟩ : ∃ j, i = a + j := ⟨i - a, by omega⟩
      have hj : j < 5 := by omega
      rw [show a + j - a = j by omega]
      match j, hj with
      | 0, _ => rw [List.getElem?_set_ne (by omega), List.getElem?_set_ne (by omega), List.getElem?_set_ne (by omega), List.getElem?_set_ne (by omega), Nat.add_zero, List.getElem?_set_self (by omega)]; rfl
      | 1, _ => rw [List.getElem?_set_ne (by omega), List.getElem?_set_ne (by omega), List.getElem?_set_ne (by omega), List.getElem?_set_self (by rw [List.length_set]; omega)]; rfl
      | 2, _ => rw [List.getElem?_set_ne (by omega), List.getElem?_set_ne (by omega), List.getElem?_set_self (by simp only [List.length_set]; omega)]; rfl
      | 3, _ => rw [List.getElem?_set_ne (by omega), List.getElem?_set_self (by simp only [List.length_set]; omega)]; rfl
      | 4, _ => rw [List.getElem?_set_self (by simp only [List.length_set]; omega)]; rfl
    · rw [if_neg h2, List.getElem?_eq_none (by simp; omega)]
theorem eRow_room {W : World} {g n c : Nat} {xs : List Ev} (h : eE.Row W (.slice (some ⟨g, 0, none⟩) n c) xs) (hl : xs.length = n) (hn : n < c) :
    (∀ j, j < 5 → ∃ u, W.cell? ⟨g, n * 5 + j, none⟩ = some u ∧ W.frozen? ⟨g, n * 5 + j, none⟩ = false) ∧
    ∀ v : Ev, eE.Row (((((W.setCell ⟨g, n * 5, none⟩ (.int .i64 v.who)).setCell ⟨g, n * 5 + 1, none⟩ (.int .i64 v.kind)).setCell ⟨g, n * 5 + 2, none⟩ (.int .i64 v.lc.k)).setCell ⟨g, n * 5 + 3, none⟩ (.int .i64 v.lc.a)).setCell ⟨g, n * 5 + 4, none⟩ (.int .i64 v.lc.b)) (.slice (some ⟨g, 0, none⟩) (n + 1) c) (xs ++ [v]) := by
  rcases h.2 with ⟨e, _⟩ | ⟨g', cap', cur, e, hb0, hgb, hnc, hcm, hsz, hcur⟩
  · cases e
  · injection e with e1 e2 e3
    injection e1 with e1
    injection e1 with e1
    subst e1 e3
    have hfit : n * 5 + 5 ≤ cur.size := by rw [hsz]; have : (n + 1) * 5 ≤ c * 5 := Nat.mul_le_mul_right 5 hn; omega
    refine ⟨fun j hj => ⟨cur[n * 5 + j]'(by omega), ?_, by simp [World.frozen?, hgb]⟩, fun v => ?_⟩
    · rw [cell_of_row W g _ cur _ (0, 0) hgb]
      simp [show n * 5 + j < cur.size by omega]
    · refine ⟨by rw [eE.flat_length], .inr ⟨g, c, ((((cur.setIfInBounds (n * 5) (.int .i64 v.who)).setIfInBounds (n * 5 + 1) (.int .i64 v.kind)).setIfInBounds (n * 5 + 2) (.int .i64 v.lc.k)).setIfInBounds (n * 5 + 3) (.int .i64 v.lc.a)).setIfInBounds (n * 5 + 4) (.int .i64 v.lc.b), by rw [List.length_append, hl]; rfl, hb0, ?_, by rw [List.length_append, hl]; simp; omega, hcm, by simpa using hsz, ?_⟩⟩
      · simp [World.setCell, Array.getElem?_modify, hgb]
      · have hlen : n * 5 + 5 ≤ cur.toList.length := by simpa using hfit
        rw [List.length_append, hl, eE.flat_append, ← hcur, hl]
        simp only [Array.toList_setIfInBounds, List.length_singleton]
        rw [show (n + 1) * 5 = n * 5 + 5 by omega, take_five hlen]
        rfl
end Go.Proofs.Ytmgmfihjojhilaa
