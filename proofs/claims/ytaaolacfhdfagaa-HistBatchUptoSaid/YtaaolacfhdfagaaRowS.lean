/-
  slices.SortFunc over rows of any kind of element: what the sort's world holds.
-/
import Derived.Test.YtaaolacfhdfagaaRowG
import Derived.Shelf.SlSortCmp.NoneTotal
namespace Go.Proofs.Ytaaolacfhdfagaa
set_option maxRecDepth 100000
open Go.RowKit Go.Shelf Go.Lib Go.Sort
set_option linter.unusedVariables false
set_option linter.unusedSimpArgs false

section
variable {α : Type} [Inhabited α] {n : Nat} (E : El α n)
theorem El.sort_only (w : World) (blk m : Nat) (d : Array α) (os : Array Obj) : Only [blk] w (sortWorldK E.cs n w blk 0 m d os) := by
  refine ⟨rfl, rfl, rfl, size_sortWorldK_c E.cs n w blk 0 m d os, fun k hk hne => ?_⟩
  simp only [List.mem_singleton] at hne
  unfold sortWorldK putRowK putRow mapBlock grow
  rw [Array.getElem?_append_left (by simp [Sort.ahead]; exact hk)]
  simp only [Sort.ahead, Array.getElem?_modify]
  rw [if_neg (by omega)]
theorem El.sort_blk {w : World} {blk : Nat} {cur : Array Value} {t : TypeId} (m : Nat) (d : Array α) (os : Array Obj) (hb : w.heap[blk]? = some (.cells cur t (0, 0))) :
    (sortWorldK E.cs n w blk 0 m d os).heap[blk]? = some (.cells (putCells id 0 (flatK E.cs n d) cur) t (0, 0)) := by
  have hlt : blk < w.heap.size := (Array.getElem?_eq_some_iff.1 hb).1
  unfold sortWorldK putRowK putRow mapBlock grow
  rw [Array.getElem?_append_left (by simp [Sort.ahead]; exact hlt)]
  simp only [Sort.ahead, Array.getElem?_modify, if_true]
  rw [hb]
  rfl
theorem El.flatK_get (d : Array α) (t : Nat) (ht : t < d.size * n) : (E.flat d.toList)[t]? = some ((flatK E.cs n d)[t]!) := by
  rw [get_flatK E.cs n d t ht]
  have hn := E.pos
  have hq : t / n < d.size := by rw [Nat.div_lt_iff_lt_mul hn]; exact ht
  have hm : t % n < n := Nat.mod_lt _ hn
  have h1 := E.flat_at d.toList (t / n) (d[t / n]) (by simp [hq]) (t % n) hm
  rw [show t / n * n + t % n = t by rw [Nat.mul_comm]; exact Nat.div_add_mod t n] at h1
  rw [h1]
  have e : d[t / n]! = d[t / n] := getElem!_pos d _ hq
  rw [e]
  have hl : t % n < (E.cs d[t / n]).length := by rw [E.len]; exact hm
  rw [List.getElem?_eq_getElem hl, getElem!_pos (E.cs d[t / n]) _ hl]
variable {E}
theorem El.Row.holds {w : World} {g m cap : Nat} {xs : List α} (h : E.Row w (.slice (some ⟨g, 0, none⟩) m cap) xs) : HoldsK E.cs n w g 0 xs.toArray := by
  intro j hj
  simp only [size_flatK, List.size_toArray] at hj
  have hn := E.pos
  have hl : 0 < xs.length := by
    rcases Nat.eq_zero_or_pos xs.length with h0 | h0
    · rw [h0] at hj; simp at hj
    · exact h0
  obtain ⟨g', cap', cur, e, _, _, _, hb, hsz, hcur⟩ := h.at_ hl
  have eg : g = g' := by injection e with e _ _; injection e with e; injection e
  subst eg
  have hf := E.flatK_get xs.toArray j (by simpa using hj)
  simp only [List.toList_toArray] at hf
  rw [Nat.zero_add]
  refine ⟨?_, by simp [World.frozen?, hb]⟩
  rw [cell_of_row w g _ cur _ (0, 0) hb]
  rw [← hcur, List.getElem?_take, if_pos hj] at hf
  simpa using hf
theorem El.Row.sorted {w : World} {g m cap : Nat} {xs ys : List α} (h : E.Row w (.slice (some ⟨g, 0, none⟩) m cap) xs) (q : Nat) (os : Array Obj) (hl : ys.length = xs.length) :
    E.Row (sortWorldK E.cs n w g 0 q ys.toArray os) (.slice (some ⟨g, 0, none⟩) m cap) ys := by
  obtain ⟨h1, h2⟩ := h
  rcases h2 with ⟨e, _⟩ | ⟨g', cap', cur, e, h0, hg, hn, hc, hsz, hcur⟩
  · cases e
  · injection e with e1 e2 e3
    injection e1 with e1
    injection e1 with e1
    subst e1 e2 e3
    refine ⟨by rw [E.flat_length], .inr ⟨g, cap, _, by rw [hl], h0, E.sort_blk q ys.toArray os hg, by rw [hl]; exact hn, hc, by simp [putCells, hsz], ?_⟩⟩
    apply List.ext_getElem?
    intro j
    rw [List.getElem?_take]
    by_cases hj : j < ys.length * n
    · rw [if_pos hj]
      have hf := E.flatK_get ys.toArray j (by simpa using hj)
      simp only [List.toList_toArray] at hf
      rw [hf]
      have hjc : j < cur.size := by
        have h9 : ys.length * n ≤ cap * n := Nat.mul_le_mul_right n (by rw [hl]; exact hn)
        rw [hsz]; omega
      simp only [putCells, Array.getElem?_toList, Array.getElem?_mapIdx]
      rw [Array.getElem?_eq_getElem hjc]
      simp only [Option.map_some, Nat.zero_le, true_and, Nat.zero_add, size_flatK, List.size_toArray, hj, if_true, Nat.sub_zero, id]
    · rw [if_neg hj, List.getElem?_eq_none (by rw [E.flat_length]; omega)]
end
end Go.Proofs.Ytaaolacfhdfagaa
