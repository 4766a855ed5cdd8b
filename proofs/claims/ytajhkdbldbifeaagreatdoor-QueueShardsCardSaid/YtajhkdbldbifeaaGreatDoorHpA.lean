/-
  Contracts of tag.Ahead, of the document's Ahead, of the heap's ahead and swap.
-/
import Derived.Test.YtajhkdbldbifeaaGreatDoorGmA
import Derived.BigRegion
import Derived.BigQuiet
import Derived.StillTailTactics
import Derived.Deep.QuietTactic
namespace Go.Proofs.YtajhkdbldbifeaaGreatDoor
set_option maxRecDepth 100000
open Go.RowKit Go.ChangeMaps Go.MapKept
set_option linter.unusedVariables false
set_option linter.unusedSimpArgs false

theorem Ids.swl {xs : List It} (h : Ids xs) {i j : Nat} (hi : i < xs.length) (hj : j < xs.length) : Ids (swl xs i j) := h.perm (swl_perm xs hi hj).symm
/-- What is told behind an exchange. -/
theorem fOf_swl {xs : List It} (h : Ids xs) {i j : Nat} (hi : i < xs.length) (hj : j < xs.length) :
    upd (upd (fOf xs) (gOf (swl xs i j) i).i i) (gOf (swl xs i j) j).i j = fOf (swl xs i j) := by
  funext id
  apply opt_ext
  intro v
  rw [fOf_iff (h.swl hi hj)]
  have e := gOf_swl xs hi hj
  rw [e, swl_length]
  unfold upd
  have gi : swf (gOf xs) i j i = gOf xs j := by unfold swf; split <;> simp_all
  have gj : swf (gOf xs) i j j = gOf xs i := by unfold swf; simp
  rw [gi, gj]
  by_cases h1 : id = (gOf xs i).i
  · rw [if_pos h1]
    constructor
    · intro hv
      exact ⟨j, hj, by rw [gj, h1], by injection hv with hv; exact hv.symm⟩
    · rintro ⟨k, hk, he, rfl⟩
      have : k = j := by
        by_cases e1 : k = j
        · exact e1
        · by_cases e2 : k = i
          · subst e2; rw [gi, h1] at he; exact (h.place hj hi he).symm
          · have e3 : swf (gOf xs) i j k = gOf xs k := by unfold swf; rw [if_neg e1, if_neg e2]
            rw [e3, h1] at he; exact absurd (h.place hk hi he) e2
      rw [this]
  · rw [if_neg h1]
    by_cases h2 : id = (gOf xs j).i
    · rw [if_pos h2]
      constructor
      · intro hv
        exact ⟨i, hi, by rw [gi, h2], by injection hv with hv; exact hv.symm⟩
      · rintro ⟨k, hk, he, rfl⟩
        have : k = i := by
          by_cases e1 : k = j
          · subst e1; rw [gj] at he; exact absurd he.symm h1
          · by_cases e2 : k = i
            · exact e2
            · have e3 : swf (gOf xs) i j k = gOf xs k := by unfold swf; rw [if_neg e1, if_neg e2]
              rw [e3, h2] at he; exact absurd (h.place hk hj he) e1
        rw [this]
    · rw [if_neg h2, fOf_iff h]
      constructor
      · rintro ⟨k, hk, he, rfl⟩
        refine ⟨k, hk, ?_, rfl⟩
        have e1 : k ≠ j := fun e1 => h2 (by rw [← he, e1])
        have e2 : k ≠ i := fun e2 => h1 (by rw [← he, e2])
        unfold swf; rw [if_neg e1, if_neg e2]; exact he
      · rintro ⟨k, hk, he, rfl⟩
        refine ⟨k, hk, ?_, rfl⟩
        by_cases e1 : k = j
        · subst e1; rw [gj] at he; exact absurd he.symm h1
        · by_cases e2 : k = i
          · subst e2; rw [gi] at he; exact absurd he.symm h2
          · have e3 : swf (gOf xs) i j k = gOf xs k := by unfold swf; rw [if_neg e1, if_neg e2]
            rw [e3] at he; exact he

/-- A heap's struct, row and map, holding xs in that order. -/
structure HeapIs (w : World) (hb : Nat) (v : Value) (mb : Nat) (xs : List It) : Prop where
  blk : w.heap[hb]? = some (.cells #[v, .map (some mb)] 109 (0, 0))
  row : RowIs w v xs
  map : MapAt w mb (fOf xs)
  ids : Ids xs
  fit : ∀ x ∈ xs, x.ok

section
variable {w : World} {hb mb : Nat} {v : Value} {xs : List It}
theorem HeapIs.c0 (h : HeapIs w hb v mb xs) : w.cell? ⟨hb, 0, none⟩ = some v := by rw [cell_of_row w hb 0 _ _ _ h.blk]; rfl
theorem HeapIs.c1 (h : HeapIs w hb v mb xs) : w.cell? ⟨hb, 1, none⟩ = some (.map (some mb)) := by rw [cell_of_row w hb 1 _ _ _ h.blk]; rfl
theorem HeapIs.fr (h : HeapIs w hb v mb xs) (i : Nat) : w.frozen? ⟨hb, i, none⟩ = false := by simp [World.frozen?, h.blk]
/-- The blocks of a heap. -/
def hown (hb : Nat) (v : Value) (mb : Nat) : List Nat := hb :: mb :: v.ownBlock.toList
theorem HeapIs.keep {w' : World} (h : HeapIs w hb v mb xs) (hk : ∀ b ∈ hown hb v mb, w'.heap[b]? = w.heap[b]?) : HeapIs w' hb v mb xs :=
  ⟨(hk hb (by simp [hown])).trans h.blk, h.row.keep fun g hg => hk g (by simp [hown, hg]), h.map.keep (hk mb (by simp [hown])), h.ids, h.fit⟩
theorem HeapIs.lt (h : HeapIs w hb v mb xs) : ∀ b ∈ hown hb v mb, b < w.heap.size := by
  intro b hb'
  simp only [hown, List.mem_cons, Option.mem_toList] at hb'
  rcases hb' with rfl | rfl | e
  · exact (Array.getElem?_eq_some_iff.1 h.blk).1
  · exact h.map.lt
  · exact h.row.lt e
theorem HeapIs.only {w' : World} {S : List Nat} (h : HeapIs w hb v mb xs) (ho : Only S w w') (hS : ∀ b ∈ hown hb v mb, b ∉ S) : HeapIs w' hb v mb xs :=
  h.keep fun b hb' => ho.block b (h.lt b hb') (hS b hb')
theorem HeapIs.only0 {w' : World} (h : HeapIs w hb v mb xs) (ho : Only [] w w') : HeapIs w' hb v mb xs := h.only ho (by simp)
theorem HeapIs.hbmb (h : HeapIs w hb v mb xs) : hb ≠ mb := by
  rintro rfl
  obtain ⟨es, cl, he, _⟩ := h.map
  have := h.blk
  rw [he] at this
  cases this
theorem HeapIs.hbg (h : HeapIs w hb v mb xs) {g : Nat} (hg : v.ownBlock = some g) : hb ≠ g := by
  rintro rfl
  rcases h.row.2 with ⟨rfl, _⟩ | ⟨g', cap, cur, rfl, h0, hg', _⟩
  · cases hg
  · have e : g' = hb := by simpa [Value.ownBlock] using hg
    subst e
    have := h.blk
    rw [hg'] at this
    injection this with this
    injection this with _ this
    cases this
theorem HeapIs.mbg (h : HeapIs w hb v mb xs) {g : Nat} (hg : v.ownBlock = some g) : mb ≠ g := by
  rintro rfl
  rcases h.row.2 with ⟨rfl, _⟩ | ⟨g', cap, cur, rfl, h0, hg', _⟩
  · cases hg
  · have e : g' = mb := by simpa [Value.ownBlock] using hg
    subst e
    obtain ⟨es, cl, he, _⟩ := h.map
    rw [hg'] at he
    cases he
end

set_option maxHeartbeats 1000000 in
/-- ahead: which of two places. -/
theorem hahead (w : World) (hb mb : Nat) (v : Value) (xs : List It) (h : HeapIs w hb v mb xs) (i j : Nat) (hi : i < xs.length) (hj : j < xs.length) :
    Calls Tryz.prog 119 #[.pointer (some ⟨hb, 0, none⟩), .int .i64 (i : Int), .int .i64 (j : Int)] w fun e w' => e = .returned (.bool ((gOf xs i).lt (gOf xs j))) ∧ Only [] w w' := by
  obtain ⟨g, cap, rfl, hn, hcap, hg, _, hcell⟩ := h.row.at_ (by omega)
  have c0 := h.c0
  obtain ⟨i0, i1, _, _⟩ := hcell i hi
  obtain ⟨j0, j1, _, _⟩ := hcell j hj
  clear hcell h
  have hi' : (i : Int) < (xs.length : Int) := by omega
  have hj' : (j : Int) < (xs.length : Int) := by omega
  generalize gOf xs i = x at *
  generalize gOf xs j = y at *
  generalize xs.length = n at *
  go_enter Tryz.func119, Tryz.ntmps119
  go_wp2_with fail
  go_still_tail 14, (by kernel_rfl)
  change wpList _ _ _ _ _ w.drew
  go_wp2_with (go_at_call 110; refine (ahead_only x y _).mono ?_; rintro e w' ⟨rfl, ho⟩)
  go_ret
  exact ⟨rfl, (Only.refl _ _).drew.trans' ho⟩

end Go.Proofs.YtajhkdbldbifeaaGreatDoor
