/-
  The document's queue in memory; contracts of its Push, first, Min, Pop, Drop.
-/
import Derived.Test.YtajhkdbldbifeaaDoorQueueR
namespace Go.Proofs.YtajhkdbldbifeaaDoor
set_option maxRecDepth 100000
open Go.RowKit Go.ChangeMaps Go.MapKept
set_option linter.unusedVariables false
set_option linter.unusedSimpArgs false

/-- The document's queue: its struct, the pointers to its wheels, the wheels. -/
structure RQIs (w : World) (xb ab n cap : Nat) (P : Nat → Nat) (TT : Nat → List Nat) (wd : Nat) (B : Nat → Int) (L : Nat → List It) : Prop where
  blk : Arr w xb 56 [.slice (some ⟨ab, 0, none⟩) n cap]
  ptr : ∃ vs, Arr w ab 57 vs ∧ ∀ i, i < n → vs[i]? = some (.pointer (some ⟨P i, 0, none⟩))
  sh : ∀ i, i < n → RefOf w (P i) (TT i) wd (B i) (L i)
  dis : ∀ i j, i < n → j < n → i ≠ j → ∀ b ∈ TT i, b ∉ TT j
  out : ∀ i, i < n → ∀ b ∈ TT i, b ∉ [xb, ab]
  n1 : 1 ≤ n
  n16 : n ≤ 16
def rown (xb ab n : Nat) (TT : Nat → List Nat) : List Nat := [xb, ab] ++ catN TT n
theorem mem_rown {xb ab n b : Nat} {TT : Nat → List Nat} : b ∈ rown xb ab n TT ↔ b ∈ [xb, ab] ∨ ∃ i, i < n ∧ b ∈ TT i := by
  unfold rown; rw [List.mem_append, mem_catN]
section
variable {w w' : World} {xb ab n cap wd : Nat} {P : Nat → Nat} {TT : Nat → List Nat} {B : Nat → Int} {L : Nat → List It} {T : List Nat}
theorem RQIs.c0 (h : RQIs w xb ab n cap P TT wd B L) : w.cell? ⟨xb, 0, none⟩ = some (.slice (some ⟨ab, 0, none⟩) n cap) := by rw [h.blk.cell]; rfl
theorem RQIs.at_ (h : RQIs w xb ab n cap P TT wd B L) {i : Nat} (hi : i < n) : w.cell? ⟨ab, i, none⟩ = some (.pointer (some ⟨P i, 0, none⟩)) := by
  obtain ⟨vs, h1, h2⟩ := h.ptr
  rw [h1.cell]; exact h2 i hi
theorem RQIs.lt (h : RQIs w xb ab n cap P TT wd B L) : ∀ b ∈ rown xb ab n TT, b < w.heap.size := fun b hb => by
  rcases mem_rown.1 hb with h1 | ⟨i, hi, h1⟩
  · simp only [List.mem_cons, List.not_mem_nil, or_false] at h1
    rcases h1 with rfl | rfl
    · exact h.blk.lt
    · obtain ⟨vs, h1, h2⟩ := h.ptr
      exact h1.lt
  · exact (h.sh i hi).lt b h1
theorem RQIs.only (h : RQIs w xb ab n cap P TT wd B L) (ho : Only T w w') (hT : ∀ b ∈ rown xb ab n TT, b ∉ T) : RQIs w' xb ab n cap P TT wd B L := by
  obtain ⟨vs, h1, h2⟩ := h.ptr
  exact ⟨h.blk.only ho (hT _ (mem_rown.2 (.inl (by simp)))), ⟨vs, h1.only ho (hT _ (mem_rown.2 (.inl (by simp)))), h2⟩, fun i hi => (h.sh i hi).only ho fun b hb => hT b (mem_rown.2 (.inr ⟨i, hi, hb⟩)), h.dis, h.out, h.n1, h.n16⟩
theorem RQIs.only0 (h : RQIs w xb ab n cap P TT wd B L) (ho : Only [] w w') : RQIs w' xb ab n cap P TT wd B L := h.only ho (by simp)
/-- One wheel moved. -/
theorem RQIs.wheel (h : RQIs w xb ab n cap P TT wd B L) {i : Nat} (hi : i < n) {T' : List Nat} {b' : Int} {l' : List It} (hw : RefOf w' (P i) T' wd b' l') (hm : Moved w (TT i) w' T') :
    RQIs w' xb ab n cap P (fup TT i T') wd (fup B i b') (fup L i l') ∧ Moved w (rown xb ab n TT) w' (rown xb ab n (fup TT i T')) := by
  have hlt := h.lt
  have hout : ∀ b ∈ [xb, ab], b ∉ TT i := fun b hb hc => h.out i hi b hc hb
  have hS' : ∀ b ∈ T', b ∈ TT i ∨ w.heap.size ≤ b := hm.2
  obtain ⟨vs, hp1, hp2⟩ := h.ptr
  refine ⟨⟨h.blk.only hm.1 (hout _ (by simp)), ⟨vs, hp1.only hm.1 (hout _ (by simp)), hp2⟩, fun k hk => ?_, fun k j hk hj hne b hb => ?_, fun k hk b hb hc => ?_, h.n1, h.n16⟩, hm.1.mono fun k hk => .inl (mem_rown.2 (.inr ⟨i, hi, hk⟩)), fun b hb => ?_⟩
  · by_cases e : k = i
    · subst e; rw [fup_same, fup_same, fup_same]; exact hw
    · rw [fup_other _ _ e, fup_other _ _ e, fup_other _ _ e]
      exact (h.sh k hk).only hm.1 fun b hb => h.dis k i hk hi e b hb
  · by_cases e : k = i
    · subst e
      rw [fup_same] at hb
      rw [fup_other _ _ (Ne.symm hne)]
      intro hc
      rcases hS' b hb with h1 | h1
      · exact h.dis k j hk hj hne b h1 hc
      · have := (h.sh j hj).lt b hc; omega
    · rw [fup_other _ _ e] at hb
      by_cases e2 : j = i
      · subst e2
        rw [fup_same]
        intro hc
        rcases hS' b hc with h1 | h1
        · exact h.dis k j hk hj hne b hb h1
        · have := (h.sh k hk).lt b hb; omega
      · rw [fup_other _ _ e2]; exact h.dis k j hk hj hne b hb
  · by_cases e : k = i
    · subst e
      rw [fup_same] at hb
      rcases hS' b hb with h1 | h1
      · exact h.out k hk b h1 hc
      · have := hlt b (mem_rown.2 (.inl hc)); omega
    · rw [fup_other _ _ e] at hb; exact h.out k hk b hb hc
  · rcases mem_rown.1 hb with h1 | ⟨k, hk, h1⟩
    · exact .inl (mem_rown.2 (.inl h1))
    · by_cases e : k = i
      · subst e
        rw [fup_same] at h1
        rcases hS' b h1 with h2 | h2
        · exact .inl (mem_rown.2 (.inr ⟨k, hk, h2⟩))
        · exact .inr h2
      · rw [fup_other _ _ e] at h1; exact .inl (mem_rown.2 (.inr ⟨k, hk, h1⟩))
end
/-- The document's queue at xb. -/
def RQOf (w : World) (xb : Nat) (T : List Nat) (n wd : Nat) (B : Nat → Int) (L : Nat → List It) : Prop := ∃ ab cap P TT, T = rown xb ab n TT ∧ RQIs w xb ab n cap P TT wd B L
section
variable {w w' : World} {xb n wd : Nat} {S T : List Nat} {B : Nat → Int} {L : Nat → List It}
theorem RQOf.only (h : RQOf w xb S n wd B L) (ho : Only T w w') (hT : ∀ b ∈ S, b ∉ T) : RQOf w' xb S n wd B L := by
  obtain ⟨ab, cap, P, TT, rfl, h1⟩ := h
  exact ⟨ab, cap, P, TT, rfl, h1.only ho hT⟩
theorem RQOf.only0 (h : RQOf w xb S n wd B L) (ho : Only [] w w') : RQOf w' xb S n wd B L := h.only ho (by simp)
theorem RQOf.lt (h : RQOf w xb S n wd B L) : ∀ b ∈ S, b < w.heap.size := by
  obtain ⟨ab, cap, P, TT, rfl, h1⟩ := h
  exact h1.lt
end

theorem refOf_row {w : World} {xb wd : Nat} {T : List Nat} {base : Int} {l : List It} (h : RefOf w xb T wd base l) : ∃ A cap, w.cell? ⟨xb, 0, none⟩ = some (.slice A l.length cap) ∧ RowIs w (.slice A l.length cap) l := by
  obtain ⟨v, -, h1, -⟩ := h
  obtain ⟨A, cap, ev⟩ := h1.row.form
  have c0 := h1.c0
  have hr := h1.row
  rw [ev] at c0 hr
  exact ⟨A, cap, c0, hr⟩
/-- The first item of a wheel, by its cells. -/
theorem refOf_first {w : World} {xb wd : Nat} {T : List Nat} {base : Int} {l : List It} (h : RefOf w xb T wd base l) (hne : l ≠ []) : ∃ g cap, w.cell? ⟨xb, 0, none⟩ = some (.slice (some ⟨g, 0, none⟩) l.length cap) ∧ w.cell? ⟨g, 0, none⟩ = some (.int .u64 (first l).k) ∧ w.cell? ⟨g, 1, none⟩ = some (.int .i64 (first l).i) := by
  obtain ⟨A, cap, c0, hr⟩ := refOf_row h
  have h0 : 0 < l.length := List.length_pos_iff.2 hne
  obtain ⟨g, cap', e, -, -, -, -, hc⟩ := hr.at_ h0
  injection e with e1 e2 e3
  subst e1
  have := hc 0 h0
  have ef : gOf l 0 = first l := by cases l with | nil => exact absurd rfl hne | cons x t => rfl
  rw [ef] at this
  exact ⟨g, cap, c0, by simpa using this.1, by simpa using this.2.1⟩

theorem refBest_ge (P : Nat → Bool) (g : Nat → It) (m : Nat) : -1 ≤ refBest P g m ∧ refBest P g m < (m : Int) := by
  rcases refBest_range P g m with h | ⟨i, h1, _, h2⟩ <;> omega

end Go.Proofs.YtajhkdbldbifeaaDoor
