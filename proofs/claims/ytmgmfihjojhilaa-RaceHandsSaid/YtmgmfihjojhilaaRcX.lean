/-
  What is told and heard: the lists of four events.
-/
import Derived.Test.YtmgmfihjojhilaaRcU
namespace Go.Proofs.Ytmgmfihjojhilaa
set_option maxRecDepth 100000
open Go.RowKit
set_option linter.unusedVariables false
set_option linter.unusedSimpArgs false
set_option linter.unusedSectionVars false
set_option maxRecDepth 100000

/-- Five cells stored into a block of five. -/
theorem set5 (Y : World) (p : Nat) (t : TypeId) (c0 c1 c2 c3 c4 v0 v1 v2 v3 v4 : Value) (h : Y.heap[p]? = some (.cells #[c0, c1, c2, c3, c4] t (0, 0))) :
    (((((Y.setCell ⟨p, 0, none⟩ v0).setCell ⟨p, 1, none⟩ v1).setCell ⟨p, 2, none⟩ v2).setCell ⟨p, 3, none⟩ v3).setCell ⟨p, 4, none⟩ v4).heap[p]? = some (.cells #[v0, v1, v2, v3, v4] t (0, 0)) ∧
    Only [p] Y (((((Y.setCell ⟨p, 0, none⟩ v0).setCell ⟨p, 1, none⟩ v1).setCell ⟨p, 2, none⟩ v2).setCell ⟨p, 3, none⟩ v3).setCell ⟨p, 4, none⟩ v4) :=
  ⟨by simp [World.setCell, Array.getElem?_modify, h], (((((Only.refl [p] Y).setCell (.inl (by simp)) _).setCell (.inl (by simp)) _).setCell (.inl (by simp)) _).setCell (.inl (by simp)) _).setCell (.inl (by simp)) _⟩
theorem cells5 {Y : World} {p : Nat} {t : TypeId} {c0 c1 c2 c3 c4 : Value} (h : Y.heap[p]? = some (.cells #[c0, c1, c2, c3, c4] t (0, 0))) :
    (Y.cell? ⟨p, 0, none⟩ = some c0 ∧ Y.cell? ⟨p, 1, none⟩ = some c1 ∧ Y.cell? ⟨p, 2, none⟩ = some c2 ∧ Y.cell? ⟨p, 3, none⟩ = some c3 ∧ Y.cell? ⟨p, 4, none⟩ = some c4) ∧ ∀ k, Y.frozen? ⟨p, k, none⟩ = false :=
  ⟨⟨by rw [cell_of_row Y _ _ _ _ (0, 0) h]; rfl, by rw [cell_of_row Y _ _ _ _ (0, 0) h]; rfl, by rw [cell_of_row Y _ _ _ _ (0, 0) h]; rfl, by rw [cell_of_row Y _ _ _ _ (0, 0) h]; rfl, by rw [cell_of_row Y _ _ _ _ (0, 0) h]; rfl⟩, fun k => by simp [World.frozen?, h]⟩
theorem raceB_no {l : Nat → Ev} {i j : Nat} (h : confB (l i) (l j) = false) : raceB l i j = false := by unfold raceB; rw [h]; rfl
theorem conf_who {a b : Ev} (h : a.who = b.who) : confB a b = false := by simp [confB, h]
theorem conf_lc {a b : Ev} (h : a.lc ≠ b.lc) : confB a b = false := by simp [confB, h]
section
variable {u v : Nat} {x y : Lc} {tl hr kd : Int} (hu : u < 64) (hv : v < 64) (huv : u ≠ v) (hxy : x ≠ y) (ht : tl = 2 ∨ tl = 3) (hh : hr = 1 ∨ hr = 3 ∨ hr = 4) (hk : kd = 5 ∨ kd = 6)
include hu hv huv hxy ht hh hk
theorem hands_conf : confB ⟨u, 6, x⟩ ⟨v, kd, x⟩ = true := by
  have e1 : ((u : Int) != (v : Int)) = true := by simp; omega
  have e2 : plainK 6 = true := rfl
  have e3 : writesK 6 = true := rfl
  simp [confB, e2, e3]; omega
theorem hands_ok : okE ⟨u, 6, x⟩ = true ∧ okE ⟨u, tl, y⟩ = true ∧ okE ⟨v, hr, y⟩ = true ∧ okE ⟨v, kd, x⟩ = true := by
  refine ⟨okE_iff.2 ?_, okE_iff.2 ?_, okE_iff.2 ?_, okE_iff.2 ?_⟩ <;> (dsimp only; omega)
/-- Told, then heard. -/
theorem hands1 : FirstL [⟨u, 6, x⟩, ⟨u, tl, y⟩, ⟨v, hr, y⟩, ⟨v, kd, x⟩] 0 0 false ∧ befB [⟨u, 6, x⟩, ⟨u, tl, y⟩, ⟨v, hr, y⟩, ⟨v, kd, x⟩] 0 3 = true := by
  obtain ⟨o1, o2, o3, o4⟩ := hands_ok hu hv huv hxy ht hh hk
  have hok : okL [⟨u, 6, x⟩, ⟨u, tl, y⟩, ⟨v, hr, y⟩, ⟨v, kd, x⟩] = true := by simp [okL, o1, o2, o3, o4]
  obtain ⟨l, hl⟩ : ∃ l, evs [⟨u, 6, x⟩, ⟨u, tl, y⟩, ⟨v, hr, y⟩, ⟨v, kd, x⟩] = l := ⟨_, rfl⟩
  have l0 : l 0 = ⟨u, 6, x⟩ := by rw [← hl]; rfl
  have l1 : l 1 = ⟨u, tl, y⟩ := by rw [← hl]; rfl
  have l2 : l 2 = ⟨v, hr, y⟩ := by rw [← hl]; rfl
  have l3 : l 3 = ⟨v, kd, x⟩ := by rw [← hl]; rfl
  have hO : ∀ i, i < 4 → okE (l i) = true := fun i hi => by
    match i, hi with
    | 0, _ => rw [l0]; exact o1
    | 1, _ => rw [l1]; exact o2
    | 2, _ => rw [l2]; exact o3
    | 3, _ => rw [l3]; exact o4
  have lq : leqB (clk l 0) (clk l 3) = true := by
    have a := clk_same hO (by decide) (i := 0) (j := 1) (by decide) (by decide) (by rw [l0, l1])
    have c := clk_same hO (by decide) (i := 2) (j := 3) (by decide) (by decide) (by rw [l2, l3])
    have b := clk_heard hO (by decide) (j := 2) (by decide) (by rw [l2]; rcases hh with rfl | rfl | rfl <;> rfl)
    rw [knAt_pl, if_pos (by rw [l1, l2]; refine ⟨rfl, ?_⟩; rcases ht with rfl | rfl <;> rfl)] at b
    exact leq_trans a (leq_trans b c)
  have r03 : raceB l 0 3 = false := by unfold raceB; rw [lq]; simp
  have no : ∀ j, j < 4 → ∀ i, i < j → raceB l i j = false := fun j hj i hi => by
    match j, hj, i, hi with
    | 1, _, 0, _ => exact raceB_no (conf_who (by rw [l0, l1]))
    | 2, _, 0, _ => exact raceB_no (conf_lc (by rw [l0, l2]; exact hxy))
    | 2, _, 1, _ => exact raceB_no (conf_atomic (by rw [l1]; dsimp only; omega) (by rw [l2]; dsimp only; omega))
    | 3, _, 0, _ => exact r03
    | 3, _, 1, _ => exact raceB_no (conf_lc (by rw [l1, l3]; exact hxy.symm))
    | 3, _, 2, _ => exact raceB_no (conf_who (by rw [l2, l3]))
  constructor
  · exact .inl ⟨hok, by rw [hl]; exact .inl ⟨rfl, rfl, rfl, no⟩⟩
  · have := befB_nat hok (i := 0) (j := 3) (by simp) (by simp)
    rw [hl, lq] at this
    exact this
/-- Heard, then told. -/
theorem hands2 : FirstL [⟨u, 6, x⟩, ⟨v, hr, y⟩, ⟨u, tl, y⟩, ⟨v, kd, x⟩] 0 3 true ∧ befB [⟨u, 6, x⟩, ⟨v, hr, y⟩, ⟨u, tl, y⟩, ⟨v, kd, x⟩] 0 3 = false := by
  obtain ⟨o1, o2, o3, o4⟩ := hands_ok hu hv huv hxy ht hh hk
  have cf := hands_conf hu hv huv hxy ht hh hk
  have hok : okL [⟨u, 6, x⟩, ⟨v, hr, y⟩, ⟨u, tl, y⟩, ⟨v, kd, x⟩] = true := by simp [okL, o1, o2, o3, o4]
  obtain ⟨l, hl⟩ : ∃ l, evs [⟨u, 6, x⟩, ⟨v, hr, y⟩, ⟨u, tl, y⟩, ⟨v, kd, x⟩] = l := ⟨_, rfl⟩
  have l0 : l 0 = ⟨u, 6, x⟩ := by rw [← hl]; rfl
  have l1 : l 1 = ⟨v, hr, y⟩ := by rw [← hl]; rfl
  have l2 : l 2 = ⟨u, tl, y⟩ := by rw [← hl]; rfl
  have l3 : l 3 = ⟨v, kd, x⟩ := by rw [← hl]; rfl
  have hO : ∀ i, i < 4 → okE (l i) = true := fun i hi => by
    match i, hi with
    | 0, _ => rw [l0]; exact o1
    | 1, _ => rw [l1]; exact o3
    | 2, _ => rw [l2]; exact o2
    | 3, _ => rw [l3]; exact o4
  have huI : ¬ ((v : Int) = (u : Int)) := by omega
  have lq : leqB (clk l 0) (clk l 3) = false := by
    have a := clk_own hO (by decide) (i := 0) (by decide) (k := u) (by rw [l0])
    have z1 : gC (clk l 1) u = 0 := by
      rw [clk_def, if_pos (by rw [l1]; rcases hh with rfl | rfl | rfl <;> rfl), gC_tickE (hO 1 (by decide)) (n := v) (by rw [l1]), if_neg huv, gC_join]
      · rw [knAt_wk, knAt_pl, if_neg (by rw [l0, l1]; exact huI), if_neg (by rw [l0, l1]; intro h; exact hxy h.1.symm)]
        rfl
      · intro k
        rw [gC_join, knAt_wk, knAt_pl, if_neg (by rw [l0, l1]; exact huI), if_neg (by rw [l0, l1]; intro h; exact hxy h.1.symm)]
        simp [knAt, Kn.none, gC]
    have z3 : gC (clk l 3) u = 0 := by
      have w3 : (knAt l 3).wk (l 3).who = clk l 1 := by
        rw [knAt_wk, if_neg (by rw [l2, l3]; exact huI), knAt_wk, if_pos (by rw [l1, l3])]
      rw [clk_def, if_neg (by rw [l3]; rcases hk with rfl | rfl <;> simp [hearsK]), w3, gC_tickE (hO 3 (by decide)) (n := v) (by rw [l3]), if_neg huv, z1]
      intro k
      have := (clk_fits hO (by decide) (i := 1) (by decide)).2 k
      have := cntW_le l k (1 + 1)
      omega
    exact leqB_false (k := u) (by rw [a, z3]; omega)
  have r03 : raceB l 0 3 = true := by unfold raceB; rw [lq, l0, l3, cf]; rfl
  have no : ∀ j, j < 3 → ∀ i, i < j → raceB l i j = false := fun j hj i hi => by
    match j, hj, i, hi with
    | 1, _, 0, _ => exact raceB_no (conf_lc (by rw [l0, l1]; exact hxy))
    | 2, _, 0, _ => exact raceB_no (conf_who (by rw [l0, l2]))
    | 2, _, 1, _ => exact raceB_no (conf_atomic (by rw [l1]; dsimp only; omega) (by rw [l2]; dsimp only; omega))
  constructor
  · exact .inl ⟨hok, by rw [hl]; exact .inr ⟨rfl, 0, 3, rfl, rfl, by decide, by simp, r03, no, fun i' hi' => absurd hi' (by omega)⟩⟩
  · have := befB_nat hok (i := 0) (j := 3) (by simp) (by simp)
    rw [hl, lq] at this
    exact this
/-- Told too early. -/
theorem hands3 : FirstL [⟨u, tl, y⟩, ⟨v, hr, y⟩, ⟨u, 6, x⟩, ⟨v, kd, x⟩] 2 3 true := by
  obtain ⟨o1, o2, o3, o4⟩ := hands_ok hu hv huv hxy ht hh hk
  have cf := hands_conf hu hv huv hxy ht hh hk
  have hok : okL [⟨u, tl, y⟩, ⟨v, hr, y⟩, ⟨u, 6, x⟩, ⟨v, kd, x⟩] = true := by simp [okL, o1, o2, o3, o4]
  obtain ⟨l, hl⟩ : ∃ l, evs [⟨u, tl, y⟩, ⟨v, hr, y⟩, ⟨u, 6, x⟩, ⟨v, kd, x⟩] = l := ⟨_, rfl⟩
  have l0 : l 0 = ⟨u, tl, y⟩ := by rw [← hl]; rfl
  have l1 : l 1 = ⟨v, hr, y⟩ := by rw [← hl]; rfl
  have l2 : l 2 = ⟨u, 6, x⟩ := by rw [← hl]; rfl
  have l3 : l 3 = ⟨v, kd, x⟩ := by rw [← hl]; rfl
  have hO : ∀ i, i < 4 → okE (l i) = true := fun i hi => by
    match i, hi with
    | 0, _ => rw [l0]; exact o2
    | 1, _ => rw [l1]; exact o3
    | 2, _ => rw [l2]; exact o1
    | 3, _ => rw [l3]; exact o4
  have huI : ¬ ((v : Int) = (u : Int)) := by omega
  have c2 : cntW l u 2 = 1 := by
    simp only [cntW, l0, l1]
    rw [if_neg huI]
    simp
  have lq : leqB (clk l 2) (clk l 3) = false := by
    have a := clk_own hO (by decide) (i := 2) (by decide) (k := u) (by rw [l2])
    have z1 : gC (clk l 1) u ≤ (cntW l u 2 : Int) := ((clk_fits hO (by decide) (i := 1) (by decide)).2 u).2
    have z3 : gC (clk l 3) u ≤ 1 := by
      have w3 : (knAt l 3).wk (l 3).who = clk l 1 := by
        rw [knAt_wk, if_neg (by rw [l2, l3]; exact huI), knAt_wk, if_pos (by rw [l1, l3])]
      rw [clk_def, if_neg (by rw [l3]; rcases hk with rfl | rfl <;> simp [hearsK]), w3, gC_tickE (hO 3 (by decide)) (n := v) (by rw [l3]), if_neg huv]
      · omega
      · intro k
        have := (clk_fits hO (by decide) (i := 1) (by decide)).2 k
        have := cntW_le l k (1 + 1)
        omega
    exact leqB_false (k := u) (by rw [a, c2]; omega)
  have r23 : raceB l 2 3 = true := by unfold raceB; rw [lq, l2, l3, cf]; rfl
  have no : ∀ j, j < 3 → ∀ i, i < j → raceB l i j = false := fun j hj i hi => by
    match j, hj, i, hi with
    | 1, _, 0, _ => exact raceB_no (conf_atomic (by rw [l0]; dsimp only; omega) (by rw [l1]; dsimp only; omega))
    | 2, _, 0, _ => exact raceB_no (conf_who (by rw [l0, l2]))
    | 2, _, 1, _ => exact raceB_no (conf_lc (by rw [l1, l2]; exact hxy.symm))
  have last : ∀ i', i' < 2 → raceB l i' 3 = false := fun i' hi' => by
    match i', hi' with
    | 0, _ => exact raceB_no (conf_lc (by rw [l0, l3]; exact hxy.symm))
    | 1, _ => exact raceB_no (conf_who (by rw [l1, l3]))
  exact .inl ⟨hok, by rw [hl]; exact .inr ⟨rfl, 2, 3, rfl, rfl, by decide, by simp, r23, no, last⟩⟩
end
end Go.Proofs.Ytmgmfihjojhilaa
