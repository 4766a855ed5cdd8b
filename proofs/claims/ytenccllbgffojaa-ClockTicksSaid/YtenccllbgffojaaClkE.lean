/-
  Own: a copy with room behind it in which there is something; Kept: it is there still.
-/
import Derived.Test.YtenccllbgffojaaClkD
import Derived.Deep.DeepAppendRoom
namespace Go.Proofs.Ytenccllbgffojaa
set_option maxRecDepth 100000
open Go.RowKit
set_option linter.unusedVariables false
set_option linter.unusedSimpArgs false
set_option maxRecDepth 100000

section
variable {w : World} {ops : Array Oper} {o : Oper} {a : Act} {K : Act → World → Prop} {Q : Exit → Act → World → Prop}
/-- A list behind a row that has room for it. -/
theorem wp_appSpare (s x : Operand) (ho : o.op = .call { callee := .builtin .append, args := #[s, x], argTypes := #[22, 22] })
    (g n cap : Nat) (xs : List Int) (A : Option Addr) (m c : Nat) (ys : List Int) (hs : a.eval s = .slice (some ⟨g, 0, none⟩) n cap) (hx : a.eval x = .slice A m c) (h : iE.Row w (.slice (some ⟨g, 0, none⟩) n cap) xs) (hn : xs.length = n) (hsrc : iE.Src w A ys) (hm : ys.length = m) (hroom : n + m ≤ cap)
    (hK : ∀ w2, iE.Row w2 (.slice (some ⟨g, 0, none⟩) (n + m) cap) (xs ++ ys) → w.grownBy w2 (some g) → K (a.put o.dst (.slice (some ⟨g, 0, none⟩) (n + m) cap)) w2) : o.wp Try.prog a w K Q := by
  obtain ⟨i0, hi0, hz0, hz1, hz2⟩ := info_parts iE.info
  rcases ys with _ | ⟨y, ys'⟩
  · obtain rfl : m = 0 := by simpa using hm.symm
    have r1 : (Builtin.append_ #[22, 22] o.type #[.slice (some ⟨g, 0, none⟩) n cap, .slice A 0 c]).run Try.prog w = .ok (.slice (some ⟨g, 0, none⟩) n cap) w ∨ ∃ ad, A = some ad := by
      rcases A with _ | ad
      · left
        rcases h.2 with ⟨e, _⟩ | ⟨g', cap', cur, e, _, _, hnc, _⟩
        · cases e
        · injection e with e1 e2 e3
          injection e1 with e1
          injection e1 with e1
          subst e1 e2 e3
          have hi1 : Try.prog.info? 3 = some i0 := hi0
          simp [Builtin.append_, run_underlying Try.underlying22, sizeOf, typeInfo, hi1, Builtin.lenOf, Builtin.firstCells, hnc, storeCells]
      · exact .inr ⟨ad, rfl⟩
    rcases r1 with r1 | ⟨ad, rfl⟩
    · unfold Oper.wp execOp
      simp only [ho, resolve, invoke, builtin, Sem.run_bind, Sem.run_pure, Result.andThen_ok, List.map_toArray, List.map_cons, List.map_nil, hs, hx, r1]
      exact hK w (by simpa using h) (World.grownBy.refl w _)
    · have hrow : w.ownsRow 0 3 1 (.slice (some ⟨g, 0, none⟩) n cap) n (iE.flat xs) := by rw [← hn]; rw [hn]; have := h; unfold El.Row at this; rw [hn] at this; exact this
      refine wp_append_own_spare w s x 22 ho 0 3 i0 1 Try.underlying22 hi0 hz1 g n cap (iE.flat xs) hs hrow ad 0 c [] hx (by simp) (by simp) (by simp) hroom ?_
      intro w2 h2 g2
      refine hK w2 ?_ g2
      unfold El.Row
      show w2.ownsRow 0 3 1 _ _ _
      simpa [hn] using h2
  · obtain ⟨ad, rfl, hc⟩ := hsrc (by simp)
    generalize y :: ys' = ys at *
    have hrow : w.ownsRow 0 3 1 (.slice (some ⟨g, 0, none⟩) n cap) n (iE.flat xs) := by have := h; unfold El.Row at this; rw [hn] at this; exact this
    refine wp_append_own_spare w s x 22 ho 0 3 i0 1 Try.underlying22 hi0 hz1 g n cap (iE.flat xs) hs hrow ad m c (iE.flat ys) hx (by rw [iE.flat_length, hm]) hc (iE.flat_one ys) hroom ?_
    intro w2 h2 g2
    refine hK w2 ?_ g2
    unfold El.Row
    rw [iE.flat_append, List.length_append, hn, hm]
    exact h2
theorem wpList_appSpare {rest : List Oper} (hgd : o.guard = none) (s x : Operand) (ho : o.op = .call { callee := .builtin .append, args := #[s, x], argTypes := #[22, 22] })
    (g n cap : Nat) (xs : List Int) (A : Option Addr) (m c : Nat) (ys : List Int) (hs : a.eval s = .slice (some ⟨g, 0, none⟩) n cap) (hx : a.eval x = .slice A m c) (h : iE.Row w (.slice (some ⟨g, 0, none⟩) n cap) xs) (hn : xs.length = n) (hsrc : iE.Src w A ys) (hm : ys.length = m) (hroom : n + m ≤ cap) (N : Nat) (hN : n + m = N)
    (hK : ∀ w2, iE.Row w2 (.slice (some ⟨g, 0, none⟩) N cap) (xs ++ ys) → w.grownBy w2 (some g) → wpList Try.prog ops Q rest (a.put o.dst (.slice (some ⟨g, 0, none⟩) N cap)) w2) : wpList Try.prog ops Q (o :: rest) a w := by
  subst hN
  exact wpList_plain hgd fun _ hK' => wp_appSpare s x ho g n cap xs A m c ys hs hx h hn hsrc hm hroom fun w2 h2 h3 => hK' _ _ (hK w2 h2 h3)
end
/-- Cells that are there, and may be written. -/
def Raw (w : World) (g n : Nat) : Prop := ∀ k, k < n → ∃ u, w.cell? ⟨g, k, none⟩ = some u ∧ w.frozen? ⟨g, k, none⟩ = false
theorem Raw.of_row {w : World} {g n cap : Nat} {xs : List Int} (h : iE.Row w (.slice (some ⟨g, 0, none⟩) n cap) xs) : Raw w g cap := by
  rcases h.2 with ⟨e, _⟩ | ⟨g', cap', cur, e, _, hg, _, _, hsz, _⟩
  · cases e
  · injection e with e1 e2 e3
    injection e1 with e1
    injection e1 with e1
    subst e1 e2 e3
    intro k hk
    refine ⟨cur[k]'(by omega), ?_, by simp [World.frozen?, hg]⟩
    rw [cell_of_row w g k cur _ (0, 0) hg]
    simp [show k < cur.size by omega]
theorem Raw.store {w : World} {g n : Nat} (h : Raw w g n) (k : Nat) (v : Value) : Raw (w.setCell ⟨g, k, none⟩ v) g n := fun j hj => by
  obtain ⟨u, hc, hf⟩ := h j hj
  by_cases e : k = j
  · subst e
    exact ⟨v, World.cell?_setCell_same' _ _ _ (by rw [hc]; rfl), by rw [World.frozen?_setCell]; exact hf⟩
  · refine ⟨u, ?_, by rw [World.frozen?_setCell]; exact hf⟩
    rw [World.cell?_setCell_other _ _ _ _ (by intro h2; injection h2 with _ h2; exact e h2)]
    exact hc
/-- One number more, in a cell that is there. -/
theorem Nums.more {B : Nat} {w : World} {g n : Nat} {xs : List Int} (h : Nums B w (some ⟨g, 0, none⟩) xs) (hr : Raw w g n) (hB : B ≤ g) (x : Int) (hk : xs.length < n) : Nums B (w.setCell ⟨g, xs.length, none⟩ (.int .i64 x)) (some ⟨g, 0, none⟩) (xs ++ [x]) := fun j y hy => by
  by_cases hj : j < xs.length
  · rw [List.getElem?_append_left hj] at hy
    obtain ⟨g', e, h1, hc, hf⟩ := h j y hy
    injection e with e
    injection e with e
    subst e
    refine ⟨g, rfl, h1, ?_, by rw [World.frozen?_setCell]; exact hf⟩
    rw [World.cell?_setCell_other _ _ _ _ (by intro h2; injection h2 with _ h2; omega)]
    exact hc
  · rw [List.getElem?_append_right (by omega)] at hy
    have hj2 : j = xs.length := by
      have := (List.getElem?_eq_some_iff.1 hy).1
      simp at this; omega
    subst hj2
    simp at hy
    subst hy
    obtain ⟨u, hc, hf⟩ := hr _ hk
    exact ⟨g, rfl, hB, World.cell?_setCell_same' _ _ _ (by rw [hc]; rfl), by rw [World.frozen?_setCell]; exact hf⟩

set_option maxHeartbeats 2000000 in
theorem cOwn (A : Option Addr) (m c : Nat) (xs : List Int) (v : Int) (w : World) (hm : xs.length = m) (hb : m ≤ 100000) (h : Nums 0 w A xs) :
    Calls Try.prog 23 #[.slice A m c, .int .i64 v] w fun e w' => ∃ g, e = .returned (.slice (some ⟨g, 0, none⟩) m (m + 3)) ∧ Nums w.heap.size w' (some ⟨g, 0, none⟩) (xs ++ List.replicate 3 v) ∧ Only [] w w' ∧ w.heap.size ≤ g ∧ iE.Row w' (.slice (some ⟨g, 0, none⟩) m (m + 3)) xs := by
  have HL := Lib.hid hm
  have hmk := El.run_make_ (E := iE) Try.underlying22 w 0 (m + 3) (by omega) (by omega)
  have oA : Only [] w (w.alloc (.cells (madeCells iE.z.cells ((m + 3) * 1)) iE.T)) := (Only.refl [] w).alloc _
  have hr0 := El.Row.made0 (E := iE) w (m + 3) (by omega)
  have H0 := Lib.hid (And.intro oA (And.intro hr0 (h.only0 oA).src))
  clear h oA hr0 hm
  generalize w.alloc (.cells (madeCells iE.z.cells ((m + 3) * 1)) iE.T) = W at *
  obtain ⟨G, eG⟩ : ∃ G, w.heap.size = G := ⟨_, rfl⟩
  have HG := Lib.hid eG
  rw [eG] at hmk H0 ⊢
  clear eG
  have hc3 : ((m + 3 : Nat) : Int) = (m : Int) + 3 := by omega
  have hc0 : ((0 : Nat) : Int) = 0 := rfl
  rw [hc0, hc3] at hmk
  clear hc3 hc0
  go_enter Try.func23, Try.ntmps23
  go_wp2_with (first
    | (at_builtin
       refine wpList_appSpare rfl (.tmp 12) (.tmp 13) rfl G 0 (m + 3) [] A m c xs rfl rfl H0.out.2.1 rfl H0.out.2.2 HL.out (by omega) m (by omega) ?_
       intro w1 h1 g1
       have R1 : Hid (iE.Row w1 (.slice (some ⟨G, 0, none⟩) m (m + 3)) xs ∧ Only [] w w1) := ⟨h1, H0.out.1.grown g1 (fun k hk => .inr (by have := HG.out; simp at hk; omega))⟩
       clear h1 g1))
  go_loopg [7] 5 (fun gk si wr => ∃ p : Nat, si = .int .i64 ((m + p : Nat) : Int) ∧ p ≤ 3 ∧ 5 ≤ gk + p ∧ Hid (Nums G wr (some ⟨G, 0, none⟩) (xs ++ List.replicate p v) ∧ Raw wr G (m + 3) ∧ Only [] w wr ∧ iE.Row wr (.slice (some ⟨G, 0, none⟩) m (m + 3)) xs))
  case atStart => exact ⟨0, rfl, by omega, by omega, by rw [List.replicate_zero, List.append_nil]; exact Nums.of_row R1.out.1 (fun g hg => by simp [Value.ownBlock] at hg; omega), Raw.of_row R1.out.1, R1.out.2, R1.out.1⟩
  case round =>
    obtain ⟨p, rfl, hp, hg, R⟩ := hrel
    clear R1
    by_cases hp3 : p < 3
    · have h1 : ((m + p : Nat) : Int) < (m : Int) + 3 := by omega
      obtain ⟨q, hq⟩ : ∃ q, m + p = q := ⟨_, rfl⟩
      have HQ := Lib.hid hq
      rw [hq] at h1 ⊢
      have hq3 : q < m + 3 := by omega
      obtain ⟨u, x0, xf0⟩ := R.out.2.1 q hq3
      clear hq
      go_wp2_with fail
      go_roundg (5 - (p + 1))
      case measure => omega
      case rel =>
        have hq := HQ.out
        have hl := HL.out
        refine ⟨p + 1, ?_, by omega, by omega, ?_, R.out.2.1.store _ _, R.out.2.2.1.setCell (.inr (by have := HG.out; show _ ≤ G; omega)) _, ?_⟩
        · rw [show m + (p + 1) = q + 1 by omega]; simp
        · have h9 := R.out.1.more (n := m + 3) R.out.2.1 (Nat.le_refl _) v (by simp; omega)
          rw [show (xs ++ List.replicate p v).length = q by simp; omega, List.append_assoc] at h9
          rw [List.replicate_succ']
          exact h9
        · obtain ⟨h1, h2⟩ := R.out.2.2.2
          rcases h2 with ⟨e, _⟩ | ⟨g', cap', cur, e, hb0, hgb, hn, hcm, hsz, hcur⟩
          · cases e
          · injection e with e1 e2 e3
            injection e1 with e1
            injection e1 with e1
            subst e1 e3
            refine ⟨h1, .inr ⟨G, m + 3, cur.setIfInBounds q (.int .i64 v), by rw [hl], hb0, ?_, hn, hcm, by simpa using hsz, ?_⟩⟩
            · simp [World.setCell, Array.getElem?_modify, hgb]
            · rw [← hcur, Array.toList_setIfInBounds, List.take_set_of_le (by omega)]
    · have h1 : ¬ (((m + p : Nat) : Int) < (m : Int) + 3) := by omega
      have h2 : decide (((m + p : Nat) : Int) < (m : Int) + 3) = false := decide_eq_false h1
      obtain rfl : p = 3 := by omega
      have F := Lib.hid (And.intro R.out.1 (And.intro R.out.2.2.1 R.out.2.2.2))
      clear R
      go_wp2_with fail
      go_ret
      exact ⟨G, rfl, F.out.1, F.out.2.1, by omega, F.out.2.2⟩
set_option maxHeartbeats 2000000 in
theorem cKept (A : Option Addr) (m : Nat) (xs : List Int) (A' : Option Addr) (c' : Nat) (v : Int) (w : World) (hm : xs.length = m) (hb : m ≤ 100000) (h : Nums 0 w A (xs ++ List.replicate 3 v)) (h' : Nums 0 w A' xs) :
    Calls Try.prog 25 #[.slice A m (m + 3), .slice A' m c', .int .i64 v] w fun e w' => e = .returned (.bool true) ∧ Only [] w w' := by
  have hpl := iPlain w A A' m (m + 3) c' xs hm (by omega) h.head h'
  have HL := Lib.hid hm
  have H := Lib.hid h
  obtain ⟨g, rfl, _⟩ := h m v (by rw [List.getElem?_append_right (by omega)]; simp [hm])
  clear h h' hm
  go_enter Try.func25, Try.ntmps25
  go_wp2_with fail
  refine hpl.mono ?_
  rintro e w1 ⟨rfl, o1⟩
  have O1 := Lib.hid o1
  clear o1 hpl
  go_wp2_with fail
  go_loopg [8] 5 (fun gk si wr => ∃ p : Nat, si = .int .i64 ((m + p : Nat) : Int) ∧ p ≤ 3 ∧ 5 ≤ gk + p ∧ wr = w1)
  case atStart => exact ⟨0, rfl, by omega, by omega, rfl⟩
  case round =>
    obtain ⟨p, rfl, hp, hg, rfl⟩ := hrel
    by_cases hp3 : p < 3
    · have h1 : ((m + p : Nat) : Int) < (m : Int) + 3 := by omega
      obtain ⟨q, hq⟩ : ∃ q, m + p = q := ⟨_, rfl⟩
      have HQ := Lib.hid hq
      rw [hq] at h1 ⊢
      have hq3 : q < m + 3 := by omega
      obtain ⟨g', eg, _, x0, _⟩ := H.out.only0 O1.out q v (by
        have := HL.out
        rw [List.getElem?_append_right (by omega), List.getElem?_replicate, if_pos (by omega)])
      injection eg with eg
      injection eg with eg
      subst eg
      have hne : (v != v) = false := by simp
      clear hq
      go_wp2_with fail
      go_roundg (5 - (p + 1))
      case measure => omega
      case rel =>
        have hq := HQ.out
        exact ⟨p + 1, by rw [show m + (p + 1) = q + 1 by omega]; simp, by omega, by omega, rfl⟩
    · have h1 : ¬ (((m + p : Nat) : Int) < (m : Int) + 3) := by omega
      have h2 : decide (((m + p : Nat) : Int) < (m : Int) + 3) = false := decide_eq_false h1
      obtain rfl : p = 3 := by omega
      go_wp2_with fail
      go_ret
      exact ⟨rfl, O1.out⟩
end Go.Proofs.Ytenccllbgffojaa
