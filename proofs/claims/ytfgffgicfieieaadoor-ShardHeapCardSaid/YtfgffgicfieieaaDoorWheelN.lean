/-
  What lies in memory where there is a wheel.
-/
import Derived.Test.YtfgffgicfieieaaDoorWheelV
import Derived.Test.YtfgffgicfieieaaDoorWheelL
namespace Go.Proofs.YtfgffgicfieieaaDoor
set_option maxRecDepth 100000
open Go.RowKit Go.ChangeMaps Go.MapKept
set_option linter.unusedVariables false
set_option linter.unusedSimpArgs false

/-! ### bitmaps -/
theorem bit_with (m b j : Nat) (hb : b < 64) : (withM m (b : Int)).testBit j = (m.testBit j || decide (b = j)) := by
  unfold withM oneM
  rw [if_pos (by omega), Nat.testBit_or, Int.toNat_natCast, Nat.testBit_two_pow]
theorem bit_without (m b j : Nat) (hb : b < 64) (hj : j < 64) : (withoutM m (b : Int)).testBit j = (m.testBit j && !decide (b = j)) := by
  unfold withoutM oneM
  have e : 18446744073709551615 - 2 ^ b = 2 ^ 64 - (2 ^ b + 1) := by omega
  rw [if_pos (by omega), Nat.testBit_and, Int.toNat_natCast, e, Nat.testBit_two_pow_sub_succ (Nat.pow_lt_pow_right (by decide) hb), Nat.testBit_two_pow, decide_eq_true hj, Bool.true_and]
/-- A level's bitmap tells which of its buckets have something. -/
def Tells (ms : Nat → Nat) (f : Nat → List It) : Prop := ∀ L, L < 3 → ms L < 18446744073709551616 ∧ ∀ b, b < 64 → (ms L).testBit b = !(f (L * 64 + b)).isEmpty
def setN {α : Type} (f : Nat → α) (i : Nat) (v : α) : Nat → α := fun j => if j = i then v else f j
@[simp] theorem setN_same {α : Type} (f : Nat → α) (i : Nat) (v : α) : setN f i v i = v := by simp [setN]
theorem setN_ne {α : Type} (f : Nat → α) {i j : Nat} (v : α) (h : j ≠ i) : setN f i v j = f j := by simp [setN, h]
theorem Tells.with_ {ms : Nat → Nat} {f : Nat → List It} (h : Tells ms f) {L b : Nat} (hL : L < 3) (hb : b < 64) {xs : List It} (hx : xs ≠ []) : Tells (setN ms L (withM (ms L) (b : Int))) (setN f (L * 64 + b) xs) := by
  intro L' hL'
  by_cases e : L' = L
  · subst e
    rw [setN_same]
    refine ⟨withM_lt _ _ (h L' hL).1, fun j hj => ?_⟩
    rw [bit_with _ _ _ hb]
    by_cases e2 : b = j
    · subst e2
      rw [setN_same, decide_eq_true rfl, Bool.or_true]
      cases xs with
      | nil => exact absurd rfl hx
      | cons x xs => rfl
    · rw [setN_ne _ _ (by omega), decide_eq_false e2, Bool.or_false]
      exact (h L' hL).2 j hj
  · rw [setN_ne _ _ e]
    refine ⟨(h L' hL').1, fun j hj => ?_⟩
    rw [setN_ne _ _ (by omega)]
    exact (h L' hL').2 j hj
theorem Tells.without_ {ms : Nat → Nat} {f : Nat → List It} (h : Tells ms f) {L b : Nat} (hL : L < 3) (hb : b < 64) : Tells (setN ms L (withoutM (ms L) (b : Int))) (setN f (L * 64 + b) []) := by
  intro L' hL'
  by_cases e : L' = L
  · subst e
    rw [setN_same]
    refine ⟨withoutM_lt _ _ (h L' hL).1, fun j hj => ?_⟩
    rw [bit_without _ _ _ hb hj]
    by_cases e2 : b = j
    · subst e2
      rw [setN_same, decide_eq_true rfl]
      simp
    · rw [setN_ne _ _ (by omega), decide_eq_false e2]
      simp only [Bool.not_false, Bool.and_true]
      exact (h L' hL).2 j hj
  · rw [setN_ne _ _ e]
    refine ⟨(h L' hL').1, fun j hj => ?_⟩
    rw [setN_ne _ _ (by omega)]
    exact (h L' hL').2 j hj
theorem Tells.keep {ms : Nat → Nat} {f : Nat → List It} (h : Tells ms f) {i : Nat} {xs : List It} (hx : xs.isEmpty = (f i).isEmpty) : Tells ms (setN f i xs) := by
  intro L hL
  refine ⟨(h L hL).1, fun b hb => ?_⟩
  by_cases e : L * 64 + b = i
  · rw [e, setN_same, hx, ← e]; exact (h L hL).2 b hb
  · rw [setN_ne _ _ e]; exact (h L hL).2 b hb

/-! ### the struct -/
def wcell (wd : Nat) (base : Int) (vs : Nat → Value) (ms : Nat → Nat) (mb k : Nat) : Option Value :=
  if k = 0 then some (.int .i64 (wd : Int)) else if k = 1 then some (.int .u64 base) else if k < 194 then some (vs (k - 2)) else if k < 197 then some (.int .u64 ((ms (k - 194) : Nat) : Int)) else if k = 197 then some (.map (some mb)) else none
def WBlk (w : World) (wb wd : Nat) (base : Int) (vs : Nat → Value) (ms : Nat → Nat) (mb : Nat) : Prop :=
  ∃ cs, w.heap[wb]? = some (.cells cs 73 (0, 0)) ∧ ∀ k, cs[k]? = wcell wd base vs ms mb k
section
variable {w w' : World} {wb wd mb : Nat} {base : Int} {vs : Nat → Value} {ms : Nat → Nat}
theorem WBlk.cell (h : WBlk w wb wd base vs ms mb) (k : Nat) : w.cell? ⟨wb, k, none⟩ = wcell wd base vs ms mb k := by
  obtain ⟨cs, hc, hk⟩ := h
  rw [cell_of_row w wb k _ _ _ hc, hk]
theorem WBlk.c0 (h : WBlk w wb wd base vs ms mb) : w.cell? ⟨wb, 0, none⟩ = some (.int .i64 (wd : Int)) := h.cell 0
theorem WBlk.c1 (h : WBlk w wb wd base vs ms mb) : w.cell? ⟨wb, 1, none⟩ = some (.int .u64 base) := h.cell 1
theorem WBlk.c2 (h : WBlk w wb wd base vs ms mb) : w.cell? ⟨wb, 197, none⟩ = some (.map (some mb)) := h.cell 197
theorem WBlk.list (h : WBlk w wb wd base vs ms mb) {i : Nat} (hi : i < 192) : w.cell? ⟨wb, 2 + i, none⟩ = some (vs i) := by
  rw [h.cell]
  unfold wcell
  rw [if_neg (by omega), if_neg (by omega), if_pos (by omega)]
  congr 2
  omega
theorem WBlk.bmap (h : WBlk w wb wd base vs ms mb) {L : Nat} (hL : L < 3) : w.cell? ⟨wb, 194 + L, none⟩ = some (.int .u64 ((ms L : Nat) : Int)) := by
  rw [h.cell]
  unfold wcell
  rw [if_neg (by omega), if_neg (by omega), if_neg (by omega), if_pos (by omega), Nat.add_sub_cancel_left]
theorem WBlk.fr (h : WBlk w wb wd base vs ms mb) (k : Nat) : w.frozen? ⟨wb, k, none⟩ = false := by
  obtain ⟨cs, hc, hk⟩ := h
  simp [World.frozen?, hc]
theorem WBlk.keep (h : WBlk w wb wd base vs ms mb) (hk : w'.heap[wb]? = w.heap[wb]?) : WBlk w' wb wd base vs ms mb := by
  obtain ⟨cs, hc, h⟩ := h
  exact ⟨cs, hk.trans hc, h⟩
theorem WBlk.lt (h : WBlk w wb wd base vs ms mb) : wb < w.heap.size := by
  obtain ⟨cs, hc, h⟩ := h
  exact (Array.getElem?_eq_some_iff.1 hc).1
theorem WBlk.set (h : WBlk w wb wd base vs ms mb) (j : Nat) (v : Value) (hj : j < 198) : ∃ cs, (w.setCell ⟨wb, j, none⟩ v).heap[wb]? = some (.cells cs 73 (0, 0)) ∧ ∀ k, cs[k]? = if k = j then some v else wcell wd base vs ms mb k := by
  obtain ⟨cs, hc, h⟩ := h
  refine ⟨cs.setIfInBounds j v, by simp [World.setCell, Array.getElem?_modify, hc], fun k => ?_⟩
  rw [Array.getElem?_setIfInBounds]
  by_cases e : j = k
  · subst e
    have hs : j < cs.size := by
      rcases Nat.lt_or_ge j cs.size with h1 | h1
      · exact h1
      · have := h j
        rw [Array.getElem?_eq_none h1] at this
        unfold wcell at this
        exfalso
        revert this
        split
        · simp
        · split
          · simp
          · split
            · simp
            · split
              · simp
              · rw [if_pos (by omega)]; simp
    rw [if_pos rfl, if_pos hs, if_pos rfl]
  · rw [if_neg e, if_neg (fun e2 => e e2.symm), h]
theorem WBlk.setList (h : WBlk w wb wd base vs ms mb) {i : Nat} (hi : i < 192) (v : Value) : WBlk (w.setCell ⟨wb, 2 + i, none⟩ v) wb wd base (setN vs i v) ms mb := by
  obtain ⟨cs, hc, hk⟩ := h.set (2 + i) v (by omega)
  refine ⟨cs, hc, fun k => ?_⟩
  rw [hk]
  unfold wcell setN
  by_cases e : k = 2 + i
  · subst e
    rw [if_pos rfl, if_neg (by omega), if_neg (by omega), if_pos (by omega), if_pos (by omega)]
  · rw [if_neg e]
    split
    · rfl
    · split
      · rfl
      · split
        · rw [if_neg (by omega)]
        · rfl
theorem WBlk.setMap (h : WBlk w wb wd base vs ms mb) {L : Nat} (hL : L < 3) (m : Nat) : WBlk (w.setCell ⟨wb, 194 + L, none⟩ (.int .u64 ((m : Nat) : Int))) wb wd base vs (setN ms L m) mb := by
  obtain ⟨cs, hc, hk⟩ := h.set (194 + L) (.int .u64 ((m : Nat) : Int)) (by omega)
  refine ⟨cs, hc, fun k => ?_⟩
  rw [hk]
  unfold wcell setN
  by_cases e : k = 194 + L
  · subst e
    rw [if_pos rfl, if_neg (by omega), if_neg (by omega), if_neg (by omega), if_pos (by omega), if_pos (by omega)]
  · rw [if_neg e]
    split
    · rfl
    · split
      · rfl
      · split
        · rfl
        · split
          · rw [if_neg (by omega)]
          · rfl
theorem WBlk.setBase (h : WBlk w wb wd base vs ms mb) (to : Int) : WBlk (w.setCell ⟨wb, 1, none⟩ (.int .u64 to)) wb wd to vs ms mb := by
  obtain ⟨cs, hc, hk⟩ := h.set 1 (.int .u64 to) (by omega)
  refine ⟨cs, hc, fun k => ?_⟩
  rw [hk]
  unfold wcell
  by_cases e : k = 1
  · subst e; simp
  · simp [e]
end

/-! ### all of it -/
/-- The blocks of a wheel. -/
def wown (wb mb : Nat) (vs : Nat → Value) : List Nat := wb :: mb :: (List.range 192).flatMap fun i => (vs i).ownBlock.toList
theorem mem_wown {wb mb : Nat} {vs : Nat → Value} {b : Nat} : b ∈ wown wb mb vs ↔ b = wb ∨ b = mb ∨ ∃ i, i < 192 ∧ (vs i).ownBlock = some b := by
  simp [wown, List.mem_flatMap]
structure WheelIs (w : World) (wb mb : Nat) (vs : Nat → Value) (ms : Nat → Nat) (wd : Nat) (base : Int) (f : Nat → List It) (K : Int → Option Int) : Prop where
  blk : WBlk w wb wd base vs ms mb
  tells : Tells ms f
  rows : ∀ i, i < 192 → RowIs w (vs i) (f i)
  apart : ∀ i j g, i < 192 → j < 192 → (vs i).ownBlock = some g → (vs j).ownBlock = some g → i = j
  map : MapU w mb K
section
variable {w w' : World} {wb wd mb : Nat} {base : Int} {vs : Nat → Value} {ms : Nat → Nat} {f : Nat → List It} {K : Int → Option Int} {S : List Nat}
theorem WheelIs.lt (h : WheelIs w wb mb vs ms wd base f K) : ∀ b ∈ wown wb mb vs, b < w.heap.size := by
  intro b hb
  rcases mem_wown.1 hb with rfl | rfl | ⟨i, hi, e⟩
  · exact h.blk.lt
  · exact h.map.lt
  · exact (h.rows i hi).lt e
theorem WheelIs.keep (h : WheelIs w wb mb vs ms wd base f K) (hk : ∀ b ∈ wown wb mb vs, w'.heap[b]? = w.heap[b]?) : WheelIs w' wb mb vs ms wd base f K :=
  ⟨h.blk.keep (hk _ (mem_wown.2 (.inl rfl))), h.tells, fun i hi => (h.rows i hi).keep fun g hg => hk g (mem_wown.2 (.inr (.inr ⟨i, hi, hg⟩))), h.apart, h.map.keep (hk _ (mem_wown.2 (.inr (.inl rfl))))⟩
theorem WheelIs.only (h : WheelIs w wb mb vs ms wd base f K) (ho : Only S w w') (hS : ∀ b ∈ wown wb mb vs, b ∉ S) : WheelIs w' wb mb vs ms wd base f K := h.keep fun b hb => ho.block b (h.lt b hb) (hS b hb)
theorem WheelIs.only0 (h : WheelIs w wb mb vs ms wd base f K) (ho : Only [] w w') : WheelIs w' wb mb vs ms wd base f K := h.only ho (by simp)
theorem WheelIs.wbmb (h : WheelIs w wb mb vs ms wd base f K) : wb ≠ mb := by
  rintro rfl
  obtain ⟨es, cl, he, _⟩ := h.map
  obtain ⟨cs, hc, _⟩ := h.blk
  rw [he] at hc
  cases hc
theorem WheelIs.wbg (h : WheelIs w wb mb vs ms wd base f K) {i g : Nat} (hi : i < 192) (hg : (vs i).ownBlock = some g) : wb ≠ g := by
  rintro rfl
  obtain ⟨cur, hc⟩ := own_item_blk (h.rows i hi) hg
  obtain ⟨cs, hc2, _⟩ := h.blk
  rw [hc] at hc2
  injection hc2 with hc2
  injection hc2 with _ hc2
  cases hc2
theorem WheelIs.mbg (h : WheelIs w wb mb vs ms wd base f K) {i g : Nat} (hi : i < 192) (hg : (vs i).ownBlock = some g) : mb ≠ g := by
  rintro rfl
  obtain ⟨cur, hc⟩ := own_item_blk (h.rows i hi) hg
  obtain ⟨es, cl, he, _⟩ := h.map
  rw [hc] at he
  cases he
/-- One row put in another's place: what lies behind it. -/
theorem WheelIs.row {w1 : World} (h : WheelIs w wb mb vs ms wd base f K) {i : Nat} (hi : i < 192) {v' : Value} {zs : List It} (hr : RowIs w1 v' zs) (ho : Only (vs i).ownBlock.toList w w1) (hv : (v'.ownBlock = (vs i).ownBlock ∨ ∃ g, v'.ownBlock = some g ∧ w.heap.size ≤ g))
    {ms' : Nat → Nat} (hT : Tells ms' (setN f i zs)) {w2 : World} (hb : WBlk w2 wb wd base (setN vs i v') ms' mb) (ho2 : Only [wb] w1 w2) :
    WheelIs w2 wb mb (setN vs i v') ms' wd base (setN f i zs) K ∧ Moved w (wown wb mb vs) w2 (wown wb mb (setN vs i v')) := by
  have hwb := h.blk.lt
  have hne : ∀ g, (vs i).ownBlock = some g → g ≠ wb ∧ g ≠ mb := fun g hg => ⟨(h.wbg hi hg).symm, (h.mbg hi hg).symm⟩
  have hv' : ∀ g, v'.ownBlock = some g → g ≠ wb := fun g hg e => by
    rcases hv with e2 | ⟨g2, e2, h2⟩
    · exact (hne g (by rw [← e2]; exact hg)).1 e
    · rw [hg] at e2; injection e2 with e2; omega
  refine ⟨⟨hb, hT, fun j hj => ?_, fun j k g hj hk e1 e2 => ?_, ?_⟩, ?_, ?_⟩
  · by_cases e : j = i
    · subst e
      rw [setN_same, setN_same]
      exact hr.keep fun g hg => ho2.block g (hr.lt hg) (by simpa using hv' g hg)
    · rw [setN_ne _ _ e, setN_ne _ _ e]
      have hrj := h.rows j hj
      refine hrj.keep fun g hg => ?_
      have h1 : g ∉ (vs i).ownBlock.toList := fun hm => e (h.apart j i g hj hi hg (Option.mem_toList.1 hm))
      have e1 := ho.block g (hrj.lt hg) h1
      have e2 := ho2.block g (Nat.lt_of_lt_of_le (hrj.lt hg) ho.size) (by simpa using (h.wbg hj hg).symm)
      exact e2.trans e1
  · have hnew : ∀ j, j < 192 → j ≠ i → ∀ g, (vs j).ownBlock = some g → v'.ownBlock = some g → False := fun j hj hji g h1 h2 => by
      rcases hv with e | ⟨g2, e, hg2⟩
      · exact hji (h.apart j i g hj hi h1 (by rw [← e]; exact h2))
      · rw [h2] at e
        injection e with e
        have := (h.rows j hj).lt h1
        omega
    by_cases ej : j = i <;> by_cases ek : k = i
    · omega
    · subst ej
      rw [setN_same] at e1
      rw [setN_ne _ _ ek] at e2
      exact (hnew k hk ek g e2 e1).elim
    · subst ek
      rw [setN_same] at e2
      rw [setN_ne _ _ ej] at e1
      exact (hnew j hj ej g e1 e2).elim
    · rw [setN_ne _ _ ej] at e1
      rw [setN_ne _ _ ek] at e2
      exact h.apart j k g hj hk e1 e2
  · have hmb := h.map.lt
    have e1 := ho.block mb hmb (fun hm => (hne mb (Option.mem_toList.1 hm)).2 rfl)
    have e2 := ho2.block mb (Nat.lt_of_lt_of_le hmb ho.size) (by simpa using h.wbmb.symm)
    exact h.map.keep (e2.trans e1)
  · refine (ho.mono (T := wown wb mb vs) fun k hk => .inl (mem_wown.2 (.inr (.inr ⟨i, hi, Option.mem_toList.1 hk⟩)))).trans ho2 fun k hk => .inl (mem_wown.2 (.inl (by simpa using hk)))
  · intro b hb'
    rcases mem_wown.1 hb' with rfl | rfl | ⟨j, hj, e⟩
    · exact .inl (mem_wown.2 (.inl rfl))
    · exact .inl (mem_wown.2 (.inr (.inl rfl)))
    · by_cases ej : j = i
      · subst ej
        rw [setN_same] at e
        rcases hv with e2 | ⟨g, e2, hg⟩
        · exact .inl (mem_wown.2 (.inr (.inr ⟨j, hj, by rw [← e2]; exact e⟩)))
        · rw [e] at e2; injection e2 with e2; exact .inr (by omega)
      · rw [setN_ne _ _ ej] at e
        exact .inl (mem_wown.2 (.inr (.inr ⟨j, hj, e⟩)))
end
end Go.Proofs.YtfgffgicfieieaaDoor
