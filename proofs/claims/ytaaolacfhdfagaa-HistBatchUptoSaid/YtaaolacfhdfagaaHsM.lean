/-
  Histories as lists: which may be; what neighbours in order tell; how many are under way at once, counted and swept.
-/
import Derived.Test.YtaaolacfhdfagaaHsD
namespace Go.Proofs.Ytaaolacfhdfagaa
set_option maxRecDepth 100000
set_option linter.unusedVariables false
set_option linter.unusedSimpArgs false

/-! ### may they be? -/
/-- Of one worker, the one ahead of the other. -/
def Cb (x y : Dn) : Prop := x.who = y.who → (x.place < y.place ∧ aheadD x y = true) ∨ (y.place < x.place ∧ aheadD y x = true)
theorem Cb.symm {x y : Dn} (h : Cb x y) : Cb y x := fun e => (h e.symm).symm
def RightP (L : List Dn) : Prop := (∀ x ∈ L, wrongB x = false) ∧ L.Pairwise Cb
theorem RightP.perm {L M : List Dn} (h : RightP L) (hp : L.Perm M) : RightP M :=
  ⟨fun x hx => h.1 x (hp.symm.subset hx), hp.pairwise h.2 (fun h => h.symm)⟩
theorem RightP.perm_iff {L M : List Dn} (hp : L.Perm M) : RightP L ↔ RightP M := ⟨fun h => h.perm hp, fun h => h.perm hp.symm⟩
theorem ahead_to {x y : Dn} (h : aheadD x y = true) : x.to ≠ -1 ∧ x.to < y.fr := by
  simpa [aheadD, opn] using h
theorem ahead_of {x y : Dn} (h : x.to ≠ -1) (h2 : x.to < y.fr) : aheadD x y = true := by
  simp [aheadD, opn, h, h2]
theorem right_of {x : Dn} (h : wrongB x = false) : 0 ≤ x.who ∧ 0 ≤ x.place ∧ 0 ≤ x.fr ∧ (x.to = -1 ∨ x.fr ≤ x.to) := by
  simp [wrongB, backB, opn] at h
  obtain ⟨⟨⟨h1, h2⟩, h3⟩, h4⟩ := h
  refine ⟨h1, h2, h3, ?_⟩
  by_cases h5 : x.to = -1
  · exact .inl h5
  · exact .inr (h4 h5)
theorem clash_of {x y : Dn} (h : clashB x y = false) (hw : x.who = y.who) : x.place ≠ y.place ∧ aheadD x y = true := by
  simp [clashB, hw] at h
  exact h
/-- The same, as a bool. -/
noncomputable def rightB (L : List Dn) : Bool := @decide (RightP L) (Classical.propDecidable _)
theorem rightB_t {L : List Dn} (h : RightP L) : rightB L = true := by simp [rightB, h]
theorem rightB_f {L : List Dn} (h : ¬ RightP L) : rightB L = false := by simp [rightB, h]
theorem rightB_is {L : List Dn} {b : Bool} (h : b = true ↔ RightP L) : rightB L = b := by
  cases b
  · exact rightB_f (fun h2 => by have := h.2 h2; cases this)
  · exact rightB_t (h.1 rfl)
/-- By worker, then by place. -/
def LeP (x y : Dn) : Prop := x.who < y.who ∨ x.who = y.who ∧ x.place ≤ y.place
/-- Of a list in order the neighbours tell it. -/
theorem right_sorted {L : List Dn} (hs : L.Pairwise LeP) : ((!L.any wrongB && !adjB L) = true) ↔ RightP L := by
  constructor
  · intro h
    simp only [Bool.and_eq_true, Bool.not_eq_true', List.any_eq_false] at h
    obtain ⟨hw, ha⟩ := h
    have hw' : ∀ x ∈ L, wrongB x = false := fun x hx => by simpa using hw x hx
    refine ⟨hw', ?_⟩
    have adj : ∀ i, i + 1 < L.length → clashB (dns L i) (dns L (i + 1)) = false := fun i hi => by
      unfold adjB at ha
      rw [List.any_eq_false] at ha
      have := ha (i + 1) (List.mem_range.2 hi)
      simpa using this
    have key : ∀ d i, i + d + 1 < L.length → (dns L i).who = (dns L (i + d + 1)).who → (dns L i).place < (dns L (i + d + 1)).place ∧ aheadD (dns L i) (dns L (i + d + 1)) = true := by
      intro d
      induction d with
      | zero =>
        intro i hi e
        show (dns L i).place < (dns L (i + 1)).place ∧ aheadD (dns L i) (dns L (i + 1)) = true
        have hi : i + 1 < L.length := hi
        have e : (dns L i).who = (dns L (i + 1)).who := e
        obtain ⟨h1, h2⟩ := clash_of (adj i hi) e
        have h3 := (List.pairwise_iff_getElem.1 hs) i (i + 1) (by omega) hi (by omega)
        rw [show L[i] = dns L i by simp [dns, show i < L.length by omega], show L[i + 1] = dns L (i + 1) by simp [dns, hi]] at h3
        refine ⟨?_, h2⟩
        rcases h3 with h3 | ⟨_, h3⟩ <;> omega
      | succ d ih =>
        intro i hi e
        have hlt : i + d + 1 < L.length := by omega
        have g1 := (List.pairwise_iff_getElem.1 hs) i (i + d + 1) (by omega) hlt (by omega)
        have g2 := (List.pairwise_iff_getElem.1 hs) (i + d + 1) (i + (d + 1) + 1) hlt hi (by omega)
        rw [show L[i] = dns L i by simp [dns, show i < L.length by omega], show L[i + d + 1] = dns L (i + d + 1) by simp [dns, hlt]] at g1
        rw [show L[i + d + 1] = dns L (i + d + 1) by simp [dns, hlt], show L[i + (d + 1) + 1] = dns L (i + (d + 1) + 1) by simp [dns, hi]] at g2
        have e1 : (dns L i).who = (dns L (i + d + 1)).who := by
          rcases g1 with g1 | ⟨g1, _⟩ <;> rcases g2 with g2 | ⟨g2, _⟩ <;> omega
        obtain ⟨p1, a1⟩ := ih i hlt e1
        obtain ⟨p2, a2⟩ := clash_of (adj (i + d + 1) hi) (by rw [← e1, e]; rfl)
        have r2 := right_of (hw' _ (dns_mem hlt))
        obtain ⟨b1, b2⟩ := ahead_to a1
        obtain ⟨b3, b4⟩ := ahead_to a2
        refine ⟨?_, ahead_of b1 ?_⟩
        · have : (dns L (i + d + 1)).place ≤ (dns L (i + (d + 1) + 1)).place := by
            rcases g2 with g2 | ⟨_, g2⟩
            · exfalso; rw [← e1, e] at g2; exact absurd g2 (Int.lt_irrefl _)
            · exact g2
          omega
        · have : (dns L (i + d + 1)).fr ≤ (dns L (i + d + 1)).to := by rcases r2.2.2.2 with h | h <;> omega
          have h9 : (dns L (i + d + 1)).to < (dns L (i + (d + 1) + 1)).fr := b4
          omega
    rw [List.pairwise_iff_getElem]
    intro i j hi hj hij e
    obtain ⟨d, rfl⟩ : ∃ d, j = i + d + 1 := ⟨j - i - 1, by omega⟩
    have := key d i hj (by simpa [dns, hi, hj] using e)
    left
    simpa [dns, hi, hj] using this
  · rintro ⟨hw, hc⟩
    simp only [Bool.and_eq_true, Bool.not_eq_true']
    refine ⟨by rw [List.any_eq_false]; intro x hx; simp [hw x hx], adj_false fun i hi h0 => ?_⟩
    have h1 := (List.pairwise_iff_getElem.1 hc) (i - 1) i (by omega) hi (by omega)
    have h2 := (List.pairwise_iff_getElem.1 hs) (i - 1) i (by omega) hi (by omega)
    rw [show L[i - 1] = dns L (i - 1) by simp [dns, show i - 1 < L.length by omega], show L[i] = dns L i by simp [dns, hi]] at h1 h2
    generalize dns L (i - 1) = x at *
    generalize dns L i = y at *
    by_cases e : x.who = y.who
    · have h3 : x.place ≤ y.place := by rcases h2 with h2 | ⟨_, h2⟩ <;> omega
      rcases h1 e with ⟨a, b⟩ | ⟨a, b⟩
      · simp [clashB, e, b]; omega
      · omega
    · simp [clashB, e]
/-- As the document asks it. -/
def badB (L : List Dn) (i k : Nat) : Bool := decide (k ≠ i) && ((dns L i).who == (dns L k).who && ((dns L i).place == (dns L k).place || (decide ((dns L i).place < (dns L k).place) && !aheadD (dns L i) (dns L k))))
theorem right_doc {L : List Dn} : RightP L ↔ ∀ i, i < L.length → wrongB (dns L i) = false ∧ ∀ k, k < L.length → badB L i k = false := by
  constructor
  · rintro ⟨hw, hc⟩ i hi
    refine ⟨hw _ (dns_mem hi), fun k hk => ?_⟩
    by_cases e : k = i
    · simp [badB, e]
    · have h1 : Cb (dns L i) (dns L k) := by
        rcases Nat.lt_or_ge i k with h | h
        · have := (List.pairwise_iff_getElem.1 hc) i k hi hk h
          simpa [dns, hi, hk] using this
        · have := (List.pairwise_iff_getElem.1 hc) k i hk hi (by omega)
          have := this.symm
          simpa [dns, hi, hk] using this
      unfold badB
      generalize dns L i = x at *
      generalize dns L k = y at *
      by_cases ew : x.who = y.who
      · rcases h1 ew with ⟨a, b⟩ | ⟨a, b⟩
        · simp [ew, b]; intros; omega
        · simp [ew]; intros; omega
      · simp [ew]
  · intro h
    refine ⟨fun x hx => ?_, ?_⟩
    · obtain ⟨i, hi⟩ := List.getElem?_of_mem hx
      have hl := (List.getElem?_eq_some_iff.1 hi).1
      have := (h i hl).1
      rwa [dns_eq hi] at this
    · rw [List.pairwise_iff_getElem]
      intro i k hi hk hik e
      have h1 := (h i hi).2 k hk
      have h2 := (h k hk).2 i hi
      simp only [show L[i] = dns L i by simp [dns, hi], show L[k] = dns L k by simp [dns, hk]] at e ⊢
      have hne : k ≠ i := by omega
      have hne' : i ≠ k := by omega
      simp [badB, hne, e] at h1
      simp [badB, hne', e] at h2
      rcases Int.lt_trichotomy (dns L i).place (dns L k).place with h3 | h3 | h3
      · exact .inl ⟨h3, by simpa using h1.2 h3⟩
      · exact absurd h3 h1.1
      · exact .inr ⟨h3, by simpa using h2.2 h3⟩

/-! ### how many at once -/
/-- Is x under way at t? -/
def onB (t : Int) (x : Dn) : Bool := decide (x.fr ≤ t) && (x.to == -1 || decide (t ≤ x.to))
def cnt (L : List Dn) (t : Int) : Nat := L.countP (onB t)
def maxL : List Nat → Nat
  | [] => 0
  | x :: r => max x (maxL r)
theorem maxL_le {l : List Nat} {b : Nat} : maxL l ≤ b ↔ ∀ x ∈ l, x ≤ b := by
  induction l with
  | nil => simp [maxL]
  | cons x r ih => simp only [maxL, List.mem_cons, forall_eq_or_imp, ← ih]; omega
theorem le_maxL {l : List Nat} {x : Nat} (h : x ∈ l) : x ≤ maxL l := (maxL_le.1 (Nat.le_refl _)) x h
theorem maxL_snoc (l : List Nat) (x : Nat) : maxL (l ++ [x]) = max (maxL l) x := by
  induction l with
  | nil => simp [maxL]
  | cons y r ih => simp only [List.cons_append, maxL, ih]; omega
/-- The document's number. -/
def mostL (L : List Dn) : Nat := maxL (L.map fun x => cnt L x.fr)
theorem mostL_le {L : List Dn} {b : Nat} : mostL L ≤ b ↔ ∀ x ∈ L, cnt L x.fr ≤ b := by
  unfold mostL
  rw [maxL_le]
  simp
theorem le_mostL {L : List Dn} {x : Dn} (h : x ∈ L) : cnt L x.fr ≤ mostL L := mostL_le.1 (Nat.le_refl _) x h
theorem last_on {L : List Dn} {t : Int} (h : ∃ x ∈ L, onB t x = true) : ∃ m ∈ L, onB t m = true ∧ ∀ y ∈ L, onB t y = true → y.fr ≤ m.fr := by
  induction L with
  | nil => obtain ⟨x, hx, _⟩ := h; simp at hx
  | cons a r ih =>
    by_cases hr : ∃ x ∈ r, onB t x = true
    · obtain ⟨m, hm, hmt, hmax⟩ := ih hr
      by_cases ha : onB t a = true ∧ m.fr < a.fr
      · exact ⟨a, by simp, ha.1, fun y hy hyt => by
          rcases List.mem_cons.1 hy with rfl | hy
          · exact Int.le_refl _
          · have := hmax y hy hyt; omega⟩
      · exact ⟨m, by simp [hm], hmt, fun y hy hyt => by
          rcases List.mem_cons.1 hy with rfl | hy
          · rcases Int.lt_or_le m.fr y.fr with h9 | h9
            · exact absurd ⟨hyt, h9⟩ ha
            · exact h9
          · exact hmax y hy hyt⟩
    · obtain ⟨x, hx, hxt⟩ := h
      rcases List.mem_cons.1 hx with rfl | hx
      · exact ⟨x, by simp, hxt, fun y hy hyt => by
          rcases List.mem_cons.1 hy with rfl | hy
          · exact Int.le_refl _
          · exact absurd ⟨y, hy, hyt⟩ hr⟩
      · exact absurd ⟨x, hx, hxt⟩ hr
/-- Whatever the step, no more than that. -/
theorem cnt_le (L : List Dn) (t : Int) : cnt L t ≤ mostL L := by
  by_cases h : ∃ x ∈ L, onB t x = true
  · obtain ⟨m, hm, hmt, hmax⟩ := last_on h
    refine Nat.le_trans (List.countP_mono_left fun y hy hyt => ?_) (le_mostL hm)
    have h1 := hmax y hy hyt
    simp [onB] at hmt hyt ⊢
    omega
  · have : cnt L t = 0 := by
      unfold cnt
      rw [List.countP_eq_zero]
      intro x hx hxt
      exact h ⟨x, hx, hxt⟩
    omega
theorem cnt_perm {L M : List Dn} (h : L.Perm M) (t : Int) : cnt L t = cnt M t := h.countP_eq _
theorem mostL_perm {L M : List Dn} (h : L.Perm M) : mostL L = mostL M := by
  apply Nat.le_antisymm
  · exact mostL_le.2 fun x hx => by rw [cnt_perm h]; exact cnt_le _ _
  · exact mostL_le.2 fun x hx => by rw [← cnt_perm h]; exact cnt_le _ _
/-- Who ended before it began is never under way. -/
theorem cnt_fwd (L : List Dn) (t : Int) : cnt (L.filter fun x => !backB x) t = cnt L t := by
  unfold cnt
  rw [List.countP_filter]
  apply List.countP_congr
  intro x hx
  simp [onB, backB, opn]
  intros
  omega
theorem mostL_fwd (L : List Dn) : mostL (L.filter fun x => !backB x) = mostL L := by
  apply Nat.le_antisymm
  · exact mostL_le.2 fun x hx => by rw [cnt_fwd]; exact cnt_le _ _
  · exact mostL_le.2 fun x hx => by rw [← cnt_fwd]; exact cnt_le _ _
def goneN (L : List Dn) (t : Int) : Nat := L.countP fun x => !opn x && decide (x.to < t)
/-- Those that have begun, but for those that have gone. -/
theorem cnt_gone {L : List Dn} (hf : ∀ x ∈ L, backB x = false) (t : Int) : cnt L t + goneN L t = L.countP fun x => decide (x.fr ≤ t) := by
  unfold cnt goneN
  induction L with
  | nil => simp
  | cons x r ih =>
    have h1 := ih (fun y hy => hf y (by simp [hy]))
    have h2 := hf x (by simp)
    simp only [List.countP_cons]
    simp [backB, opn] at h2
    have e1 : (if onB t x = true then 1 else 0) + (if (!opn x && decide (x.to < t)) = true then 1 else 0) = if decide (x.fr ≤ t) = true then 1 else 0 := by
      by_cases a : x.fr ≤ t <;> by_cases b : x.to = -1
      all_goals
        rcases Int.lt_or_le x.to t with c | c
        all_goals
          have d : (x.to < t ∧ ¬ t ≤ x.to) ∨ (¬ x.to < t ∧ t ≤ x.to) := by omega
          rcases d with ⟨d, e⟩ | ⟨d, e⟩
          all_goals
            simp [onB, opn, a, b, d, e] at h2 ⊢
            try omega
    omega
/-- In order of their Froms: at the i-th, at least i + 1 have begun; at the last of those, just so many. -/
theorem begun_le {L : List Dn} (hs : L.Pairwise fun x y => x.fr ≤ y.fr) {i : Nat} (hi : i < L.length) : i + 1 ≤ L.countP fun x => decide (x.fr ≤ (dns L i).fr) := by
  have h1 : (L.take (i + 1)).countP (fun x => decide (x.fr ≤ (dns L i).fr)) = (L.take (i + 1)).length := by
    rw [List.countP_eq_length]
    intro x hx
    obtain ⟨j, hj⟩ := List.getElem?_of_mem hx
    rw [List.getElem?_take] at hj
    split at hj
    · rename_i hji
      have hjl := (List.getElem?_eq_some_iff.1 hj).1
      have ex := dns_eq hj
      by_cases e : j = i
      · subst e; simp [ex]
      · have := (List.pairwise_iff_getElem.1 hs) j i hjl hi (by omega)
        simp only [show L[j] = dns L j by simp [dns, hjl], show L[i] = dns L i by simp [dns, hi], ex] at this
        simpa using this
    · cases hj
  have h2 : (L.take (i + 1)).countP (fun x => decide (x.fr ≤ (dns L i).fr)) ≤ L.countP fun x => decide (x.fr ≤ (dns L i).fr) := (List.take_sublist _ _).countP_le
  have h3 : (L.take (i + 1)).length = i + 1 := by rw [List.length_take]; omega
  omega
theorem begun_at {L : List Dn} (hs : L.Pairwise fun x y => x.fr ≤ y.fr) {i : Nat} (hi : i < L.length) : ∃ j, j < L.length ∧ (dns L j).fr = (dns L i).fr ∧ j + 1 = L.countP fun x => decide (x.fr ≤ (dns L i).fr) := by
  generalize ht : (dns L i).fr = t
  have hpos : i + 1 ≤ L.countP fun x => decide (x.fr ≤ t) := by rw [← ht]; exact begun_le hs hi
  generalize hc : L.countP (fun x => decide (x.fr ≤ t)) = c at *
  have hcl : c ≤ L.length := by rw [← hc]; exact List.countP_le_length
  have mono : ∀ j k, j ≤ k → k < L.length → (dns L j).fr ≤ (dns L k).fr := fun j k hjk hk => by
    by_cases e : j = k
    · subst e; exact Int.le_refl _
    · have := (List.pairwise_iff_getElem.1 hs) j k (by omega) hk (by omega)
      simpa only [show L[j] = dns L j by simp [dns, show j < L.length by omega], show L[k] = dns L k by simp [dns, hk]] using this
  refine ⟨c - 1, by omega, ?_, by omega⟩
  rcases Int.lt_trichotomy (dns L (c - 1)).fr t with h | h | h
  · exfalso
    have := mono i (c - 1) (by omega) (by omega)
    omega
  · exact h
  · exfalso
    -- fewer than c have begun
    have h1 : (L.drop (c - 1)).countP (fun x => decide (x.fr ≤ t)) = 0 := by
      rw [List.countP_eq_zero]
      intro x hx hxt
      obtain ⟨j, hj⟩ := List.getElem?_of_mem hx
      rw [List.getElem?_drop] at hj
      have hjl := (List.getElem?_eq_some_iff.1 hj).1
      have := mono (c - 1) (c - 1 + j) (by omega) hjl
      rw [dns_eq hj] at this
      simp at hxt
      omega
    have h2 : (L.take (c - 1)).countP (fun x => decide (x.fr ≤ t)) ≤ c - 1 := by
      have := List.countP_le_length (p := fun x : Dn => decide (x.fr ≤ t)) (l := L.take (c - 1))
      rw [List.length_take] at this
      omega
    have h3 : L.countP (fun x => decide (x.fr ≤ t)) = (L.take (c - 1)).countP (fun x => decide (x.fr ≤ t)) + (L.drop (c - 1)).countP (fun x => decide (x.fr ≤ t)) := by
      rw [← List.countP_append, List.take_append_drop]
    omega
/-- The sweep's number after k of them. -/
def swept (L : List Dn) (k : Nat) : Nat := maxL ((List.range k).map fun i => i + 1 - goneN L (dns L i).fr)
theorem swept_succ (L : List Dn) (k : Nat) : swept L (k + 1) = max (swept L k) (k + 1 - goneN L (dns L k).fr) := by
  unfold swept
  rw [List.range_succ, List.map_append, List.map_cons, List.map_nil, maxL_snoc]
theorem swept_all {L : List Dn} (hs : L.Pairwise fun x y => x.fr ≤ y.fr) (hf : ∀ x ∈ L, backB x = false) : swept L L.length = mostL L := by
  apply Nat.le_antisymm
  · unfold swept
    rw [maxL_le]
    intro x hx
    obtain ⟨i, hi, rfl⟩ := List.mem_map.1 hx
    have hil := List.mem_range.1 hi
    have h1 := begun_at hs hil
    obtain ⟨j, hj, ej, hc⟩ := h1
    have h2 := cnt_gone hf (dns L i).fr
    have h3 := begun_le hs hil
    have h4 := cnt_le L (dns L i).fr
    -- i + 1 - gone ≤ begun - gone = cnt
    omega
  · rw [mostL_le]
    intro x hx
    obtain ⟨i, hi⟩ := List.getElem?_of_mem hx
    have hil := (List.getElem?_eq_some_iff.1 hi).1
    rw [← dns_eq hi]
    obtain ⟨j, hj, ej, hc⟩ := begun_at hs hil
    have h2 := cnt_gone hf (dns L i).fr
    have h5 : j + 1 - goneN L (dns L j).fr ≤ swept L L.length := le_maxL (List.mem_map.2 ⟨j, List.mem_range.2 hj, rfl⟩)
    rw [ej] at h5
    omega
theorem swept_len (L : List Dn) (k : Nat) : swept L k ≤ k := by
  unfold swept
  rw [maxL_le]
  intro x hx
  obtain ⟨i, hi, rfl⟩ := List.mem_map.1 hx
  have := List.mem_range.1 hi
  omega
/-- How many have gone, in the order of their Tos. -/
theorem gone_sorted {E : List Dn} (ho : ∀ x ∈ E, opn x = false) (hs : E.Pairwise fun x y => x.to ≤ y.to) (t : Int) {g : Nat} (hg : g ≤ E.length) (h1 : ∀ j, j < g → (dns E j).to < t) (h2 : ∀ h : g < E.length, t ≤ (dns E g).to) : goneN E t = g := by
  have e1 : (E.take g).countP (fun x => !opn x && decide (x.to < t)) = g := by
    rw [show (E.take g).countP (fun x => !opn x && decide (x.to < t)) = (E.take g).length from ?_, List.length_take, Nat.min_eq_left hg]
    rw [List.countP_eq_length]
    intro x hx
    obtain ⟨j, hj⟩ := List.getElem?_of_mem hx
    rw [List.getElem?_take] at hj
    split at hj
    · rename_i hjg
      have h3 := h1 j hjg
      rw [dns_eq hj] at h3
      simp [ho x (List.mem_of_getElem? hj), h3]
    · cases hj
  have e2 : (E.drop g).countP (fun x => !opn x && decide (x.to < t)) = 0 := by
    rw [List.countP_eq_zero]
    intro x hx hxt
    obtain ⟨j, hj⟩ := List.getElem?_of_mem hx
    rw [List.getElem?_drop] at hj
    have hjl := (List.getElem?_eq_some_iff.1 hj).1
    have h3 := h2 (by omega)
    have h4 : (dns E g).to ≤ (dns E (g + j)).to := by
      by_cases e : j = 0
      · subst e; exact Int.le_refl _
      · have := (List.pairwise_iff_getElem.1 hs) g (g + j) (by omega) hjl (by omega)
        simpa only [show E[g] = dns E g by simp [dns, show g < E.length by omega], show E[g + j] = dns E (g + j) by simp [dns, hjl]] using this
    rw [dns_eq hj] at h4
    simp at hxt
    omega
  have e3 : goneN E t = (E.take g).countP (fun x => !opn x && decide (x.to < t)) + (E.drop g).countP (fun x => !opn x && decide (x.to < t)) := by
    unfold goneN
    rw [← List.countP_append, List.take_append_drop]
  omega
theorem gone_filter (L : List Dn) (t : Int) : goneN (L.filter fun x => !opn x) t = goneN L t := by
  unfold goneN
  rw [List.countP_filter]
  apply List.countP_congr
  intro x hx
  simp
  intro h _
  exact h
/-- Who has gone began ahead of the i-th. -/
theorem gone_le {L : List Dn} (hs : L.Pairwise fun x y => x.fr ≤ y.fr) (hf : ∀ x ∈ L, backB x = false) {i : Nat} (hi : i < L.length) : goneN L (dns L i).fr ≤ i := by
  have e2 : (L.drop i).countP (fun x => !opn x && decide (x.to < (dns L i).fr)) = 0 := by
    rw [List.countP_eq_zero]
    intro x hx hxt
    obtain ⟨j, hj⟩ := List.getElem?_of_mem hx
    rw [List.getElem?_drop] at hj
    have hjl := (List.getElem?_eq_some_iff.1 hj).1
    have h4 : (dns L i).fr ≤ (dns L (i + j)).fr := by
      by_cases e : j = 0
      · subst e; exact Int.le_refl _
      · have := (List.pairwise_iff_getElem.1 hs) i (i + j) (by omega) hjl (by omega)
        simpa only [show L[i] = dns L i by simp [dns, hi], show L[i + j] = dns L (i + j) by simp [dns, hjl]] using this
    rw [dns_eq hj] at h4
    have h5 := hf x (List.mem_of_mem_drop hx)
    simp [backB, opn] at h5 hxt
    have := h5 hxt.1
    omega
  have e1 : (L.take i).countP (fun x => !opn x && decide (x.to < (dns L i).fr)) ≤ i := by
    have := List.countP_le_length (p := fun x : Dn => !opn x && decide (x.to < (dns L i).fr)) (l := L.take i)
    rw [List.length_take] at this
    omega
  have e3 : goneN L (dns L i).fr = (L.take i).countP (fun x => !opn x && decide (x.to < (dns L i).fr)) + (L.drop i).countP (fun x => !opn x && decide (x.to < (dns L i).fr)) := by
    unfold goneN
    rw [← List.countP_append, List.take_append_drop]
  omega
theorem gone_perm {L M : List Dn} (h : L.Perm M) (t : Int) : goneN L t = goneN M t := h.countP_eq _
end Go.Proofs.Ytaaolacfhdfagaa
