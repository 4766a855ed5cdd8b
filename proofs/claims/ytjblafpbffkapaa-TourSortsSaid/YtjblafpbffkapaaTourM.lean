/-
  Plain lists, for the tournament: who wins among leaves, the better of two, the tree whose nodes tell that, and what putting a leaf anew leaves. No program, no world.
-/
import Derived.Test.YtjblafpbffkapaaHeapM
namespace Go.Proofs.Ytjblafpbffkapaa
set_option maxRecDepth 100000
set_option linter.unusedVariables false

theorem It.lt_le {x y z : It} (h : x.lt y = true) (h2 : y.le z) : x.lt z = true := by
  have b : ¬ (z.lt y = true) := by simp [show z.lt y = false from h2]
  rw [It.lt_iff] at *; omega
theorem It.not_both {x y : It} (h : x.lt y = true) (h2 : y.lt x = true) : False := by
  rw [It.lt_iff] at *; omega

/-- A function turned at one place. -/
def fup {α : Type} (f : Nat → α) (i : Nat) (v : α) : Nat → α := fun k => if k = i then v else f k
theorem fup_same {α : Type} (f : Nat → α) (i : Nat) (v : α) : fup f i v i = v := if_pos rfl
theorem fup_other {α : Type} (f : Nat → α) {i k : Nat} (v : α) (h : k ≠ i) : fup f i v k = f k := if_neg h

/-- The better of two leaves; -1 is none. -/
def bet (g : Nat → It) (a b : Int) : Int := if a = -1 ∨ (b ≠ -1 ∧ (g b.toNat).lt (g a.toNat) = true) then b else a

/-- v wins among the leaves of P: none is ahead of its item, and those of lesser numbers stand behind it. -/
def Wins (P : Nat → Prop) (g : Nat → It) (v : Int) : Prop :=
  (v = -1 ∧ ∀ i, ¬ P i) ∨ ∃ i : Nat, v = i ∧ P i ∧ ∀ j, P j → (g j).lt (g i) = false ∧ (j < i → (g i).lt (g j) = true)

theorem Wins.unique {P : Nat → Prop} {g : Nat → It} {v u : Int} (h : Wins P g v) (h2 : Wins P g u) : v = u := by
  rcases h with ⟨rfl, h⟩ | ⟨i, rfl, hi, h⟩
  · rcases h2 with ⟨rfl, _⟩ | ⟨j, rfl, hj, _⟩
    · rfl
    · exact absurd hj (h j)
  · rcases h2 with ⟨rfl, h2⟩ | ⟨j, rfl, hj, h2⟩
    · exact absurd hi (h2 i)
    · rcases Nat.lt_trichotomy i j with h3 | h3 | h3
      · have a := (h2 i hi).2 h3
        have b := (h j hj).1
        rw [a] at b; cases b
      · rw [h3]
      · have a := (h j hj).2 h3
        have b := (h2 i hi).1
        rw [a] at b; cases b
theorem Wins.congr {P Q : Nat → Prop} {g g' : Nat → It} {v : Int} (h : Wins P g v) (hP : ∀ i, P i ↔ Q i) (hg : ∀ i, P i → g i = g' i) : Wins Q g' v := by
  rcases h with ⟨rfl, h⟩ | ⟨i, rfl, hi, h⟩
  · exact .inl ⟨rfl, fun i hq => h i ((hP i).2 hq)⟩
  · refine .inr ⟨i, rfl, (hP i).1 hi, fun j hj => ?_⟩
    have hj' := (hP j).2 hj
    rw [← hg j hj', ← hg i hi]
    exact h j hj'
theorem Wins.join {P Q : Nat → Prop} {g : Nat → It} {a b : Int} (h : Wins P g a) (h2 : Wins Q g b) (hpq : ∀ i j, P i → Q j → i < j) : Wins (fun i => P i ∨ Q i) g (bet g a b) := by
  rcases h with ⟨rfl, h⟩ | ⟨i, rfl, hi, h⟩
  · have e : bet g (-1) b = b := by simp [bet]
    rw [e]
    exact h2.congr (fun i => ⟨.inr, fun h3 => h3.elim (fun h4 => absurd h4 (h i)) id⟩) (fun _ _ => rfl)
  · rcases h2 with ⟨rfl, h2⟩ | ⟨j, rfl, hj, h2⟩
    · have e : bet g (i : Int) (-1) = i := by simp [bet]
      rw [e]
      refine .inr ⟨i, rfl, .inl hi, fun k hk => ?_⟩
      rcases hk with hk | hk
      · exact h k hk
      · exact absurd hk (h2 k)
    · have hij := hpq i j hi hj
      rcases hl : (g j).lt (g i) with _ | _
      · have e : bet g (i : Int) (j : Int) = i := by
          unfold bet
          rw [if_neg]
          rintro (h3 | h3)
          · omega
          · have h4 := h3.2
            rw [Int.toNat_natCast, Int.toNat_natCast, hl] at h4
            cases h4
        rw [e]
        refine .inr ⟨i, rfl, .inl hi, fun k hk => ?_⟩
        rcases hk with hk | hk
        · exact h k hk
        · refine ⟨?_, fun h3 => absurd (hpq i k hi hk) (by omega)⟩
          exact It.le_trans (show (g i).le (g j) from hl) (show (g j).le (g k) from (h2 k hk).1)
      · have e : bet g (i : Int) (j : Int) = j := by
          unfold bet
          rw [if_pos]
          right
          refine ⟨by omega, ?_⟩
          rw [Int.toNat_natCast, Int.toNat_natCast]
          exact hl
        rw [e]
        refine .inr ⟨j, rfl, .inr hj, fun k hk => ?_⟩
        rcases hk with hk | hk
        · have h3 := It.lt_le hl (show (g i).le (g k) from (h k hk).1)
          exact ⟨It.le_of_lt h3, fun _ => h3⟩
        · exact h2 k hk

/-- The document's way: leaf by leaf. -/
def refBest (P : Nat → Bool) (g : Nat → It) : Nat → Int
  | 0 => -1
  | m + 1 => if P m = true ∧ (refBest P g m < 0 ∨ (g m).lt (g (refBest P g m).toNat) = true) then (m : Int) else refBest P g m
theorem refBest_wins (P : Nat → Bool) (g : Nat → It) : ∀ m, Wins (fun i => i < m ∧ P i = true) g (refBest P g m)
  | 0 => .inl ⟨rfl, fun i h => by omega⟩
  | m + 1 => by
    have ih := refBest_wins P g m
    unfold refBest
    by_cases hp : P m = true
    · have w1 : Wins (fun i => i = m) g (m : Int) := .inr ⟨m, rfl, rfl, fun j hj => by subst hj; exact ⟨It.irrefl _, fun h => by omega⟩⟩
      have hb := Wins.join ih w1 (fun i j h1 h2 => by omega)
      have e : bet g (refBest P g m) (m : Int) = if P m = true ∧ (refBest P g m < 0 ∨ (g m).lt (g (refBest P g m).toNat) = true) then (m : Int) else refBest P g m := by
        unfold bet
        have hr : refBest P g m = -1 ∨ 0 ≤ refBest P g m := by
          rcases ih with ⟨e, _⟩ | ⟨i, e, _⟩ <;> omega
        have e1 : (refBest P g m = -1 ∨ ((m : Int) ≠ -1 ∧ (g (m : Int).toNat).lt (g (refBest P g m).toNat) = true)) ↔ (P m = true ∧ (refBest P g m < 0 ∨ (g m).lt (g (refBest P g m).toNat) = true)) := by
          simp only [Int.toNat_natCast, hp, true_and]
          constructor
          · rintro (h | h)
            · left; omega
            · right; exact h.2
          · rintro (h | h)
            · left; omega
            · right; exact ⟨by omega, h⟩
        by_cases h3 : (P m = true ∧ (refBest P g m < 0 ∨ (g m).lt (g (refBest P g m).toNat) = true))
        · rw [if_pos h3, if_pos (e1.2 h3)]
        · rw [if_neg h3, if_neg (fun h4 => h3 (e1.1 h4))]
      rw [← e]
      refine hb.congr (fun i => ?_) (fun _ _ => rfl)
      constructor
      · rintro (⟨h1, h2⟩ | rfl)
        · exact ⟨by omega, h2⟩
        · exact ⟨by omega, hp⟩
      · rintro ⟨h1, h2⟩
        by_cases h3 : i = m
        · exact .inr h3
        · exact .inl ⟨by omega, h2⟩
    · rw [if_neg (fun h => hp h.1)]
      refine ih.congr (fun i => ⟨fun h => ⟨by omega, h.2⟩, fun h => ⟨?_, h.2⟩⟩) (fun _ _ => rfl)
      have : i ≠ m := fun e => hp (by rw [← e]; exact h.2)
      omega
theorem refBest_range (P : Nat → Bool) (g : Nat → It) (m : Nat) : refBest P g m = -1 ∨ ∃ i : Nat, i < m ∧ P i = true ∧ refBest P g m = i := by
  rcases refBest_wins P g m with ⟨e, _⟩ | ⟨i, e, h, _⟩
  · exact .inl e
  · exact .inr ⟨i, h.1, h.2, e⟩
theorem refBest_congr {P : Nat → Bool} {g g' : Nat → It} {m : Nat} (h : ∀ i, i < m → P i = true → g i = g' i) : refBest P g m = refBest P g' m :=
  Wins.unique ((refBest_wins P g m).congr (fun _ => Iff.rfl) (fun i hi => h i hi.1 hi.2)) (refBest_wins P g' m)

/-! ### the tree -/
/-- Halved till it is no more than k. -/
def upF : Nat → Nat → Nat → Nat
  | 0, n, _ => n
  | f + 1, n, k => if k < n then upF f (n / 2) k else n
def up (n k : Nat) : Nat := upF 6 n k
theorem upF_more : ∀ (f n k : Nat), n < 2 ^ f → upF (f + 1) n k = upF f n k
  | 0, n, k, h => by
    have : n = 0 := by simpa using h
    subst this
    simp [upF]
  | f + 1, n, k, h => by
    have e1 : upF (f + 1 + 1) n k = if k < n then upF (f + 1) (n / 2) k else n := rfl
    have e2 : upF (f + 1) n k = if k < n then upF f (n / 2) k else n := rfl
    rw [e1, e2, upF_more f (n / 2) k (by rw [Nat.pow_succ] at h; omega)]
theorem up_step {n k : Nat} (h : k < n) (hn : n < 64) : up n k = up (n / 2) k := by
  have e1 : up n k = if k < n then upF 5 (n / 2) k else n := rfl
  rw [e1, if_pos h]
  exact (upF_more 5 (n / 2) k (by omega)).symm
theorem up_stop {n k : Nat} (h : ¬ k < n) : up n k = n := by
  have e1 : up n k = if k < n then upF 5 (n / 2) k else n := rfl
  rw [e1, if_neg h]

/-- The size of a tree of n leaves. -/
def sz (n : Nat) : Nat := if n ≤ 1 then 1 else if n ≤ 2 then 2 else if n ≤ 4 then 4 else if n ≤ 8 then 8 else 16
def Sz (s : Nat) : Prop := s = 1 ∨ s = 2 ∨ s = 4 ∨ s = 8 ∨ s = 16
theorem sz_Sz (n : Nat) : Sz (sz n) := by unfold sz Sz; (repeat' split) <;> simp_all
theorem sz_ge {n : Nat} (h : n ≤ 16) : n ≤ sz n := by unfold sz; (repeat' split) <;> omega
theorem Sz.le {s : Nat} (h : Sz s) : 1 ≤ s ∧ s ≤ 16 := by unfold Sz at h; omega
theorem sz_more {n p : Nat} (hn : n ≤ 16) (hp : Sz p) (hl : p ≤ sz n) (h : p < n) : Sz (2 * p) ∧ 2 * p ≤ sz n := by
  have hs : sz n = 1 ∧ n ≤ 1 ∨ sz n = 2 ∧ n ≤ 2 ∨ sz n = 4 ∧ n ≤ 4 ∨ sz n = 8 ∧ n ≤ 8 ∨ sz n = 16 := by unfold sz; (repeat' split) <;> omega
  unfold Sz at *
  omega
theorem sz_done {n p : Nat} (hn : n ≤ 16) (hp : Sz p) (hl : p ≤ sz n) (h : ¬ p < n) : p = sz n := by
  have hs : sz n = 1 ∨ sz n = 2 ∧ 1 < n ∨ sz n = 4 ∧ 2 < n ∨ sz n = 8 ∧ 4 < n ∨ sz n = 16 ∧ 8 < n := by unfold sz; (repeat' split) <;> omega
  unfold Sz at *
  omega

/-- Is leaf i below node k? -/
def under (s k i : Nat) : Bool := up (s + i) k == k

theorem tab_all : ∀ s ∈ [1, 2, 4, 8, 16], ∀ k, k < 16 → ∀ i, i < 16 → 1 ≤ k → k < s → i < s → under s k i = (under s (2 * k) i || under s (2 * k + 1) i) := by decide +kernel
theorem tab_lt : ∀ s ∈ [1, 2, 4, 8, 16], ∀ k, k < 16 → ∀ i, i < 16 → ∀ j, j < 16 → (!(decide (1 ≤ k) && decide (k < s) && under s (2 * k) i && under s (2 * k + 1) j && decide (i < s) && decide (j < s)) || decide (i < j)) = true := by decide +kernel
theorem tab_leaf : ∀ s ∈ [1, 2, 4, 8, 16], ∀ j, j < 16 → ∀ i, i < 16 → j < s → i < s → under s (s + j) i = decide (i = j) := by decide +kernel
theorem tab_root : ∀ s ∈ [1, 2, 4, 8, 16], ∀ i, i < 16 → i < s → under s 1 i = true := by decide +kernel
theorem Sz.mem {s : Nat} (h : Sz s) : s ∈ [1, 2, 4, 8, 16] := by unfold Sz at h; simp; omega
theorem under_kids {s k i : Nat} (h : Sz s) (h1 : 1 ≤ k) (hk : k < s) (hi : i < s) : under s k i = true ↔ under s (2 * k) i = true ∨ under s (2 * k + 1) i = true := by
  have := h.le
  rw [tab_all s h.mem k (by omega) i (by omega) h1 hk hi]
  simp
theorem under_lt {s k i j : Nat} (h : Sz s) (h1 : 1 ≤ k) (hk : k < s) (hi : i < s) (hj : j < s) (a : under s (2 * k) i = true) (b : under s (2 * k + 1) j = true) : i < j := by
  have := h.le
  have t := tab_lt s h.mem k (by omega) i (by omega) j (by omega)
  simpa [h1, hk, hi, hj, a, b] using t
theorem under_leaf {s i j : Nat} (h : Sz s) (hi : i < s) (hj : j < s) : under s (s + j) i = true ↔ i = j := by
  have := h.le
  rw [tab_leaf s h.mem j (by omega) i (by omega) hj hi]
  simp
theorem under_root {s i : Nat} (h : Sz s) (hi : i < s) : under s 1 i = true := by
  have := h.le
  exact tab_root s h.mem i (by omega) hi

/-- The nodes tell who wins: a leaf's node itself, each other one the better of its two; but on the way from k up. -/
structure TreeBut (s n : Nat) (hs : Nat → Bool) (g : Nat → It) (nd : Nat → Int) (k : Nat) : Prop where
  fit : ∀ j, j < 2 * s → nd j = -1 ∨ ∃ i : Nat, i < n ∧ nd j = i
  leaf : ∀ i, i < s → nd (s + i) = if i < n ∧ hs i = true then (i : Int) else -1
  node : ∀ j, 1 ≤ j → j < s → up k j ≠ j → nd j = bet g (nd (2 * j)) (nd (2 * j + 1))
def Tree (s n : Nat) (hs : Nat → Bool) (g : Nat → It) (nd : Nat → Int) : Prop := TreeBut s n hs g nd 0
theorem up_zero (j : Nat) : up 0 j = 0 := up_stop (by omega)

section
variable {s n : Nat} {hs hs' : Nat → Bool} {g g' : Nat → It} {nd : Nat → Int}
theorem Tree.inner (h : Tree s n hs g nd) {j : Nat} (h1 : 1 ≤ j) (hj : j < s) : nd j = bet g (nd (2 * j)) (nd (2 * j + 1)) := h.node j h1 hj (by rw [up_zero]; omega)
theorem Tree.wins (h : Tree s n hs g nd) (hs0 : Sz s) (hn : n ≤ s) : ∀ d k, 2 * s ≤ k + d → 1 ≤ k → k < 2 * s → Wins (fun i => i < n ∧ hs i = true ∧ under s k i = true) g (nd k)
  | 0, k, h0, _, h2 => by omega
  | d + 1, k, h0, h1, h2 => by
    by_cases hk : k < s
    · have a := Tree.wins h hs0 hn d (2 * k) (by omega) (by omega) (by omega)
      have b := Tree.wins h hs0 hn d (2 * k + 1) (by omega) (by omega) (by omega)
      rw [h.inner h1 hk]
      refine (Wins.join a b (fun i j hi hj => under_lt hs0 h1 hk (by omega) (by omega) hi.2.2 hj.2.2)).congr (fun i => ?_) (fun _ _ => rfl)
      constructor
      · rintro (⟨h3, h4, h5⟩ | ⟨h3, h4, h5⟩)
        · exact ⟨h3, h4, (under_kids hs0 h1 hk (by omega)).2 (.inl h5)⟩
        · exact ⟨h3, h4, (under_kids hs0 h1 hk (by omega)).2 (.inr h5)⟩
      · rintro ⟨h3, h4, h5⟩
        rcases (under_kids hs0 h1 hk (by omega)).1 h5 with h6 | h6
        · exact .inl ⟨h3, h4, h6⟩
        · exact .inr ⟨h3, h4, h6⟩
    · obtain ⟨j, rfl⟩ : ∃ j, k = s + j := ⟨k - s, by omega⟩
      rw [h.leaf j (by omega)]
      split
      · rename_i hj
        refine .inr ⟨j, rfl, ⟨hj.1, hj.2, (under_leaf hs0 (by omega) (by omega)).2 rfl⟩, fun i hi => ?_⟩
        have : i = j := (under_leaf hs0 (by omega) (by omega)).1 hi.2.2
        subst this
        exact ⟨It.irrefl _, fun h => by omega⟩
      · rename_i hj
        refine .inl ⟨rfl, fun i hi => hj ?_⟩
        have : i = j := (under_leaf hs0 (by omega) (by omega)).1 hi.2.2
        subst this
        exact ⟨hi.1, hi.2.1⟩
/-- A node tells what the document's search tells. -/
theorem Tree.told (h : Tree s n hs g nd) (hs0 : Sz s) (hn : n ≤ s) {k : Nat} (h1 : 1 ≤ k) (h2 : k < 2 * s) : nd k = refBest (fun i => hs i && under s k i) g n :=
  Wins.unique (h.wins hs0 hn (2 * s) k (by omega) h1 h2) ((refBest_wins _ g n).congr (fun i => by simp) (fun _ _ => rfl))
/-- One leaf put anew: the way up from it is still to be told. -/
theorem Tree.put (h : Tree s n hs g nd) (hs0 : Sz s) (hn : n ≤ s) {i : Nat} (hi : i < n) (b : Bool) (x : It) (v : Int) (hv : v = if b = true then (i : Int) else -1) :
    TreeBut s n (fup hs i b) (fup g i x) (fup nd (s + i) v) ((s + i) / 2) := by
  have hle := hs0.le
  refine ⟨fun j hj => ?_, fun j hj => ?_, fun j h1 hj hup => ?_⟩
  · by_cases e : j = s + i
    · rw [e, fup_same, hv]
      split
      · exact .inr ⟨i, hi, rfl⟩
      · exact .inl rfl
    · rw [fup_other _ _ e]; exact h.fit j hj
  · by_cases e : j = i
    · subst e
      rw [fup_same, fup_same, hv]
      cases b
      · simp
      · simp [hi]
    · rw [fup_other _ _ (by omega : s + j ≠ s + i), fup_other _ _ e]; exact h.leaf j hj
  · have hnu : under s j i = false := by
      unfold under
      rw [up_step (by omega) (by omega)]
      simpa using hup
    have hno : ∀ k, 1 ≤ k → k < 2 * s → (k = 2 * j ∨ k = 2 * j + 1) → nd k ≠ (i : Int) := by
      intro k hk1 hk2 hkj e
      rcases h.wins hs0 hn (2 * s) k (by omega) hk1 hk2 with ⟨e2, _⟩ | ⟨q, e2, hq, _⟩
      · omega
      · have : q = i := by omega
        subst this
        have : under s j q = true := (under_kids hs0 h1 hj (by omega)).2 (by rcases hkj with rfl | rfl; exact .inl hq.2.2; exact .inr hq.2.2)
        rw [this] at hnu; cases hnu
    have n1 := hno (2 * j) (by omega) (by omega) (.inl rfl)
    have n2 := hno (2 * j + 1) (by omega) (by omega) (.inr rfl)
    have hkid : ∀ k, (k = 2 * j ∨ k = 2 * j + 1) → k ≠ s + i := by
      intro k hk e
      have : (s + i) / 2 = j := by omega
      rw [this] at hup
      exact hup (up_stop (by omega))
    rw [fup_other _ _ (by omega : j ≠ s + i), fup_other _ _ (hkid _ (.inl rfl)), fup_other _ _ (hkid _ (.inr rfl)), h.inner h1 hj]
    have f1 : nd (2 * j) = -1 ∨ 0 ≤ nd (2 * j) := by rcases h.fit (2 * j) (by omega) with e | ⟨q, _, e⟩ <;> omega
    have f2 : nd (2 * j + 1) = -1 ∨ 0 ≤ nd (2 * j + 1) := by rcases h.fit (2 * j + 1) (by omega) with e | ⟨q, _, e⟩ <;> omega
    unfold bet
    generalize nd (2 * j) = a at *
    generalize nd (2 * j + 1) = c at *
    have ga : a ≠ -1 → fup g i x a.toNat = g a.toNat := fun h3 => fup_other _ _ (by omega)
    have gc : c ≠ -1 → fup g i x c.toNat = g c.toNat := fun h3 => fup_other _ _ (by omega)
    by_cases ea : a = -1
    · rw [if_pos (.inl ea), if_pos (.inl ea)]
    · by_cases ec : c = -1
      · rw [if_neg (by rintro (h3 | h3); exact ea h3; exact h3.1 ec), if_neg (by rintro (h3 | h3); exact ea h3; exact h3.1 ec)]
      · rw [ga ea, gc ec]
/-- One node on the way told anew. -/
theorem TreeBut.up1 {k : Nat} (h : TreeBut s n hs g nd k) (hs0 : Sz s) (hk : 1 ≤ k) (hks : k < s) : TreeBut s n hs g (fup nd k (bet g (nd (2 * k)) (nd (2 * k + 1)))) (k / 2) := by
  have hle := hs0.le
  refine ⟨fun j hj => ?_, fun j hj => ?_, fun j h1 hj hup => ?_⟩
  · by_cases e : j = k
    · rw [e, fup_same]
      unfold bet
      split
      · exact h.fit _ (by omega)
      · exact h.fit _ (by omega)
    · rw [fup_other _ _ e]; exact h.fit j hj
  · rw [fup_other _ _ (by omega)]; exact h.leaf j hj
  · have hkid : ∀ q, (q = 2 * j ∨ q = 2 * j + 1) → q ≠ k := by
      intro q hq e
      have : k / 2 = j := by omega
      rw [this] at hup
      exact hup (up_stop (by omega))
    rw [fup_other _ _ (hkid _ (.inl rfl)), fup_other _ _ (hkid _ (.inr rfl))]
    by_cases e : j = k
    · rw [e, fup_same]
    · rw [fup_other _ _ e]
      refine h.node j h1 hj ?_
      by_cases hjk : j < k
      · rw [up_step hjk (by omega)]; exact hup
      · rw [up_stop hjk]; omega
/-- No leaf has an item. -/
theorem Tree.empty (hn : ∀ j, nd j = -1) : Tree s n (fun _ => false) g nd :=
  ⟨fun j _ => .inl (hn j), fun i _ => by rw [hn]; simp, fun j _ _ _ => by rw [hn, hn, hn]; simp [bet]⟩
end

/-! ### lists -/
def ndOf (ns : List Int) : Nat → Int := fun k => ns.getD k (-1)
theorem ndOf_set (ns : List Int) (i : Nat) (v : Int) (hi : i < ns.length) : ndOf (ns.set i v) = fup (ndOf ns) i v := by
  funext k
  unfold ndOf fup
  by_cases e : k = i
  · subst e; simp [hi]
  · rw [if_neg e]
    simp only [List.getD_eq_getElem?_getD]
    rw [List.getElem?_set_ne (by omega)]
theorem gOf_fup (xs : List It) (i : Nat) (x : It) (hi : i < xs.length) : gOf (xs.set i x) = fup (gOf xs) i x := by
  funext k
  rw [gOf_set xs i x hi]
  rfl
theorem ndOf_rep (m : Nat) : ∀ j, ndOf (List.replicate m (-1)) j = -1 := fun j => by
  unfold ndOf
  by_cases h : j < m
  · simp [h]
  · simp [h]
def bOf (bs : List Bool) : Nat → Bool := fun k => bs.getD k false
theorem bOf_set (bs : List Bool) (i : Nat) (v : Bool) (hi : i < bs.length) : bOf (bs.set i v) = fup (bOf bs) i v := by
  funext k
  unfold bOf fup
  by_cases e : k = i
  · subst e; simp [hi]
  · rw [if_neg e]
    simp only [List.getD_eq_getElem?_getD]
    rw [List.getElem?_set_ne (by omega)]
end Go.Proofs.Ytjblafpbffkapaa
