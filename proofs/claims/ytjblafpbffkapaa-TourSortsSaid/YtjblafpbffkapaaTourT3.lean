/-
  For the laws on who wins: a node and its two; leaves of one item; leaves of items with their own numbers, who wins taken away again and again; a tournament alone.
-/
import Derived.Test.YtjblafpbffkapaaTourT2
import Derived.Laws.StructEq
namespace Go.Proofs.Ytjblafpbffkapaa
set_option maxRecDepth 100000
open Go.RowKit Go.ChangeMaps Go.MapKept
set_option linter.unusedVariables false
set_option linter.unusedSimpArgs false

theorem item_neqT (x y : It) (w : World) : (binOp .neq 43 (.agg #[.int .u64 x.k, .int .i64 x.i]) (.agg #[.int .u64 y.k, .int .i64 y.i])).run Try.prog w = .ok (.bool (!decide (x = y))) w := by
  have u1 := Try.underlying3
  have a1 := Try.isAgg3
  have z1 := Try.sizeOf3
  have u2 := Try.underlying35
  have a2 := Try.isAgg35
  have z2 := Try.sizeOf35
  rw [run_neq_struct, show (10000 : Nat) = 9999 + 1 from rfl, run_equalIn_agg w 9999 43 _ _ item_struct item_held]
  simp only [Program.fieldsOf, Try.underlying43]
  go_simp
  obtain ⟨k, i⟩ := x
  obtain ⟨k', i'⟩ := y
  by_cases h1 : k = k' <;> by_cases h2 : i = i' <;> simp [h1, h2]

/-! ### a node and its two -/
theorem bet_congr {f f' : Nat → It} {a b : Int} (ha : a = -1 ∨ ∃ i : Nat, a = i ∧ f i = f' i) (hb : b = -1 ∨ ∃ i : Nat, b = i ∧ f i = f' i) : bet f a b = bet f' a b := by
  rcases ha with rfl | ⟨i, rfl, hi⟩
  · simp [bet]
  · rcases hb with rfl | ⟨j, rfl, hj⟩
    · simp [bet]
    · unfold bet
      rw [Int.toNat_natCast, Int.toNat_natCast, hi, hj]
theorem TourOf.up {w : World} {tb ib nb n : Nat} {hs : Nat → Bool} {g : Nat → It} (h : TourOf w tb ib nb n hs g) {k : Nat} (h1 : 1 ≤ k) (h2 : k < sz n) :
    nodeM n hs g (k : Int) = bet g (nodeM n hs g (2 * (k : Int))) (nodeM n hs g (2 * (k : Int) + 1)) := by
  obtain ⟨xs, ns, h, ht, hg⟩ := h
  have hsz := h.szs
  have tell : ∀ q : Nat, 1 ≤ q → q < 2 * sz n → ndOf ns q = nodeM n hs g (q : Int) := fun q q1 q2 => by
    unfold nodeM
    rw [if_pos (by omega), Int.toNat_natCast]
    exact TourOf.told h ht hg q1 q2
  have e2 : (2 * (k : Int)) = ((2 * k : Nat) : Int) := by omega
  have e3 : (2 * (k : Int) + 1) = ((2 * k + 1 : Nat) : Int) := by omega
  rw [e3, e2, ← tell k h1 (by omega), ← tell (2 * k) (by omega) (by omega), ← tell (2 * k + 1) (by omega) (by omega), ht.inner h1 h2]
  have rng : ∀ q : Nat, 1 ≤ q → q < 2 * sz n → ndOf ns q = -1 ∨ ∃ i : Nat, ndOf ns q = i ∧ gOf xs i = g i := fun q q1 q2 => by
    rw [tell q q1 q2]
    rcases nodeM_range n hs g (q : Int) with e | ⟨i, hi, hb, e⟩
    · exact .inl e
    · exact .inr ⟨i, e, hg i hi hb⟩
  exact bet_congr (rng _ (by omega) (by omega)) (rng _ (by omega) (by omega))
theorem TSound.it {w wr : World} {tb ib nb xb hb yb n : Nat} {hs : Nat → Bool} {g : Nat → It} (h : TSound w wr tb ib nb xb hb yb n hs g) {i : Nat} (hi : i < n) (hb1 : hs i = true) :
    wr.cell? ⟨yb, i * 2, none⟩ = some (.int .u64 (g i).k) ∧ wr.cell? ⟨yb, i * 2 + 1, none⟩ = some (.int .i64 (g i).i) := by
  obtain ⟨bs, ys, r1, -, r3⟩ := h.pair.ref
  have := r1.it hi
  rw [r3 i hi hb1] at this
  exact this

/-! ### leaves of one item -/
theorem refBest_ties (x : It) (p n : Nat) : refBest (fun k => decide (p ≤ k)) (fun _ => x) n = if p < n then (p : Int) else -1 := by
  refine Wins.unique (refBest_wins _ _ n) ?_
  split
  · rename_i h
    refine .inr ⟨p, rfl, ⟨h, by simp⟩, fun j hj => ⟨It.irrefl _, fun h2 => ?_⟩⟩
    have := hj.2
    simp at this
    omega
  · rename_i h
    refine .inl ⟨rfl, fun i hi => ?_⟩
    have := hi.2
    simp at this
    omega
theorem TourOf.congr {w : World} {tb ib nb n : Nat} {hs hs' : Nat → Bool} {g g' : Nat → It} (h : TourOf w tb ib nb n hs g) (h1 : ∀ i, i < n → hs i = hs' i) (h2 : ∀ i, i < n → hs i = true → g i = g' i) : TourOf w tb ib nb n hs' g' := by
  obtain ⟨xs, ns, h, ht, hg⟩ := h
  refine ⟨xs, ns, h, ⟨ht.fit, fun i hi => ?_, ht.node⟩, fun i hi hb => ?_⟩
  · rw [ht.leaf i hi]
    by_cases hin : i < n
    · rw [h1 i hin]
    · rw [if_neg (fun h => hin h.1), if_neg (fun h => hin h.1)]
  · rw [← h1 i hi] at hb
    rw [hg i hi hb, h2 i hi hb]
theorem TourOf.n16 {w : World} {tb ib nb n : Nat} {hs : Nat → Bool} {g : Nat → It} (h : TourOf w tb ib nb n hs g) : 1 ≤ n ∧ n ≤ 16 := by
  obtain ⟨_, _, h1, _⟩ := h
  exact ⟨h1.n1, h1.n16⟩

/-! ### who wins taken away again and again -/
/-- How many of the first m leaves have an item. -/
def cnt (hs : Nat → Bool) : Nat → Nat
  | 0 => 0
  | m + 1 => cnt hs m + if hs m = true then 1 else 0
theorem cnt_same {hs hs' : Nat → Bool} : ∀ {m : Nat}, (∀ i, i < m → hs i = hs' i) → cnt hs m = cnt hs' m
  | 0, _ => rfl
  | m + 1, h => by
    unfold cnt
    rw [cnt_same (fun i hi => h i (by omega)), h m (by omega)]
theorem cnt_off {hs : Nat → Bool} {i : Nat} (hb : hs i = true) : ∀ {m : Nat}, i < m → cnt (fup hs i false) m + 1 = cnt hs m
  | 0, h => by omega
  | m + 1, h => by
    unfold cnt
    by_cases e : i = m
    · subst e
      rw [fup_same, cnt_same (hs' := hs) (fun j hj => fup_other _ _ (by omega)), hb]
      simp
    · rw [fup_other _ _ (by omega : m ≠ i)]
      have := cnt_off (hs := hs) hb (m := m) (by omega)
      omega
theorem cnt_zero {hs : Nat → Bool} : ∀ {m : Nat}, cnt hs m = 0 → ∀ i, i < m → hs i = false
  | 0, _, i, hi => by omega
  | m + 1, h, i, hi => by
    unfold cnt at h
    by_cases e : i = m
    · subst e
      rcases hb : hs i with _ | _
      · rfl
      · rw [hb] at h; simp at h
    · exact cnt_zero (hs := hs) (m := m) (by omega) i (by omega)
theorem cnt_pos {hs : Nat → Bool} : ∀ {m : Nat}, 0 < cnt hs m → ∃ i, i < m ∧ hs i = true
  | 0, h => by simp [cnt] at h
  | m + 1, h => by
    unfold cnt at h
    rcases hb : hs m with _ | _
    · rw [hb] at h
      obtain ⟨i, hi, h2⟩ := cnt_pos (hs := hs) (m := m) (by simpa using h)
      exact ⟨i, by omega, h2⟩
    · exact ⟨m, by omega, hb⟩
theorem cnt_all (n : Nat) : ∀ m, cnt (fun k => decide (k < n)) m = min m n
  | 0 => by simp [cnt]
  | m + 1 => by
    unfold cnt
    rw [cnt_all n m]
    by_cases h : m < n
    · simp [h]; omega
    · simp [h]; omega
/-- Who wins among leaves that have any: its item stands ahead of all others' where no two are alike. -/
theorem refBest_some {hs : Nat → Bool} {g : Nat → It} {n : Nat} (h : 0 < cnt hs n) (hg : ∀ i j, i ≠ j → g i ≠ g j) : ∃ i : Nat, i < n ∧ hs i = true ∧ refBest hs g n = i ∧ ∀ j, j < n → fup hs i false j = true → (g i).lt (g j) = true := by
  rcases refBest_wins hs g n with ⟨e, h2⟩ | ⟨i, e, hi, h2⟩
  · obtain ⟨i, hi, hb⟩ := cnt_pos h
    exact absurd ⟨hi, hb⟩ (h2 i)
  · refine ⟨i, hi.1, hi.2, e, fun j hj hb => ?_⟩
    have hne : j ≠ i := fun e => by rw [e, fup_same] at hb; cases hb
    rw [fup_other _ _ hne] at hb
    exact It.lt_of_le_ne (show (g i).le (g j) from (h2 j ⟨hj, hb⟩).1) (hg i j (fun e => hne e.symm))
theorem refBest_none {hs : Nat → Bool} {g : Nat → It} {n : Nat} (h : ∀ i, i < n → hs i = false) : refBest hs g n = -1 := by
  rcases refBest_range hs g n with e | ⟨i, hi, hb, _⟩
  · exact e
  · rw [h i hi] at hb; cases hb
end Go.Proofs.Ytjblafpbffkapaa
