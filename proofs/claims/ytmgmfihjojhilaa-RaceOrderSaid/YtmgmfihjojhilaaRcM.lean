/-
  Events, their clocks, races, as plain arithmetic.
-/
import Derived.Test.YtmgmfihjojhilaaClkM
import Derived.Lib.Hide
namespace Go.Proofs.Ytmgmfihjojhilaa
set_option maxRecDepth 100000
open Go.RowKit
set_option linter.unusedVariables false
set_option linter.unusedSimpArgs false

structure Lc where
  k : Int
  a : Int
  b : Int
deriving DecidableEq, Inhabited
structure Ev where
  who : Int
  kind : Int
  lc : Lc
deriving DecidableEq, Inhabited
def plainK (k : Int) : Bool := k == 5 || k == 6
def atomK (k : Int) : Bool := k == 1 || k == 2 || k == 3 || k == 4
def hearsK (k : Int) : Bool := k == 1 || k == 3 || k == 4
def tellsK (k : Int) : Bool := k == 2 || k == 3
def writesK (k : Int) : Bool := k == 2 || k == 3 || k == 6
def confB (a b : Ev) : Bool := a.who != b.who && decide (a.lc = b.lc) && (plainK a.kind || plainK b.kind) && (writesK a.kind || writesK b.kind)
def okE (e : Ev) : Bool := decide (0 ≤ e.who) && decide (e.who ≤ 63) && decide (1 ≤ e.kind) && decide (e.kind ≤ 6)
theorem okE_iff {e : Ev} : okE e = true ↔ 0 ≤ e.who ∧ e.who ≤ 63 ∧ 1 ≤ e.kind ∧ e.kind ≤ 6 := by simp [okE, and_assoc]
def okL (xs : List Ev) : Bool := xs.all okE
def evs (xs : List Ev) (i : Nat) : Ev := xs.getD i default
theorem evs_at {xs : List Ev} {i : Nat} {e : Ev} (h : xs[i]? = some e) : evs xs i = e := by simp [evs, h]
theorem evs_get {xs : List Ev} {i : Nat} (h : i < xs.length) : xs[i]? = some (evs xs i) := by
  rw [List.getElem?_eq_getElem h]; simp [evs, h]
theorem okL_iff {xs : List Ev} : okL xs = true ↔ ∀ i, i < xs.length → okE (evs xs i) = true := by
  unfold okL
  rw [List.all_eq_true]
  constructor
  · intro h i hi
    exact h _ (List.mem_of_getElem? (evs_get hi))
  · intro h x hx
    obtain ⟨i, hi⟩ := List.getElem?_of_mem hx
    have := h i (List.getElem?_eq_some_iff.1 hi).1
    rwa [evs_at hi] at this

/-! ### clocks -/
/-- What each worker and each location knows. -/
structure Kn where
  wk : Int → List Int
  pl : Lc → List Int
def Kn.none : Kn := ⟨fun _ => [], fun _ => []⟩
def Kn.clk (s : Kn) (e : Ev) : List Int := tickM (if hearsK e.kind = true then joinM (s.wk e.who) (s.pl e.lc) else s.wk e.who) e.who
def Kn.next (s : Kn) (e : Ev) : Kn := ⟨fun u => if u = e.who then s.clk e else s.wk u, fun p => if p = e.lc ∧ tellsK e.kind = true then s.clk e else s.pl p⟩
def knAt (l : Nat → Ev) : Nat → Kn
  | 0 => Kn.none
  | n + 1 => (knAt l n).next (l n)
def clk (l : Nat → Ev) (i : Nat) : List Int := (knAt l i).clk (l i)
theorem knAt_wk (l : Nat → Ev) (n : Nat) (u : Int) : (knAt l (n + 1)).wk u = if u = (l n).who then clk l n else (knAt l n).wk u := rfl
theorem knAt_pl (l : Nat → Ev) (n : Nat) (p : Lc) : (knAt l (n + 1)).pl p = if p = (l n).lc ∧ tellsK (l n).kind = true then clk l n else (knAt l n).pl p := rfl
theorem clk_def (l : Nat → Ev) (i : Nat) : clk l i = tickM (if hearsK (l i).kind = true then joinM ((knAt l i).wk (l i).who) ((knAt l i).pl (l i).lc) else (knAt l i).wk (l i).who) (l i).who := rfl
/-- The first events alone tell it. -/
theorem knAt_front {l l' : Nat → Ev} {n : Nat} (h : ∀ i, i < n → l i = l' i) : ∀ m, m ≤ n → knAt l m = knAt l' m
  | 0, _ => rfl
  | m + 1, hm => by simp only [knAt]; rw [knAt_front h m (by omega), h m (by omega)]
theorem clk_front {l l' : Nat → Ev} {n : Nat} (h : ∀ i, i < n → l i = l' i) {i : Nat} (hi : i < n) : clk l i = clk l' i := by
  unfold clk
  rw [knAt_front h i (by omega), h i hi]
/-- How many of the first n events are of worker k. -/
def cntW (l : Nat → Ev) (k : Nat) : Nat → Nat
  | 0 => 0
  | n + 1 => cntW l k n + (if (l n).who = (k : Int) then 1 else 0)
theorem cntW_le (l : Nat → Ev) (k : Nat) : ∀ n, cntW l k n ≤ n
  | 0 => by simp [cntW]
  | n + 1 => by have := cntW_le l k n; simp only [cntW]; split <;> omega
theorem cntW_mono (l : Nat → Ev) (k : Nat) {n m : Nat} (h : n ≤ m) : cntW l k n ≤ cntW l k m := by
  induction h with
  | refl => exact Nat.le_refl _
  | step _ ih => exact Nat.le_trans ih (by simp only [cntW]; omega)
/-- No number is below nought, and none above how many events of its worker there are. -/
def Fits (l : Nat → Ev) (n : Nat) (c : List Int) : Prop := c.length ≤ 64 ∧ ∀ k, 0 ≤ gC c k ∧ gC c k ≤ (cntW l k n : Int)
theorem Fits.mono {l : Nat → Ev} {n m : Nat} {c : List Int} (h : Fits l n c) (hm : n ≤ m) : Fits l m c := ⟨h.1, fun k => ⟨(h.2 k).1, by have := (h.2 k).2; have := cntW_mono l k hm; omega⟩⟩
theorem Fits.nil (l : Nat → Ev) (n : Nat) : Fits l n [] := ⟨by simp, fun k => by simp [gC]⟩
theorem Fits.join {l : Nat → Ev} {n : Nat} {c d : List Int} (h : Fits l n c) (h2 : Fits l n d) : Fits l n (joinM c d) :=
  ⟨by rw [joinM_len]; have := h.1; have := h2.1; omega, fun k => by rw [gC_join]; have := h.2 k; have := h2.2 k; omega⟩
theorem wrap_small {x : Int} (h0 : 0 ≤ x) (h1 : x ≤ 1000000) : wrap64 (x + 1) = x + 1 := by unfold wrap64; omega
theorem gC_tickE {c : List Int} {e : Ev} {n : Nat} (he : okE e = true) (hn : e.who = (n : Int)) (hb : ∀ k, 0 ≤ gC c k ∧ gC c k ≤ 1000000) (k : Nat) : gC (tickM c e.who) k = if k = n then gC c k + 1 else gC c k := by
  have h63 := (okE_iff.1 he).2.1
  rw [hn, gC_tick c (by omega)]
  split
  · rw [wrap_small (hb k).1 (hb k).2]
  · rfl
theorem tick_len {c : List Int} {e : Ev} (he : okE e = true) (hc : c.length ≤ 64) : (tickM c e.who).length ≤ 64 ∧ 0 < (tickM c e.who).length := by
  obtain ⟨h0, h63, _⟩ := okE_iff.1 he
  obtain ⟨n, hn⟩ := Int.eq_ofNat_of_zero_le h0
  rw [hn, tickM_len c (by omega)]
  omega
theorem Fits.tick {l : Nat → Ev} {n : Nat} {c : List Int} (h : Fits l n c) (he : okE (l n) = true) (hn : n ≤ 1000000) : Fits l (n + 1) (tickM c (l n).who) := by
  obtain ⟨h0, h63, _⟩ := okE_iff.1 he
  obtain ⟨u, hu⟩ := Int.eq_ofNat_of_zero_le h0
  refine ⟨(tick_len he h.1).1, fun k => ?_⟩
  have hb : ∀ k, 0 ≤ gC c k ∧ gC c k ≤ 1000000 := fun k => ⟨(h.2 k).1, by have := (h.2 k).2; have := cntW_le l k n; omega⟩
  rw [gC_tickE he hu hb]
  have := h.2 k
  simp only [cntW]
  rw [hu]
  by_cases e : k = u
  · subst e; simp; omega
  · rw [if_neg e, if_neg (by omega)]; simp; omega
section
variable {l : Nat → Ev} {N : Nat}
theorem kn_fits (hok : ∀ i, i < N → okE (l i) = true) (hN : N ≤ 100000) : ∀ n, n ≤ N → (∀ u, Fits l n ((knAt l n).wk u)) ∧ ∀ p, Fits l n ((knAt l n).pl p)
  | 0, _ => ⟨fun u => Fits.nil l 0, fun p => Fits.nil l 0⟩
  | n + 1, hn => by
    obtain ⟨h1, h2⟩ := kn_fits hok hN n (by omega)
    have hc : Fits l (n + 1) (clk l n) := by
      rw [clk_def]
      split
      · exact ((h1 _).join (h2 _)).tick (hok n (by omega)) (by omega)
      · exact (h1 _).tick (hok n (by omega)) (by omega)
    refine ⟨fun u => ?_, fun p => ?_⟩
    · rw [knAt_wk]; split
      · exact hc
      · exact (h1 u).mono (by omega)
    · rw [knAt_pl]; split
      · exact hc
      · exact (h2 p).mono (by omega)
theorem clk_fits (hok : ∀ i, i < N → okE (l i) = true) (hN : N ≤ 100000) {i : Nat} (hi : i < N) : Fits l (i + 1) (clk l i) := by
  have := (kn_fits hok hN (i + 1) (by omega)).1 (l i).who
  rwa [knAt_wk, if_pos rfl] at this
theorem clk_pos (hok : ∀ i, i < N → okE (l i) = true) (hN : N ≤ 100000) {i : Nat} (hi : i < N) : 0 < (clk l i).length := by
  have h1 := kn_fits hok hN i (by omega)
  rw [clk_def]
  split
  · exact (tick_len (hok i hi) ((h1.1 _).join (h1.2 (l i).lc)).1).2
  · exact (tick_len (hok i hi) (h1.1 _).1).2
/-- A worker knows all that it did. -/
theorem wk_own (hok : ∀ i, i < N → okE (l i) = true) (hN : N ≤ 100000) (k : Nat) : ∀ n, n ≤ N → gC ((knAt l n).wk (k : Int)) k = (cntW l k n : Int)
  | 0, _ => by simp [knAt, Kn.none, gC, cntW]
  | n + 1, hn => by
    have ih := wk_own hok hN k n (by omega)
    obtain ⟨f1, f2⟩ := kn_fits hok hN n (by omega)
    rw [knAt_wk]
    simp only [cntW]
    by_cases e : (k : Int) = (l n).who
    · rw [if_pos e, if_pos e.symm, clk_def]
      have hb : ∀ c, Fits l n c → ∀ k, 0 ≤ gC c k ∧ gC c k ≤ 1000000 := fun c hc k => ⟨(hc.2 k).1, by have := (hc.2 k).2; have := cntW_le l k n; omega⟩
      split
      · rw [gC_tickE (hok n (by omega)) e.symm (hb _ ((f1 _).join (f2 _))), if_pos rfl, gC_join, ← e, ih]
        have := ((f2 (l n).lc).2 k).2
        omega
      · rw [gC_tickE (hok n (by omega)) e.symm (hb _ (f1 _)), if_pos rfl, ← e, ih]
        omega
    · rw [if_neg e, if_neg (fun h => e h.symm), ih]; omega
theorem clk_own (hok : ∀ i, i < N → okE (l i) = true) (hN : N ≤ 100000) {i : Nat} (hi : i < N) {k : Nat} (hk : (l i).who = (k : Int)) : gC (clk l i) k = (cntW l k i : Int) + 1 := by
  have := wk_own hok hN k (i + 1) (by omega)
  rw [knAt_wk, if_pos hk.symm] at this
  rw [this]
  simp only [cntW]
  rw [if_pos hk]
  omega
theorem clk_above (hok : ∀ i, i < N → okE (l i) = true) (hN : N ≤ 100000) {n : Nat} (hn : n < N) : leqB ((knAt l n).wk (l n).who) (clk l n) = true ∧ (hearsK (l n).kind = true → leqB ((knAt l n).pl (l n).lc) (clk l n) = true) := by
  obtain ⟨f1, f2⟩ := kn_fits hok hN n (by omega)
  obtain ⟨h0, _⟩ := okE_iff.1 (hok n hn)
  obtain ⟨u, hu⟩ := Int.eq_ofNat_of_zero_le h0
  have hb : ∀ c, Fits l n c → ∀ k, 0 ≤ gC c k ∧ gC c k ≤ 1000000 := fun c hc k => ⟨(hc.2 k).1, by have := (hc.2 k).2; have := cntW_le l k n; omega⟩
  rw [clk_def]
  split
  · rename_i hh
    refine ⟨leqB_iff.2 fun k => ?_, fun _ => leqB_iff.2 fun k => ?_⟩
    · rw [gC_tickE (hok n hn) hu (hb _ ((f1 _).join (f2 _))), gC_join]; split <;> omega
    · rw [gC_tickE (hok n hn) hu (hb _ ((f1 _).join (f2 _))), gC_join]; split <;> omega
  · rename_i hh
    refine ⟨leqB_iff.2 fun k => ?_, fun h => absurd h hh⟩
    rw [gC_tickE (hok n hn) hu (hb _ (f1 _))]; split <;> omega
theorem leq_trans {a b c : List Int} (h : leqB a b = true) (h2 : leqB b c = true) : leqB a c = true := leqB_iff.2 fun k => by have := leqB_iff.1 h k; have := leqB_iff.1 h2 k; omega
theorem wk_mono (hok : ∀ i, i < N → okE (l i) = true) (hN : N ≤ 100000) (u : Int) {n : Nat} : ∀ m, n ≤ m → m ≤ N → leqB ((knAt l n).wk u) ((knAt l m).wk u) = true
  | 0, h, _ => by
    obtain rfl : n = 0 := Nat.le_zero.1 h
    exact leqB_refl _
  | m + 1, h, hm => by
    by_cases e : n = m + 1
    · subst e; exact leqB_refl _
    · have ih := wk_mono hok hN u (n := n) m (by omega) (by omega)
      refine leq_trans ih ?_
      rw [knAt_wk]
      split
      · rename_i e2
        rw [e2]
        exact (clk_above hok hN (by omega)).1
      · exact leqB_refl _
/-- Two of one worker are in order. -/
theorem clk_same (hok : ∀ i, i < N → okE (l i) = true) (hN : N ≤ 100000) {i j : Nat} (hij : i < j) (hj : j < N) (hw : (l i).who = (l j).who) : leqB (clk l i) (clk l j) = true := by
  have h1 := wk_mono hok hN (l i).who (n := i + 1) j (by omega) (by omega)
  rw [knAt_wk, if_pos rfl] at h1
  have h2 := (clk_above hok hN hj).1
  rw [← hw] at h2
  exact leq_trans h1 h2
/-- What is told and heard is in order. -/
theorem clk_heard (hok : ∀ i, i < N → okE (l i) = true) (hN : N ≤ 100000) {j : Nat} (hj : j < N) (hh : hearsK (l j).kind = true) : leqB ((knAt l j).pl (l j).lc) (clk l j) = true := (clk_above hok hN hj).2 hh
/-- Who is before another one stands ahead of it. -/
theorem clk_ahead (hok : ∀ i, i < N → okE (l i) = true) (hN : N ≤ 100000) {i j : Nat} (hi : i < N) (hj : j < N) (hne : i ≠ j) (h : leqB (clk l i) (clk l j) = true) : i < j := by
  by_cases hij : i < j
  · exact hij
  · exfalso
    have hji : j + 1 ≤ i := by omega
    obtain ⟨h0, _⟩ := okE_iff.1 (hok i hi)
    obtain ⟨u, hu⟩ := Int.eq_ofNat_of_zero_le h0
    have h1 := clk_own hok hN hi hu
    have h2 := ((clk_fits hok hN hj).2 u).2
    have h3 := cntW_mono l u hji
    have h4 := leqB_iff.1 h u
    omega
end

/-! ### races -/
def raceB (l : Nat → Ev) (i j : Nat) : Bool := confB (l i) (l j) && !leqB (clk l i) (clk l j)
/-- The first two that race, or none. -/
def FirstIs (l : Nat → Ev) (n : Nat) (a b : Int) (ok : Bool) : Prop :=
  (ok = false ∧ a = 0 ∧ b = 0 ∧ ∀ j, j < n → ∀ i, i < j → raceB l i j = false) ∨
  (ok = true ∧ ∃ i j : Nat, a = (i : Int) ∧ b = (j : Int) ∧ i < j ∧ j < n ∧ raceB l i j = true ∧ (∀ j', j' < j → ∀ i', i' < j' → raceB l i' j' = false) ∧ ∀ i', i' < i → raceB l i' j = false)
/-- The least of which it holds. -/
theorem least {p : Nat → Bool} {n : Nat} (h : p n = true) : ∃ i, i ≤ n ∧ p i = true ∧ ∀ j, j < i → p j = false := by
  induction n using Nat.strongRecOn with
  | _ n ih =>
    by_cases hm : ∃ m, m < n ∧ p m = true
    · obtain ⟨m, hm, hp⟩ := hm
      obtain ⟨i, h1, h2, h3⟩ := ih m hm hp
      exact ⟨i, by omega, h2, h3⟩
    · refine ⟨n, Nat.le_refl _, h, fun j hj => ?_⟩
      rcases hp : p j
      · rfl
      · exact absurd ⟨j, hj, hp⟩ hm
theorem FirstIs.is (l : Nat → Ev) : ∀ n, ∃ a b ok, FirstIs l n a b ok
  | 0 => ⟨0, 0, false, .inl ⟨rfl, rfl, rfl, fun j hj => absurd hj (by omega)⟩⟩
  | n + 1 => by
    obtain ⟨a, b, ok, h⟩ := FirstIs.is l n
    rcases h with ⟨rfl, rfl, rfl, h⟩ | ⟨rfl, i, j, h1, h2, h3, h4, h5⟩
    · by_cases hr : ∃ i, i < n ∧ raceB l i n = true
      · obtain ⟨i0, hi0, hr⟩ := hr
        obtain ⟨i, hi, hp, hl⟩ := least (p := fun i => raceB l i n) hr
        exact ⟨i, n, true, .inr ⟨rfl, i, n, rfl, rfl, by omega, by omega, hp, h, hl⟩⟩
      · refine ⟨0, 0, false, .inl ⟨rfl, rfl, rfl, fun j hj i hi => ?_⟩⟩
        by_cases e : j = n
        · subst e
          rcases hb : raceB l i j
          · rfl
          · exact absurd ⟨i, hi, hb⟩ hr
        · exact h j (by omega) i hi
    · exact ⟨a, b, true, .inr ⟨rfl, i, j, h1, h2, h3, by omega, h5⟩⟩
theorem FirstIs.unique {l : Nat → Ev} {n : Nat} {a b a' b' : Int} {ok ok' : Bool} (h : FirstIs l n a b ok) (h' : FirstIs l n a' b' ok') : a = a' ∧ b = b' ∧ ok = ok' := by
  rcases h with ⟨rfl, rfl, rfl, h⟩ | ⟨rfl, i, j, rfl, rfl, h3, h4, h5, h6, h7⟩ <;> rcases h' with ⟨rfl, rfl, rfl, g⟩ | ⟨rfl, i', j', rfl, rfl, g3, g4, g5, g6, g7⟩
  · exact ⟨rfl, rfl, rfl⟩
  · rw [h j' g4 i' g3] at g5; cases g5
  · rw [g j h4 i h3] at h5; cases h5
  · have ej : j = j' := by
      rcases Nat.lt_trichotomy j j' with e | e | e
      · rw [g6 j e i h3] at h5; cases h5
      · exact e
      · rw [h6 j' e i' g3] at g5; cases g5
    subst ej
    have ei : i = i' := by
      rcases Nat.lt_trichotomy i i' with e | e | e
      · rw [g7 i e] at h5; cases h5
      · exact e
      · rw [h7 i' e] at g5; cases g5
    subst ei
    exact ⟨rfl, rfl, rfl⟩
/-- Of events at p among the first n: the latest of each kind of equal ones, in order. -/
def nearI (l : Nat → Ev) (p : Lc) : Nat → List Nat
  | 0 => []
  | n + 1 => if (l n).lc = p then (nearI l p n).filter (fun i => !decide (l i = l n)) ++ [n] else nearI l p n
theorem nearI_mem {l : Nat → Ev} {p : Lc} : ∀ {n i : Nat}, i ∈ nearI l p n → i < n ∧ (l i).lc = p
  | 0, i, h => by simp [nearI] at h
  | n + 1, i, h => by
    simp only [nearI] at h
    split at h
    · rename_i e
      rcases List.mem_append.1 h with h | h
      · have := nearI_mem (List.mem_filter.1 h).1
        exact ⟨by omega, this.2⟩
      · simp at h; subst h; exact ⟨by omega, e⟩
    · have := nearI_mem h
      exact ⟨by omega, this.2⟩
theorem nearI_has {l : Nat → Ev} {p : Lc} : ∀ {n i : Nat}, i < n → (l i).lc = p → ∃ i', i' ∈ nearI l p n ∧ i ≤ i' ∧ l i' = l i
  | 0, i, h, _ => absurd h (by omega)
  | n + 1, i, h, hp => by
    simp only [nearI]
    by_cases e : i = n
    · subst e
      rw [if_pos hp]
      exact ⟨i, by simp, Nat.le_refl _, rfl⟩
    · obtain ⟨i', h1, h2, h3⟩ := nearI_has (n := n) (by omega : i < n) hp
      split
      · by_cases e2 : l i' = l n
        · exact ⟨n, by simp, by omega, by rw [← e2, h3]⟩
        · exact ⟨i', by simp [h1, e2], h2, h3⟩
      · exact ⟨i', h1, h2, h3⟩
theorem nearI_len {l : Nat → Ev} {p : Lc} : ∀ n, (nearI l p n).length ≤ n
  | 0 => by simp [nearI]
  | n + 1 => by
    have ih := nearI_len (l := l) (p := p) n
    simp only [nearI]
    split
    · rw [List.length_append]
      have := List.length_filter_le (fun i => !decide (l i = l n)) (nearI l p n)
      simp; omega
    · omega
/-- One of all races with j if and only if one of the latest does. -/
theorem near_any {l : Nat → Ev} {N : Nat} (hok : ∀ i, i < N → okE (l i) = true) (hN : N ≤ 100000) {j : Nat} (hj : j < N) : (nearI l (l j).lc j).any (fun i => raceB l i j) = true ↔ ∃ i, i < j ∧ raceB l i j = true := by
  rw [List.any_eq_true]
  constructor
  · rintro ⟨i, hi, hr⟩
    exact ⟨i, (nearI_mem hi).1, hr⟩
  · rintro ⟨i, hi, hr⟩
    have hc : confB (l i) (l j) = true ∧ leqB (clk l i) (clk l j) = false := by simpa [raceB] using hr
    have hl : (l i).lc = (l j).lc := by
      have := hc.1
      simp [confB] at this
      exact this.1.1.2
    obtain ⟨i', h1, h2, h3⟩ := nearI_has hi hl
    refine ⟨i', h1, ?_⟩
    unfold raceB
    rw [h3, hc.1]
    rcases hb : leqB (clk l i') (clk l j)
    · rfl
    · have h4 : leqB (clk l i) (clk l i') = true := by
        by_cases e : i = i'
        · rw [e]; exact leqB_refl _
        · exact clk_same hok hN (by omega) (by have := (nearI_mem h1).1; omega) (by rw [h3])
      rw [leq_trans h4 hb] at hc
      cases hc.2

/-! ### the document's search -/
def lastW (l : Nat → Ev) (u : Int) : Nat → Option Nat
  | 0 => none
  | n + 1 => if (l n).who = u then some n else lastW l u n
def lastP (l : Nat → Ev) (p : Lc) : Nat → Option Nat
  | 0 => none
  | n + 1 => if (l n).lc = p ∧ tellsK (l n).kind = true then some n else lastP l p n
def clkO (l : Nat → Ev) : Option Nat → List Int
  | none => []
  | some k => clk l k
theorem wk_last (l : Nat → Ev) (u : Int) : ∀ n, (knAt l n).wk u = clkO l (lastW l u n)
  | 0 => rfl
  | n + 1 => by
    rw [knAt_wk]
    simp only [lastW]
    by_cases e : (l n).who = u
    · rw [if_pos e.symm, if_pos e]; rfl
    · rw [if_neg (fun h => e h.symm), if_neg e]; exact wk_last l u n
theorem pl_last (l : Nat → Ev) (p : Lc) : ∀ n, (knAt l n).pl p = clkO l (lastP l p n)
  | 0 => rfl
  | n + 1 => by
    rw [knAt_pl]
    simp only [lastP]
    by_cases e : (l n).lc = p ∧ tellsK (l n).kind = true
    · rw [if_pos ⟨e.1.symm, e.2⟩, if_pos e]; rfl
    · rw [if_neg (fun h => e ⟨h.1.symm, h.2⟩), if_neg e]; exact pl_last l p n
theorem lastW_lt {l : Nat → Ev} {u : Int} : ∀ {n k : Nat}, lastW l u n = some k → k < n
  | 0, k, h => by simp [lastW] at h
  | n + 1, k, h => by
    simp only [lastW] at h
    split at h
    · injection h with h; omega
    · have := lastW_lt h; omega
theorem lastP_lt {l : Nat → Ev} {p : Lc} : ∀ {n k : Nat}, lastP l p n = some k → k < n
  | 0, k, h => by simp [lastP] at h
  | n + 1, k, h => by
    simp only [lastP] at h
    split at h
    · injection h with h; omega
    · have := lastP_lt h; omega
theorem joinM_none {c : List Int} (h : ∀ k, 0 ≤ gC c k) : joinM c [] = c := by
  refine gC_ext (by rw [joinM_len]; simp) fun k => ?_
  rw [gC_join]
  have := h k
  simp [gC] at this ⊢
  omega
end Go.Proofs.Ytmgmfihjojhilaa
