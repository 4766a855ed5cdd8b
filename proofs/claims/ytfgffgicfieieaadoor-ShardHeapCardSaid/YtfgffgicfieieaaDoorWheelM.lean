/-
  Plain words for the wheel, nothing of the program in them: levels and buckets of keys over a base, a list parted by place, what an item pushed, taken out, and a base moved do to the parts.
-/
import Derived.Test.YtfgffgicfieieaaDoorHeapM
import Derived.Test.YtfgffgicfieieaaDoorBitsM
namespace Go.Proofs.YtfgffgicfieieaaDoor
set_option maxRecDepth 100000
set_option linter.unusedVariables false
set_option linter.unusedSimpArgs false

/-- A key without its lowest bits. -/
def uu (wd : Nat) (x : Int) : Int := x / 2 ^ wd
theorem uu_le (wd : Nat) {x y : Int} (h : x ≤ y) : uu wd x ≤ uu wd y := Int.ediv_le_ediv (by exact Int.pow_pos (by decide)) h
theorem uu_nn (wd : Nat) {x : Int} (h : 0 ≤ x) : 0 ≤ uu wd x := Int.ediv_nonneg h (Int.pow_nonneg (by decide))
theorem pow_split (wd k : Nat) (x : Int) : x / 2 ^ (wd + k) = uu wd x / 2 ^ k := by
  unfold uu
  have h : ¬ ((2 : Int) ^ wd < 0 ∧ ¬ (2 : Int) ^ k ∣ x / 2 ^ wd) := fun h => by
    have : (0 : Int) ≤ 2 ^ wd := Int.pow_nonneg (by decide)
    omega
  rw [Int.pow_add, Int.ediv_ediv, if_neg h]
  simp

/-- The level of a key over a base. -/
def levM (wd : Nat) (base key : Int) : Int :=
  if key < base then -1 else if uu wd base / 64 = uu wd key / 64 then 0 else if uu wd base / 4096 = uu wd key / 4096 then 1 else if uu wd base / 262144 = uu wd key / 262144 then 2 else 3
/-- The bucket of a key at a level. -/
def bkM (wd : Nat) (key : Int) (l : Nat) : Int := uu wd key / 64 ^ l % 64
theorem bkM_0 (wd : Nat) (key : Int) : bkM wd key 0 = uu wd key % 64 := by unfold bkM; simp
theorem bkM_1 (wd : Nat) (key : Int) : bkM wd key 1 = uu wd key / 64 % 64 := by unfold bkM; simp
theorem bkM_2 (wd : Nat) (key : Int) : bkM wd key 2 = uu wd key / 4096 % 64 := by unfold bkM; rfl
theorem bkM_rng (wd : Nat) (key : Int) (l : Nat) : 0 ≤ bkM wd key l ∧ bkM wd key l < 64 := by unfold bkM; omega
theorem levM_cases (wd : Nat) (base key : Int) : (levM wd base key = -1 ∧ key < base) ∨ (base ≤ key ∧ ((levM wd base key = 0 ∧ uu wd base / 64 = uu wd key / 64) ∨ (levM wd base key = 1 ∧ uu wd base / 64 ≠ uu wd key / 64 ∧ uu wd base / 4096 = uu wd key / 4096)
    ∨ (levM wd base key = 2 ∧ uu wd base / 4096 ≠ uu wd key / 4096 ∧ uu wd base / 262144 = uu wd key / 262144) ∨ (levM wd base key = 3 ∧ uu wd base / 262144 ≠ uu wd key / 262144))) := by
  unfold levM
  by_cases h : key < base
  · simp [h]
  · refine .inr ⟨by omega, ?_⟩
    simp only [h, if_false]
    by_cases h0 : uu wd base / 64 = uu wd key / 64
    · simp [h0]
    · by_cases h1 : uu wd base / 4096 = uu wd key / 4096
      · simp [h0, h1]
      · by_cases h2 : uu wd base / 262144 = uu wd key / 262144
        · simp [h0, h1, h2]
        · simp [h0, h1, h2]
theorem levM_is {wd : Nat} {base key : Int} (h : base ≤ key) : (uu wd base / 64 = uu wd key / 64 → levM wd base key = 0) ∧ (uu wd base / 64 ≠ uu wd key / 64 → uu wd base / 4096 = uu wd key / 4096 → levM wd base key = 1)
    ∧ (uu wd base / 4096 ≠ uu wd key / 4096 → uu wd base / 262144 = uu wd key / 262144 → levM wd base key = 2) ∧ (uu wd base / 262144 ≠ uu wd key / 262144 → levM wd base key = 3) := by
  rcases levM_cases wd base key with ⟨_, _⟩ | ⟨_, h | h | h | h⟩ <;> refine ⟨fun _ => ?_, fun _ _ => ?_, fun _ _ => ?_, fun _ => ?_⟩ <;> omega

/-- In reach. -/
def reach (wd : Nat) (base key : Int) : Prop := base ≤ key ∧ uu wd base / 262144 = uu wd key / 262144
theorem reach_iff {wd : Nat} {base key : Int} : reach wd base key ↔ 0 ≤ levM wd base key ∧ levM wd base key ≤ 2 := by
  unfold reach
  rcases levM_cases wd base key with ⟨_, _⟩ | ⟨_, h | h | h | h⟩ <;> omega
/-- The place of a key: level and bucket in one. -/
def pos (wd : Nat) (base key : Int) : Nat := (levM wd base key * 64 + bkM wd key (levM wd base key).toNat).toNat
theorem pos_is {wd : Nat} {base key : Int} (h : reach wd base key) : ∃ L : Nat, L < 3 ∧ levM wd base key = (L : Int) ∧ ∃ b : Nat, b < 64 ∧ bkM wd key L = (b : Int) ∧ pos wd base key = L * 64 + b := by
  obtain ⟨h0, h2⟩ := reach_iff.1 h
  obtain ⟨L, hL⟩ := Int.eq_ofNat_of_zero_le h0
  have hb := bkM_rng wd key L
  obtain ⟨b, hb'⟩ := Int.eq_ofNat_of_zero_le hb.1
  refine ⟨L, by omega, hL, b, by omega, hb', ?_⟩
  unfold pos
  rw [hL]
  simp only [Int.ofNat_eq_natCast, Int.toNat_natCast] at *
  rw [hb']
  omega
theorem pos_lt {wd : Nat} {base key : Int} (h : reach wd base key) : pos wd base key < 192 := by
  obtain ⟨L, hL, _, b, hb, _, e⟩ := pos_is h
  omega
theorem pos_num {wd : Nat} {base key : Int} (h : reach wd base key) : (uu wd base / 64 = uu wd key / 64 → (pos wd base key : Int) = uu wd key % 64) ∧ (uu wd base / 64 ≠ uu wd key / 64 → uu wd base / 4096 = uu wd key / 4096 → (pos wd base key : Int) = 64 + uu wd key / 64 % 64)
    ∧ (uu wd base / 4096 ≠ uu wd key / 4096 → (pos wd base key : Int) = 128 + uu wd key / 4096 % 64) := by
  obtain ⟨L, hL, e1, b, hb, e2, e⟩ := pos_is h
  obtain ⟨i0, i1, i2, _⟩ := levM_is (wd := wd) h.1
  have hr := h.2
  have h3 : L = 0 ∨ L = 1 ∨ L = 2 := by omega
  refine ⟨fun q => ?_, fun q q' => ?_, fun q => ?_⟩
  · have := i0 q
    obtain rfl : L = 0 := by omega
    rw [bkM_0] at e2; omega
  · have := i1 q q'
    obtain rfl : L = 1 := by omega
    rw [bkM_1] at e2; omega
  · have := i2 q hr
    obtain rfl : L = 2 := by omega
    rw [bkM_2] at e2; omega
/-- A greater key lies no lower. -/
theorem pos_mono {wd : Nat} {base x y : Int} (hb : 0 ≤ base) (hx : reach wd base x) (hy : reach wd base y) (h : x ≤ y) : pos wd base x ≤ pos wd base y := by
  obtain ⟨x0, x1, x2⟩ := pos_num hx
  obtain ⟨y0, y1, y2⟩ := pos_num hy
  have u0 := uu_nn wd hb
  have u1 := uu_le wd hx.1
  have u2 := uu_le wd h
  have hx2 := hx.2
  have hy2 := hy.2
  generalize uu wd base = B at *
  generalize uu wd x = X at *
  generalize uu wd y = Y at *
  by_cases a0 : B / 64 = X / 64
  · have := x0 a0
    by_cases b0 : B / 64 = Y / 64
    · have := y0 b0; omega
    · by_cases b1 : B / 4096 = Y / 4096
      · have := y1 b0 b1; omega
      · have := y2 b1; omega
  · by_cases a1 : B / 4096 = X / 4096
    · have := x1 a0 a1
      by_cases b1 : B / 4096 = Y / 4096
      · have := y1 (by omega) b1; omega
      · have := y2 b1; omega
    · have := x2 a1
      have := y2 (by omega)
      omega
/-- What a base moved forward does to a key's place: the moved base's own bucket, at its own level of 1 or 2, comes down; all else stays. -/
theorem pos_turn {wd : Nat} {base to key : Int} (hb : 0 ≤ base) (h1 : base ≤ to) (h2 : to ≤ key) (hr : reach wd base key) : reach wd to key ∧
    (levM wd base to = 0 → pos wd to key = pos wd base key) ∧ levM wd base to ≠ 3 ∧ levM wd base to ≠ -1 ∧
    (∀ L : Nat, levM wd base to = (L : Int) → 1 ≤ L → L ≤ 2 → (pos wd base key ≠ pos wd base to → pos wd to key = pos wd base key ∧ pos wd to key ≠ pos wd base to) ∧ (pos wd base key = pos wd base to → pos wd to key < L * 64)) := by
  have u0 := uu_nn wd hb
  have u1 := uu_le wd h1
  have u2 := uu_le wd h2
  have hr2 := hr.2
  have hrt : reach wd base to := ⟨h1, by omega⟩
  have hrk : reach wd to key := ⟨h2, by have := hrt.2; omega⟩
  obtain ⟨x0, x1, x2⟩ := pos_num hr
  obtain ⟨y0, y1, y2⟩ := pos_num hrt
  obtain ⟨z0, z1, z2⟩ := pos_num hrk
  have ht2 := hrt.2
  have lc := levM_cases wd base to
  refine ⟨hrk, ?_⟩
  generalize levM wd base to = V at *
  generalize pos wd base key = p at *
  generalize pos wd to key = q at *
  generalize pos wd base to = r at *
  generalize uu wd base = B at *
  generalize uu wd to = X at *
  generalize uu wd key = Y at *
  clear hr hrt hrk
  rcases lc with ⟨hV, hc⟩ | ⟨_, hc | hc | hc | hc⟩
  · omega
  · refine ⟨fun _ => ?_, by omega, by omega, fun L hL h1 h2 => by omega⟩
    by_cases a0 : B / 64 = Y / 64
    · have := x0 a0; have := z0 (by omega); omega
    · by_cases a1 : B / 4096 = Y / 4096
      · have := x1 a0 a1; have := z1 (by omega) (by omega); omega
      · have := x2 a1; have := z2 (by omega); omega
  · refine ⟨fun _ => by omega, by omega, by omega, fun L hL h1 h2 => ?_⟩
    obtain rfl : L = 1 := by omega
    have hr := y1 hc.2.1 hc.2.2
    by_cases a0 : B / 64 = Y / 64
    · omega
    · by_cases a1 : B / 4096 = Y / 4096
      · have hp := x1 a0 a1
        by_cases c0 : X / 64 = Y / 64
        · have := z0 c0; omega
        · have := z1 c0 (by omega); omega
      · have hp := x2 a1
        have := z2 (by omega); omega
  · refine ⟨fun _ => by omega, by omega, by omega, fun L hL h1 h2 => ?_⟩
    obtain rfl : L = 2 := by omega
    have hr := y2 hc.2.1
    by_cases a1 : B / 4096 = Y / 4096
    · omega
    · have hp := x2 a1
      by_cases c0 : X / 64 = Y / 64
      · have := z0 c0; omega
      · by_cases c1 : X / 4096 = Y / 4096
        · have := z1 c0 c1; omega
        · have := z2 c1; omega
  · omega

/-! ### a list parted by place -/
section
variable {p : It → Nat}
def part (p : It → Nat) (i : Nat) (l : List It) : List It := l.filter fun x => p x == i
def below (p : It → Nat) (m : Nat) (l : List It) : List It := l.filter fun x => decide (p x < m)
theorem mem_part {i : Nat} {l : List It} {x : It} : x ∈ part p i l ↔ x ∈ l ∧ p x = i := by simp [part]
theorem part_sub (i : Nat) (l : List It) : (part p i l).Sublist l := List.filter_sublist
theorem part_rises {l : List It} (h : Rises l) (i : Nat) : Rises (part p i l) := List.Pairwise.sublist (part_sub i l) h
theorem part_len (i : Nat) (l : List It) : (part p i l).length ≤ l.length := (part_sub i l).length_le
theorem part_nil_iff {i : Nat} {l : List It} : part p i l = [] ↔ ∀ x ∈ l, p x ≠ i := by simp [part, List.filter_eq_nil_iff]
theorem below_succ : ∀ {l : List It} (m : Nat), l.Pairwise (fun x y => p x ≤ p y) → below p (m + 1) l = below p m l ++ part p m l
  | [], m, _ => rfl
  | x :: l, m, h => by
    obtain ⟨h1, h2⟩ := List.pairwise_cons.1 h
    have ih := below_succ m h2
    unfold below part at *
    by_cases c1 : p x < m
    · have c2 : p x < m + 1 := by omega
      have c3 : ¬ p x = m := by omega
      simp only [List.filter_cons, decide_eq_true c1, decide_eq_true c2, beq_eq_false_iff_ne.2 c3]
      simp [ih]
    · have e : l.filter (fun x => decide (p x < m)) = [] := List.filter_eq_nil_iff.2 fun y hy => by have := h1 y hy; simp; omega
      rw [e] at ih
      by_cases c2 : p x = m
      · have c3 : p x < m + 1 := by omega
        simp only [List.filter_cons, decide_eq_false c1, decide_eq_true c3, beq_iff_eq.2 c2, e]
        simpa using ih
      · have c3 : ¬ p x < m + 1 := by omega
        simp only [List.filter_cons, decide_eq_false c1, decide_eq_false c3, beq_eq_false_iff_ne.2 c2, e]
        simpa using ih
theorem below_zero (l : List It) : below p 0 l = [] := by simp [below]
theorem below_full {l : List It} {n : Nat} (h : ∀ x ∈ l, p x < n) : below p n l = l := List.filter_eq_self.2 fun x hx => by simpa using h x hx
theorem below_same {l : List It} {m : Nat} (h : l.Pairwise (fun x y => p x ≤ p y)) (he : part p m l = []) : below p (m + 1) l = below p m l := by rw [below_succ m h, he, List.append_nil]
theorem below_skip {l : List It} (h : l.Pairwise (fun x y => p x ≤ p y)) (m : Nat) : ∀ n, m ≤ n → (∀ j, m ≤ j → j < n → part p j l = []) → below p n l = below p m l := by
  intro n hn
  induction n with
  | zero => intro _; have : m = 0 := by omega
            rw [this]
  | succ n ih =>
    intro he
    by_cases e : m = n + 1
    · rw [e]
    · rw [below_same h (he n (by omega) (by omega)), ih (by omega) fun j h1 h2 => he j h1 (by omega)]
/-- The first place that has something has the first one. -/
theorem part_first {l : List It} {i : Nat} (h : l.Pairwise (fun x y => p x ≤ p y)) (he : ∀ j, j < i → part p j l = []) (hi : part p i l ≠ []) : ∃ x r, part p i l = x :: r ∧ ∃ t, l = x :: t := by
  cases l with
  | nil => exact absurd rfl hi
  | cons y l =>
    have hy : ¬ p y < i := fun hlt => by
      have := part_nil_iff.1 (he _ hlt) y (by simp)
      exact this rfl
    obtain ⟨x, hx⟩ := List.exists_mem_of_ne_nil _ hi
    obtain ⟨hx1, hx2⟩ := mem_part.1 hx
    have hle : p y ≤ i := by
      rcases List.mem_cons.1 hx1 with rfl | hx1
      · omega
      · have := (List.pairwise_cons.1 h).1 x hx1; omega
    have e : p y = i := by omega
    exact ⟨y, part p i l, by unfold part; rw [List.filter_cons]; simp [e], l, rfl⟩
/-- One more. -/
theorem part_ins {l : List It} {y : It} (h : Rises l) (hy : ∀ x ∈ l, x.i ≠ y.i) (i : Nat) : part p i (ins y l) = if p y = i then ins y (part p i l) else part p i l := by
  have hr := ins_rises h hy
  have hp : (part p i (ins y l)).Perm (part p i (l ++ [y])) := (ins_perm y l).filter _
  have e : part p i (l ++ [y]) = part p i l ++ (if p y = i then [y] else []) := by
    unfold part
    rw [List.filter_append]
    by_cases c : p y = i <;> simp [c]
  rw [e] at hp
  have hr1 : Rises (part p i (ins y l)) := part_rises hr i
  split at hp <;> rename_i c
  · rw [if_pos c]
    exact Rises.eq_of_perm hr1 (ins_rises (part_rises h i) fun x hx => hy x (mem_part.1 hx).1) (hp.trans (ins_perm y _).symm)
  · rw [if_neg c]
    rw [List.append_nil] at hp
    exact Rises.eq_of_perm hr1 (part_rises h i) hp
/-- One less. -/
theorem part_erase {l : List It} (q : It → Bool) (i : Nat) (x : It) (hx : l.find? q = some x) : part p i (l.eraseP q) = if p x = i then (part p i l).eraseP q else part p i l := by
  obtain ⟨hq, as, bs, rfl, ha⟩ := List.find?_eq_some_iff_append.1 hx
  have hn : ∀ a ∈ as, ¬ q a = true := fun a h => by simpa using ha a h
  have e1 : (as ++ x :: bs).eraseP q = as ++ bs := by rw [List.eraseP_append_right _ hn, List.eraseP_cons_of_pos hq]
  rw [e1]
  unfold part
  rw [List.filter_append, List.filter_append, List.filter_cons]
  by_cases c : p x = i
  · have c' : (p x == i) = true := by simpa using c
    rw [if_pos c, if_pos c', List.eraseP_append_right _ (fun a h => hn a (List.mem_filter.1 h).1), List.eraseP_cons_of_pos hq]
  · have c' : (p x == i) = false := by simpa using c
    rw [if_neg c, c']
    simp
theorem part_congr {p' : It → Nat} {l : List It} {i : Nat} (h : ∀ x ∈ l, p x = i ↔ p' x = i) : part p i l = part p' i l := by
  unfold part
  apply List.filter_congr
  intro x hx
  have := h x hx
  by_cases c : p x = i
  · simp [c, this.1 c]
  · have c2 : ¬ p' x = i := fun e => c (this.2 e)
    rw [beq_eq_false_iff_ne.2 c, beq_eq_false_iff_ne.2 c2]
end
/-- The place of an item. -/
def pl (wd : Nat) (base : Int) (x : It) : Nat := pos wd base x.k
/-- Whatever lies in the wheel: in order, each item's ID once, all in reach of the base. -/
structure Lies (wd : Nat) (base : Int) (l : List It) : Prop where
  b0 : 0 ≤ base
  rises : Rises l
  ids : Ids l
  near : ∀ x ∈ l, reach wd base x.k
theorem Lies.sorted {wd : Nat} {base : Int} {l : List It} (h : Lies wd base l) : l.Pairwise (fun x y => pl wd base x ≤ pl wd base y) := by
  refine List.Pairwise.imp_of_mem (R := fun x y : It => x.lt y = true) (fun {x y} hx hy hlt => ?_) (show List.Pairwise _ l from h.rises)
  refine pos_mono h.b0 (h.near x hx) (h.near y hy) ?_
  rcases (It.lt_iff x y).1 hlt with h | ⟨h, _⟩ <;> omega
theorem Lies.lt {wd : Nat} {base : Int} {l : List It} (h : Lies wd base l) : ∀ x ∈ l, pl wd base x < 192 := fun x hx => pos_lt (h.near x hx)
theorem Lies.nil (wd : Nat) {base : Int} (h : 0 ≤ base) : Lies wd base [] := ⟨h, List.Pairwise.nil, by simp [Ids], by simp⟩
end Go.Proofs.YtfgffgicfieieaaDoor
