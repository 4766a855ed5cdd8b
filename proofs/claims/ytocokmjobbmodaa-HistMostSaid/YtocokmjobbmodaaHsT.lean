/-
  How many of what is laid are under way at once.
-/
import Derived.Test.YtocokmjobbmodaaHsS
namespace Go.Proofs.Ytocokmjobbmodaa
set_option linter.unusedVariables false
set_option linter.unusedSimpArgs false
theorem countP_le_one {L : List Dn} {p : Dn → Bool} (h : L.Pairwise fun x y => ¬ (p x = true ∧ p y = true)) : L.countP p ≤ 1 := by
  induction L with
  | nil => simp
  | cons a r ih =>
    rw [List.countP_cons]
    obtain ⟨h1, h2⟩ := List.pairwise_cons.1 h
    by_cases ha : p a = true
    · have : r.countP p = 0 := by
        rw [List.countP_eq_zero]
        intro x hx hp
        exact h1 x hx ⟨ha, hp⟩
      simp [this, ha]
    · have := ih h2
      simp [ha]
      omega
theorem two_le_countP {L : List Dn} {p : Dn → Bool} {i j : Nat} (hij : i < j) (hj : j < L.length) (h1 : p (dns L i) = true) (h2 : p (dns L j) = true) : 2 ≤ L.countP p := by
  have e : L.countP p = (L.take j).countP p + (L.drop j).countP p := by rw [← List.countP_append, List.take_append_drop]
  have a1 : 1 ≤ (L.take j).countP p := by
    have : 0 < (L.take j).countP p := List.countP_pos_iff.2 ⟨dns L i, by
      apply List.mem_of_getElem? (i := i)
      rw [List.getElem?_take, if_pos hij, dns_get (by omega)], h1⟩
    omega
  have a2 : 1 ≤ (L.drop j).countP p := by
    have : 0 < (L.drop j).countP p := List.countP_pos_iff.2 ⟨dns L j, by
      apply List.mem_of_getElem? (i := 0)
      rw [List.getElem?_drop, Nat.add_zero, dns_get hj], h2⟩
    omega
  omega
def whoB (k : Nat) (x : Dn) : Bool := x.who == (k : Int)
def b1 (b : Bool) : Nat := if b then 1 else 0
def seenN (f : Nat → Bool) : Nat := b1 (f 0) + b1 (f 1) + b1 (f 2) + b1 (f 3)
theorem split_who {L : List Dn} (h : ∀ x ∈ L, 0 ≤ x.who ∧ x.who < 4) (p : Dn → Bool) :
    L.countP p = L.countP (fun x => p x && whoB 0 x) + L.countP (fun x => p x && whoB 1 x) + L.countP (fun x => p x && whoB 2 x) + L.countP (fun x => p x && whoB 3 x) := by
  induction L with
  | nil => simp
  | cons a r ih =>
    have h1 := ih (fun x hx => h x (by simp [hx]))
    have h2 := h a (by simp)
    simp only [List.countP_cons]
    rw [h1]
    by_cases hp : p a = true
    · have : a.who = 0 ∨ a.who = 1 ∨ a.who = 2 ∨ a.who = 3 := by omega
      rcases this with e | e | e | e <;> simp [hp, whoB, e] <;> omega
    · simp [hp]
theorem not_on {x y : Dn} {t : Int} (h : aheadD x y = true) : ¬ (onB t x = true ∧ onB t y = true) := by
  rintro ⟨h1, h2⟩
  obtain ⟨a1, a2⟩ := ahead_to h
  simp [onB, a1] at h1 h2
  omega
theorem LaidL.most_le {L : List Dn} (h : LaidL L) : mostL L ≤ seenN fun k => L.any (whoB k) := by
  rw [mostL_le]
  intro x hx
  unfold cnt
  rw [split_who (fun x hx => (h.el x hx).1)]
  have one : ∀ k, L.countP (fun y => onB x.fr y && whoB k y) ≤ b1 (L.any (whoB k)) := fun k => by
    by_cases hs : L.any (whoB k) = true
    · rw [hs]
      refine countP_le_one (h.pw.imp fun {y z} hb => ?_)
      simp only [Bool.and_eq_true]
      rintro ⟨⟨a1, a2⟩, c1, c2⟩
      simp [whoB] at a2 c2
      exact not_on (hb (by omega)).2 ⟨a1, c1⟩
    · have : L.countP (fun y => onB x.fr y && whoB k y) = 0 := by
        rw [List.countP_eq_zero]
        intro y hy hyp
        simp only [Bool.and_eq_true] at hyp
        exact hs (List.any_eq_true.2 ⟨y, hy, hyp.2⟩)
      omega
  have o0 := one 0
  have o1 := one 1
  have o2 := one 2
  have o3 := one 3
  unfold seenN
  dsimp only
  omega
theorem LaidL.on_self {L : List Dn} (h : LaidL L) {x : Dn} (hx : x ∈ L) : onB x.fr x = true := by
  rcases (h.el x hx).2.2.2 with e | e
  · simp [onB, e]
  · simp [onB]; right; exact e.1
theorem LaidL.most_pos {L : List Dn} (h : LaidL L) (hne : 0 < L.length) : 1 ≤ mostL L := by
  obtain ⟨x, hx⟩ : ∃ x, x ∈ L := ⟨L[0], List.getElem_mem hne⟩
  refine Nat.le_trans ?_ (le_mostL hx)
  have : 0 < cnt L x.fr := List.countP_pos_iff.2 ⟨x, hx, h.on_self hx⟩
  omega
/-- Any two in line. -/
def LineP (L : List Dn) (n : Nat) : Prop := ∀ i, i < n → ∀ k, k < i → aheadD (dns L i) (dns L k) = true ∨ aheadD (dns L k) (dns L i) = true
theorem LaidL.most_one {L : List Dn} (h : LaidL L) (hne : 0 < L.length) : mostL L = 1 ↔ LineP L L.length := by
  have hp := h.most_pos hne
  constructor
  · intro h1 i hi k hk
    rcases ha : aheadD (dns L i) (dns L k)
    · rcases hb : aheadD (dns L k) (dns L i)
      · exfalso
        have hkl : k < L.length := by omega
        have ei := h.ended hi
        have ek := h.ended hkl
        have oi : ∀ t, (dns L i).fr ≤ t → (dns L k).fr ≤ t → (t = (dns L i).fr ∨ t = (dns L k).fr) → onB t (dns L i) = true ∧ onB t (dns L k) = true := fun t h1 h2 h3 => by
          simp [aheadD, opn] at ha hb
          simp [onB]
          by_cases z1 : (dns L i).to = -1 <;> by_cases z2 : (dns L k).to = -1
          · simp [z1, z2, h1, h2]
          · have := hb z2
            simp [z1, z2, h1, h2]
            omega
          · have := ha z1
            simp [z1, z2, h1, h2]
            omega
          · have := hb z2
            have := ha z1
            simp [z1, z2, h1, h2]
            omega
        have big : ∃ t, onB t (dns L i) = true ∧ onB t (dns L k) = true := by
          rcases Int.lt_or_le (dns L i).fr (dns L k).fr with h9 | h9
          · exact ⟨_, oi (dns L k).fr (by omega) (Int.le_refl _) (.inr rfl)⟩
          · exact ⟨_, oi (dns L i).fr (Int.le_refl _) h9 (.inl rfl)⟩
        obtain ⟨t, t1, t2⟩ := big
        have := two_le_countP hk hi t2 t1
        have := cnt_le L t
        unfold cnt at this
        omega
      · exact .inr rfl
    · exact .inl rfl
  · intro hl
    have : mostL L ≤ 1 := by
      rw [mostL_le]
      intro x hx
      refine countP_le_one ?_
      rw [List.pairwise_iff_getElem]
      intro i j hi hj hij
      have := hl j hj i hij
      simp only [show L[i] = dns L i by simp [dns, hi], show L[j] = dns L j by simp [dns, hj]]
      rcases this with h | h
      · intro hh; exact not_on h ⟨hh.2, hh.1⟩
      · exact not_on h
    omega
theorem any_take_succ {L : List Dn} {i : Nat} (hi : i < L.length) (p : Dn → Bool) : (L.take (i + 1)).any p = ((L.take i).any p || p (dns L i)) := by
  rw [take_succ_at (dns_get hi), List.any_append]
  simp
theorem seenN_le (f : Nat → Bool) : seenN f ≤ 4 := by
  unfold seenN b1
  split <;> split <;> split <;> split <;> omega
theorem seenN_upd {f : Nat → Bool} {k : Nat} (hk : k < 4) (hf : f k = false) : seenN (updB f k true) = seenN f + 1 := by
  match k, hk with
  | 0, _ => simp [seenN, updB, b1, hf]; omega
  | 1, _ => simp [seenN, updB, b1, hf]; omega
  | 2, _ => simp [seenN, updB, b1, hf]; omega
  | 3, _ => simp [seenN, updB, b1, hf]
theorem seenN_congr {f g : Nat → Bool} (h : ∀ k, k < 4 → f k = g k) : seenN f = seenN g := by
  simp [seenN, h 0 (by omega), h 1 (by omega), h 2 (by omega), h 3 (by omega)]
end Go.Proofs.Ytocokmjobbmodaa
