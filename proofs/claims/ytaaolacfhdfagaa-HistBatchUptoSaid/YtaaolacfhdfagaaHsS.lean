/-
  some; what Laid tells of (plain).
-/
import Derived.Test.YtaaolacfhdfagaaHsN
import Derived.Test.YtaaolacfhdfagaaHsM
namespace Go.Proofs.Ytaaolacfhdfagaa
set_option maxRecDepth 100000
open Go.RowKit
set_option linter.unusedVariables false
set_option linter.unusedSimpArgs false
set_option maxRecDepth 100000

set_option maxHeartbeats 2000000
def someL (ds : Nat → Dn) (n : Nat) : List Dn := (List.range (min n 40)).map fun k => nearD (ds k)
def tabD (ds : Nat → Dn) (p : Nat) : List Dn := (List.range p).map fun k => nearD (ds k)
theorem tabD_succ (ds : Nat → Dn) (p : Nat) : tabD ds (p + 1) = tabD ds p ++ [nearD (ds p)] := by unfold tabD; rw [List.range_succ, List.map_append]; rfl
theorem someL_len (ds : Nat → Dn) (n : Nat) : (someL ds n).length = min n 40 := by simp [someL]
/-! ### what is laid -/
def Bf (x y : Dn) : Prop := x.who = y.who → x.place < y.place ∧ aheadD x y = true
structure LaidP (fa fn : Nat → Int) (fo : Nat → Bool) (out : List Dn) (i : Nat) : Prop where
  fab : ∀ k, k < 4 → 0 ≤ fa k ∧ fa k ≤ 13 * (i : Int)
  fnb : ∀ k, k < 4 → 0 ≤ fn k ∧ fn k ≤ (i : Int)
  el : ∀ x ∈ out, (0 ≤ x.who ∧ x.who < 4) ∧ (0 ≤ x.place ∧ x.place < fn x.who.toNat) ∧ (0 ≤ x.fr ∧ x.fr ≤ 13 * (i : Int)) ∧ ((x.to = -1 ∧ fo x.who.toNat = true) ∨ (x.fr ≤ x.to ∧ x.to < fa x.who.toNat))
  pw : out.Pairwise Bf
  len : out.length ≤ i
def updI (f : Nat → Int) (k : Nat) (v : Int) : Nat → Int := fun j => if j = k then v else f j
def updB (f : Nat → Bool) (k : Nat) (v : Bool) : Nat → Bool := fun j => if j = k then v else f j
theorem LaidP.start : LaidP (fun _ => 0) (fun _ => 0) (fun _ => false) [] 0 :=
  ⟨fun k _ => by simp, fun k _ => by simp, fun x hx => by simp at hx, List.Pairwise.nil, by simp⟩
theorem LaidP.skip {fa fn : Nat → Int} {fo : Nat → Bool} {out : List Dn} {i : Nat} (h : LaidP fa fn fo out i) : LaidP fa fn fo out (i + 1) := by
  refine ⟨fun k hk => ?_, fun k hk => ?_, fun x hx => ?_, h.pw, by have := h.len; omega⟩
  · have := h.fab k hk; omega
  · have := h.fnb k hk; omega
  · have := h.el x hx
    refine ⟨this.1, this.2.1, ⟨this.2.2.1.1, by have := this.2.2.1.2; omega⟩, this.2.2.2⟩
theorem LaidP.snoc {fa fn : Nat → Int} {fo fo' : Nat → Bool} {out : List Dn} {i : Nat} (h : LaidP fa fn fo out i) {k : Nat} (hk : k < 4) (ho : fo k = false) {a b : Int} (ha : 0 ≤ a ∧ a < 4) (hb : 0 ≤ b ∧ b < 9) (X : Dn)
    (h1 : X.who = (k : Int)) (h2 : X.place = fn k) (h3 : X.fr = fa k + a) (h4 : (X.to = -1 ∧ fo' = updB fo k true) ∨ (X.to = fa k + a + b ∧ fo' = fo)) :
    LaidP (updI fa k (fa k + a + b + 1)) (updI fn k (fn k + 1)) fo' (out ++ [X]) (i + 1) := by
  have hfa := h.fab k hk
  have hfn := h.fnb k hk
  refine ⟨fun j hj => ?_, fun j hj => ?_, fun x hx => ?_, ?_, by have := h.len; simp; omega⟩
  · have := h.fab j hj
    unfold updI
    split <;> omega
  · have := h.fnb j hj
    unfold updI
    split <;> omega
  · rcases List.mem_append.1 hx with hx | hx
    · obtain ⟨e1, e2, e3, e4⟩ := h.el x hx
      refine ⟨e1, ⟨e2.1, ?_⟩, ⟨e3.1, by have := e3.2; omega⟩, ?_⟩
      · unfold updI
        split
        · rename_i e; rw [e] at e2; omega
        · exact e2.2
      · rcases e4 with ⟨e5, e6⟩ | ⟨e5, e6⟩
        · left
          refine ⟨e5, ?_⟩
          rcases h4 with ⟨_, rfl⟩ | ⟨_, rfl⟩
          · unfold updB
            split
            · rfl
            · exact e6
          · exact e6
        · right
          refine ⟨e5, ?_⟩
          unfold updI
          split
          · rename_i e; rw [e] at e6; omega
          · exact e6
    · simp at hx
      subst hx
      rw [h1]
      refine ⟨⟨by omega, by omega⟩, ⟨by omega, ?_⟩, ⟨by omega, by omega⟩, ?_⟩
      · simp [updI]; omega
      · rcases h4 with ⟨e5, e6⟩ | ⟨e5, e6⟩
        · left; exact ⟨e5, by rw [e6]; simp [updB]⟩
        · right; refine ⟨by omega, ?_⟩; simp [updI]; omega
  · rw [List.pairwise_append]
    refine ⟨h.pw, List.pairwise_singleton _ _, fun x hx y hy => ?_⟩
    simp at hy
    subst hy
    intro e
    obtain ⟨e1, e2, e3, e4⟩ := h.el x hx
    rw [h1] at e
    rw [e] at e2 e4
    simp only [Int.toNat_natCast] at e2 e4
    rw [ho] at e4
    rcases e4 with ⟨_, e4⟩ | ⟨e4, e5⟩
    · cases e4
    · exact ⟨by omega, ahead_of (by omega) (by omega)⟩
/-- What a law wants of it. -/
structure LaidL (L : List Dn) : Prop where
  len : L.length ≤ 40
  el : ∀ x ∈ L, (0 ≤ x.who ∧ x.who < 4) ∧ (0 ≤ x.place ∧ x.place < 40) ∧ (0 ≤ x.fr ∧ x.fr ≤ 600) ∧ (x.to = -1 ∨ (x.fr ≤ x.to ∧ x.to ≤ 600))
  pw : L.Pairwise Bf
theorem LaidP.laid {fa fn : Nat → Int} {fo : Nat → Bool} {out : List Dn} {i : Nat} (h : LaidP fa fn fo out i) (hi : i ≤ 40) : LaidL out := by
  refine ⟨by have := h.len; omega, fun x hx => ?_, h.pw⟩
  obtain ⟨e1, e2, e3, e4⟩ := h.el x hx
  have b1 := h.fab x.who.toNat (by omega)
  have b2 := h.fnb x.who.toNat (by omega)
  exact ⟨e1, by omega, by omega, by omega⟩
theorem LaidL.ended {L : List Dn} (h : LaidL L) {i : Nat} (hi : i < L.length) : (dns L i).to = -1 ∨ (dns L i).fr ≤ (dns L i).to := by
  rcases (h.el _ (dns_mem hi)).2.2.2 with h | h
  · exact .inl h
  · exact .inr h.1
/-- None is ahead of itself; of two at most one is. -/
theorem LaidL.anti {L : List Dn} (h : LaidL L) {i k : Nat} (hi : i < L.length) (hk : k < L.length) (hx : aheadD (dns L i) (dns L k) = true) : i ≠ k ∧ aheadD (dns L k) (dns L i) = false := by
  obtain ⟨a1, a2⟩ := ahead_to hx
  have e1 := h.ended hi
  have e2 := h.ended hk
  refine ⟨?_, ?_⟩
  · rintro rfl
    omega
  · rcases hb : aheadD (dns L k) (dns L i)
    · rfl
    · obtain ⟨b1, b2⟩ := ahead_to hb
      omega
/-- Of one worker's any two, one. -/
theorem LaidL.one {L : List Dn} (h : LaidL L) {i k : Nat} (hi : i < L.length) (hk : k < L.length) (hne : i ≠ k) (hw : (dns L i).who = (dns L k).who) (hx : aheadD (dns L i) (dns L k) = false) : aheadD (dns L k) (dns L i) = true := by
  rcases Nat.lt_or_ge i k with hlt | hge
  · have := (List.pairwise_iff_getElem.1 h.pw) i k hi hk hlt
    simp only [show L[i] = dns L i by simp [dns, hi], show L[k] = dns L k by simp [dns, hk]] at this
    rw [(this hw).2] at hx
    cases hx
  · have := (List.pairwise_iff_getElem.1 h.pw) k i hk hi (by omega)
    simp only [show L[i] = dns L i by simp [dns, hi], show L[k] = dns L k by simp [dns, hk]] at this
    exact (this hw.symm).2
theorem LaidL.trans {L : List Dn} (h : LaidL L) {i k j : Nat} (hk : k < L.length) (h1 : aheadD (dns L i) (dns L k) = true) (h2 : aheadD (dns L k) (dns L j) = true) : aheadD (dns L i) (dns L j) = true := by
  obtain ⟨a1, a2⟩ := ahead_to h1
  obtain ⟨b1, b2⟩ := ahead_to h2
  have e2 := h.ended hk
  exact ahead_of a1 (by omega)
theorem LaidL.right {L : List Dn} (h : LaidL L) : RightP L := by
  refine ⟨fun x hx => ?_, h.pw.imp fun hb e => .inl (hb e)⟩
  obtain ⟨e1, e2, e3, e4⟩ := h.el x hx
  simp only [wrongB, backB, opn]
  have a1 : ¬ x.who < 0 := by omega
  have a2 : ¬ x.place < 0 := by omega
  have a3 : ¬ x.fr < 0 := by omega
  rcases e4 with e4 | e4
  · simp [a1, a2, a3, e4]
  · have a4 : ¬ x.to < x.fr := by omega
    simp [a1, a2, a3, a4]
end Go.Proofs.Ytaaolacfhdfagaa
