/-
  Contracts of the heap's two ways: upward, downward.
  Contract of the heap's sift, upward and downward.
  Contracts of the heap's New, Len, Has, Min, Push.
  Contracts of the heap's remove, Pop, Drop.
-/
import Derived.Test.YtajhkdbldbifeaaGreatDoorHpA
import Derived.Test.YtajhkdbldbifeaaGreatDoorHpS
import Derived.Deep.LoopGhost
import Derived.Laws.ResultCell
namespace Go.Proofs.YtajhkdbldbifeaaGreatDoor
set_option maxRecDepth 100000
open Go.RowKit Go.ChangeMaps Go.MapKept
set_option linter.unusedVariables false
set_option linter.unusedSimpArgs false

theorem halfway (i : Nat) (h : 0 < i) : ((i : Int) - 1) / 2 = (((i - 1) / 2 : Nat) : Int) := by omega

/-- Which way the item at i must go up, and whether it must. -/
def upOK (xs : List It) (i : Nat) : Bool := decide (0 < i) && (gOf xs i).lt (gOf xs ((i - 1) / 2))

set_option maxRecDepth 100000 in
set_option maxHeartbeats 1000000 in
theorem hupward (w : World) (hb mb : Nat) (v : Value) (xs : List It) (h : HeapIs w hb v mb xs) (i : Nat) (hi : i < xs.length) (hs : xs.length ≤ 1000000) :
    Calls Tryz.prog 96 #[.pointer (some ⟨hb, 0, none⟩), .int .i64 (i : Int)] w fun e w' =>
      e = .returned (.tuple #[.int .i64 (((i - 1) / 2 : Nat) : Int), .bool (upOK xs i)]) ∧ Only [] w w' := by
  unfold upOK
  have hm : i ≤ 1000000 := by omega
  rcases Nat.eq_zero_or_pos i with h0 | h0
  · subst h0
    clear h hi
    go_enter Tryz.func96, Tryz.ntmps96
    go_wp2
    go_ret2
    exact ⟨rfl, Only.refl _ _⟩
  · have hh := halfway i h0
    have hc := hahead w hb mb v xs h i ((i - 1) / 2) hi (by omega)
    rw [← hh] at hc
    have hlt : (0 : Int) < (i : Int) := by omega
    have hp : (0 : Int) ≤ ((i : Int) - 1) / 2 := by omega
    have H := Lib.hid hh
    rw [← hh]
    clear h hh hi
    have e1 : decide (0 < i) = true := by simpa using h0
    rw [e1, Bool.true_and]
    generalize (gOf xs i).lt (gOf xs ((i - 1) / 2)) = b at hc ⊢
    go_enter Tryz.func96, Tryz.ntmps96
    go_wp2_with fail
    refine hc.mono ?_
    rintro e w' ⟨rfl, ho⟩
    go_wp2_with fail
    go_ret2
    exact ⟨rfl, ho⟩

/-- Which child of i comes first; and whether it is ahead of i. -/
def kid (xs : List It) (i : Nat) : Nat := if 2 * i + 2 < xs.length ∧ (gOf xs (2 * i + 2)).lt (gOf xs (2 * i + 1)) = true then 2 * i + 2 else 2 * i + 1
def downOK (xs : List It) (i : Nat) : Bool := decide (kid xs i < xs.length) && (gOf xs (kid xs i)).lt (gOf xs i)

set_option maxRecDepth 100000 in
set_option maxHeartbeats 2000000 in
theorem hdownward (w : World) (hb mb : Nat) (v : Value) (xs : List It) (h : HeapIs w hb v mb xs) (i : Nat) (hi : i < xs.length) (hs : xs.length ≤ 1000000) :
    Calls Tryz.prog 122 #[.pointer (some ⟨hb, 0, none⟩), .int .i64 (i : Int)] w fun e w' =>
      e = .returned (.tuple #[.int .i64 ((kid xs i : Nat) : Int), .bool (downOK xs i)]) ∧ Only [] w w' := by
  have hm : i ≤ 1000000 := by omega
  obtain ⟨A, cap, ev⟩ := h.row.form
  have c0 := h.c0
  rw [ev] at c0
  have ho0 : Only [] w w := Only.refl _ _
  have hlen : ∀ W, Only [] w W → W.cell? ⟨hb, 0, none⟩ = some (.slice A xs.length cap) := fun W ho => by rw [← ev]; exact (h.only0 ho).c0
  have ha := fun W (ho : Only [] w W) (a b : Nat) (ha : a < xs.length) (hb' : b < xs.length) => hahead W hb mb v xs (h.only0 ho) a b ha hb'
  clear h ev
  unfold downOK kid
  by_cases h1 : 2 * i + 2 < xs.length
  · have t1 : (2 : Int) * (i : Int) + 1 + 1 < (xs.length : Int) := by omega
    have e2 : ((2 * i + 2 : Nat) : Int) = 2 * (i : Int) + 1 + 1 := by omega
    have e1 : ((2 * i + 1 : Nat) : Int) = 2 * (i : Int) + 1 := by omega
    have a1 := ha w ho0 (2 * i + 2) (2 * i + 1) h1 (by omega)
    rw [e1, e2] at a1
    rcases hb1 : (gOf xs (2 * i + 2)).lt (gOf xs (2 * i + 1)) with _ | _
    · have e3 : (if 2 * i + 2 < xs.length ∧ false = true then 2 * i + 2 else 2 * i + 1) = 2 * i + 1 := if_neg (by simp)
      rw [e3]
      rw [hb1] at a1
      have a2 := fun W ho => ha W ho (2 * i + 1) i (by omega) hi
      rw [e1] at a2
      have t2 : (2 : Int) * (i : Int) + 1 < (xs.length : Int) := by omega
      have e4 : decide (2 * i + 1 < xs.length) = true := by simp; omega
      rw [e1, e4, Bool.true_and]
      generalize (gOf xs (2 * i + 1)).lt (gOf xs i) = bb at a2 ⊢
      generalize xs.length = n at *
      have K1 := Lib.hid e1
      have K2 := Lib.hid e2
      clear e1 e2 e3 e4 ha hb1 h1 hi
      go_enter Tryz.func122, Tryz.ntmps122
      go_wp2_with fail
      refine a1.mono ?_
      rintro e w1 ⟨rfl, o1⟩
      have c1 := hlen w1 o1
      go_wp2_with fail
      refine (a2 _ o1).mono ?_
      rintro e w2 ⟨rfl, o2⟩
      go_wp2_with fail
      go_ret2
      exact ⟨rfl, o1.trans' o2⟩
    · have e3 : (if 2 * i + 2 < xs.length ∧ true = true then 2 * i + 2 else 2 * i + 1) = 2 * i + 2 := if_pos ⟨h1, rfl⟩
      rw [e3]
      rw [hb1] at a1
      have a2 := fun W ho => ha W ho (2 * i + 2) i (by omega) hi
      rw [e2] at a2
      have e4 : decide (2 * i + 2 < xs.length) = true := by simp; omega
      rw [e2, e4, Bool.true_and]
      generalize (gOf xs (2 * i + 2)).lt (gOf xs i) = bb at a2 ⊢
      generalize xs.length = n at *
      have K1 := Lib.hid e1
      have K2 := Lib.hid e2
      clear e1 e2 e3 e4 ha hb1 h1 hi
      go_enter Tryz.func122, Tryz.ntmps122
      go_wp2_with fail
      refine a1.mono ?_
      rintro e w1 ⟨rfl, o1⟩
      have c1 := hlen w1 o1
      go_wp2_with fail
      refine (a2 _ o1).mono ?_
      rintro e w2 ⟨rfl, o2⟩
      go_wp2_with fail
      go_ret2
      exact ⟨rfl, o1.trans' o2⟩
  · have e3 : (if 2 * i + 2 < xs.length ∧ (gOf xs (2 * i + 2)).lt (gOf xs (2 * i + 1)) = true then 2 * i + 2 else 2 * i + 1) = 2 * i + 1 := if_neg (fun e => h1 e.1)
    rw [e3]
    have t1 : decide ((2 : Int) * (i : Int) + 1 + 1 < (xs.length : Int)) = false := decide_eq_false (by omega)
    have e1 : ((2 * i + 1 : Nat) : Int) = 2 * (i : Int) + 1 := by omega
    by_cases h2 : 2 * i + 1 < xs.length
    · have a2 := fun W ho => ha W ho (2 * i + 1) i h2 hi
      rw [e1] at a2
      have t2 : (2 : Int) * (i : Int) + 1 < (xs.length : Int) := by omega
      have e4 : decide (2 * i + 1 < xs.length) = true := by simp; omega
      rw [e1, e4, Bool.true_and]
      generalize (gOf xs (2 * i + 1)).lt (gOf xs i) = bb at a2 ⊢
      generalize xs.length = n at *
      have K1 := Lib.hid e1
      clear e1 e3 e4 ha h1 h2 hi
      go_enter Tryz.func122, Tryz.ntmps122
      go_wp2_with fail
      refine (a2 _ ho0).mono ?_
      rintro e w2 ⟨rfl, o2⟩
      go_wp2_with fail
      go_ret2
      exact ⟨rfl, o2⟩
    · have t2 : decide ((2 : Int) * (i : Int) + 1 < (xs.length : Int)) = false := decide_eq_false (by omega)
      have e4 : decide (2 * i + 1 < xs.length) = false := by simp; omega
      rw [e1, e4, Bool.false_and]
      generalize xs.length = n at *
      have K1 := Lib.hid e1
      clear e1 e3 e4 ha h1 h2 hi
      go_enter Tryz.func122, Tryz.ntmps122
      go_wp2_with fail
      go_ret2
      exact ⟨rfl, ho0⟩
end Go.Proofs.YtajhkdbldbifeaaGreatDoor

namespace Go.Proofs.YtajhkdbldbifeaaGreatDoor
set_option maxRecDepth 100000
open Go.RowKit Go.ChangeMaps Go.MapKept
set_option linter.unusedVariables false
set_option linter.unusedSimpArgs false

/-- A way, as a method that is bound to its heap. -/
abbrev wayOf (f hb : Nat) : Value := .func (.func f) #[.pointer (some ⟨hb, 0, none⟩)] #[]

/-- What an upward move keeps. -/
def UpInv (k : Prop) (xs : List It) (i : Nat) : Prop := i < xs.length ∧ HInv (gOf xs) xs.length i ∧ (k → HKids (gOf xs) xs.length i)
theorem UpInv.step {k : Prop} {xs : List It} {i : Nat} (h : UpInv k xs i) (hu : upOK xs i = true) : UpInv k (swl xs i ((i - 1) / 2)) ((i - 1) / 2) := by
  obtain ⟨hi, h1, h2⟩ := h
  simp only [upOK, Bool.and_eq_true, decide_eq_true_eq] at hu
  have hp : (i - 1) / 2 < xs.length := by omega
  unfold UpInv
  rw [gOf_swl xs hi hp, swl_length]
  exact ⟨by omega, h1.up hu.1 hi hu.2, fun _ => HKids.up h1 hu.1 hi hu.2⟩
theorem UpInv.stop {xs : List It} {i : Nat} (hu : upOK xs i = false) : HUp (gOf xs) i := by
  intro hi
  unfold upOK at hu
  rw [show decide (0 < i) = true by simpa using hi, Bool.true_and] at hu
  exact hu
/-- What a downward move keeps. -/
def DownInv (xs : List It) (i : Nat) : Prop := i < xs.length ∧ HInv (gOf xs) xs.length i ∧ HUp (gOf xs) i
theorem kid_cases (xs : List It) (i : Nat) : kid xs i = 2 * i + 1 ∨ kid xs i = 2 * i + 2 := by unfold kid; split <;> simp
theorem kid_least {xs : List It} {i : Nat} (hk : kid xs i < xs.length) : ∀ d, 0 < d → d < xs.length → (d - 1) / 2 = i → (gOf xs (kid xs i)).le (gOf xs d) := by
  intro d hd0 hdn hdi
  have hd : d = 2 * i + 1 ∨ d = 2 * i + 2 := by omega
  unfold kid at hk ⊢
  split
  · rename_i h
    rcases hd with rfl | rfl
    · exact It.le_of_lt h.2
    · exact It.le_refl _
  · rename_i h
    rcases hd with rfl | rfl
    · exact It.le_refl _
    · exact It.le_of_not (fun e => h ⟨hdn, e⟩)
theorem DownInv.step {xs : List It} {i : Nat} (h : DownInv xs i) (hd : downOK xs i = true) : DownInv (swl xs i (kid xs i)) (kid xs i) := by
  obtain ⟨hi, h1, h2⟩ := h
  simp only [downOK, Bool.and_eq_true, decide_eq_true_eq] at hd
  have hc := kid_cases xs i
  have := h1.down h2 (c := kid xs i) (by omega) hd.1 (by omega) (kid_least hd.1) hd.2
  unfold DownInv
  rw [gOf_swl xs hi hd.1, swl_length]
  exact ⟨hd.1, this.1, this.2⟩
theorem DownInv.stop {xs : List It} {i : Nat} (h : DownInv xs i) (hd : downOK xs i = false) : IsHeap (gOf xs) xs.length := by
  refine IsHeap.of h.2.1 (fun c hc0 hcn hci => ?_) h.2.2
  have hk : kid xs i < xs.length := by
    have hc := kid_cases xs i
    unfold kid
    split
    · rename_i e; exact e.1
    · omega
  have h3 : (gOf xs i).le (gOf xs (kid xs i)) := by
    unfold downOK at hd
    rw [show decide (kid xs i < xs.length) = true by simpa using hk, Bool.true_and] at hd
    exact hd
  exact It.le_trans h3 (kid_least hk c hc0 hcn hci)

set_option maxRecDepth 100000 in
set_option maxHeartbeats 2000000 in
theorem sift_up (k : Prop) (w : World) (hb mb : Nat) (v : Value) (xs : List It) (h : HeapIs w hb v mb xs) (i : Nat) (hs : xs.length ≤ 1000000) (hu : UpInv k xs i) :
    Calls Tryz.prog 95 #[.pointer (some ⟨hb, 0, none⟩), .int .i64 (i : Int), wayOf 96 hb] w fun e w' =>
      ∃ (i' : Nat) (ys : List It), e = .returned (.int .i64 (i' : Int)) ∧ HeapIs w' hb v mb ys ∧ ys.Perm xs ∧ UpInv k ys i' ∧ HUp (gOf ys) i' ∧ Only (mb :: v.ownBlock.toList) w w' := by
  have a1 := hupward w hb mb v xs h i hu.1 hs
  go_enter Tryz.func95, Tryz.ntmps95
  go_wp2_with fail
  refine a1.mono ?_
  rintro e w1 ⟨rfl, o1⟩
  go_wp2_with fail
  go_loopg [1, 7, 8] (i + 1) (fun gk si sj so wr => ∃ (p : Nat) (ys : List It), si = .int .i64 (p : Int) ∧ sj = .int .i64 (((p - 1) / 2 : Nat) : Int) ∧ so = .bool (upOK ys p) ∧ p + 1 ≤ gk ∧
    HeapIs wr hb v mb ys ∧ ys.Perm xs ∧ UpInv k ys p ∧ Only (mb :: v.ownBlock.toList) w wr)
  case atStart => exact ⟨i, xs, rfl, rfl, rfl, Nat.le_refl _, h.only0 o1, List.Perm.refl _, hu, o1.mono (by simp)⟩
  case round =>
    obtain ⟨p, ys, rfl, rfl, rfl, hg, hH, hp, hU, ho⟩ := hrel
    have hl := hp.length_eq
    rcases hub : upOK ys p with _ | _
    · have hst := UpInv.stop hub
      have HK := Lib.hid hst
      clear hst
      go_wp2_with fail
      go_ret
      exact ⟨p, ys, rfl, hH, hp, hU, HK.out, ho⟩
    · have hq : (p - 1) / 2 < ys.length := by have := hU.1; omega
      have hp0 : 0 < p := by simp only [upOK, Bool.and_eq_true, decide_eq_true_eq] at hub; exact hub.1
      have a2 := hswap wr hb mb v ys hH p ((p - 1) / 2) hU.1 hq
      have HS := Lib.hid (hU.step hub)
      clear hub
      go_wp2_with fail
      refine a2.mono ?_
      rintro e w2 ⟨rfl, h2, o2⟩
      have a3 := hupward w2 hb mb v _ h2 ((p - 1) / 2) HS.out.1 (by rw [swl_length]; omega)
      go_wp2_with fail
      refine a3.mono ?_
      rintro e w3 ⟨rfl, o3⟩
      go_wp2_with fail
      go_roundg (p + 1 - 1)
      case measure => omega
      case rel =>
        refine ⟨(p - 1) / 2, swl ys p ((p - 1) / 2), by first | rfl | (congr 1; omega), by first | rfl | (congr 1; omega), rfl, by omega, h2.only0 o3, (swl_perm ys hU.1 hq).trans hp, HS.out, ?_⟩
        exact (ho.trans' o2).trans o3 (by simp)

set_option maxRecDepth 100000 in
set_option maxHeartbeats 2000000 in
theorem sift_down (w : World) (hb mb : Nat) (v : Value) (xs : List It) (h : HeapIs w hb v mb xs) (i : Nat) (hs : xs.length ≤ 1000000) (hu : DownInv xs i) :
    Calls Tryz.prog 95 #[.pointer (some ⟨hb, 0, none⟩), .int .i64 (i : Int), wayOf 122 hb] w fun e w' =>
      ∃ (i' : Nat) (ys : List It), e = .returned (.int .i64 (i' : Int)) ∧ HeapIs w' hb v mb ys ∧ ys.Perm xs ∧ IsHeap (gOf ys) ys.length ∧ Only (mb :: v.ownBlock.toList) w w' := by
  have a1 := hdownward w hb mb v xs h i hu.1 hs
  go_enter Tryz.func95, Tryz.ntmps95
  go_wp2_with fail
  refine a1.mono ?_
  rintro e w1 ⟨rfl, o1⟩
  go_wp2_with fail
  go_loopg [1, 7, 8] (xs.length + 1) (fun gk si sj so wr => ∃ (p : Nat) (ys : List It), si = .int .i64 (p : Int) ∧ sj = .int .i64 ((kid ys p : Nat) : Int) ∧ so = .bool (downOK ys p) ∧ xs.length + 1 ≤ gk + p ∧
    HeapIs wr hb v mb ys ∧ ys.Perm xs ∧ DownInv ys p ∧ Only (mb :: v.ownBlock.toList) w wr)
  case atStart => exact ⟨i, xs, rfl, rfl, rfl, by omega, h.only0 o1, List.Perm.refl _, hu, o1.mono (by simp)⟩
  case round =>
    obtain ⟨p, ys, rfl, rfl, rfl, hg, hH, hp, hU, ho⟩ := hrel
    have hl := hp.length_eq
    rcases hub : downOK ys p with _ | _
    · have HK := Lib.hid (hU.stop hub)
      go_wp2_with fail
      go_ret
      exact ⟨p, ys, rfl, hH, hp, HK.out, ho⟩
    · have hq : kid ys p < ys.length := by simp only [downOK, Bool.and_eq_true, decide_eq_true_eq] at hub; exact hub.1
      have hkc := Lib.hid (kid_cases ys p)
      have a2 := hswap wr hb mb v ys hH p (kid ys p) hU.1 hq
      have HS := Lib.hid (hU.step hub)
      have HP := Lib.hid (swl_perm ys hU.1 hq)
      have hpl := hU.1
      clear hub
      generalize kid ys p = c at *
      go_wp2_with fail
      refine a2.mono ?_
      rintro e w2 ⟨rfl, h2, o2⟩
      have a3 := hdownward w2 hb mb v _ h2 c HS.out.1 (by rw [swl_length]; omega)
      go_wp2_with fail
      refine a3.mono ?_
      rintro e w3 ⟨rfl, o3⟩
      go_wp2_with fail
      go_roundg (xs.length + 1 - c)
      case measure => have := hkc.out; omega
      case rel =>
        refine ⟨c, swl ys p c, rfl, rfl, rfl, by have := hkc.out; omega, h2.only0 o3, HP.out.trans hp, HS.out, ?_⟩
        exact (ho.trans' o2).trans o3 (by simp)
end Go.Proofs.YtajhkdbldbifeaaGreatDoor

namespace Go.Proofs.YtajhkdbldbifeaaGreatDoor
set_option maxRecDepth 100000
open Go.RowKit Go.ChangeMaps Go.MapKept
set_option linter.unusedVariables false
set_option linter.unusedSimpArgs false

/-- The heap at hb, of the blocks S, holds the items of l, which rises. -/
def HeapOf (w : World) (hb : Nat) (S : List Nat) (l : List It) : Prop :=
  ∃ v mb xs, S = hown hb v mb ∧ HeapIs w hb v mb xs ∧ IsHeap (gOf xs) xs.length ∧ xs.Perm l ∧ Rises l ∧ l.length ≤ 1000000
theorem HeapOf.only {w w' : World} {hb : Nat} {S T : List Nat} {l : List It} (h : HeapOf w hb S l) (ho : Only T w w') (hT : ∀ b ∈ S, b ∉ T) : HeapOf w' hb S l := by
  obtain ⟨v, mb, xs, rfl, h1, h2⟩ := h
  exact ⟨v, mb, xs, rfl, h1.only ho hT, h2⟩
theorem HeapOf.only0 {w w' : World} {hb : Nat} {S : List Nat} {l : List It} (h : HeapOf w hb S l) (ho : Only [] w w') : HeapOf w' hb S l := h.only ho (by simp)
theorem HeapOf.lt {w : World} {hb : Nat} {S : List Nat} {l : List It} (h : HeapOf w hb S l) : ∀ b ∈ S, b < w.heap.size := by
  obtain ⟨v, mb, xs, rfl, h1, h2⟩ := h
  exact h1.lt
theorem HeapOf.small {w : World} {hb : Nat} {S : List Nat} {l : List It} (h : HeapOf w hb S l) : l.length ≤ 1000000 := by
  obtain ⟨v, mb, xs, rfl, h1, h2, h3, h4, h5⟩ := h
  exact h5
theorem HeapOf.rises {w : World} {hb : Nat} {S : List Nat} {l : List It} (h : HeapOf w hb S l) : Rises l := by
  obtain ⟨v, mb, xs, rfl, h1, h2, h3, h4, h5⟩ := h
  exact h4
theorem HeapOf.ids {w : World} {hb : Nat} {S : List Nat} {l : List It} (h : HeapOf w hb S l) : Ids l := by
  obtain ⟨v, mb, xs, rfl, h1, h2, h3, h4, h5⟩ := h
  exact h1.ids.perm h3
theorem HeapOf.fit {w : World} {hb : Nat} {S : List Nat} {l : List It} (h : HeapOf w hb S l) : ∀ x ∈ l, x.ok := by
  obtain ⟨v, mb, xs, rfl, h1, h2, h3, h4, h5⟩ := h
  exact fun x hx => h1.fit x (h3.symm.subset hx)

set_option maxHeartbeats 400000 in
theorem hNew (w : World) : Calls Tryz.prog 83 #[] w fun e w' => ∃ hb S, e = .returned (.pointer (some ⟨hb, 0, none⟩)) ∧ HeapOf w' hb S [] ∧ (∀ b ∈ S, w.heap.size ≤ b) ∧ Only [] w w' := by
  have hmm := @run_makeMap Tryz.prog
  go_enter Tryz.func83, Tryz.ntmps83
  go_wp2
  go_ret
  have hm := MapAt.made w
  have hb : ((w.alloc (.map #[] 0)).alloc (.cells #[.slice none 0 0, .map (some w.heap.size)] 109)).heap[w.heap.size + 1]? = some (.cells #[.slice none 0 0, .map (some w.heap.size)] 109 (0, 0)) := by
    have := heap_alloc_new (w.alloc (.map #[] 0)) (.cells #[.slice none 0 0, .map (some w.heap.size)] 109)
    simpa using this
  refine ⟨w.heap.size + 1, hown (w.heap.size + 1) (.slice none 0 0) w.heap.size, rfl, ⟨_, _, [], rfl, ⟨hb, RowIs.nil _, ?_, by simp [Ids], by simp⟩, fun k h0 hk => by simp at hk, List.Perm.refl _, List.Pairwise.nil, by simp⟩, ?_, ((Only.refl _ _).alloc _).alloc _⟩
  · exact hm.keep (Below.heap_alloc _ _ _ (by simp))
  · simp [hown, Value.ownBlock]

theorem hLen (w : World) (hb : Nat) (S : List Nat) (l : List It) (h : HeapOf w hb S l) : Calls Tryz.prog 67 #[.pointer (some ⟨hb, 0, none⟩)] w fun e w' => e = .returned (.int .i64 (l.length : Int)) ∧ w' = w := by
  obtain ⟨v, mb, xs, rfl, h1, h2, h3, h4, h5⟩ := h
  obtain ⟨A, cap, rfl⟩ := h1.row.form
  have c0 := h1.c0
  rw [← h3.length_eq]
  clear h1 h2 h3 h4 h5
  go_enter Tryz.func67, Tryz.ntmps67
  go_wp2
  go_ret
  exact ⟨rfl, rfl⟩

set_option maxHeartbeats 400000 in
theorem hHasIs (w : World) (hb : Nat) (v : Value) (mb : Nat) (xs : List It) (h : HeapIs w hb v mb xs) (id : Int) (hid : i64ok id) :
    Calls Tryz.prog 86 #[.pointer (some ⟨hb, 0, none⟩), .int .i64 id] w fun e w' => e = .returned (.bool (hasId id xs)) ∧ w' = w := by
  have c1 := h.c1
  have lk := h.map.look hid 107 Tryz.underlying107
  rw [fOf_has] at lk
  clear h
  generalize hasId id xs = b at *
  go_enter Tryz.func86, Tryz.ntmps86
  go_wp2
  go_ret
  exact ⟨rfl, rfl⟩
theorem hHas (w : World) (hb : Nat) (S : List Nat) (l : List It) (h : HeapOf w hb S l) (id : Int) (hid : i64ok id) :
    Calls Tryz.prog 86 #[.pointer (some ⟨hb, 0, none⟩), .int .i64 id] w fun e w' => e = .returned (.bool (hasId id l)) ∧ w' = w := by
  obtain ⟨v, mb, xs, rfl, h1, h2, h3, h4, h5⟩ := h
  rw [← hasId_perm id h3]
  exact hHasIs w hb v mb xs h1 id hid

set_option maxHeartbeats 400000 in
theorem hMin (w : World) (hb : Nat) (S : List Nat) (l : List It) (h : HeapOf w hb S l) :
    Calls Tryz.prog 98 #[.pointer (some ⟨hb, 0, none⟩)] w fun e w' => e = .returned (.tuple #[(first l).val, .bool (!l.isEmpty)]) ∧ Only [] w w' := by
  obtain ⟨v, mb, xs, rfl, h1, h2, h3, h4, h5⟩ := h
  by_cases h0 : 0 < xs.length
  · have hl : 0 < l.length := by rw [← h3.length_eq]; exact h0
    have e1 : first l = gOf xs 0 := by rw [first_gOf hl, heap_first h2 h3 h4 h0]
    have e2 : (!l.isEmpty) = true := by cases l <;> simp at hl ⊢
    rw [e1, e2]
    obtain ⟨g, cap, rfl, hn, hcap, hg, -, hcell⟩ := h1.row.at_ h0
    have c0 := h1.c0
    obtain ⟨i0, i1, -, -⟩ := hcell 0 h0
    have hlt : (0 : Int) < (xs.length : Int) := by omega
    have hne : ((xs.length : Int) == 0) = false := by simp; intro e; subst e; simp at h0
    have hhb : hb < w.heap.size := h1.lt hb (by simp [hown])
    clear hcell h1 h2 h3 h4 h5 e1 e2 hl h0
    unfold It.val
    generalize gOf xs 0 = x at *
    generalize xs.length = n at *
    go_enter Tryz.func98, Tryz.ntmps98
    go_wp2
    (try simp only [Exit.inBlock, Exit.then])
    refine bodyPost_ret (v := .tuple #[.agg #[.int .u64 x.k, .int .i64 x.i], .bool true]) ?_ rfl ?_
    · rw [results_cell_tmp rfl]; go_simp
    · exact ⟨rfl, (Only.refl _ _).alloc _⟩
  · have hx : xs = [] := List.length_eq_zero_iff.1 (by omega)
    subst hx
    have hl : l = [] := h3.nil_eq.symm
    subst hl
    obtain ⟨A, cap, rfl⟩ := h1.row.form
    have c0 := h1.c0
    have hhb : hb < w.heap.size := h1.lt hb (by simp [hown])
    clear h1 h2 h3 h4 h5 h0
    unfold It.val first
    go_enter Tryz.func98, Tryz.ntmps98
    go_wp2
    (try simp only [Exit.inBlock, Exit.then])
    refine bodyPost_ret (v := .tuple #[.agg #[.int .u64 0, .int .i64 0], .bool false]) ?_ rfl ?_
    · rw [results_cell_tmp rfl]; go_simp
    · exact ⟨rfl, (Only.refl _ _).alloc _⟩

/-! ### Push -/
theorem grown_keeps {W w' : World} {hb mb : Nat} {v : Value} {xs : List It} (h : HeapIs W hb v mb xs) (hg : W.grownBy w' v.ownBlock) : w'.cell? ⟨hb, 0, none⟩ = some v ∧ w'.frozen? ⟨hb, 0, none⟩ = false := by
  have e : w'.heap[hb]? = W.heap[hb]? := hg.block hb (h.lt hb (by simp [hown])) (fun e => h.hbg e.symm rfl)
  exact ⟨(World.cell?_of_block e).trans h.c0, (World.frozen?_of_block e).trans (h.fr 0)⟩
theorem fOf_snoc {xs : List It} (h : Ids xs) {x : It} (hx : ∀ y ∈ xs, y.i ≠ x.i) : upd (fOf xs) x.i (xs.length : Int) = fOf (xs ++ [x]) := by
  have hi : Ids (xs ++ [x]) := by
    unfold Ids
    rw [List.map_append, List.nodup_append]
    exact ⟨h, by simp, fun a ha b hb => by
      obtain ⟨y, hy, rfl⟩ := List.mem_map.1 ha
      simp only [List.map_cons, List.map_nil, List.mem_singleton] at hb
      subst hb
      exact hx y hy⟩
  funext id
  apply opt_ext
  intro v
  rw [fOf_iff hi]
  have gl : gOf (xs ++ [x]) xs.length = x := by simp [gOf]
  have gk : ∀ k, k < xs.length → gOf (xs ++ [x]) k = gOf xs k := fun k hk => by
    simp [gOf, List.getElem?_append_left hk]
  unfold upd
  by_cases e : id = x.i
  · rw [if_pos e]
    constructor
    · intro hv
      injection hv with hv
      exact ⟨xs.length, by simp, by rw [gl, e], hv.symm⟩
    · rintro ⟨k, hk, he, rfl⟩
      have : k = xs.length := by
        rcases Nat.lt_or_ge k xs.length with h1 | h1
        · rw [gk k h1, e] at he
          exact absurd he (hx _ (by rw [gOf_get h1]; exact List.getElem_mem _))
        · simp at hk; omega
      rw [this]
  · rw [if_neg e, fOf_iff h]
    constructor
    · rintro ⟨k, hk, he, rfl⟩
      exact ⟨k, by simp; omega, by rw [gk k hk]; exact he, rfl⟩
    · rintro ⟨k, hk, he, rfl⟩
      rcases Nat.lt_or_ge k xs.length with h1 | h1
      · exact ⟨k, h1, by rw [gk k h1] at he; exact he, rfl⟩
      · have : k = xs.length := by simp at hk; omega
        subst this
        rw [gl] at he
        exact absurd he.symm e
theorem ids_snoc {xs : List It} (h : Ids xs) {x : It} (hx : ∀ y ∈ xs, y.i ≠ x.i) : Ids (xs ++ [x]) := by
  unfold Ids
  rw [List.map_append, List.nodup_append]
  exact ⟨h, by simp, fun a ha b hb => by
    obtain ⟨y, hy, rfl⟩ := List.mem_map.1 ha
    simp only [List.map_cons, List.map_nil, List.mem_singleton] at hb
    subst hb
    exact hx y hy⟩
theorem upinv_snoc {xs : List It} (h : IsHeap (gOf xs) xs.length) (x : It) : UpInv True (xs ++ [x]) xs.length := by
  have gk : ∀ k, k < xs.length → gOf (xs ++ [x]) k = gOf xs k := fun k hk => by
    simp [gOf, List.getElem?_append_left hk]
  have el : (xs ++ [x]).length = xs.length + 1 := by simp
  unfold UpInv
  rw [el]
  refine ⟨by omega, ⟨fun k hk0 hkn hki hpi => ?_, fun c hc0 hcn hci hi0 => by omega⟩, fun _ c hc0 hcn hci => by omega⟩
  rw [gk k (by omega), gk _ (by omega)]
  exact h k hk0 (by omega)

/-- Behind the append and the store into the field. -/
theorem push_mid {w W W0 w2 : World} {hb mb : Nat} {v v' : Value} {xs ys : List It} (h0 : HeapIs w hb v mb xs) (o1 : Only [] w W) (o2 : Only [] W W0) (hr : RowIs w2 v' ys) (hg : W0.grownBy w2 v.ownBlock)
    (hl : v'.ownBlock = v.ownBlock ∨ v'.ownBlock = some W0.heap.size) :
    (w2.setCell ⟨hb, 0, none⟩ v').heap[hb]? = some (.cells #[v', .map (some mb)] 109 (0, 0)) ∧ RowIs (w2.setCell ⟨hb, 0, none⟩ v') v' ys ∧ MapAt (w2.setCell ⟨hb, 0, none⟩ v') mb (fOf xs) ∧
      Only (hown hb v mb) w (w2.setCell ⟨hb, 0, none⟩ v') ∧ (∀ b ∈ hown hb v' mb, b ∈ hown hb v mb ∨ w.heap.size ≤ b) ∧
      ∀ p : Addr, w.heap.size ≤ p.block → p.block < W.heap.size → (w2.setCell ⟨hb, 0, none⟩ v').cell? p = W.cell? p := by
  have hW0 := (h0.only0 o1).only0 o2
  have oA : Only v.ownBlock.toList W0 w2 := (Only.refl _ W0).grown hg (fun k hk => .inl (by simp [hk]))
  have o12 : Only [] w W0 := o1.trans' o2
  have hbv : hb ∉ v.ownBlock.toList := by simp only [Option.mem_toList]; exact fun e => hW0.hbg e rfl
  have hmv : mb ∉ v.ownBlock.toList := by simp only [Option.mem_toList]; exact fun e => hW0.mbg e rfl
  have b2 : w2.heap[hb]? = some (.cells #[v, .map (some mb)] 109 (0, 0)) := oA.get hW0.blk hbv
  have m2 : MapAt w2 mb (fOf xs) := hW0.map.keep (oA.block mb hW0.map.lt hmv)
  have hne : ∀ g, v'.ownBlock = some g → g ≠ hb := by
    rintro g hg' rfl
    obtain ⟨cur, hc⟩ := own_item_blk hr hg'
    rw [b2] at hc
    injection hc with hc
    injection hc with _ hc
    cases hc
  have hS : ∀ b ∈ hown hb v' mb, b ∈ hown hb v mb ∨ w.heap.size ≤ b := by
    intro b hb'
    simp only [hown, List.mem_cons, Option.mem_toList] at hb' ⊢
    rcases hb' with e | e | e
    · exact .inl (.inl e)
    · exact .inl (.inr (.inl e))
    · rcases hl with h3 | h3
      · exact .inl (.inr (.inr (h3.symm.trans e)))
      · rw [e] at h3
        injection h3 with h3
        exact .inr (by rw [h3]; exact o12.size)
  refine ⟨?_, hr.keep fun g hg' => Below.heap_setCell _ _ _ _ (hne g hg'), m2.keep (Below.heap_setCell _ _ _ _ (by exact fun e => hW0.hbmb e.symm)), ?_, hS, fun p hp1 hp2 => ?_⟩
  · simp [World.setCell, Array.getElem?_modify, b2]
  · refine Only.setCell ?_ (by simp [hown]) _
    exact (o12.mono (T := hown hb v mb) (by simp)).trans oA (fun k hk => .inl (by simp only [Option.mem_toList] at hk; simp [hown, hk]))
  · have hbW : hb < w.heap.size := h0.lt hb (by simp [hown])
    rw [World.cell?_setCell_other _ _ _ _ (fun e => by rw [← e] at hp1; simp only at hp1; omega)]
    rw [oA.cell (p := p) (Nat.lt_of_lt_of_le hp2 o2.size) (fun e => by
      have := h0.row.lt (g := p.block) (by simpa using e)
      omega)]
    exact o2.cell hp2 (by simp)

set_option maxRecDepth 100000 in
set_option maxHeartbeats 4000000 in
theorem hPush (w : World) (hb : Nat) (S : List Nat) (l : List It) (h : HeapOf w hb S l) (x : It) (hx : x.ok) (hroom : l.length < 1000000) :
    Calls Tryz.prog 75 #[.pointer (some ⟨hb, 0, none⟩), x.val] w fun e w' => e = .returned (.bool (!hasId x.i l)) ∧ ∃ S', HeapOf w' hb S' (if hasId x.i l then l else ins x l) ∧ Moved w S w' S' := by
  obtain ⟨v, mb, xs, rfl, h1, h2, h3, h4, h5⟩ := h
  unfold It.val
  have hp := hasId_perm x.i h3
  rw [← hp]
  have hb1 := h1.only0 ((Only.refl [] w).alloc (.cells #[.int .u64 x.k, .int .i64 x.i] 40))
  have hh := hHasIs _ hb v mb xs hb1 x.i hx.2
  rcases hid : hasId x.i xs with _ | _
  · rw [hid] at hh
    have hno := (hasId_not _ _).1 hid
    go_enter Tryz.func75, Tryz.ntmps75
    go_wp2_with fail
    refine hh.mono ?_
    rintro e w1 ⟨rfl, rfl⟩
    obtain ⟨A, cap, rfl⟩ := hb1.row.form
    have c0 := hb1.c0
    have c1 := hb1.c1
    have fr := hb1.fr 0
    have x0 : (w.alloc (.cells #[.int .u64 x.k, .int .i64 x.i] 40)).cell? ⟨w.heap.size, 0, none⟩ = some (.int .u64 x.k) := by go_simp
    have x1 : (w.alloc (.cells #[.int .u64 x.k, .int .i64 x.i] 40)).cell? ⟨w.heap.size, 1, none⟩ = some (.int .i64 x.i) := by go_simp
    have hsz : (w.alloc (.cells #[.int .u64 x.k, .int .i64 x.i] 40)).heap.size = w.heap.size + 1 := by simp
    have o1 : Only [] w (w.alloc (.cells #[.int .u64 x.k, .int .i64 x.i] 40)) := (Only.refl [] w).alloc _
    generalize w.alloc (.cells #[.int .u64 x.k, .int .i64 x.i] 40) = W at *
    have HZ := Lib.hid hsz
    clear hsz
    have H1 := Lib.hid hb1
    have H2 := Lib.hid h1
    have c0a := (hb1.only0 ((Only.refl [] W).alloc (.cells #[.int .u64 x.k, .int .i64 x.i] 40))).c0
    clear hb1 h1 hh
    go_wp2_with fail
    go_region_law
      (refine step_append_row rfl (.tmp 19) (.tmp 21) rfl (.slice A xs.length cap) xs (by simp [Act.eval, Act.put]) (by first | exact (H1.out.only0 (((Only.refl [] W).drew).alloc _)).row | exact (H1.out.only0 (((Only.refl [] W).alloc _).drew)).row) (some ⟨W.heap.size, 0, none⟩) 1 1 [x] (by simp [Act.eval, Act.put]) rfl (by exact src_box W x) (xs.length + 1) rfl (by have := h3.length_eq; omega) ?_
       intro A' cap' w2 hr2 hg2 hl2
       obtain ⟨c0', fr'⟩ := grown_keeps (by first | exact (H1.out.only0 (((Only.refl [] W).drew).alloc _)) | exact (H1.out.only0 (((Only.refl [] W).alloc _).drew))) hg2)
    all_goals
      obtain ⟨b3, r3, m3, o3, s3, k3⟩ := push_mid H2.out o1 (by first | exact ((Only.refl [] W).drew).alloc _ | exact ((Only.refl [] W).alloc _).drew) hr2 hg2 hl2
      have x3 := (k3 ⟨w.heap.size, 1, none⟩ (Nat.le_refl _) (by have := HZ.out; simp only; omega)).trans x1
      generalize w2.setCell ⟨hb, 0, none⟩ (.slice A' (xs.length + 1) cap') = W3 at *
      clear k3 c0' fr' c0a x0 x1 fr c0 c1 hr2 hg2 hl2
      have c1 : W3.cell? ⟨hb, 1, none⟩ = some (.map (some mb)) := by rw [cell_of_row W3 hb 1 _ _ _ b3]; rfl
      obtain ⟨W4, u4, m4, g4⟩ := (m3.keep (w' := W3.drew) rfl).put hx.2 (xs.length : Int) 107 Tryz.underlying107
      rw [fOf_snoc H2.out.ids hno] at m4
      have o4 : Only [mb] W3 W4 := ((Only.refl [mb] W3).drew).grown g4 (by simp)
      have hm3 : mb < W3.heap.size := m3.lt
      have h4' : HeapIs W4 hb (.slice A' (xs.length + 1) cap') mb (xs ++ [x]) := by
        refine ⟨o4.get b3 ?_, r3.keep fun g hg => o4.block g (r3.lt hg) ?_, m4, ids_snoc H2.out.ids hno, fun y hy => ?_⟩
        · simp only [List.mem_singleton]; exact H2.out.hbmb
        · simp only [List.mem_singleton]
          rintro rfl
          obtain ⟨cur, hc⟩ := own_item_blk r3 hg
          obtain ⟨es, cl, he, _⟩ := m3
          rw [hc] at he
          cases he
        · rcases List.mem_append.1 hy with h9 | h9
          · exact H2.out.fit y h9
          · simp only [List.mem_singleton] at h9; subst h9; exact hx
      have hsu := sift_up True W4 hb mb _ _ h4' xs.length (by have := h3.length_eq; simp; omega) (upinv_snoc h2 x)
      have HX := Lib.hid (And.intro o3 (And.intro o4 s3))
      clear b3 r3 m3 o3 s3 m4 g4 o4 h4'
      go_wp2_with fail
      go_still_tail 7, (by kernel_rfl)
      change wpList _ _ _ _ _ W3.drew
      generalize W3.drew = W3' at u4 ⊢
      go_wp2_with fail
      refine hsu.mono ?_
      rintro e w5 ⟨i', ys, rfl, h5', hp5, hU5, hup5, o5⟩
      go_wp2_with fail
      go_ret
      obtain ⟨o3, o4, s3⟩ := HX.out
      refine ⟨rfl, hown hb (.slice A' (xs.length + 1) cap') mb, ⟨_, mb, ys, rfl, h5', IsHeap.of hU5.2.1 (hU5.2.2 trivial) hup5, ?_, ?_, ?_⟩, ⟨?_, s3⟩⟩
      · exact hp5.trans ((h3.append_right [x]).trans (ins_perm x l).symm)
      · exact ins_rises h4 (fun y hy => hno y (h3.symm.subset hy))
      · have := (ins_perm x l).length_eq; simp at this; simp; omega
      · exact (o3.trans o4 (by simp [hown])).trans o5 (fun k hk => s3 k (by
          simp only [List.mem_cons] at hk
          simp only [hown, List.mem_cons]
          exact .inr hk))
  · rw [hid] at hh
    simp only [if_true]
    go_enter Tryz.func75, Tryz.ntmps75
    go_wp2_with fail
    refine hh.mono ?_
    rintro e w1 ⟨rfl, rfl⟩
    go_wp2_with fail
    go_ret
    exact ⟨rfl, _, ⟨v, mb, xs, rfl, hb1, h2, h3, h4, h5⟩, Moved.of_only ((Only.refl [] w).alloc _)⟩
end Go.Proofs.YtajhkdbldbifeaaGreatDoor

namespace Go.Proofs.YtajhkdbldbifeaaGreatDoor
set_option maxRecDepth 100000
open Go.RowKit Go.ChangeMaps Go.MapKept
set_option linter.unusedVariables false
set_option linter.unusedSimpArgs false

section
variable {w : World} {ops : Array Oper} {o : Oper} {a : Act} {Q : Exit → Act → World → Prop}
/-- 'delete(m, k)' as a step. -/
theorem wpList_delI {rest : List Oper} (hgd : o.guard = none) (m x : Operand) (ho : o.op = .call { callee := .builtin .delete, args := #[m, x], argTypes := #[107, 3] })
    (b : Nat) (f : Int → Option Int) (k : Int) (hm : a.eval m = .map (some b)) (hx : a.eval x = .int .i64 k) (h : MapAt w b f) (hk : i64ok k)
    (hK : ∀ w', MapAt w' b (off f k) → w.grownBy w' (some b) → wpList Tryz.prog ops Q rest (a.put o.dst (.tuple #[])) w') : wpList Tryz.prog ops Q (o :: rest) a w := by
  refine wpList_plain hgd fun K hK' => ?_
  obtain ⟨w', r1, r2, r3⟩ := h.del hk 107 o.type Tryz.underlying107
  unfold Oper.wp execOp
  simp only [ho, resolve, invoke, builtin, Sem.run_bind, Sem.run_pure, Result.andThen_ok, List.map_toArray, List.map_cons, List.map_nil, hm, hx, r1]
  exact hK' _ _ (hK w' r2 r3)
end

/-! ### taking one out -/
theorem take_last {xs : List It} {i : Nat} (hi : i < xs.length) : (swl xs i (xs.length - 1)) = (swl xs i (xs.length - 1)).take (xs.length - 1) ++ [gOf xs i] := by
  have hl : xs.length - 1 < xs.length := by omega
  have hlen : (swl xs i (xs.length - 1)).length = xs.length := swl_length _ _ _
  have e := List.take_append_drop (xs.length - 1) (swl xs i (xs.length - 1))
  have hd : (swl xs i (xs.length - 1)).drop (xs.length - 1) = [gOf xs i] := by
    rw [List.drop_eq_getElem_cons (by rw [hlen]; exact hl), List.drop_eq_nil_of_le (by rw [hlen]; omega)]
    have : (swl xs i (xs.length - 1))[xs.length - 1]'(by rw [hlen]; exact hl) = gOf xs i := by
      rw [← gOf_get, gOf_swl xs hi hl]
      unfold swf
      simp
    rw [this]
  rw [hd] at e
  exact e.symm
theorem take_gOf {xs : List It} {i : Nat} (hi : i < xs.length) {k : Nat} (hk : k < xs.length - 1) (hki : k ≠ i) : gOf ((swl xs i (xs.length - 1)).take (xs.length - 1)) k = gOf xs k := by
  have e1 : gOf ((swl xs i (xs.length - 1)).take (xs.length - 1)) k = gOf (swl xs i (xs.length - 1)) k := by
    unfold gOf
    rw [List.getD_eq_getElem?_getD, List.getD_eq_getElem?_getD, List.getElem?_take, if_pos hk]
  rw [e1, gOf_swl xs hi (by omega)]
  unfold swf
  rw [if_neg (by omega), if_neg hki]
theorem take_len {xs : List It} (i : Nat) (h0 : 0 < xs.length) : ((swl xs i (xs.length - 1)).take (xs.length - 1)).length = xs.length - 1 := by simp
theorem take_perm {xs : List It} {i : Nat} (hi : i < xs.length) : ((swl xs i (xs.length - 1)).take (xs.length - 1)).Perm (xs.eraseIdx i) := by
  have h1 := swl_perm xs hi (show xs.length - 1 < xs.length by omega)
  have h2 := eraseIdx_perm hi
  rw [take_last hi] at h1
  have h3 := (List.perm_append_singleton (gOf xs i) ((swl xs i (xs.length - 1)).take (xs.length - 1))).symm.trans (h1.trans h2)
  exact h3.cons_inv
theorem fOf_drop_last {ys : List It} {x : It} (h : Ids (ys ++ [x])) : off (fOf (ys ++ [x])) x.i = fOf ys := by
  have hy : Ids ys := by
    unfold Ids at h ⊢
    rw [List.map_append, List.nodup_append] at h
    exact h.1
  have hx : ∀ y ∈ ys, y.i ≠ x.i := fun y hy' e => by
    unfold Ids at h
    rw [List.map_append, List.nodup_append] at h
    exact h.2.2 y.i (List.mem_map.2 ⟨y, hy', rfl⟩) x.i (by simp) e
  rw [← fOf_snoc hy hx]
  funext id
  unfold off upd
  split
  · rename_i e
    subst e
    exact ((fOf_none _).2 hx).symm
  · rfl

set_option maxRecDepth 100000 in
set_option maxHeartbeats 4000000 in
theorem hRemove (w : World) (hb mb : Nat) (v : Value) (xs : List It) (h : HeapIs w hb v mb xs) (hh : IsHeap (gOf xs) xs.length) (i : Nat) (hi : i < xs.length) (hs : xs.length ≤ 1000000) :
    Calls Tryz.prog 101 #[.pointer (some ⟨hb, 0, none⟩), .int .i64 (i : Int)] w fun e w' => e = .returned (gOf xs i).val ∧
      ∃ v' ys, HeapIs w' hb v' mb ys ∧ IsHeap (gOf ys) ys.length ∧ ys.Perm (xs.eraseIdx i) ∧ v'.ownBlock = v.ownBlock ∧ Only (hown hb v mb) w w' := by
  obtain ⟨g, cap, rfl, hn, hcap, hg, -, hcell⟩ := h.row.at_ (by omega)
  obtain ⟨i0, i1, -, -⟩ := hcell i hi
  clear hcell
  have c0 := h.c0
  have hi' : (i : Int) < (xs.length : Int) := by omega
  have hhb : hb < w.heap.size := h.lt hb (by simp [hown])
  obtain ⟨x, ex⟩ : ∃ x, gOf xs i = x := ⟨_, rfl⟩
  rw [ex] at i0 i1 ⊢
  have HE := Lib.hid ex
  clear ex
  have H := Lib.hid h
  have HH := Lib.hid hh
  have HI := Lib.hid hi
  have hmlen : xs.length ≥ 1 := by omega
  clear h hh hi
  unfold It.val
  obtain ⟨m, en⟩ : ∃ m, xs.length = m + 1 := ⟨xs.length - 1, by omega⟩
  have HN := Lib.hid en
  rw [en] at c0 hi' hn hs
  have H' : Hid (HeapIs w hb (.slice (some ⟨g, 0, none⟩) (m + 1) cap) mb xs) := by have := H.out; rw [en] at this; exact this
  rw [en]
  clear en H
  have oW : Only [] w ((w.alloc (.cells #[.int .u64 0, .int .i64 0] 40)).alloc (.cells #[.int .u64 x.k, .int .i64 x.i] 40)) := ((Only.refl [] w).alloc _).alloc _
  have bR : Box ((w.alloc (.cells #[.int .u64 0, .int .i64 0] 40)).alloc (.cells #[.int .u64 x.k, .int .i64 x.i] 40)) w.heap.size ⟨0, 0⟩ :=
    (Box.new w ⟨0, 0⟩).only ((Only.refl [] _).alloc _) (by simp)
  have bX : Box ((w.alloc (.cells #[.int .u64 0, .int .i64 0] 40)).alloc (.cells #[.int .u64 x.k, .int .i64 x.i] 40)) (w.heap.size + 1) x := by
    have := Box.new (w.alloc (.cells #[.int .u64 0, .int .i64 0] 40)) x
    simpa using this
  have hlast : m < xs.length := by rw [HN.out]; omega
  have el : xs.length - 1 = m := by rw [HN.out]; rfl
  have hsw := hswap _ hb mb _ xs (H'.out.only0 oW) i m HI.out hlast
  have HEL := Lib.hid el
  clear el hlast
  go_enter Tryz.func101, Tryz.ntmps101
  go_wp2_with fail
  refine hsw.mono ?_
  rintro e W1 ⟨rfl, h1, o1⟩
  have hbl := Lib.hid (H'.out.lt)
  have bR1 : Hid (Box W1 w.heap.size ⟨0, 0⟩) := bR.only o1 (by
    simp only [List.mem_cons, Option.mem_toList, not_or]
    exact ⟨fun e => by have := hbl.out mb (by simp [hown]); omega, fun e => by have := hbl.out w.heap.size (by simp [hown, e]); omega⟩)
  have bX1 : Hid (Box W1 (w.heap.size + 1) x) := bX.only o1 (by
    simp only [List.mem_cons, Option.mem_toList, not_or]
    exact ⟨fun e => by have := hbl.out mb (by simp [hown]); omega, fun e => by have := hbl.out (w.heap.size + 1) (by simp [hown, e]); omega⟩)
  have oA : Hid (Only (hown hb (.slice (some ⟨g, 0, none⟩) (m + 1) cap) mb) w W1) := (oW.mono (by simp)).trans o1 (fun k hk => .inl (by
    simp only [List.mem_cons] at hk
    simp only [hown, List.mem_cons]
    exact .inr hk))
  have c0 := h1.c0
  have fr := h1.fr 0
  have HD := Lib.hid h1
  clear oW bR bX hsw h1 o1
  generalize hN : w.heap.size = N at *
  clear i0 i1
  go_wp2_with fail
  obtain ⟨ys, ey⟩ : ∃ ys, (swl xs i m).take m = ys := ⟨_, rfl⟩
  have hx : x ∈ xs := by rw [← HE.out, gOf_get HI.out]; exact List.getElem_mem _
  have hxok : x.ok := H'.out.fit x hx
  have hlsw : (swl xs i m).length = m + 1 := by rw [swl_length]; exact HN.out
  have ezs : swl xs i m = ys ++ [x] := by
    have := take_last HI.out
    rw [HEL.out, HE.out, ey] at this
    exact this
  have hyl : ys.length = m := by rw [← ey, List.length_take, hlsw]; omega
  have b2 : (W1.setCell ⟨hb, 0, none⟩ (.slice (some ⟨g, 0, none⟩) m cap)).heap[hb]? = some (.cells #[.slice (some ⟨g, 0, none⟩) m cap, .map (some mb)] 109 (0, 0)) := by
    have := HD.out.blk
    simp [World.setCell, Array.getElem?_modify, this]
  have r2 : RowIs (W1.setCell ⟨hb, 0, none⟩ (.slice (some ⟨g, 0, none⟩) m cap)) (.slice (some ⟨g, 0, none⟩) m cap) ys := by
    have := HD.out.row.cut (m := m) (by rw [hlsw]; omega)
    rw [ey] at this
    exact this.keep fun g' hg' => Below.heap_setCell _ _ _ _ (fun e => HD.out.hbg hg' e.symm)
  have m2 : MapAt (W1.setCell ⟨hb, 0, none⟩ (.slice (some ⟨g, 0, none⟩) m cap)) mb (fOf (ys ++ [x])) := by
    rw [← ezs]
    exact HD.out.map.keep (Below.heap_setCell _ _ _ _ (fun e => HD.out.hbmb e.symm))
  have o2 : Only [hb] W1 (W1.setCell ⟨hb, 0, none⟩ (.slice (some ⟨g, 0, none⟩) m cap)) := (Only.refl _ _).setCell (by simp) _
  have bR2 : Hid (Box _ N ⟨0, 0⟩) := bR1.out.only o2 (by simp; omega)
  have bX2 : Hid (Box _ (N + 1) x) := bX1.out.only o2 (by simp; omega)
  have o2' : Hid (Only (hown hb (.slice (some ⟨g, 0, none⟩) (m + 1) cap) mb) w (W1.setCell ⟨hb, 0, none⟩ (.slice (some ⟨g, 0, none⟩) m cap))) := oA.out.trans o2 (by simp [hown])
  have hids : Ids (ys ++ [x]) := by rw [← ezs]; exact HD.out.ids
  have hfits : ∀ y ∈ ys, y.ok := fun y hy => HD.out.fit y (by rw [ezs]; simp [hy])
  have hper : ys.Perm (xs.eraseIdx i) := by
    have := take_perm HI.out
    rw [HEL.out, ey] at this
    exact this
  have hgk : ∀ k, k < m → k ≠ i → gOf ys k = gOf xs k := fun k hk hki => by
    have := take_gOf HI.out (k := k) (by rw [HEL.out]; exact hk) hki
    rw [HEL.out, ey] at this
    exact this
  have hhm : IsHeap (gOf xs) m := HH.out.mono (by have := HN.out; omega)
  have hmne : hb ≠ mb := H'.out.hbmb
  have hmg : mb ≠ g := H'.out.mbg rfl
  have hmN : mb < N := hbl.out mb (by simp [hown])
  generalize hW2 : W1.setCell ⟨hb, 0, none⟩ (.slice (some ⟨g, 0, none⟩) m cap) = W2 at *
  have c1 : W2.cell? ⟨hb, 1, none⟩ = some (.map (some mb)) := by rw [cell_of_row W2 hb 1 _ _ _ b2]; rfl
  have x1 : W2.cell? ⟨N + 1, 1, none⟩ = some (.int .i64 x.i) := bX2.out.c1
  have P1 := Lib.hid b2
  have P2 := Lib.hid r2
  have P3 := Lib.hid m2
  have P4 := Lib.hid (And.intro hids (And.intro hfits (And.intro hper (And.intro hgk (And.intro hhm (And.intro hyl ezs))))))
  clear b2 r2 m2 hids hfits hper hgk hhm ezs ey hW2 o2 c0 fr hlsw HEL oA bR1 bX1 HD
  go_still_tail 6, (by kernel_rfl)
  change wpList _ _ _ _ _ W2.drew
  refine wpList_delI rfl (.tmp 36) (.tmp 38) rfl mb (fOf (ys ++ [x])) x.i rfl rfl (P3.out.keep (w' := W2.drew) rfl) hxok.2 ?_
  intro W3 m3 g3
  have o3 : Only [mb] W2 W3 := ((Only.refl [mb] W2).drew).grown g3 (by simp)
  rw [fOf_drop_last P4.out.1] at m3
  have h3 : HeapIs W3 hb (.slice (some ⟨g, 0, none⟩) m cap) mb ys := by
    refine ⟨o3.get P1.out (by simp; exact hmne), P2.out.keep fun g' hg' => o3.block g' (P2.out.lt hg') ?_, m3, ?_, P4.out.2.1⟩
    · have e : g = g' := by simpa [Value.ownBlock] using hg'
      subst e
      simp; exact fun e => hmg e.symm
    · have := P4.out.1
      unfold Ids at this ⊢
      rw [List.map_append, List.nodup_append] at this
      exact this.1
  have bR3 : Hid (Box W3 N ⟨0, 0⟩) := bR2.out.only o3 (by simp; omega)
  have bX3 : Hid (Box W3 (N + 1) x) := bX2.out.only o3 (by simp; omega)
  have o3' : Hid (Only (hown hb (.slice (some ⟨g, 0, none⟩) (m + 1) cap) mb) w W3) := o2'.out.trans o3 (by simp [hown])
  clear o3 m3 g3 bR2 bX2 o2' c1 x1 P1 P2 P3
  by_cases him : i < m
  · have him' : (i : Int) < (m : Int) := by omega
    have hlen : ys.length = m := P4.out.2.2.2.2.2.1
    have hsu := sift_up False W3 hb mb _ ys h3 i (by omega) ⟨by omega, HInv.of_heap (g := gOf xs) (by rw [hlen]; exact P4.out.2.2.2.2.1) (fun k hk hki => P4.out.2.2.2.1 k (by omega) hki), False.elim⟩
    have P5 := Lib.hid h3
    clear h3 hlen
    go_wp2_with fail
    refine hsu.mono ?_
    rintro e W4 ⟨i', zs, rfl, h4, hp4, hU4, hup4, o4⟩
    have hsd := sift_down W4 hb mb _ zs h4 i' (by rw [hp4.length_eq, P4.out.2.2.2.2.2.1]; omega) ⟨hU4.1, hU4.2.1, hup4⟩
    have P6 := Lib.hid hp4
    have P7 := Lib.hid o4
    clear h4 hp4 hU4 hup4 o4 hsu
    go_wp2_with fail
    refine hsd.mono ?_
    rintro e W5 ⟨i'', us, rfl, h5, hp5, hh5, o5⟩
    have hS : ∀ b, b ∈ (mb :: (Value.slice (some ⟨g, 0, none⟩) m cap).ownBlock.toList) → b < N ∧ b ∈ hown hb (.slice (some ⟨g, 0, none⟩) (m + 1) cap) mb := by
      intro b hb'
      simp only [Value.ownBlock, List.mem_cons, Option.mem_toList, Option.some.injEq] at hb'
      have : b ∈ hown hb (.slice (some ⟨g, 0, none⟩) (m + 1) cap) mb := by
        simp only [hown, Value.ownBlock, List.mem_cons, Option.mem_toList, Option.some.injEq]
        exact .inr hb'
      exact ⟨hbl.out b this, this⟩
    have o45 := P7.out.trans' o5
    have bR5 := bR3.out.only o45 (fun e => by have := (hS _ e).1; omega)
    have bX5 := bX3.out.only o45 (fun e => by have := (hS _ e).1; omega)
    have o5' := o3'.out.trans o45 (fun k hk => .inl (hS k hk).2)
    have x0 := bX5.c0
    have x1 := bX5.c1
    have y0 := bR5.c0
    have y1 := bR5.c1
    have f0 := bR5.fr 0
    have f1 := bR5.fr 1
    have P8 := Lib.hid h5
    have P9 := Lib.hid o5'
    have hlt : N < W5.heap.size := bR5.lt
    clear bR5 bX5 o45 o5 hsd h5 o5'
    go_wp2_with fail
    (try simp only [Exit.inBlock, Exit.then])
    refine bodyPost_ret (v := .agg #[.int .u64 x.k, .int .i64 x.i]) ?_ rfl ?_
    · rw [results_cell1 rfl]; go_simp
    · have o6 : Only [N] W5 ((W5.setCell ⟨N, 0, none⟩ (.int .u64 x.k)).setCell ⟨N, 1, none⟩ (.int .i64 x.i)) := ((Only.refl _ _).setCell (by simp) _).setCell (by simp) _
      refine ⟨rfl, _, us, P8.out.only o6 ?_, hh5, hp5.trans (P6.out.trans P4.out.2.2.1), rfl, ?_⟩
      · intro b hb' e
        simp only [List.mem_singleton] at e
        simp only [hown, List.mem_cons] at hb'
        rcases hb' with e2 | e2
        · omega
        · have := (hS b (by simpa using e2)).1; omega
      · exact P9.out.trans o6 (by simp; exact .inr (by omega))
  · have him' : ¬ (i : Int) < (m : Int) := by omega
    have him2 : decide ((i : Int) < (m : Int)) = false := decide_eq_false him'
    have hlen : ys.length = m := P4.out.2.2.2.2.2.1
    have hh3 : Hid (IsHeap (gOf ys) ys.length) := fun k hk0 hkn => by
      have hi9 := HI.out
      have hn9 := HN.out
      rw [P4.out.2.2.2.1 k (by omega) (by omega), P4.out.2.2.2.1 _ (by omega) (by omega)]
      exact P4.out.2.2.2.2.1 k hk0 (by omega)
    have x0 := bX3.out.c0
    have x1 := bX3.out.c1
    have y0 := bR3.out.c0
    have y1 := bR3.out.c1
    have f0 := bR3.out.fr 0
    have f1 := bR3.out.fr 1
    have P8 := Lib.hid h3
    have hlt : N < W3.heap.size := bR3.out.lt
    clear h3 hlen
    go_wp2_with fail
    (try simp only [Exit.inBlock, Exit.then])
    refine bodyPost_ret (v := .agg #[.int .u64 x.k, .int .i64 x.i]) ?_ rfl ?_
    · rw [results_cell1 rfl]; go_simp
    · have o6 : Only [N] W3 ((W3.setCell ⟨N, 0, none⟩ (.int .u64 x.k)).setCell ⟨N, 1, none⟩ (.int .i64 x.i)) := ((Only.refl _ _).setCell (by simp) _).setCell (by simp) _
      refine ⟨rfl, _, ys, P8.out.only o6 ?_, hh3.out, P4.out.2.2.1, rfl, ?_⟩
      · intro b hb' e
        simp only [List.mem_singleton] at e
        have := hbl.out b (by simp only [hown, Value.ownBlock] at hb' ⊢; exact hb')
        omega
      · exact o3'.out.trans o6 (by simp; exact .inr (by omega))

/-- Behind remove: a heap again. -/
theorem HeapOf.removed {w w' : World} {hb mb : Nat} {v v' : Value} {xs ys l l' : List It} (h1 : HeapIs w hb v mb xs) (h3 : xs.Perm l) (h5 : l.length ≤ 1000000) (h : HeapIs w' hb v' mb ys) (hh : IsHeap (gOf ys) ys.length) (hp : ys.Perm l')
    (hr : Rises l') (hl : l'.length ≤ l.length) (hv : v'.ownBlock = v.ownBlock) (ho : Only (hown hb v mb) w w') : ∃ S', HeapOf w' hb S' l' ∧ Moved w (hown hb v mb) w' S' := by
  refine ⟨hown hb v' mb, ⟨v', mb, ys, rfl, h, hh, hp, hr, by omega⟩, ho, fun b hb' => .inl ?_⟩
  simp only [hown, hv] at hb' ⊢
  exact hb'

set_option maxRecDepth 100000 in
set_option maxHeartbeats 1000000 in
theorem hPop (w : World) (hb : Nat) (S : List Nat) (l : List It) (h : HeapOf w hb S l) :
    Calls Tryz.prog 78 #[.pointer (some ⟨hb, 0, none⟩)] w fun e w' => e = .returned (.tuple #[(first l).val, .bool (!l.isEmpty)]) ∧ ∃ S', HeapOf w' hb S' l.tail ∧ Moved w S w' S' := by
  obtain ⟨v, mb, xs, rfl, h1, h2, h3, h4, h5⟩ := h
  have oA : Only [] w (w.alloc (.cells #[.int .u64 0, .int .i64 0] 40)) := (Only.refl [] w).alloc _
  obtain ⟨A, cap, ev⟩ := h1.row.form
  have c0 := h1.c0
  rw [ev] at c0
  have hhb : hb < w.heap.size := h1.lt hb (by simp [hown])
  by_cases h0 : 0 < xs.length
  · have hl : 0 < l.length := by rw [← h3.length_eq]; exact h0
    have e1 : first l = gOf xs 0 := by rw [first_gOf hl, heap_first h2 h3 h4 h0]
    have e2 : (!l.isEmpty) = true := by cases l <;> simp at hl ⊢
    rw [e1, e2]
    have hne : ((xs.length : Int) == 0) = false := by simp; intro e; subst e; simp at h0
    have h1' := h1.only0 oA
    have hrm := hRemove _ hb mb v xs h1' h2 0 h0 (by rw [h3.length_eq]; exact h5)
    have ht : l = gOf xs 0 :: l.tail := by
      cases l with
      | nil => simp at hl
      | cons y l => rw [← e1]; rfl
    have hpt : (xs.eraseIdx 0).Perm l.tail := by
      have := (eraseIdx_perm h0).symm.trans h3
      rw [ht] at this
      exact this.cons_inv
    have hrt : Rises l.tail := by rw [ht] at h4; exact (List.pairwise_cons.1 h4).2
    have bR : Box _ w.heap.size ⟨0, 0⟩ := Box.new w ⟨0, 0⟩
    have HX := Lib.hid (And.intro h1 (And.intro h1' (And.intro h2 (And.intro h3 (And.intro hpt (And.intro hrt h5))))))
    have HL : Hid (∀ b ∈ hown hb v mb, b < w.heap.size) := h1.lt
    clear h1 h1' h2 h3 h4 h5 e1 e2 hl ht hpt hrt
    unfold It.val at *
    generalize gOf xs 0 = x at *
    generalize hL : xs.length = n at *
    go_enter Tryz.func78, Tryz.ntmps78
    go_wp2_with fail
    refine hrm.mono ?_
    rintro e w2 ⟨rfl, v', ys, k1, k2, k3, k4, k5⟩
    have bR2 := bR.only k5 (fun e => by have := HL.out _ e; omega)
    have y0 := bR2.c0
    have y1 := bR2.c1
    have f0 := bR2.fr 0
    have f1 := bR2.fr 1
    have hlt : w.heap.size < w2.heap.size := bR2.lt
    have K := Lib.hid (And.intro k1 (And.intro k2 (And.intro k3 (And.intro k4 k5))))
    clear k1 k2 k3 k4 k5 bR bR2 hrm
    generalize hN : w.heap.size = N at *
    go_wp2_with fail
    (try simp only [Exit.inBlock, Exit.then])
    refine bodyPost_ret (v := .tuple #[.agg #[.int .u64 x.k, .int .i64 x.i], .bool true]) ?_ rfl ?_
    · rw [results_cell_tmp rfl]; go_simp
    · obtain ⟨h1, h1', h2, h3, hpt, hrt, h5⟩ := HX.out
      obtain ⟨k1, k2, k3, k4, k5⟩ := K.out
      have o6 : Only [N] w2 ((w2.setCell ⟨N, 0, none⟩ (.int .u64 x.k)).setCell ⟨N, 1, none⟩ (.int .i64 x.i)) := ((Only.refl _ _).setCell (by simp) _).setCell (by simp) _
      refine ⟨rfl, HeapOf.removed h1 h3 h5 (k1.only o6 ?_) k2 (k3.trans hpt) hrt (by simp) k4 ?_⟩
      · intro b hb' e
        simp only [List.mem_singleton] at e
        have := HL.out b (by simp only [hown, k4] at hb' ⊢; exact hb')
        omega
      · exact ((oA.mono (T := hown hb v mb) (by simp)).trans k5 (fun k hk => .inl hk)).trans o6 (by simp; exact .inr (by omega))
  · have hx : xs = [] := List.length_eq_zero_iff.1 (by omega)
    subst hx
    have hl : l = [] := h3.nil_eq.symm
    subst hl
    have hh := HeapOf.only0 (w := w) (hb := hb) (S := hown hb v mb) (l := []) ⟨v, mb, [], rfl, h1, h2, h3, h4, h5⟩ oA
    have HX := Lib.hid hh
    clear h1 h2 h3 h4 h5 h0 hh
    unfold It.val first
    go_enter Tryz.func78, Tryz.ntmps78
    go_wp2
    (try simp only [Exit.inBlock, Exit.then])
    refine bodyPost_ret (v := .tuple #[.agg #[.int .u64 0, .int .i64 0], .bool false]) ?_ rfl ?_
    · rw [results_cell_tmp rfl]; go_simp
    · exact ⟨rfl, _, HX.out, Moved.of_only oA⟩

set_option maxRecDepth 100000 in
set_option maxHeartbeats 1000000 in
theorem hDrop (w : World) (hb : Nat) (S : List Nat) (l : List It) (h : HeapOf w hb S l) (id : Int) (hid : i64ok id) :
    Calls Tryz.prog 81 #[.pointer (some ⟨hb, 0, none⟩), .int .i64 id] w fun e w' => e = .returned (.tuple #[((findId id l).getD ⟨0, 0⟩).val, .bool (findId id l).isSome]) ∧ ∃ S', HeapOf w' hb S' (dropId id l) ∧ Moved w S w' S' := by
  obtain ⟨v, mb, xs, rfl, h1, h2, h3, h4, h5⟩ := h
  have oA : Only [] w (w.alloc (.cells #[.int .u64 0, .int .i64 0] 40)) := (Only.refl [] w).alloc _
  have h1' := h1.only0 oA
  have c1 := h1'.c1
  have lk := h1'.map.look hid 107 Tryz.underlying107
  rcases hf : fOf xs id with _ | q
  · have hno : hasId id l = false := by
      rw [← hasId_perm id h3]
      exact (hasId_not _ _).2 ((fOf_none id).1 hf)
    rw [(dropId_none hno).1, (dropId_none hno).2]
    rw [hf] at lk
    have HX := Lib.hid (HeapOf.only0 (w := w) (hb := hb) (S := hown hb v mb) (l := l) ⟨v, mb, xs, rfl, h1, h2, h3, h4, h5⟩ oA)
    clear h1 h1' h2 h3 h4 h5 hf hno
    unfold It.val
    simp only [Option.getD_none, Option.isSome_none] at lk ⊢
    go_enter Tryz.func81, Tryz.ntmps81
    go_wp2
    (try simp only [Exit.inBlock, Exit.then])
    refine bodyPost_ret (v := .tuple #[.agg #[.int .u64 0, .int .i64 0], .bool false]) ?_ rfl ?_
    · rw [results_cell_tmp rfl]; go_simp
    · exact ⟨rfl, _, HX.out, Moved.of_only oA⟩
  · obtain ⟨k, hk, he, rfl⟩ := (fOf_iff h1.ids _ _).1 hf
    rw [hf] at lk
    obtain ⟨d1, d2⟩ := dropId_perm h3 h1.ids hk he
    rw [d2]
    simp only [Option.getD_some, Option.isSome_some] at lk ⊢
    have hrm := hRemove _ hb mb v xs h1' h2 k hk (by rw [h3.length_eq]; exact h5)
    have bR : Box _ w.heap.size ⟨0, 0⟩ := Box.new w ⟨0, 0⟩
    have hlr : (dropId id l).length ≤ l.length := (List.eraseP_sublist).length_le
    have HX := Lib.hid (And.intro h1 (And.intro h3 (And.intro d1 (And.intro (dropId_rises h4 id) (And.intro hlr h5)))))
    have HL : Hid (∀ b ∈ hown hb v mb, b < w.heap.size) := h1.lt
    clear h1 h1' h2 h3 h4 h5 d1 d2 hf he hlr
    unfold It.val at *
    generalize gOf xs k = x at *
    clear hk
    go_enter Tryz.func81, Tryz.ntmps81
    go_wp2_with fail
    refine hrm.mono ?_
    rintro e w2 ⟨rfl, v', ys, k1, k2, k3, k4, k5⟩
    have bR2 := bR.only k5 (fun e => by have := HL.out _ e; omega)
    have y0 := bR2.c0
    have y1 := bR2.c1
    have f0 := bR2.fr 0
    have f1 := bR2.fr 1
    have hlt : w.heap.size < w2.heap.size := bR2.lt
    have K := Lib.hid (And.intro k1 (And.intro k2 (And.intro k3 (And.intro k4 k5))))
    clear k1 k2 k3 k4 k5 bR bR2 hrm lk c1
    generalize hN : w.heap.size = N at *
    go_wp2_with fail
    (try simp only [Exit.inBlock, Exit.then])
    refine bodyPost_ret (v := .tuple #[.agg #[.int .u64 x.k, .int .i64 x.i], .bool true]) ?_ rfl ?_
    · rw [results_cell_tmp rfl]; go_simp
    · obtain ⟨h1, h3, d1, hrt, hlr, h5⟩ := HX.out
      obtain ⟨k1, k2, k3, k4, k5⟩ := K.out
      have o6 : Only [N] w2 ((w2.setCell ⟨N, 0, none⟩ (.int .u64 x.k)).setCell ⟨N, 1, none⟩ (.int .i64 x.i)) := ((Only.refl _ _).setCell (by simp) _).setCell (by simp) _
      refine ⟨rfl, HeapOf.removed h1 h3 h5 (k1.only o6 ?_) k2 (k3.trans d1) hrt hlr k4 ?_⟩
      · intro b hb' e
        simp only [List.mem_singleton] at e
        have := HL.out b (by simp only [hown, k4] at hb' ⊢; exact hb')
        omega
      · exact ((oA.mono (T := hown hb v mb) (by simp)).trans k5 (fun k hk => .inl hk)).trans o6 (by simp; exact .inr (by omega))
end Go.Proofs.YtajhkdbldbifeaaGreatDoor
