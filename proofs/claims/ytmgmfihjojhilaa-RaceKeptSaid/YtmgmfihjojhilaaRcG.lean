/-
  IndexFunc, ContainsFunc and DeleteFunc over a row of numbers, by what a closure says; earliest.
-/
import Derived.Test.YtmgmfihjojhilaaRcF
import Derived.Lib.SliceRun
namespace Go.Proofs.Ytmgmfihjojhilaa
set_option maxRecDepth 100000
open Go.RowKit
set_option linter.unusedVariables false
set_option linter.unusedSimpArgs false
set_option maxRecDepth 100000

/-- Numbers from nought up, as integers. -/
def natI (L : List Nat) : List Int := L.map fun k : Nat => (k : Int)
theorem natI_len (L : List Nat) : (natI L).length = L.length := by simp [natI]
theorem natI_at {L : List Nat} {k x : Nat} (h : L[k]? = some x) : (natI L)[k]? = some (x : Int) := by simp [natI, h]
theorem findI_some {L : List Nat} {p : Nat → Bool} {k x : Nat} (hk : L[k]? = some x) (h : p x = true) (hb : ∀ i y : Nat, i < k → L[i]? = some y → p y = false) : L.findIdx? p = some k := by
  rw [List.findIdx?_eq_some_iff_getElem]
  obtain ⟨hlt, e⟩ := List.getElem?_eq_some_iff.1 hk
  refine ⟨hlt, by rw [e]; exact h, fun j hj => ?_⟩
  have := hb j _ hj (List.getElem?_eq_getElem (by omega))
  simp [this]
theorem findI_none {L : List Nat} {p : Nat → Bool} (hb : ∀ i y : Nat, L[i]? = some y → p y = false) : L.findIdx? p = none := by
  rw [List.findIdx?_eq_none_iff]
  intro x hx
  obtain ⟨i, hi⟩ := List.getElem?_of_mem hx
  exact hb i x hi
theorem findI_any (L : List Nat) (p : Nat → Bool) : decide (0 ≤ optI (L.findIdx? p)) = L.any p := by
  rcases h : L.findIdx? p with _ | k
  · rw [List.findIdx?_eq_none_iff] at h
    have : L.any p = false := by rw [List.any_eq_false]; intro x hx; simp [h x hx]
    rw [this]; simp [optI]
  · rw [List.findIdx?_eq_some_iff_getElem] at h
    obtain ⟨hk, hp, _⟩ := h
    have : L.any p = true := List.any_eq_true.2 ⟨_, List.getElem_mem hk, hp⟩
    rw [this]; simp [optI]

set_option maxHeartbeats 1000000 in
theorem cIdx1 (u : World) (A : Option Addr) (n c : Nat) (L : List Nat) (bl bj bc : Nat) (p : Nat → Bool) (hL : L.length = n) (hb : n ≤ 1000) (h : Nums 0 u A (natI L))
    (hq : ∀ (u' : World), Only [] u u' → ∀ i : Nat, i ∈ L → Calls Try.prog 31 #[.int .i64 (i : Int), .pointer (some ⟨bl, 0, none⟩), .pointer (some ⟨bj, 0, none⟩), .pointer (some ⟨bc, 0, none⟩)] u' fun e w' => e = .returned (.bool (p i)) ∧ Only [] u' w') :
    Calls Try.prog 56 #[.slice A n c, .func (.func 31) #[] #[.pointer (some ⟨bl, 0, none⟩), .pointer (some ⟨bj, 0, none⟩), .pointer (some ⟨bc, 0, none⟩)]] u fun e w' => e = .returned (.int .i64 (optI (L.findIdx? p))) ∧ Only [] u w' := by
  have HQ := Lib.hid hq
  have H := Lib.hid (And.intro h hL)
  clear hq h hL
  go_enter Try.func56, Try.ntmps56
  go_wp2_with fail
  go_loopg [8] (n + 1) (fun gk si wr => ∃ k : Nat, si = .int .i64 (k : Int) ∧ k ≤ n ∧ n + 1 ≤ gk + k ∧ Hid (∀ i y, i < k → L[i]? = some y → p y = false) ∧ Hid (Only [] u wr))
  case atStart => exact ⟨0, rfl, by omega, by omega, fun i y hi => absurd hi (by omega), Only.refl _ _⟩
  case round =>
    obtain ⟨k, rfl, hk, hg, hj, O⟩ := hrel
    by_cases hkn : k < n
    · have h1 : (k : Int) < (n : Int) := by omega
      obtain ⟨x, hx⟩ : ∃ x, L[k]? = some x := ⟨_, List.getElem?_eq_getElem (by have := H.out.2; omega)⟩
      obtain ⟨ga, rfl, _, x0, _⟩ := (H.out.1.only0 O.out) k _ (natI_at hx)
      have q := Lib.hid (HQ.out wr O.out x (List.mem_of_getElem? hx))
      have HX := Lib.hid hx
      clear hx
      rcases hp : p x
      · rw [hp] at q
        have J : Hid (∀ i y, i < k + 1 → L[i]? = some y → p y = false) := fun i y hi hy => by
          by_cases e : i = k
          · subst e; have := HX.out; rw [this] at hy; injection hy with hy; subst hy; exact hp
          · exact hj.out i y (by omega) hy
        clear hp
        go_wp2_with (refine q.out.mono ?_; rintro e w2 ⟨rfl, o2⟩; have O2 := Lib.hid (O.out.trans' o2); clear o2)
        go_roundg (n + 1 - (k + 1))
        case measure => omega
        case rel => exact ⟨k + 1, by simp, by omega, by omega, J, O2⟩
      · rw [hp] at q
        have F := Lib.hid (findI_some HX.out hp hj.out)
        clear hp
        go_wp2_with (refine q.out.mono ?_; rintro e w2 ⟨rfl, o2⟩; have O2 := Lib.hid (O.out.trans' o2); clear o2)
        go_ret
        exact ⟨by rw [F.out]; rfl, O2.out⟩
    · have h2 : ¬ ((k : Int) < (n : Int)) := by omega
      have h3 : decide ((k : Int) < (n : Int)) = false := decide_eq_false h2
      have F := Lib.hid (findI_none (p := p) (fun i y hy => hj.out i y (by have := (List.getElem?_eq_some_iff.1 hy).1; have := H.out.2; omega) hy))
      go_wp2_with fail
      go_ret
      exact ⟨by rw [F.out]; rfl, O.out⟩

set_option maxHeartbeats 1000000 in
theorem cIdx2 (u : World) (A : Option Addr) (n c : Nat) (L : List Nat) (bl bj : Nat) (p : Nat → Bool) (hL : L.length = n) (hb : n ≤ 1000) (h : Nums 0 u A (natI L))
    (hq : ∀ (u' : World), Only [] u u' → ∀ i : Nat, i ∈ L → Calls Try.prog 36 #[.int .i64 (i : Int), .pointer (some ⟨bl, 0, none⟩), .pointer (some ⟨bj, 0, none⟩)] u' fun e w' => e = .returned (.bool (p i)) ∧ Only [] u' w') :
    Calls Try.prog 56 #[.slice A n c, .func (.func 36) #[] #[.pointer (some ⟨bl, 0, none⟩), .pointer (some ⟨bj, 0, none⟩)]] u fun e w' => e = .returned (.int .i64 (optI (L.findIdx? p))) ∧ Only [] u w' := by
  have HQ := Lib.hid hq
  have H := Lib.hid (And.intro h hL)
  clear hq h hL
  go_enter Try.func56, Try.ntmps56
  go_wp2_with fail
  go_loopg [8] (n + 1) (fun gk si wr => ∃ k : Nat, si = .int .i64 (k : Int) ∧ k ≤ n ∧ n + 1 ≤ gk + k ∧ Hid (∀ i y, i < k → L[i]? = some y → p y = false) ∧ Hid (Only [] u wr))
  case atStart => exact ⟨0, rfl, by omega, by omega, fun i y hi => absurd hi (by omega), Only.refl _ _⟩
  case round =>
    obtain ⟨k, rfl, hk, hg, hj, O⟩ := hrel
    by_cases hkn : k < n
    · have h1 : (k : Int) < (n : Int) := by omega
      obtain ⟨x, hx⟩ : ∃ x, L[k]? = some x := ⟨_, List.getElem?_eq_getElem (by have := H.out.2; omega)⟩
      obtain ⟨ga, rfl, _, x0, _⟩ := (H.out.1.only0 O.out) k _ (natI_at hx)
      have q := Lib.hid (HQ.out wr O.out x (List.mem_of_getElem? hx))
      have HX := Lib.hid hx
      clear hx
      rcases hp : p x
      · rw [hp] at q
        have J : Hid (∀ i y, i < k + 1 → L[i]? = some y → p y = false) := fun i y hi hy => by
          by_cases e : i = k
          · subst e; have := HX.out; rw [this] at hy; injection hy with hy; subst hy; exact hp
          · exact hj.out i y (by omega) hy
        clear hp
        go_wp2_with (refine q.out.mono ?_; rintro e w2 ⟨rfl, o2⟩; have O2 := Lib.hid (O.out.trans' o2); clear o2)
        go_roundg (n + 1 - (k + 1))
        case measure => omega
        case rel => exact ⟨k + 1, by simp, by omega, by omega, J, O2⟩
      · rw [hp] at q
        have F := Lib.hid (findI_some HX.out hp hj.out)
        clear hp
        go_wp2_with (refine q.out.mono ?_; rintro e w2 ⟨rfl, o2⟩; have O2 := Lib.hid (O.out.trans' o2); clear o2)
        go_ret
        exact ⟨by rw [F.out]; rfl, O2.out⟩
    · have h2 : ¬ ((k : Int) < (n : Int)) := by omega
      have h3 : decide ((k : Int) < (n : Int)) = false := decide_eq_false h2
      have F := Lib.hid (findI_none (p := p) (fun i y hy => hj.out i y (by have := (List.getElem?_eq_some_iff.1 hy).1; have := H.out.2; omega) hy))
      go_wp2_with fail
      go_ret
      exact ⟨by rw [F.out]; rfl, O.out⟩

set_option maxHeartbeats 1000000 in
theorem cContains (u : World) (A : Option Addr) (n c : Nat) (L : List Nat) (bl bj bc : Nat) (p : Nat → Bool) (hL : L.length = n) (hb : n ≤ 1000) (h : Nums 0 u A (natI L))
    (hq : ∀ (u' : World), Only [] u u' → ∀ i : Nat, i ∈ L → Calls Try.prog 31 #[.int .i64 (i : Int), .pointer (some ⟨bl, 0, none⟩), .pointer (some ⟨bj, 0, none⟩), .pointer (some ⟨bc, 0, none⟩)] u' fun e w' => e = .returned (.bool (p i)) ∧ Only [] u' w') :
    Calls Try.prog 33 #[.slice A n c, .func (.func 31) #[] #[.pointer (some ⟨bl, 0, none⟩), .pointer (some ⟨bj, 0, none⟩), .pointer (some ⟨bc, 0, none⟩)]] u fun e w' => e = .returned (.bool (L.any p)) ∧ Only [] u w' := by
  have k := cIdx1 u A n c L bl bj bc p hL hb h hq
  have E : Hid (L.any p = decide (0 ≤ optI (L.findIdx? p))) := (findI_any L p).symm
  clear hq h hL
  generalize optI (L.findIdx? p) = r at *
  by_cases hr : 0 ≤ r
  · have d : decide (0 ≤ r) = true := decide_eq_true hr
    have D := Lib.hid d
    go_enter Try.func33, Try.ntmps33
    go_wp2_with fail
    refine k.mono ?_
    rintro e w2 ⟨rfl, o2⟩
    go_wp2_with fail
    go_ret
    exact ⟨by rw [E.out, D.out]; rfl, o2⟩
  · have d : decide (0 ≤ r) = false := decide_eq_false hr
    have D := Lib.hid d
    go_enter Try.func33, Try.ntmps33
    go_wp2_with fail
    refine k.mono ?_
    rintro e w2 ⟨rfl, o2⟩
    go_wp2_with fail
    go_ret
    exact ⟨by rw [E.out, D.out]; rfl, o2⟩

set_option maxHeartbeats 1000000 in
theorem cEarliest (u : World) (n : Nat) (bl bj bc : Nat) (p : Nat → Bool) (hp : p n = true) (hb : n ≤ 1000)
    (hq : ∀ (u' : World), Only [] u u' → ∀ i : Nat, i ≤ n → Calls Try.prog 31 #[.int .i64 (i : Int), .pointer (some ⟨bl, 0, none⟩), .pointer (some ⟨bj, 0, none⟩), .pointer (some ⟨bc, 0, none⟩)] u' fun e w' => e = .returned (.bool (p i)) ∧ Only [] u' w') :
    Calls Try.prog 34 #[.func (.func 31) #[] #[.pointer (some ⟨bl, 0, none⟩), .pointer (some ⟨bj, 0, none⟩), .pointer (some ⟨bc, 0, none⟩)]] u fun e w' => ∃ i : Nat, e = .returned (.int .i64 (i : Int)) ∧ (i ≤ n ∧ p i = true ∧ ∀ k, k < i → p k = false) ∧ Only [] u w' := by
  have HQ := Lib.hid hq
  have HP := Lib.hid hp
  clear hq hp
  go_enter Try.func34, Try.ntmps34
  go_wp2_with fail
  go_loopg [3] (n + 1) (fun gk si wr => ∃ k : Nat, si = .int .i64 (k : Int) ∧ k ≤ n ∧ n + 1 ≤ gk + k ∧ Hid (∀ i, i < k → p i = false) ∧ Hid (Only [] u wr))
  case atStart => exact ⟨0, rfl, by omega, by omega, fun i hi => absurd hi (by omega), Only.refl _ _⟩
  case round =>
    obtain ⟨k, rfl, hk, hg, hj, O⟩ := hrel
    have q := Lib.hid (HQ.out wr O.out k hk)
    rcases hpk : p k
    · rw [hpk] at q
      have hkn : k < n := by
        rcases Nat.lt_or_ge k n with h | h
        · exact h
        · obtain rfl : k = n := by omega
          have := HP.out; rw [hpk] at this; cases this
      have J : Hid (∀ i, i < k + 1 → p i = false) := fun i hi => by
        by_cases e : i = k
        · subst e; exact hpk
        · exact hj.out i (by omega)
      clear hpk
      go_wp2_with (refine q.out.mono ?_; rintro e w2 ⟨rfl, o2⟩; have O2 := Lib.hid (O.out.trans' o2); clear o2)
      go_roundg (n + 1 - (k + 1))
      case measure => omega
      case rel => exact ⟨k + 1, by simp, by omega, by omega, J, O2⟩
    · rw [hpk] at q
      have F := Lib.hid hpk
      clear hpk
      go_wp2_with (refine q.out.mono ?_; rintro e w2 ⟨rfl, o2⟩; have O2 := Lib.hid (O.out.trans' o2); clear o2)
      go_ret
      exact ⟨k, rfl, ⟨hk, F.out, hj.out⟩, O2.out⟩
end Go.Proofs.Ytmgmfihjojhilaa
