/-
  Contract of the heap's sift, upward and downward.
-/
import Derived.Test.YtfgffgicfieieaaDoorHpU
import Derived.Test.YtfgffgicfieieaaDoorHpS
import Derived.Deep.LoopGhost
namespace Go.Proofs.YtfgffgicfieieaaDoor
set_option maxRecDepth 100000
open Go.RowKit Go.ChangeMaps Go.MapKept
set_option linter.unusedVariables false
set_option linter.unusedSimpArgs false

/-- A way, as a method that is bound to its heap. -/
abbrev wayOf (f hb : Nat) : Value := .func (.func f) #[.pointer (some ⟨hb, 0, none⟩)] #[]

/-- What an upward move keeps. -/
def UpInv (k : Prop) (xs : List It) (i : Nat) : Prop := i < xs.length ∧ HInv (gOf xs) xs.length i ∧ (k → HKids (gOf xs) xs.length i)
theorem UpInv.step {k : Prop} {xs : List It} {i : Nat} (h : UpInv k xs i) (hu : upOK xs i = true) : UpInv k (swl xs i ((i - 1) / 2)) ((i - 1) / 2) := by
  obtain ⟨hi, h1, h2⟩ := h
  simp only [upOK, Bool.and_eq_true, decide_eq_true_eq] at hu
  have hp : (i - 1) / 2 < xs.length := by omega
  unfold UpInv
  rw [gOf_swl xs hi hp, swl_length]
  exact ⟨by omega, h1.up hu.1 hi hu.2, fun _ => HKids.up h1 hu.1 hi hu.2⟩
theorem UpInv.stop {xs : List It} {i : Nat} (hu : upOK xs i = false) : HUp (gOf xs) i := by
  intro hi
  unfold upOK at hu
  rw [show decide (0 < i) = true by simpa using hi, Bool.true_and] at hu
  exact hu
/-- What a downward move keeps. -/
def DownInv (xs : List It) (i : Nat) : Prop := i < xs.length ∧ HInv (gOf xs) xs.length i ∧ HUp (gOf xs) i
theorem kid_cases (xs : List It) (i : Nat) : kid xs i = 2 * i + 1 ∨ kid xs i = 2 * i + 2 := by unfold kid; split <;> simp
theorem kid_least {xs : List It} {i : Nat} (hk : kid xs i < xs.length) : ∀ d, 0 < d → d < xs.length → (d - 1) / 2 = i → (gOf xs (kid xs i)).le (gOf xs d) := by
  intro d hd0 hdn hdi
  have hd : d = 2 * i + 1 ∨ d = 2 * i + 2 := by omega
  unfold kid at hk ⊢
  split
  · rename_i h
    rcases hd with rfl | rfl
    · exact It.le_of_lt h.2
    · exact It.le_refl _
  · rename_i h
    rcases hd with rfl | rfl
    · exact It.le_refl _
    · exact It.le_of_not (fun e => h ⟨hdn, e⟩)
theorem DownInv.step {xs : List It} {i : Nat} (h : DownInv xs i) (hd : downOK xs i = true) : DownInv (swl xs i (kid xs i)) (kid xs i) := by
  obtain ⟨hi, h1, h2⟩ := h
  simp only [downOK, Bool.and_eq_true, decide_eq_true_eq] at hd
  have hc := kid_cases xs i
  have := h1.down h2 (c := kid xs i) (by omega) hd.1 (by omega) (kid_least hd.1) hd.2
  unfold DownInv
  rw [gOf_swl xs hi hd.1, swl_length]
  exact ⟨hd.1, this.1, this.2⟩
theorem DownInv.stop {xs : List It} {i : Nat} (h : DownInv xs i) (hd : downOK xs i = false) : IsHeap (gOf xs) xs.length := by
  refine IsHeap.of h.2.1 (fun c hc0 hcn hci => ?_) h.2.2
  have hk : kid xs i < xs.length := by
    have hc := kid_cases xs i
    unfold kid
    split
    · rename_i e; exact e.1
    · omega
  have h3 : (gOf xs i).le (gOf xs (kid xs i)) := by
    unfold downOK at hd
    rw [show decide (kid xs i < xs.length) = true by simpa using hk, Bool.true_and] at hd
    exact hd
  exact It.le_trans h3 (kid_least hk c hc0 hcn hci)

set_option maxRecDepth 100000 in
set_option maxHeartbeats 2000000 in
theorem sift_up (k : Prop) (w : World) (hb mb : Nat) (v : Value) (xs : List It) (h : HeapIs w hb v mb xs) (i : Nat) (hs : xs.length ≤ 1000000) (hu : UpInv k xs i) :
    Calls Tryd.prog 60 #[.pointer (some ⟨hb, 0, none⟩), .int .i64 (i : Int), wayOf 61 hb] w fun e w' =>
      ∃ (i' : Nat) (ys : List It), e = .returned (.int .i64 (i' : Int)) ∧ HeapIs w' hb v mb ys ∧ ys.Perm xs ∧ UpInv k ys i' ∧ HUp (gOf ys) i' ∧ Only (mb :: v.ownBlock.toList) w w' := by
  have a1 := hupward w hb mb v xs h i hu.1 hs
  go_enter Tryd.func60, Tryd.ntmps60
  go_wp2_with fail
  refine a1.mono ?_
  rintro e w1 ⟨rfl, o1⟩
  go_wp2_with fail
  go_loopg [1, 7, 8] (i + 1) (fun gk si sj so wr => ∃ (p : Nat) (ys : List It), si = .int .i64 (p : Int) ∧ sj = .int .i64 (((p - 1) / 2 : Nat) : Int) ∧ so = .bool (upOK ys p) ∧ p + 1 ≤ gk ∧
    HeapIs wr hb v mb ys ∧ ys.Perm xs ∧ UpInv k ys p ∧ Only (mb :: v.ownBlock.toList) w wr)
  case atStart => exact ⟨i, xs, rfl, rfl, rfl, Nat.le_refl _, h.only0 o1, List.Perm.refl _, hu, o1.mono (by simp)⟩
  case round =>
    obtain ⟨p, ys, rfl, rfl, rfl, hg, hH, hp, hU, ho⟩ := hrel
    have hl := hp.length_eq
    rcases hub : upOK ys p with _ | _
    · have hst := UpInv.stop hub
      have HK := Lib.hid hst
      clear hst
      go_wp2_with fail
      go_ret
      exact ⟨p, ys, rfl, hH, hp, hU, HK.out, ho⟩
    · have hq : (p - 1) / 2 < ys.length := by have := hU.1; omega
      have hp0 : 0 < p := by simp only [upOK, Bool.and_eq_true, decide_eq_true_eq] at hub; exact hub.1
      have a2 := hswap wr hb mb v ys hH p ((p - 1) / 2) hU.1 hq
      have HS := Lib.hid (hU.step hub)
      clear hub
      go_wp2_with fail
      refine a2.mono ?_
      rintro e w2 ⟨rfl, h2, o2⟩
      have a3 := hupward w2 hb mb v _ h2 ((p - 1) / 2) HS.out.1 (by rw [swl_length]; omega)
      go_wp2_with fail
      refine a3.mono ?_
      rintro e w3 ⟨rfl, o3⟩
      go_wp2_with fail
      go_roundg (p + 1 - 1)
      case measure => omega
      case rel =>
        refine ⟨(p - 1) / 2, swl ys p ((p - 1) / 2), by first | rfl | (congr 1; omega), by first | rfl | (congr 1; omega), rfl, by omega, h2.only0 o3, (swl_perm ys hU.1 hq).trans hp, HS.out, ?_⟩
        exact (ho.trans' o2).trans o3 (by simp)

set_option maxRecDepth 100000 in
set_option maxHeartbeats 2000000 in
theorem sift_down (w : World) (hb mb : Nat) (v : Value) (xs : List It) (h : HeapIs w hb v mb xs) (i : Nat) (hs : xs.length ≤ 1000000) (hu : DownInv xs i) :
    Calls Tryd.prog 60 #[.pointer (some ⟨hb, 0, none⟩), .int .i64 (i : Int), wayOf 87 hb] w fun e w' =>
      ∃ (i' : Nat) (ys : List It), e = .returned (.int .i64 (i' : Int)) ∧ HeapIs w' hb v mb ys ∧ ys.Perm xs ∧ IsHeap (gOf ys) ys.length ∧ Only (mb :: v.ownBlock.toList) w w' := by
  have a1 := hdownward w hb mb v xs h i hu.1 hs
  go_enter Tryd.func60, Tryd.ntmps60
  go_wp2_with fail
  refine a1.mono ?_
  rintro e w1 ⟨rfl, o1⟩
  go_wp2_with fail
  go_loopg [1, 7, 8] (xs.length + 1) (fun gk si sj so wr => ∃ (p : Nat) (ys : List It), si = .int .i64 (p : Int) ∧ sj = .int .i64 ((kid ys p : Nat) : Int) ∧ so = .bool (downOK ys p) ∧ xs.length + 1 ≤ gk + p ∧
    HeapIs wr hb v mb ys ∧ ys.Perm xs ∧ DownInv ys p ∧ Only (mb :: v.ownBlock.toList) w wr)
  case atStart => exact ⟨i, xs, rfl, rfl, rfl, by omega, h.only0 o1, List.Perm.refl _, hu, o1.mono (by simp)⟩
  case round =>
    obtain ⟨p, ys, rfl, rfl, rfl, hg, hH, hp, hU, ho⟩ := hrel
    have hl := hp.length_eq
    rcases hub : downOK ys p with _ | _
    · have HK := Lib.hid (hU.stop hub)
      go_wp2_with fail
      go_ret
      exact ⟨p, ys, rfl, hH, hp, HK.out, ho⟩
    · have hq : kid ys p < ys.length := by simp only [downOK, Bool.and_eq_true, decide_eq_true_eq] at hub; exact hub.1
      have hkc := Lib.hid (kid_cases ys p)
      have a2 := hswap wr hb mb v ys hH p (kid ys p) hU.1 hq
      have HS := Lib.hid (hU.step hub)
      have HP := Lib.hid (swl_perm ys hU.1 hq)
      have hpl := hU.1
      clear hub
      generalize kid ys p = c at *
      go_wp2_with fail
      refine a2.mono ?_
      rintro e w2 ⟨rfl, h2, o2⟩
      have a3 := hdownward w2 hb mb v _ h2 c HS.out.1 (by rw [swl_length]; omega)
      go_wp2_with fail
      refine a3.mono ?_
      rintro e w3 ⟨rfl, o3⟩
      go_wp2_with fail
      go_roundg (xs.length + 1 - c)
      case measure => have := hkc.out; omega
      case rel =>
        refine ⟨c, swl ys p c, rfl, rfl, rfl, by have := hkc.out; omega, h2.only0 o3, HP.out.trans hp, HS.out, ?_⟩
        exact (ho.trans' o2).trans o3 (by simp)
end Go.Proofs.YtfgffgicfieieaaDoor
