/-
  A list in memory ('Ck') and what each call does with it, in one form; rows side by side.
-/
import Derived.Test.YtenccllbgffojaaClkW
import Derived.Lib.MinMax
namespace Go.Proofs.Ytenccllbgffojaa
set_option maxRecDepth 100000
open Go.RowKit
set_option linter.unusedVariables false
set_option linter.unusedSimpArgs false
set_option maxRecDepth 100000

structure Ck (W : World) (A : Option Addr) (m c : Nat) (xs : List Int) : Prop where
  nums : Nums 0 W A xs
  len : xs.length = m
  small : m ≤ 90000
  nil : A = none → m = 0 ∧ c = 0
/-- A list that was told: where it lies, in memory that is new. -/
def Told (W : World) (xs : List Int) (m : Nat) (e : Ending) (w' : World) : Prop := ∃ A c, e = .returned (.slice A m c) ∧ Ck w' A m c xs ∧ Only [] W w'
theorem Fresh.told {W w' : World} {xs : List Int} {m : Nat} {e : Ending} (h : Fresh W xs e w') (hm : xs.length = m) (hs : m ≤ 90000) : Told W xs m e w' := by
  subst hm
  obtain ⟨A, c, h1, h2, h3, h4⟩ := h
  exact ⟨A, c, h1, ⟨h2.zero, rfl, hs, h4⟩, h3⟩
section
variable {W w' : World} {A A' : Option Addr} {m c m' c' : Nat} {xs ys : List Int}
theorem Ck.only0 (h : Ck W A m c xs) (ho : Only [] W w') : Ck w' A m c xs := ⟨h.nums.only0 ho, h.len, h.small, h.nil⟩
theorem Ck.at_ (h : Ck W A m c xs) (i : Int) : Calls Try.prog 12 #[.slice A m c, .int .i64 i] W fun e w' => e = .returned (.int .i64 (atM xs i)) ∧ Only [] W w' :=
  (cAt A m c xs i W h.len (by have := h.small; omega) h.nums).mono fun e w' q => ⟨q.1, by rw [q.2]; exact Only.refl [] W⟩
theorem Ck.rat (h : Ck W A m c xs) (i : Int) : Calls Try.prog 13 #[.slice A m c, .int .i64 i] W fun e w' => e = .returned (.int .i64 (atM xs i)) ∧ Only [] W w' :=
  (rAt A m c xs i W h.len (by have := h.small; omega) h.nums).mono fun e w' q => ⟨q.1, by rw [q.2]; exact Only.refl [] W⟩
theorem Ck.tick (h : Ck W A m c xs) (i : Int) {r : Nat} (hr : (tickM xs i).length = r) (hs : r ≤ 90000) : Calls Try.prog 15 #[.slice A m c, .int .i64 i] W (Told W (tickM xs i) r) :=
  (cTick A m c xs i W h.len (by have := h.small; omega) h.nums h.nil).mono fun e w' q => q.told hr hs
theorem Ck.rtick (h : Ck W A m c xs) (i : Int) {r : Nat} (hr : (tickM xs i).length = r) (hs : r ≤ 90000) : Calls Try.prog 16 #[.slice A m c, .int .i64 i] W (Told W (tickM xs i) r) :=
  (rTick A m c xs i W h.len (by have := h.small; omega) h.nums).mono fun e w' q => q.told hr hs
theorem Ck.leq (h : Ck W A m c xs) (h' : Ck W A' m' c' ys) : Calls Try.prog 19 #[.slice A m c, .slice A' m' c'] W fun e w' => e = .returned (.bool (leqB xs ys)) ∧ Only [] W w' :=
  cLeq A m c xs A' m' c' ys W h.len h'.len (by have := h.small; omega) (by have := h'.small; omega) h.nums h'.nums
theorem Ck.rleq (h : Ck W A m c xs) (h' : Ck W A' m' c' ys) : Calls Try.prog 20 #[.slice A m c, .slice A' m' c'] W fun e w' => e = .returned (.bool (leqB xs ys)) ∧ Only [] W w' :=
  (rLeq A m c xs A' m' c' ys W h.len h'.len (by have := h.small; omega) (by have := h'.small; omega) h.nums h'.nums).mono fun e w' q => ⟨q.1, by rw [q.2]; exact Only.refl [] W⟩
theorem Ck.cmp (h : Ck W A m c xs) (h' : Ck W A' m' c' ys) : Calls Try.prog 21 #[.slice A m c, .slice A' m' c'] W fun e w' => e = .returned (.int .i64 (cmpM xs ys)) ∧ Only [] W w' :=
  cCmp A m c xs A' m' c' ys W h.len h'.len (by have := h.small; omega) (by have := h'.small; omega) h.nums h'.nums
theorem Ck.rcmp (h : Ck W A m c xs) (h' : Ck W A' m' c' ys) : Calls Try.prog 22 #[.slice A m c, .slice A' m' c'] W fun e w' => e = .returned (.int .i64 (cmpM xs ys)) ∧ Only [] W w' :=
  (rCmp A m c xs A' m' c' ys W h.len h'.len (by have := h.small; omega) (by have := h'.small; omega) h.nums h'.nums).mono fun e w' q => ⟨q.1, by rw [q.2]; exact Only.refl [] W⟩
theorem Ck.join (h : Ck W A m c xs) (h' : Ck W A' m' c' ys) {r : Nat} (hr : (joinM xs ys).length = r) : Calls Try.prog 17 #[.slice A m c, .slice A' m' c'] W (Told W (joinM xs ys) r) :=
  (cJoin A m c xs A' m' c' ys W h.len h'.len (by have := h.small; omega) (by have := h'.small; omega) h.nums h'.nums).mono fun e w' q => q.told hr (by have h1 := h.small; have h2 := h'.small; have h3 := h.len; have h4 := h'.len; rw [joinM_len] at hr; omega)
theorem Ck.rjoin (h : Ck W A m c xs) (h' : Ck W A' m' c' ys) {r : Nat} (hr : (joinM xs ys).length = r) : Calls Try.prog 18 #[.slice A m c, .slice A' m' c'] W (Told W (joinM xs ys) r) :=
  (rJoin A m c xs A' m' c' ys W h.len h'.len (by have := h.small; omega) (by have := h'.small; omega) h.nums h'.nums).mono fun e w' q => q.told hr (by have h1 := h.small; have h2 := h'.small; have h3 := h.len; have h4 := h'.len; rw [joinM_len] at hr; omega)
theorem Ck.plain (h : Ck W A m c xs) (h' : Ck W A' m c' xs) : Calls Try.prog 14 #[.slice A m c, .slice A' m c'] W fun e w' => e = .returned (.bool true) ∧ Only [] W w' :=
  iPlain W A A' m c c' xs h.len (by have := h.small; omega) h.nums h'.nums
theorem ckNear {n : Nat} {z : Nat → Int} (h : InNums .i64 W A n z) {r : Nat} (hr : (nearM z n).length = r) : Calls Try.prog 9 #[.slice A n c] W (Told W (nearM z n) r) :=
  (cNear W A n c z h).mono fun e w' q => q.told hr (by have := nearM_len z n; omega)
end
theorem ckMod (v n : Int) (h : 0 < n) (hn : n ≤ 1000000) (W : World) : Calls Try.prog 10 #[.int .i64 v, .int .i64 n] W fun e w' => e = .returned (.int .i64 (modI v n)) ∧ Only [] W w' :=
  (cMod v n h hn W).mono fun e w' q => ⟨q.1, by rw [q.2]; exact Only.refl [] W⟩
end Go.Proofs.Ytenccllbgffojaa
