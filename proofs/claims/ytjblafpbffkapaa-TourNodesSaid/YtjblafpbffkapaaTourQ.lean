/-
  Contracts of put, Set and Unset.
-/
import Derived.Test.YtjblafpbffkapaaTourP
namespace Go.Proofs.Ytjblafpbffkapaa
set_option maxRecDepth 100000
open Go.RowKit Go.ChangeMaps Go.MapKept
set_option linter.unusedVariables false
set_option linter.unusedSimpArgs false

set_option maxRecDepth 100000 in
set_option maxHeartbeats 1000000 in
/-- put where there is no such leaf. -/
theorem tPutOut (w : World) (tb ib nb n : Nat) (xs : List It) (ns : List Int) (h : TourIs w tb ib nb n xs ns) (i : Int) (hi : i < 0 ∨ (n : Int) ≤ i) (x : It) (v : Int) :
    Calls Try.prog 26 #[.pointer (some ⟨tb, 0, none⟩), .int .i64 i, .agg #[.int .u64 x.k, .int .i64 x.i], .int .i64 v] w fun e w' => e = .returned (.bool false) ∧ Only [] w w' := by
  have htb := h.blk.lt
  have c0 := h.c0
  have hn := h.n16
  clear h
  by_cases h0 : i < 0
  · clear hi
    go_enter Try.func26, Try.ntmps26
    go_wp2
    go_ret
    exact ⟨rfl, (Only.refl _ _).alloc _⟩
  · have h1 : (n : Int) ≤ i := by omega
    have h2 : decide (i < 0) = false := decide_eq_false h0
    clear hi
    go_enter Try.func26, Try.ntmps26
    go_wp2
    go_ret
    exact ⟨rfl, (Only.refl _ _).alloc _⟩

set_option maxRecDepth 100000 in
set_option maxHeartbeats 2000000 in
/-- put at a leaf. -/
theorem tPutIn (w : World) (tb ib nb n : Nat) (hs : Nat → Bool) (g : Nat → It) (h : TourOf w tb ib nb n hs g) (q : Nat) (hq : q < n) (x : It) (b : Bool) (v : Int) (hv : v = if b = true then (q : Int) else -1) (g' : Nat → It) (hg1 : b = true → g' q = x) (hg2 : ∀ i, i ≠ q → g' i = g i) :
    Calls Try.prog 26 #[.pointer (some ⟨tb, 0, none⟩), .int .i64 (q : Int), .agg #[.int .u64 x.k, .int .i64 x.i], .int .i64 v] w fun e w' => e = .returned (.bool true) ∧ TourOf w' tb ib nb n (fup hs q b) g' ∧ Only [ib, nb] w w' := by
  obtain ⟨xs, ns, h, ht, hg⟩ := h
  obtain ⟨hsz, hns, hs1, hs16⟩ := h.szs
  have htb := h.blk.lt
  have hib := h.items.lt
  have hnb := h.nodes.lt
  have c0 := h.c0
  have c1 := h.c1
  obtain ⟨i0, i1⟩ := h.it hq
  have fi0 := h.items.fr (q * 2)
  have fi1 := h.items.fr (q * 2 + 1)
  have ne1 := h.ne1
  have ne2 := h.ne2
  have ne3 := h.ne3
  have hn := h.n16
  have hq' : (q : Int) < (n : Int) := by omega
  have hq0 : decide ((q : Int) < 0) = false := decide_eq_false (by omega)
  have hqn : ¬ ((n : Int) ≤ (q : Int)) := by omega
  have hput := ht.put hsz hns hq b x v hv
  rw [← gOf_fup xs q x (by rw [h.len]; exact hq), ← ndOf_set ns (sz n + q) v (by rw [h.nlen]; omega)] at hput
  have H := Lib.hid h
  have HP := Lib.hid hput
  have HG : Hid (∀ i, i < n → fup hs q b i = true → gOf (xs.set q x) i = g' i) := fun i hi hb => by
    rw [gOf_fup xs q x (by rw [h.len]; exact hq)]
    by_cases e : i = q
    · subst e
      rw [fup_same] at hb ⊢
      exact (hg1 hb).symm
    · rw [fup_other _ _ e] at hb ⊢
      rw [hg2 i e]
      exact hg i hi hb
  obtain ⟨s, es⟩ : ∃ s, s = sz n := ⟨_, rfl⟩
  obtain ⟨m, em⟩ : ∃ m, m = 2 * sz n := ⟨_, rfl⟩
  obtain ⟨p, ep⟩ : ∃ p, p = s + q := ⟨_, rfl⟩
  rw [← em] at c1
  have hm2 : (m : Int) / 2 = (s : Int) := by omega
  have hpp : (s : Int) + (q : Int) = (p : Int) := by omega
  have hpm : (p : Int) < (m : Int) := by omega
  have hm32 : m ≤ 32 := by omega
  have hs17 : s ≤ 16 := by omega
  have ES := Lib.hid es
  have EP := Lib.hid ep
  have EM := Lib.hid em
  clear hput ht hg h hg1 hg2 hv es em ep hsz
  go_enter Try.func26, Try.ntmps26
  go_wp2_with fail
  go_region
  have oW : Only [ib] w (((w.setCell ⟨ib, q * 2, none⟩ (.int .u64 x.k)).setCell ⟨ib, q * 2 + 1, none⟩ (.int .i64 x.i)).alloc (.cells #[.int .u64 x.k, .int .i64 x.i] 43)).drew :=
    ((((Only.refl [ib] w).setCell (by simp) _).setCell (by simp) _).alloc _).drew
  have hW := (H.out.setItem q x).only0 (((Only.refl [] _).alloc (.cells #[.int .u64 x.k, .int .i64 x.i] 43)).drew)
  generalize (((w.setCell ⟨ib, q * 2, none⟩ (.int .u64 x.k)).setCell ⟨ib, q * 2 + 1, none⟩ (.int .i64 x.i)).alloc (.cells #[.int .u64 x.k, .int .i64 x.i] 43)).drew = W1 at *
  clear c0 c1 i0 i1 fi0 fi1
  have c1 := hW.c1
  have es := ES.out
  have em : 2 * sz n = m := EM.out.symm
  rw [em] at c1
  have fr := hW.nodes.fr p
  have cp := hW.nd (k := p) (by omega)
  have hset := hW.setNode p v
  have ep := EP.out
  have hre := tReplay (W1.setCell ⟨nb, p, none⟩ (.int .i64 v)) tb ib nb n (xs.set q x) (ns.set p v) (fup hs q b) hset p (by omega) (by rw [ep, es]; exact HP.out)
  have HR := Lib.hid hre
  have HO : Hid (Only [ib, nb] w (W1.setCell ⟨nb, p, none⟩ (.int .i64 v))) := (oW.mono (T := [ib, nb]) (by simp)).setCell (by simp) _
  clear hset hre hW es em ep oW
  go_wp2_with fail
  refine HR.out.mono ?_
  rintro e w2 ⟨rfl, ns', h2, ht2, o2⟩
  have R2 := Lib.hid (And.intro h2 (And.intro ht2 o2))
  clear h2 ht2 o2
  go_wp2_with fail
  go_ret
  exact ⟨rfl, ⟨_, ns', R2.out.1, R2.out.2.1, HG.out⟩, HO.out.trans R2.out.2.2 (by simp)⟩

set_option maxRecDepth 100000 in
theorem tSet (w : World) (tb ib nb n : Nat) (hs : Nat → Bool) (g : Nat → It) (h : TourOf w tb ib nb n hs g) (i : Int) (x : It) :
    Calls Try.prog 18 #[.pointer (some ⟨tb, 0, none⟩), .int .i64 i, .agg #[.int .u64 x.k, .int .i64 x.i]] w fun e w' => (0 ≤ i ∧ i < (n : Int) → e = .returned (.bool true) ∧ TourOf w' tb ib nb n (fup hs i.toNat true) (fup g i.toNat x) ∧ Only [ib, nb] w w') ∧ (¬ (0 ≤ i ∧ i < (n : Int)) → e = .returned (.bool false) ∧ Only [] w w') := by
  have o1 : Only [] w (w.alloc (.cells #[.int .u64 x.k, .int .i64 x.i] 43)) := (Only.refl [] w).alloc _
  have h1 := h.only0 o1
  by_cases hi : 0 ≤ i ∧ i < (n : Int)
  · obtain ⟨q, rfl⟩ : ∃ q : Nat, i = q := ⟨i.toNat, by omega⟩
    have hp := tPutIn _ tb ib nb n hs g h1 q (by omega) x true (q : Int) (by simp) (fup g q x) (fun _ => fup_same _ _ _) (fun i hi => fup_other _ _ hi)
    have HP := Lib.hid hp
    have O1 := Lib.hid o1
    clear hp h h1 o1
    go_enter Try.func18, Try.ntmps18
    go_wp2_with fail
    refine HP.out.mono ?_
    rintro e w2 ⟨rfl, h2, o2⟩
    have R2 := Lib.hid (And.intro h2 o2)
    clear h2 o2
    go_wp2_with fail
    go_ret
    exact ⟨fun _ => ⟨rfl, R2.out.1, (O1.out.mono (by simp)).trans' R2.out.2⟩, fun h => absurd hi h⟩
  · obtain ⟨xs, ns, h2, -, -⟩ := h1
    have hp := tPutOut _ tb ib nb n xs ns h2 i (by omega) x i
    have HP := Lib.hid hp
    have O1 := Lib.hid o1
    clear hp h h2 o1
    go_enter Try.func18, Try.ntmps18
    go_wp2_with fail
    refine HP.out.mono ?_
    rintro e w2 ⟨rfl, o2⟩
    have R2 := Lib.hid o2
    clear o2
    go_wp2_with fail
    go_ret
    exact ⟨fun h => absurd h hi, fun _ => ⟨rfl, O1.out.trans' R2.out⟩⟩

set_option maxRecDepth 100000 in
theorem tUnset (w : World) (tb ib nb n : Nat) (hs : Nat → Bool) (g : Nat → It) (h : TourOf w tb ib nb n hs g) (i : Int) :
    Calls Try.prog 19 #[.pointer (some ⟨tb, 0, none⟩), .int .i64 i] w fun e w' => (0 ≤ i ∧ i < (n : Int) → e = .returned (.bool true) ∧ TourOf w' tb ib nb n (fup hs i.toNat false) g ∧ Only [ib, nb] w w') ∧ (¬ (0 ≤ i ∧ i < (n : Int)) → e = .returned (.bool false) ∧ Only [] w w') := by
  by_cases hi : 0 ≤ i ∧ i < (n : Int)
  · obtain ⟨q, rfl⟩ : ∃ q : Nat, i = q := ⟨i.toNat, by omega⟩
    have hp := tPutIn _ tb ib nb n hs g h q (by omega) ⟨0, 0⟩ false (-1) (by simp) g (fun h => by cases h) (fun i hi => rfl)
    have HP := Lib.hid hp
    clear hp h
    go_enter Try.func19, Try.ntmps19
    go_wp2_with fail
    refine HP.out.mono ?_
    rintro e w2 ⟨rfl, h2, o2⟩
    have R2 := Lib.hid (And.intro h2 o2)
    clear h2 o2
    go_wp2_with fail
    go_ret
    exact ⟨fun _ => ⟨rfl, R2.out.1, R2.out.2⟩, fun h => absurd hi h⟩
  · obtain ⟨xs, ns, h2, -, -⟩ := h
    have hp := tPutOut _ tb ib nb n xs ns h2 i (by omega) ⟨0, 0⟩ (-1)
    have HP := Lib.hid hp
    clear hp h2
    go_enter Try.func19, Try.ntmps19
    go_wp2_with fail
    refine HP.out.mono ?_
    rintro e w2 ⟨rfl, o2⟩
    have R2 := Lib.hid o2
    clear o2
    go_wp2_with fail
    go_ret
    exact ⟨fun h => absurd h hi, fun _ => ⟨rfl, R2.out⟩⟩
end Go.Proofs.Ytjblafpbffkapaa
