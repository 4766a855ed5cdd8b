/-
  Contracts of replay, put, Set and Unset.
-/
import Derived.Test.YtjblafpbffkapaaTourN
import Derived.IntWalk
namespace Go.Proofs.Ytjblafpbffkapaa
set_option maxRecDepth 100000
open Go.RowKit Go.ChangeMaps Go.MapKept
set_option linter.unusedVariables false
set_option linter.unusedSimpArgs false

theorem twice {k p r : Nat} (h : k ≤ 16) (hp : p = 2 * k) (hr : r = 2 * k + 1) : IntKind.i64.wrap (2 * (k : Int)) = (p : Int) ∧ IntKind.i64.wrap ((p : Int) + 1) = (r : Int) :=
  ⟨by rw [IntWalk.i64_in _ (by omega)]; omega, by rw [IntWalk.i64_in _ (by omega)]; omega⟩
theorem cell_past {w : World} {b b' j j' : Nat} {u v : Value} (h : w.cell? ⟨b, j, none⟩ = some v) (hne : b ≠ b' ∨ j ≠ j') : (w.setCell ⟨b', j', none⟩ u).cell? ⟨b, j, none⟩ = some v := by
  rw [World.cell?_setCell_other _ _ _ _ (by intro e; injection e with e1 e2; rcases hne with h3 | h3; exact h3 e1.symm; exact h3 e2.symm)]
  exact h

set_option maxRecDepth 100000 in
set_option maxHeartbeats 2000000 in
/-- replay: all nodes tell again who wins. -/
theorem tReplay (w : World) (tb ib nb n : Nat) (xs : List It) (ns : List Int) (hs : Nat → Bool) (h : TourIs w tb ib nb n xs ns) (q : Nat) (hq : q < 2 * sz n) (ht : TreeBut (sz n) n hs (gOf xs) (ndOf ns) (q / 2)) :
    Calls Try.prog 28 #[.pointer (some ⟨tb, 0, none⟩), .int .i64 (q : Int)] w fun e w' => e = .returned (.tuple #[]) ∧ ∃ ns', TourIs w' tb ib nb n xs ns' ∧ Tree (sz n) n hs (gOf xs) (ndOf ns') ∧ Only [nb] w w' := by
  obtain ⟨hsz, hns, hs1, hs16⟩ := h.szs
  have H0 : Hid (TourIs w tb ib nb n xs ns ∧ TreeBut (sz n) n hs (gOf xs) (ndOf ns) (q / 2) ∧ Only [nb] w w) := ⟨h, ht, Only.refl _ _⟩
  have HSZ := Lib.hid hsz
  clear h ht hsz
  generalize hS : sz n = s at *
  have ES := Lib.hid hS
  clear hS
  go_enter Try.func28, Try.ntmps28
  go_wp2_with fail
  go_loopg [1] s (fun gk si wr => ∃ (k : Nat) (ns' : List Int), si = .int .i64 (k : Int) ∧ k < s ∧ k ≤ gk ∧ Hid (TourIs wr tb ib nb n xs ns' ∧ TreeBut s n hs (gOf xs) (ndOf ns') k ∧ Only [nb] w wr))
  case atStart => exact ⟨q / 2, ns, by simp, by omega, by omega, H0⟩
  case round =>
    obtain ⟨k, ns', rfl, hk, hg, HT⟩ := hrel
    clear H0
    by_cases h1 : 1 ≤ k
    · obtain ⟨h, ht, ho⟩ := HT.out
      have c1 := h.c1
      rw [ES.out] at c1
      have htn := h.ne2
      obtain ⟨p, ep⟩ : ∃ p, p = 2 * k := ⟨_, rfl⟩
      obtain ⟨r, er⟩ : ∃ r, r = 2 * k + 1 := ⟨_, rfl⟩
      obtain ⟨m, em⟩ : ∃ m, m = 2 * s := ⟨_, rfl⟩
      rw [← em] at c1
      have e2 := h.nd (k := 2 * k) (by rw [ES.out]; omega)
      have e3 := h.nd (k := 2 * k + 1) (by rw [ES.out]; omega)
      have f2 := ht.fit (2 * k) (by omega)
      have f3 := ht.fit (2 * k + 1) (by omega)
      have hn1 : ∀ v : Int, TourIs _ tb ib nb n xs (ns'.set k v) := fun v => h.setNode k v
      have hup := ht.up1 HSZ.out h1 hk
      rw [← ndOf_set ns' k _ (by rw [h.nlen, ES.out]; omega)] at hup
      obtain ⟨a, ea⟩ : ∃ a, ndOf ns' (2 * k) = a := ⟨_, rfl⟩
      obtain ⟨c, ec⟩ : ∃ c, ndOf ns' (2 * k + 1) = c := ⟨_, rfl⟩
      rw [ea] at e2 f2 hup
      rw [ec] at e3 f3 hup
      have hbe := tBetter wr.drew tb ib nb n xs ns' (h.only0 (Only.refl [] wr).drew) a c f2 f3
      obtain ⟨v, ev⟩ : ∃ v, bet (gOf xs) a c = v := ⟨_, rfl⟩
      rw [ev] at hbe hup
      have HB := Lib.hid hbe
      have HU := Lib.hid hup
      obtain ⟨t1, t2⟩ := twice (by omega) ep er
      have b1 : (k : Int) < (m : Int) := by omega
      have b2 : (p : Int) < (m : Int) := by omega
      have b3 : (r : Int) < (m : Int) := by omega
      have b4 : (1 : Int) ≤ (k : Int) := by omega
      have hpk : p ≠ k := by omega
      have hrk : r ≠ k := by omega
      rw [← ep] at e2
      rw [← er] at e3
      clear h ht ho hn1 hup hbe f2 f3 ea ec ev ep er em
      go_wp2_with fail
      go_region_held3 (fun w' => w'.cell? ⟨tb, 1, none⟩ = some (.slice (some ⟨nb, 0, none⟩) m m) ∧ w'.cell? ⟨nb, p, none⟩ = some (.int .i64 a) ∧ w'.cell? ⟨nb, r, none⟩ = some (.int .i64 c))
        (first | go_keep | (exact ⟨k0, k1, k2⟩) | (exact ⟨cell_past k0 (.inl htn), cell_past k1 (.inr hpk), cell_past k2 (.inr hrk)⟩))
        ((go_at_call 29; refine HB.out.mono ?_; rintro e u1 ⟨rfl, o2⟩; have k0 := o2.stay (p := ⟨tb, 1, none⟩) (v := .slice (some ⟨nb, 0, none⟩) m m) (by exact c1); have k1 := o2.stay (p := ⟨nb, p, none⟩) (v := .int .i64 a) (by exact e2); have k2 := o2.stay (p := ⟨nb, r, none⟩) (v := .int .i64 c) (by exact e3); have hh := HT.out.1.only0 ((Only.refl [] wr).drew.trans' o2); have fr := hh.nodes.fr k; have e4 := hh.nd (k := k) (by rw [ES.out]; omega); have O2 := Lib.hid (And.intro hh ((Only.refl [] wr).drew.trans' o2)); clear hh o2))
      go_wp2_with fail
      go_roundg (k / 2)
      case measure => omega
      case rel => exact ⟨k / 2, ns'.set k v, by simp, by omega, by omega, ⟨O2.out.1.setNode k v, HU.out, (HT.out.2.2.trans' (O2.out.2.mono (by simp))).setCell (by simp) _⟩⟩
    · have hk0 : k = 0 := by omega
      subst hk0
      go_wp2_with fail
      go_end0
      exact ⟨rfl, ns', HT.out⟩
end Go.Proofs.Ytjblafpbffkapaa
