/-
  The document's Conflict, own, found; within.
-/
import Derived.Test.YtmgmfihjojhilaaRcA
import Derived.BigQuiet
import Derived.Deep.QuietTactic
namespace Go.Proofs.Ytmgmfihjojhilaa
set_option maxRecDepth 100000
open Go.RowKit
set_option linter.unusedVariables false
set_option linter.unusedSimpArgs false
set_option maxRecDepth 100000

/-- An event in a box of its own. -/
theorem EvAt.box (w : World) (x : Ev) : EvAt (w.alloc (.cells #[.int .i64 x.who, .int .i64 x.kind, .int .i64 x.lc.k, .int .i64 x.lc.a, .int .i64 x.lc.b] 36)) w.heap.size 0 x := by
  have hb := heap_alloc_new w (.cells #[.int .i64 x.who, .int .i64 x.kind, .int .i64 x.lc.k, .int .i64 x.lc.a, .int .i64 x.lc.b] 36)
  generalize w.alloc _ = W at *
  exact ⟨by rw [cell_of_row W _ _ _ _ (0, 0) hb]; rfl, by rw [cell_of_row W _ _ _ _ (0, 0) hb]; rfl, by rw [cell_of_row W _ _ _ _ (0, 0) hb]; rfl, by rw [cell_of_row W _ _ _ _ (0, 0) hb]; rfl, by rw [cell_of_row W _ _ _ _ (0, 0) hb]; rfl⟩
set_option maxHeartbeats 1000000
theorem rWrites (x : Ev) (w : World) : Calls Try.prog 49 #[.agg #[.int .i64 x.who, .int .i64 x.kind, .int .i64 x.lc.k, .int .i64 x.lc.a, .int .i64 x.lc.b]] w fun e w' => e = .returned (.bool (writesK x.kind)) ∧ Only [] w w' := by
  have O : Hid (∀ o, Only [] w (w.alloc o)) := fun o => (Only.refl [] w).alloc o
  have E : Hid (writesK x.kind = (x.kind == 2 || x.kind == 3 || x.kind == 6)) := rfl
  generalize x.kind = k at *
  rcases h1 : (k == 2) <;> rcases h2 : (k == 3) <;> rcases h3 : (k == 6)
  all_goals
    have F := Lib.hid (And.intro h1 (And.intro h2 h3))
    go_enter Try.func49, Try.ntmps49
    go_wp2
    go_ret
    exact ⟨by rw [E.out, F.out.1, F.out.2.1, F.out.2.2]; rfl, O.out _⟩
theorem plainK_ge {k : Int} (h : 1 ≤ k ∧ k ≤ 6) : plainK k = decide (5 ≤ k) := by
  by_cases h5 : 5 ≤ k
  · rw [decide_eq_true h5]; simp [plainK]; omega
  · rw [decide_eq_false h5]; simp [plainK]; omega
theorem rConf (a b : Ev) (hka : 1 ≤ a.kind ∧ a.kind ≤ 6) (hkb : 1 ≤ b.kind ∧ b.kind ≤ 6) (w : World) : Calls Try.prog 23 #[.agg #[.int .i64 a.who, .int .i64 a.kind, .int .i64 a.lc.k, .int .i64 a.lc.a, .int .i64 a.lc.b], .agg #[.int .i64 b.who, .int .i64 b.kind, .int .i64 b.lc.k, .int .i64 b.lc.a, .int .i64 b.lc.b]] w
    fun e w' => e = .returned (.bool (confB a b)) ∧ Only [] w w' := by
  have q := lc_eql a.lc b.lc
  have O0 : Only [] w ((w.alloc (.cells #[.int .i64 a.who, .int .i64 a.kind, .int .i64 a.lc.k, .int .i64 a.lc.a, .int .i64 a.lc.b] 36)).alloc (.cells #[.int .i64 b.who, .int .i64 b.kind, .int .i64 b.lc.k, .int .i64 b.lc.a, .int .i64 b.lc.b] 36)) := ((Only.refl [] w).alloc _).alloc _
  have HB := Lib.hid (EvAt.boxes w a b).2
  obtain ⟨⟨a0, a1, a2, a3, a4⟩, ⟨b0, b1, b2, b3, b4⟩⟩ := EvAt.boxes w a b
  simp only [Nat.zero_add] at a0 a1 a2 a3 a4 b0 b1 b2 b3 b4
  have HO := Lib.hid O0
  have wa := Lib.hid (fun w => rWrites a w)
  have wb := Lib.hid (fun w => rWrites b w)
  have E : Hid (confB a b = (a.who != b.who && decide (a.lc = b.lc) && (plainK a.kind || plainK b.kind) && (writesK a.kind || writesK b.kind))) := rfl
  rw [plainK_ge hka, plainK_ge hkb] at E
  clear O0 hka hkb
  go_enter Try.func23, Try.ntmps23
  go_upto_region 1 with fail
  generalize (w.alloc (.cells #[.int .i64 a.who, .int .i64 a.kind, .int .i64 a.lc.k, .int .i64 a.lc.a, .int .i64 a.lc.b] 36)).alloc (.cells #[.int .i64 b.who, .int .i64 b.kind, .int .i64 b.lc.k, .int .i64 b.lc.a, .int .i64 b.lc.b] 36) = W at *
  generalize decide (a.lc = b.lc) = dl at *
  generalize writesK a.kind = fa at *
  generalize writesK b.kind = fb at *
  by_cases h5 : 5 ≤ a.kind
  · have e5 : decide (5 ≤ a.kind) = true := decide_eq_true h5
    have E5 := Lib.hid e5
    rcases h1 : (a.who != b.who)
    · have E1 := Lib.hid h1
      clear wa wb
      go_wp2
      go_ret
      exact ⟨by rw [E.out, E1.out]; rfl, HO.out⟩
    have E1 := Lib.hid h1
    rcases dl <;> rcases fa <;> rcases fb
    all_goals
      go_wp2_with (go_at_call 49; first | ((with_reducible refine (wa.out _).mono ?_); rintro e w1 ⟨rfl, o1⟩; have HO1 := Lib.hid (HO.out.trans' o1); have HO := HO1; (obtain ⟨b0, b1, b2, b3, b4⟩ := HB.out.only o1 (by simp)); simp only [Nat.zero_add] at b0 b1 b2 b3 b4; clear o1) | ((with_reducible refine (wb.out _).mono ?_); rintro e w1 ⟨rfl, o1⟩; have HO1 := Lib.hid (HO.out.trans' o1); have HO := HO1; clear o1))
      go_ret
      exact ⟨by rw [E.out, E1.out, E5.out]; rfl, HO.out⟩
  · have e5 : decide (5 ≤ a.kind) = false := decide_eq_false h5
    have E5 := Lib.hid e5
    by_cases h6 : 5 ≤ b.kind
    · have e6 : decide (5 ≤ b.kind) = true := decide_eq_true h6
      have E6 := Lib.hid e6
      rcases h1 : (a.who != b.who)
      · have E1 := Lib.hid h1
        clear wa wb
        go_wp2
        go_ret
        exact ⟨by rw [E.out, E1.out]; rfl, HO.out⟩
      have E1 := Lib.hid h1
      rcases dl <;> rcases fa <;> rcases fb
      all_goals
        go_wp2_with (go_at_call 49; first | ((with_reducible refine (wa.out _).mono ?_); rintro e w1 ⟨rfl, o1⟩; have HO1 := Lib.hid (HO.out.trans' o1); have HO := HO1; (obtain ⟨b0, b1, b2, b3, b4⟩ := HB.out.only o1 (by simp)); simp only [Nat.zero_add] at b0 b1 b2 b3 b4; clear o1) | ((with_reducible refine (wb.out _).mono ?_); rintro e w1 ⟨rfl, o1⟩; have HO1 := Lib.hid (HO.out.trans' o1); have HO := HO1; clear o1))
        go_ret
        exact ⟨by rw [E.out, E1.out, E5.out, E6.out]; rfl, HO.out⟩
    · have e6 : decide (5 ≤ b.kind) = false := decide_eq_false h6
      have E6 := Lib.hid e6
      clear wa wb
      rcases h1 : (a.who != b.who)
      · have E1 := Lib.hid h1
        go_wp2
        go_ret
        exact ⟨by rw [E.out, E1.out]; rfl, HO.out⟩
      have E1 := Lib.hid h1
      rcases dl
      all_goals
        go_wp2
        go_ret
        exact ⟨by rw [E.out, E1.out, E5.out, E6.out]; rfl, HO.out⟩

/-! ### own, found -/
def optI : Option Nat → Int
  | none => -1
  | some k => (k : Int)
set_option maxHeartbeats 2000000 in
theorem rOwn (A : Option Addr) (m c : Nat) (xs : List Ev) (i : Nat) (w : World) (hm : xs.length = m) (hi : i < m) (hb : m ≤ 1000) (h : Evs w A xs) :
    Calls Try.prog 44 #[.slice A m c, .int .i64 (i : Int)] w fun e w' => e = .returned (.int .i64 (optI (lastW (evs xs) (evs xs i).who i))) ∧ Only [] w w' := by
  have H := Lib.hid (And.intro h hm)
  obtain ⟨r, hr⟩ : ∃ r, lastW (evs xs) (evs xs i).who i = r := ⟨_, rfl⟩
  have HR := Lib.hid hr
  rw [hr]
  clear h hm hr
  go_enter Try.func44, Try.ntmps44
  go_wp2_with fail
  go_loopg [5] (i + 1) (fun gk si wr => ∃ p : Nat, si = .int .i64 ((p : Int) - 1) ∧ p ≤ i ∧ p + 1 ≤ gk ∧ Hid (lastW (evs xs) (evs xs i).who p = r) ∧ Hid (Only [] w wr))
  case atStart => exact ⟨i, rfl, by omega, by omega, HR.out, Only.refl _ _⟩
  case round =>
    obtain ⟨p, rfl, hp, hg, hj, O⟩ := hrel
    rcases p with _ | p
    · have F : Hid (optI r = -1) := by have := hj.out; rw [← this]; rfl
      have e0 : (((0 : Nat)) : Int) - 1 = -1 := by decide
      rw [e0]
      go_wp2_with fail
      go_ret
      exact ⟨by rw [F.out]; rfl, O.out⟩
    · have e1 : ((p + 1 : Nat) : Int) - 1 = (p : Int) := by omega
      obtain ⟨g, rfl, c0, _⟩ := (H.out.1.only0 O.out).at_ (k := p) (by have := H.out.2; omega)
      obtain ⟨g', eg, d0, _⟩ := (H.out.1.only0 O.out).at_ (k := i) (by have := H.out.2; omega)
      injection eg with eg
      injection eg with eg
      subst eg
      have J := Lib.hid hj.out
      simp only [lastW] at J
      rw [e1]
      have hpm : p < m := by omega
      generalize (evs xs i).who = u at *
      generalize (evs xs p).who = v at *
      by_cases huv : v = u
      · have b1 : (v == u) = true := by simp [huv]
        have F : Hid (r = some p) := by have := J.out; rw [if_pos huv] at this; exact this.symm
        clear J huv
        go_wp2_with fail
        go_quiet (fail)
        have O5 : Hid (Only [] w (wr.drewN nq)) := O.out.drewN nq
        generalize wr.drewN nq = w5 at *
        go_wp2_with fail
        go_ret
        exact ⟨by rw [F.out]; rfl, O5.out⟩
      · have b1 : (v == u) = false := by simp [huv]
        have F : Hid (lastW (evs xs) u p = r) := by have := J.out; rw [if_neg huv] at this; exact this
        clear J huv
        go_wp2_with fail
        go_quiet (fail)
        have O5 : Hid (Only [] w (wr.drewN nq)) := O.out.drewN nq
        generalize wr.drewN nq = w5 at *
        go_wp2_with fail
        go_roundg (p + 1)
        case measure => omega
        case rel => exact ⟨p, rfl, by omega, by omega, F, O5⟩
set_option maxHeartbeats 4000000 in
theorem rFound (A : Option Addr) (m c : Nat) (xs : List Ev) (i : Nat) (w : World) (hm : xs.length = m) (hi : i < m) (hb : m ≤ 1000) (h : Evs w A xs) :
    Calls Try.prog 45 #[.slice A m c, .int .i64 (i : Int)] w fun e w' => e = .returned (.int .i64 (optI (lastP (evs xs) (evs xs i).lc i))) ∧ Only [] w w' := by
  have H := Lib.hid (And.intro h hm)
  obtain ⟨r, hr⟩ : ∃ r, lastP (evs xs) (evs xs i).lc i = r := ⟨_, rfl⟩
  have HR := Lib.hid hr
  rw [hr]
  clear h hm hr
  go_enter Try.func45, Try.ntmps45
  go_wp2_with fail
  go_loopg [5] (i + 1) (fun gk si wr => ∃ p : Nat, si = .int .i64 ((p : Int) - 1) ∧ p ≤ i ∧ p + 1 ≤ gk ∧ Hid (lastP (evs xs) (evs xs i).lc p = r) ∧ Hid (Only [] w wr))
  case atStart => exact ⟨i, rfl, by omega, by omega, HR.out, Only.refl _ _⟩
  case round =>
    obtain ⟨p, rfl, hp, hg, hj, O⟩ := hrel
    rcases p with _ | p
    · have F : Hid (optI r = -1) := by have := hj.out; rw [← this]; rfl
      have e0 : (((0 : Nat)) : Int) - 1 = -1 := by decide
      rw [e0]
      go_wp2_with fail
      go_ret
      exact ⟨by rw [F.out]; rfl, O.out⟩
    · have e1 : ((p + 1 : Nat) : Int) - 1 = (p : Int) := by omega
      obtain ⟨g, rfl, _, c1, c2, c3, c4⟩ := (H.out.1.only0 O.out).at_ (k := p) (by have := H.out.2; omega)
      obtain ⟨g', eg, _, _, d2, d3, d4⟩ := (H.out.1.only0 O.out).at_ (k := i) (by have := H.out.2; omega)
      injection eg with eg
      injection eg with eg
      subst eg
      have J := Lib.hid hj.out
      simp only [lastP] at J
      rw [e1]
      have hpm : p < m := by omega
      have q := lc_eql (evs xs p).lc (evs xs i).lc
      generalize (evs xs i).lc = u at *
      generalize (evs xs p).lc = v at *
      generalize (evs xs p).kind = k at *
      have done : Hid (v = u → tellsK k = true → r = some p) := fun h1 h2 => by have := J.out; rw [if_pos ⟨h1, h2⟩] at this; exact this.symm
      have more : Hid (¬ (v = u ∧ tellsK k = true) → lastP (evs xs) u p = r) := fun h1 => by have := J.out; rw [if_neg h1] at this; exact this
      have HK : Hid (tellsK k = (k == 2 || k == 3)) := rfl
      clear J
      by_cases huv : v = u
      · have HU := Lib.hid huv
        rw [decide_eq_true huv] at q
        clear huv
        rcases b2 : (k == 2)
        · rcases b3 : (k == 3)
          · have F := Lib.hid (more.out fun h => by have := h.2; rw [HK.out, b2, b3] at this; cases this)
            go_wp2_with fail
            go_quiet (fail)
            have O5 : Hid (Only [] w (wr.drewN nq)) := O.out.drewN nq
            generalize wr.drewN nq = w5 at *
            go_wp2_with fail
            go_roundg (p + 1)
            case measure => omega
            case rel => exact ⟨p, rfl, by omega, by omega, F, O5⟩
          · have F := Lib.hid (done.out HU.out (by rw [HK.out, b2, b3]; rfl))
            go_wp2_with fail
            go_quiet (fail)
            have O5 : Hid (Only [] w (wr.drewN nq)) := O.out.drewN nq
            generalize wr.drewN nq = w5 at *
            go_wp2_with fail
            go_ret
            exact ⟨by rw [F.out]; rfl, O5.out⟩
        · have F := Lib.hid (done.out HU.out (by rw [HK.out, b2]; rfl))
          go_wp2_with fail
          go_quiet (fail)
          have O5 : Hid (Only [] w (wr.drewN nq)) := O.out.drewN nq
          generalize wr.drewN nq = w5 at *
          go_wp2_with fail
          go_ret
          exact ⟨by rw [F.out]; rfl, O5.out⟩
      · rw [decide_eq_false huv] at q
        have F := Lib.hid (more.out fun h => huv h.1)
        clear huv
        go_wp2_with fail
        go_quiet (fail)
        have O5 : Hid (Only [] w (wr.drewN nq)) := O.out.drewN nq
        generalize wr.drewN nq = w5 at *
        go_wp2_with fail
        go_roundg (p + 1)
        case measure => omega
        case rel => exact ⟨p, rfl, by omega, by omega, F, O5⟩
end Go.Proofs.Ytmgmfihjojhilaa
