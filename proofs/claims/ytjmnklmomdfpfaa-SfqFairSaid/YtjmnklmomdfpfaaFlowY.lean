/-
  Same and Plain at packets.
-/
import Derived.Test.YtjmnklmomdfpfaaFlowH
namespace Go.Proofs.Ytjmnklmomdfpfaa
set_option maxRecDepth 100000
open Go.RowKit
set_option linter.unusedVariables false
set_option linter.unusedSimpArgs false
set_option maxRecDepth 100000

/-- The closure of Plain. -/
theorem pPlain1 (x y : Pk) (w : World) : Calls Try.prog 48 #[.agg #[.int .i64 x.f, .int .i64 x.l, .int .i64 x.m], .agg #[.int .i64 y.f, .int .i64 y.l, .int .i64 y.m]] w fun e w' =>
    e = .returned (.bool (decide (x = y))) ∧ Only [] w w' := by
  have hg := pk_guard
  have he := pk_eql x y
  generalize decide (x = y) = b at *
  go_enter Try.func48, Try.ntmps48
  go_wp2
  go_ret
  exact ⟨rfl, ((Only.refl _ _).alloc _).alloc _⟩

theorem pOf_get {xs : List Pk} {k : Nat} (h : k < xs.length) : pOf xs k = xs[k] := by simp [pOf, h]
theorem pOf_ext {xs ys : List Pk} (hl : xs.length = ys.length) (h : ∀ k, k < xs.length → pOf xs k = pOf ys k) : xs = ys := by
  apply List.ext_getElem hl
  intro k h1 h2
  have := h k h1
  rw [pOf_get h1, pOf_get h2] at this
  exact this

set_option maxRecDepth 100000 in
set_option maxHeartbeats 2000000 in
theorem pSame (w : World) (v1 v2 : Value) (xs ys : List Pk) (h1 : PRow w v1 xs) (h2 : PRow w v2 ys) (hl1 : xs.length ≤ 1000000) (hl2 : ys.length ≤ 1000000) :
    Calls Try.prog 47 #[v1, v2, .func (.func 48) #[] #[]] w fun e w' => e = .returned (.bool (decide (xs = ys))) ∧ Only [] w w' := by
  obtain ⟨A1, cap1, e1⟩ := h1.form
  obtain ⟨A2, cap2, e2⟩ := h2.form
  have row : ∀ {v : Value} {zs : List Pk} {A : Option Addr} {cap : Nat}, PRow w v zs → v = .slice A zs.length cap → Hid (∀ W, Only [] w W → ∀ k, k < zs.length → ∃ g, A = some ⟨g, 0, none⟩ ∧ W.cell? ⟨g, k * 3, none⟩ = some (.int .i64 (pOf zs k).f) ∧ W.cell? ⟨g, k * 3 + 1, none⟩ = some (.int .i64 (pOf zs k).l) ∧ W.cell? ⟨g, k * 3 + 2, none⟩ = some (.int .i64 (pOf zs k).m)) := by
    intro v zs A cap hr he W hW k hk
    have h9 := hr.keep (w' := W) (fun g hg => hW.block g (hr.lt hg) (by simp))
    obtain ⟨g, cap', e, -, -, -, -, hc⟩ := h9.at_ (by omega)
    rw [he] at e
    injection e with e1 e2 e3
    exact ⟨g, e1, hc k hk⟩
  have R1 := row h1 e1
  have R2 := row h2 e2
  subst e1 e2
  clear row h1 h2
  by_cases hl : xs.length = ys.length
  · have hl' : ((xs.length : Int) != (ys.length : Int)) = false := by rw [hl]; simp
    have HL := Lib.hid hl
    clear hl
    go_enter Try.func47, Try.ntmps47
    go_wp2_with fail
    go_loopg [7] (xs.length + 1) (fun gk si wr => ∃ p : Nat, si = .int .i64 (p : Int) ∧ p ≤ xs.length ∧ xs.length + 1 ≤ gk + p ∧ Hid (Only [] w wr) ∧ Hid (∀ k, k < p → pOf xs k = pOf ys k))
    case atStart => exact ⟨0, rfl, by omega, by omega, Only.refl _ _, fun k hk => absurd hk (by omega)⟩
    case round =>
      obtain ⟨p, rfl, hp, hg, ho, HK⟩ := hrel
      by_cases hpl : p < xs.length
      · have hpl2 : p < ys.length := by rw [← HL.out]; exact hpl
        obtain ⟨g1, rfl, a0, a1, a2⟩ := R1.out wr ho.out p hpl
        obtain ⟨g2, rfl, b0, b1, b2⟩ := R2.out wr ho.out p hpl2
        have hpl' : (p : Int) < (xs.length : Int) := by omega
        have hpl2' : (p : Int) < (ys.length : Int) := by omega
        obtain ⟨x, ex⟩ : ∃ x, pOf xs p = x := ⟨_, rfl⟩
        obtain ⟨y, ey⟩ : ∃ y, pOf ys p = y := ⟨_, rfl⟩
        rw [ex] at a0 a1 a2
        rw [ey] at b0 b1 b2
        have HX := Lib.hid ex
        have HY := Lib.hid ey
        clear ex ey
        go_wp2_with fail
        go_still_tail 9, (by kernel_rfl)
        change wpList _ _ _ _ _ wr.drew
        go_wp2_with fail
        refine (pPlain1 x y _).mono ?_
        rintro e w2 ⟨rfl, o2⟩
        have ho2 : Hid (Only [] w w2) := ho.out.drew.trans' o2
        clear o2
        by_cases hxy : x = y
        · have hd : decide (x = y) = true := by simpa using hxy
          have HE := Lib.hid hxy
          clear hxy
          rw [hd]
          clear hd
          go_wp2_with fail
          go_roundg (xs.length + 1 - (p + 1))
          case measure => omega
          case rel => exact ⟨p + 1, by simp, by omega, by omega, ho2, fun k hk => by
            rcases Nat.lt_or_ge k p with h1 | h1
            · exact HK.out k h1
            · have : k = p := by omega
              subst this
              rw [HX.out, HY.out]; exact HE.out⟩
        · have hd : decide (x = y) = false := by simpa using hxy
          have hne : decide (xs = ys) = false := by
            apply decide_eq_false
            intro e
            apply hxy
            rw [← HX.out, ← HY.out, e]
          have HE := Lib.hid hne
          clear hxy hne
          rw [hd]
          clear hd
          go_wp2_with fail
          go_ret
          exact ⟨by rw [HE.out]; rfl, ho2.out⟩
      · have hpl' : decide ((p : Int) < (xs.length : Int)) = false := decide_eq_false (by omega)
        have he : decide (xs = ys) = true := by
          simp only [decide_eq_true_eq]
          exact pOf_ext HL.out (fun k hk => HK.out k (by omega))
        have HE := Lib.hid he
        clear he
        go_wp2_with fail
        go_ret
        exact ⟨by rw [HE.out]; rfl, ho.out⟩
  · have hl' : ((xs.length : Int) != (ys.length : Int)) = true := by simp; omega
    have hne : decide (xs = ys) = false := decide_eq_false (fun e => hl (by rw [e]))
    have HE := Lib.hid hne
    clear hl hne
    go_enter Try.func47, Try.ntmps47
    go_wp2_with fail
    go_ret
    exact ⟨by rw [HE.out]; rfl, Only.refl _ _⟩

theorem pPlain (w : World) (v1 v2 : Value) (xs ys : List Pk) (h1 : PRow w v1 xs) (h2 : PRow w v2 ys) (hl1 : xs.length ≤ 1000000) (hl2 : ys.length ≤ 1000000) :
    Calls Try.prog 23 #[v1, v2] w fun e w' => e = .returned (.bool (decide (xs = ys))) ∧ Only [] w w' := by
  have hs := pSame w v1 v2 xs ys h1 h2 hl1 hl2
  generalize decide (xs = ys) = b at *
  go_enter Try.func23, Try.ntmps23
  go_wp2_with fail
  refine hs.mono ?_
  rintro e w2 ⟨rfl, o2⟩
  go_wp2_with fail
  go_ret
  exact ⟨rfl, o2⟩

end Go.Proofs.Ytjmnklmomdfpfaa
