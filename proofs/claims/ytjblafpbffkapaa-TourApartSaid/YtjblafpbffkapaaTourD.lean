/-
  Contract of the document's Node.
-/
import Derived.Test.YtjblafpbffkapaaTourC
namespace Go.Proofs.Ytjblafpbffkapaa
set_option maxRecDepth 100000
open Go.RowKit Go.ChangeMaps Go.MapKept
set_option linter.unusedVariables false
set_option linter.unusedSimpArgs false

theorem refBest_same {P P' : Nat → Bool} {g g' : Nat → It} {m : Nat} (hP : ∀ i, i < m → P i = P' i) (h : ∀ i, i < m → P i = true → g i = g' i) : refBest P g m = refBest P' g' m :=
  Wins.unique ((refBest_wins P g m).congr (fun i => ⟨fun q => ⟨q.1, by rw [← hP i q.1]; exact q.2⟩, fun q => ⟨q.1, by rw [hP i q.1]; exact q.2⟩⟩) (fun i hi => h i hi.1 hi.2)) (refBest_wins P' g' m)
theorem refBest_skip {P : Nat → Bool} {g : Nat → It} {m : Nat} (h : P m = false) : refBest P g (m + 1) = refBest P g m := by
  show (if P m = true ∧ (refBest P g m < 0 ∨ (g m).lt (g (refBest P g m).toNat) = true) then (m : Int) else refBest P g m) = _
  rw [if_neg (by rw [h]; simp)]
theorem refBest_first {P : Nat → Bool} {g : Nat → It} {m : Nat} (h : P m = true) (h2 : refBest P g m < 0) : refBest P g (m + 1) = m := by
  show (if P m = true ∧ (refBest P g m < 0 ∨ (g m).lt (g (refBest P g m).toNat) = true) then (m : Int) else refBest P g m) = _
  rw [if_pos ⟨h, .inl h2⟩]
theorem refBest_then {P : Nat → Bool} {g : Nat → It} {m i : Nat} (h : P m = true) (h2 : refBest P g m = i) : refBest P g (m + 1) = if (g m).lt (g i) = true then (m : Int) else (i : Int) := by
  show (if P m = true ∧ (refBest P g m < 0 ∨ (g m).lt (g (refBest P g m).toNat) = true) then (m : Int) else refBest P g m) = _
  rw [h2, Int.toNat_natCast]
  by_cases h3 : (g m).lt (g i) = true
  · rw [if_pos ⟨h, .inr h3⟩, if_pos h3]
  · rw [if_neg (by rintro ⟨_, h4 | h4⟩; omega; exact h3 h4), if_neg h3]

set_option maxRecDepth 100000 in
set_option maxHeartbeats 8000000 in
theorem rNode (w : World) (xb hb yb n : Nat) (hs : Nat → Bool) (g : Nat → It) (h : RefTour w xb hb yb n hs g) (k : Int) (hk : i64ok k) :
    Calls Try.prog 15 #[.pointer (some ⟨xb, 0, none⟩), .int .i64 k] w fun e w' => e = .returned (.int .i64 (nodeM n hs g k)) ∧ Only [] w w' := by
  obtain ⟨bs, ys, h, hbs, hgs⟩ := h
  have hn1 := h.n1
  have hn := h.n16
  have hsz := sz_Sz n
  have hsn := sz_ge hn
  have hs16 := hsz.le
  have c0 := h.c0
  have H := Lib.hid h
  have HBS := Lib.hid (And.intro hbs hgs)
  clear h hbs hgs
  obtain ⟨R, eR⟩ : ∃ R, nodeM n hs g k = R := ⟨_, rfl⟩
  rw [eR]
  have ER := Lib.hid eR
  clear eR
  go_enter Try.func15, Try.ntmps15
  go_wp2_with fail
  go_loopg [5] 17 (fun gk si wr => ∃ p : Nat, si = .int .i64 (p : Int) ∧ p ≤ 16 ∧ 17 ≤ gk + p ∧ 1 ≤ p ∧ Hid (Sz p ∧ p ≤ sz n) ∧ wr = w)
  case atStart => exact ⟨1, rfl, by omega, by omega, by omega, ⟨by simp [Sz], hs16.1⟩, rfl⟩
  case round =>
    obtain ⟨p, rfl, hp, hg, hp1, HS, rfl⟩ := hrel
    by_cases hl : p < n
    · have hl' : (p : Int) < (n : Int) := by omega
      have hm := sz_more hn HS.out.1 HS.out.2 hl
      have h2p : 2 * p ≤ 16 := hm.1.le.2
      have HM := Lib.hid hm
      clear hm hl
      go_wp2_with fail
      go_roundg (17 - 2 * p)
      case measure => omega
      case rel => exact ⟨2 * p, by simp, h2p, by omega, by omega, HM.out, rfl⟩
    · have hl' : decide ((p : Int) < (n : Int)) = false := decide_eq_false (by omega)
      have hl3 : ¬ ((p : Int) < (n : Int)) := by omega
      have he := Lib.hid (sz_done hn HS.out.1 HS.out.2 hl)
      have hpn : n ≤ p := by omega
      clear hl hsz hsn hs16 HS
      by_cases h1 : k < 1
      · have e : R = -1 := by rw [← ER.out]; unfold nodeM; rw [if_neg (by omega)]
        have h1' : decide (k < 1) = true := decide_eq_true h1
        have EE := Lib.hid e
        clear e
        go_wp2_with fail
        go_ret
        exact ⟨by rw [EE.out]; rfl, Only.refl _ _⟩
      · obtain ⟨q, rfl⟩ : ∃ q : Nat, k = q := ⟨k.toNat, by omega⟩
        have h1' : decide ((q : Int) < 1) = false := decide_eq_false (by omega)
        have hq1 : 1 ≤ q := by omega
        obtain ⟨m, em⟩ : ∃ m, m = 2 * p := ⟨_, rfl⟩
        have em' : (2 : Int) * (p : Int) = (m : Int) := by omega
        by_cases h2 : q < m
        · have h2' : ¬ ((m : Int) ≤ (q : Int)) := by omega
          have EM := Lib.hid em
          have e : Hid (R = refBest (fun i => bOf bs i && under p q i) (gOf ys) n) := by
            show R = _
            rw [← ER.out]
            unfold nodeM
            rw [← he.out, if_pos (by omega), Int.toNat_natCast]
            exact refBest_same (fun i hi => by rw [HBS.out.1 i hi]) (fun i hi hP => (HBS.out.2 i hi (by simp at hP; exact hP.1)).symm)
          have hm32 : m ≤ 32 := by omega
          have hq31 : q ≤ 31 := by omega
          clear em h1
          clear he
          go_wp2_with fail
          clear c0
          go_loopg [6, 7] (n + 1) (fun gk sb si wz => ∃ (i : Nat) (best : Int), sb = .int .i64 best ∧ si = .int .i64 (i : Int) ∧ i ≤ n ∧ n + 1 ≤ gk + i ∧ Hid (best = refBest (fun i => bOf bs i && under p q i) (gOf ys) i) ∧ Hid (Only [] wr wz))
          case atStart => exact ⟨0, -1, rfl, rfl, by omega, by omega, rfl, Only.refl _ _⟩
          case round =>
            obtain ⟨i, best, rfl, rfl, hi, hg2, HB, HO⟩ := hrel
            have h2 := H.out.only0 HO.out
            have c0 := h2.c0
            by_cases hin : i < n
            · have hin' : (i : Int) < (n : Int) := by omega
              have c1 := h2.c1
              have ci := h2.hb_ hin
              obtain ⟨x0, x1⟩ := h2.it hin
              have hpi : p + i ≤ 31 := by omega
              have hbr := refBest_range (fun i => bOf bs i && under p q i) (gOf ys) i
              rw [← HB.out] at hbr
              have HY := Lib.hid h2
              have HBR := Lib.hid hbr
              clear h2 hbr hin
              go_wp2_with fail
              go_loopg [8] 32 (fun gz sn wy => ∃ r : Nat, sn = .int .i64 (r : Int) ∧ r ≤ 31 ∧ r ≤ gz ∧ Hid (up r q = up (p + i) q) ∧ wy = wr)
              case atStart => exact ⟨p + i, by simp, hpi, by omega, rfl, rfl⟩
              case round =>
                obtain ⟨r, rfl, hr, hgr, HR, rfl⟩ := hrel
                by_cases hrq : q < r
                · have hrq' : (q : Int) < (r : Int) := by omega
                  have hup := HR.out
                  rw [up_step hrq (by omega)] at hup
                  have HU := Lib.hid hup
                  clear hup hrq
                  go_wp2_with fail
                  go_roundg (r / 2)
                  case measure => omega
                  case rel => exact ⟨r / 2, by simp, by omega, by omega, HU, rfl⟩
                · have hrq' : decide ((q : Int) < (r : Int)) = false := decide_eq_false (by omega)
                  have hrq2 : ¬ ((q : Int) < (r : Int)) := by omega
                  have hup := HR.out
                  rw [up_stop hrq] at hup
                  have hun : under p q i = (r == q) := by unfold under; rw [← hup]
                  have HUN := Lib.hid hun
                  clear hup hun hrq HR
                  by_cases hre : r = q
                  · subst hre
                    have hP : (bOf bs i && under p r i) = bOf bs i := by rw [HUN.out]; simp
                    have HPP := Lib.hid hP
                    clear hP HUN
                    rcases hbi : bOf bs i with _ | _
                    · rw [hbi] at ci
                      have hsk := refBest_skip (P := fun i => bOf bs i && under p r i) (g := gOf ys) (m := i) (by show (bOf bs i && under p r i) = false; rw [HPP.out, hbi])
                      rw [← HB.out] at hsk
                      have HN := Lib.hid hsk.symm
                      clear hsk hbi HPP
                      go_wp2_with fail
                      go_quiet (fail)
                      go_wp2_with fail
                      go_roundg (n + 1 - (i + 1))
                      case measure => omega
                      case rel => exact ⟨i + 1, best, rfl, by simp, by omega, by omega, HN, HO.out.drewN _⟩
                    · rw [hbi] at ci
                      have hPt : (fun i => bOf bs i && under p r i) i = true := by show (bOf bs i && under p r i) = true; rw [HPP.out, hbi]
                      rcases HBR.out with hb1 | ⟨j, hj, -, hb1⟩
                      · have hsk := refBest_first (g := gOf ys) hPt (by rw [← HB.out, hb1]; decide)
                        have HN := Lib.hid hsk.symm
                        subst hb1
                        clear hsk hbi HPP hPt HB HBR
                        go_wp2_with fail
                        go_quiet (fail)
                        go_wp2_with fail
                        go_roundg (n + 1 - (i + 1))
                        case measure => omega
                        case rel => exact ⟨i + 1, (i : Int), rfl, by simp, by omega, by omega, HN, HO.out.drewN _⟩
                      · have hsk := refBest_then (g := gOf ys) hPt (by rw [← HB.out]; exact hb1)
                        have hjn : j < n := by omega
                        obtain ⟨y0, y1⟩ := HY.out.it hjn
                        have hjn' : (j : Int) < (n : Int) := by omega
                        have hj0 : decide ((j : Int) < 0) = false := decide_eq_false (by omega)
                        obtain ⟨x, ex⟩ : ∃ x, gOf ys i = x := ⟨_, rfl⟩
                        obtain ⟨y, ey⟩ : ∃ y, gOf ys j = y := ⟨_, rfl⟩
                        rw [ex, ey] at hsk
                        rw [ex] at x0 x1
                        rw [ey] at y0 y1
                        have HSK := Lib.hid hsk
                        have hah := rahead_only x y
                        subst hb1
                        clear hsk hbi HPP hPt HB HBR ex ey
                        rcases hl : x.lt y with _ | _
                        · have HN := HSK.out
                          rw [hl, if_neg (by simp)] at HN
                          have HN := Lib.hid HN.symm
                          rw [hl] at hah
                          clear hl HSK
                          go_wp2_with fail
                          go_still_tail 30, (by kernel_rfl)
                          go_wp2_with (go_at_call 16; refine (hah _).mono ?_; rintro e w' ⟨rfl, ho⟩; have HO2 := Lib.hid (HO.out.drew.trans' ho); clear ho)
                          go_roundg (n + 1 - (i + 1))
                          case measure => omega
                          case rel => exact ⟨i + 1, (j : Int), rfl, by simp, by omega, by omega, HN, HO2⟩
                        · have HN := HSK.out
                          rw [hl, if_pos rfl] at HN
                          have HN := Lib.hid HN.symm
                          rw [hl] at hah
                          clear hl HSK
                          go_wp2_with fail
                          go_still_tail 30, (by kernel_rfl)
                          go_wp2_with (go_at_call 16; refine (hah _).mono ?_; rintro e w' ⟨rfl, ho⟩; have HO2 := Lib.hid (HO.out.drew.trans' ho); clear ho)
                          go_roundg (n + 1 - (i + 1))
                          case measure => omega
                          case rel => exact ⟨i + 1, (i : Int), rfl, by simp, by omega, by omega, HN, HO2⟩
                  · have hre' : ((r : Int) == (q : Int)) = false := by simp; omega
                    have hsk := refBest_skip (P := fun i => bOf bs i && under p q i) (g := gOf ys) (m := i) (by show (bOf bs i && under p q i) = false; rw [HUN.out]; simp [hre])
                    rw [← HB.out] at hsk
                    have HN := Lib.hid hsk.symm
                    clear hsk hre HUN
                    go_wp2_with fail
                    go_quiet (fail)
                    go_wp2_with fail
                    go_roundg (n + 1 - (i + 1))
                    case measure => omega
                    case rel => exact ⟨i + 1, best, rfl, by simp, by omega, by omega, HN, HO.out.drewN _⟩
            · have hin' : decide ((i : Int) < (n : Int)) = false := decide_eq_false (by omega)
              have hin2 : ¬ ((i : Int) < (n : Int)) := by omega
              have hie : i = n := by omega
              have HE := Lib.hid hie
              clear hin hie h2
              go_wp2_with fail
              go_ret
              refine ⟨?_, HO.out⟩
              rw [e.out, ← HE.out, ← HB.out]
              rfl
        · have h2' : (m : Int) ≤ (q : Int) := by omega
          have e : R = -1 := by rw [← ER.out]; unfold nodeM; rw [← he.out, if_neg (by omega)]
          have EE := Lib.hid e
          clear e em
          go_wp2_with fail
          go_ret
          exact ⟨by rw [EE.out]; rfl, Only.refl _ _⟩
end Go.Proofs.Ytjblafpbffkapaa
