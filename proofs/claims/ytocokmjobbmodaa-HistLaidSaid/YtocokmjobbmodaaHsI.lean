/-
  The document's RightHist.
-/
import Derived.Test.YtocokmjobbmodaaHsM
namespace Go.Proofs.Ytocokmjobbmodaa
set_option maxRecDepth 100000
open Go.RowKit
set_option linter.unusedVariables false
set_option linter.unusedSimpArgs false
set_option maxRecDepth 100000

set_option maxHeartbeats 4000000
theorem rRight (A : Option Addr) (n c : Nat) (L : List Dn) (u : World) (hL : L.length = n) (hb : n ≤ 1000000) (h : Dns u A L) :
    Calls Try.prog 13 #[.slice A n c] u fun e w' => e = .returned (.bool (rightB L)) ∧ Only [] u w' := by
  have H := Lib.hid (And.intro h hL)
  clear h hL
  go_enter Try.func13, Try.ntmps13
  go_wp2_with fail
  go_loopg [3] (n + 1) (fun gk si wr => ∃ i : Nat, si = .int .i64 (i : Int) ∧ i ≤ n ∧ n + 1 ≤ gk + i ∧ Hid (∀ j, j < i → wrongB (dns L j) = false ∧ ∀ k, k < n → badB L j k = false) ∧ Hid (Only [] u wr))
  case atStart => exact ⟨0, rfl, by omega, by omega, fun j hj => absurd hj (by omega), Only.refl _ _⟩
  case round =>
    obtain ⟨i, rfl, hi, hg, hj, O⟩ := hrel
    by_cases hin : i < n
    · have h1 : (i : Int) < (n : Int) := by omega
      obtain ⟨ga, rfl, hc⟩ := (H.out.1.only0 O.out).at_ (k := i) (by have := H.out.2; omega)
      obtain ⟨x, hx⟩ : ∃ x, dns L i = x := ⟨_, rfl⟩
      rw [hx] at hc
      have HX := Lib.hid hx
      have al := Only.alloc (Only.refl [] wr) (.cells #[.int .i64 x.who, .int .i64 x.place, .int .i64 x.op, .int .i64 x.f, .int .i64 x.a, .int .i64 x.b, .int .i64 x.e, .slice x.A x.m x.c, .int .i64 x.n, .int .u64 x.v, .int .i64 x.fr, .int .i64 x.to] 31)
      have hxb := Lib.hid (fun (V : World) (o : Only [] (wr.alloc (.cells #[.int .i64 x.who, .int .i64 x.place, .int .i64 x.op, .int .i64 x.f, .int .i64 x.a, .int .i64 x.b, .int .i64 x.e, .slice x.A x.m x.c, .int .i64 x.n, .int .u64 x.v, .int .i64 x.fr, .int .i64 x.to] 31)) V) => (DnAt.box wr x 31).only0 o)
      have O1 : Hid (Only [] u (wr.alloc (.cells #[.int .i64 x.who, .int .i64 x.place, .int .i64 x.op, .int .i64 x.f, .int .i64 x.a, .int .i64 x.b, .int .i64 x.e, .slice x.A x.m x.c, .int .i64 x.n, .int .u64 x.v, .int .i64 x.fr, .int .i64 x.to] 31))) := O.out.trans' al
      obtain ⟨x0, x1, x2, x3, x4, x5, x6, x7, x8, x9, x10, x11⟩ := hc; (try simp only [Nat.zero_add] at x0 x1 x2 x3 x4 x5 x6 x7 x8 x9 x10 x11)
      clear hx al
      go_upto_region 5 with fail
      clear x0 x1 x2 x3 x4 x5 x6 x7 x8 x9 x10 x11
      generalize wr.alloc (.cells #[.int .i64 x.who, .int .i64 x.place, .int .i64 x.op, .int .i64 x.f, .int .i64 x.a, .int .i64 x.b, .int .i64 x.e, .slice x.A x.m x.c, .int .i64 x.n, .int .u64 x.v, .int .i64 x.fr, .int .i64 x.to] 31) = W1 at *
      generalize wr.heap.size = b1 at *
      obtain ⟨x0, x1, x2, x3, x4, x5, x6, x7, x8, x9, x10, x11⟩ := hxb.out W1 (Only.refl _ _); (try simp only [Nat.zero_add] at x0 x1 x2 x3 x4 x5 x6 x7 x8 x9 x10 x11)
      have EW : Hid (wrongB x = (decide (x.who < 0) || decide (x.place < 0) || decide (x.fr < 0) || (x.to != -1 && decide (x.to < x.fr)))) := rfl
      by_cases hw : wrongB x = true
      · have F : Hid (rightB L = false) := rightB_f fun hR => by
          have h9 := ((right_doc.1 hR) i (by have := H.out.2; omega)).1
          rw [HX.out, hw] at h9
          cases h9
        have hw2 := hw
        rw [EW.out] at hw2
        clear hw
        rcases p1 : decide (x.who < 0) <;> rcases p2 : decide (x.place < 0) <;> rcases p3 : decide (x.fr < 0) <;> rcases p4 : (x.to != -1) <;> rcases p5 : decide (x.to < x.fr)
        all_goals
          rw [p1, p2, p3, p4, p5] at hw2
          first
            | (exfalso; revert hw2; decide)
            | (clear hw2
               go_wp2_with fail
               go_ret
               exact ⟨by rw [F.out]; rfl, O1.out⟩)
      · have WX : Hid (wrongB x = false) := by show _ = _; simpa using hw
        have hw2 := WX.out
        rw [EW.out] at hw2
        clear hw
        simp only [Bool.or_eq_false_iff, Bool.and_eq_false_iff] at hw2
        obtain ⟨⟨⟨p1, p2⟩, p3⟩, p45⟩ := hw2
        rcases p4 : (x.to != -1)
        · clear p45
          go_wp2_with fail
          clear x0 x1 x2 x3 x4 x5 x6 x7 x8 x9 x10 x11
          go_loopg [5] (n + 1) (fun gk2 sk wr2 => ∃ k : Nat, sk = .int .i64 (k : Int) ∧ k ≤ n ∧ n + 1 ≤ gk2 + k ∧ Hid (∀ k', k' < k → badB L i k' = false) ∧ Hid (Only [] W1 wr2))
          case atStart => exact ⟨0, rfl, by omega, by omega, fun k' h => absurd h (by omega), Only.refl _ _⟩
          case round =>
            obtain ⟨k, rfl, hk, hg2, hjk, O2⟩ := hrel
            by_cases hkn : k < n
            · have h3 : (k : Int) < (n : Int) := by omega
              obtain ⟨ga', ea, hc⟩ := (H.out.1.only0 (O1.out.trans' O2.out)).at_ (k := k) (by have := H.out.2; omega)
              injection ea with ea
              injection ea with ea
              subst ea
              obtain ⟨y, hy⟩ : ∃ y, dns L k = y := ⟨_, rfl⟩
              rw [hy] at hc
              have HY := Lib.hid hy
              have al := Only.alloc (Only.refl [] wr) (.cells #[.int .i64 y.who, .int .i64 y.place, .int .i64 y.op, .int .i64 y.f, .int .i64 y.a, .int .i64 y.b, .int .i64 y.e, .slice y.A y.m y.c, .int .i64 y.n, .int .u64 y.v, .int .i64 y.fr, .int .i64 y.to] 31)
              have hyb := Lib.hid (fun (V : World) (o : Only [] (wr.alloc (.cells #[.int .i64 y.who, .int .i64 y.place, .int .i64 y.op, .int .i64 y.f, .int .i64 y.a, .int .i64 y.b, .int .i64 y.e, .slice y.A y.m y.c, .int .i64 y.n, .int .u64 y.v, .int .i64 y.fr, .int .i64 y.to] 31)) V) => (DnAt.box wr y 31).only0 o)
              have OW : Hid (Only [] W1 (wr.alloc (.cells #[.int .i64 y.who, .int .i64 y.place, .int .i64 y.op, .int .i64 y.f, .int .i64 y.a, .int .i64 y.b, .int .i64 y.e, .slice y.A y.m y.c, .int .i64 y.n, .int .u64 y.v, .int .i64 y.fr, .int .i64 y.to] 31))) := O2.out.trans' al
              obtain ⟨y0, y1, y2, y3, y4, y5, y6, y7, y8, y9, y10, y11⟩ := hc; (try simp only [Nat.zero_add] at y0 y1 y2 y3 y4 y5 y6 y7 y8 y9 y10 y11)
              clear hy al
              go_upto_region 11 with fail
              clear y0 y1 y2 y3 y4 y5 y6 y7 y8 y9 y10 y11
              generalize wr.alloc (.cells #[.int .i64 y.who, .int .i64 y.place, .int .i64 y.op, .int .i64 y.f, .int .i64 y.a, .int .i64 y.b, .int .i64 y.e, .slice y.A y.m y.c, .int .i64 y.n, .int .u64 y.v, .int .i64 y.fr, .int .i64 y.to] 31) = W2 at *
              generalize wr.heap.size = b2 at *
              have OZ0 : Hid (Only [] u W2) := O1.out.trans' OW.out
              have qa := Lib.hid (fun (V : World) => rAhead x y V)
              obtain ⟨x0, x1, x2, x3, x4, x5, x6, x7, x8, x9, x10, x11⟩ := hxb.out W2 OW.out; (try simp only [Nat.zero_add] at x0 x1 x2 x3 x4 x5 x6 x7 x8 x9 x10 x11)
              obtain ⟨y0, y1, y2, y3, y4, y5, y6, y7, y8, y9, y10, y11⟩ := hyb.out W2 (Only.refl _ _); (try simp only [Nat.zero_add] at y0 y1 y2 y3 y4 y5 y6 y7 y8 y9 y10 y11)
              have EB : Hid (badB L i k = (decide (k ≠ i) && (x.who == y.who && (x.place == y.place || (decide (x.place < y.place) && !aheadD x y))))) := by show _ = _; unfold badB; rw [HX.out, HY.out]
              by_cases p0 : k = i
              · have b0 : ((k : Int) != (i : Int)) = false := by simp [p0]
                have b0' : (k != i) = false := by simp [p0]
                have BD : Hid (badB L i k = false) := by show _ = _; rw [EB.out]; simp [p0]
                have OZ := OZ0
                have OZ1 := OW
                clear p0
                have J2 : Hid (∀ k', k' < k + 1 → badB L i k' = false) := fun k' hk' => by
                  by_cases e : k' = k
                  · subst e; exact BD.out
                  · exact hjk.out k' (by omega)
                go_wp2_with fail
                go_roundg (n + 1 - (k + 1))
                case measure => omega
                case rel => exact ⟨k + 1, by simp, by omega, by omega, J2, OZ1.out⟩

              · have b0 : ((k : Int) != (i : Int)) = true := by simp; omega
                have b0' : (k != i) = true := by simp; omega
                have d0 : decide (k ≠ i) = true := by simpa using p0
                have D0 := Lib.hid d0
                clear d0 p0
                rcases p1 : (x.who == y.who)
                · have BD : Hid (badB L i k = false) := by show _ = _; rw [EB.out, p1]; simp
                  have OZ := OZ0
                  have OZ1 := OW
                  have J2 : Hid (∀ k', k' < k + 1 → badB L i k' = false) := fun k' hk' => by
                    by_cases e : k' = k
                    · subst e; exact BD.out
                    · exact hjk.out k' (by omega)
                  go_wp2_with fail
                  go_roundg (n + 1 - (k + 1))
                  case measure => omega
                  case rel => exact ⟨k + 1, by simp, by omega, by omega, J2, OZ1.out⟩

                · rcases p2 : (x.place == y.place)
                  · rcases p3 : decide (x.place < y.place)
                    · have BD : Hid (badB L i k = false) := by show _ = _; rw [EB.out, p1, p2, p3]; simp
                      have OZ := OZ0
                      have OZ1 := OW
                      have J2 : Hid (∀ k', k' < k + 1 → badB L i k' = false) := fun k' hk' => by
                        by_cases e : k' = k
                        · subst e; exact BD.out
                        · exact hjk.out k' (by omega)
                      go_wp2_with fail
                      go_roundg (n + 1 - (k + 1))
                      case measure => omega
                      case rel => exact ⟨k + 1, by simp, by omega, by omega, J2, OZ1.out⟩

                    · rcases p4 : aheadD x y
                      · have BD : Hid (badB L i k = true) := by show _ = _; rw [EB.out, p1, p2, p3, p4, D0.out]; simp
                        rw [p4] at qa
                        clear p4
                        go_wp2_with fail
                        refine (qa.out _).mono ?_
                        rintro e w9 ⟨rfl, o9⟩
                        have OZ := Lib.hid (OZ0.out.trans' o9)
                        have OZ1 := Lib.hid (OW.out.trans' o9)
                        clear o9
                        go_wp2_with fail

                        have F : Hid (rightB L = false) := rightB_f fun hR => by
                          have h9 := ((right_doc.1 hR) i (by have := H.out.2; omega)).2 k (by have := H.out.2; omega)
                          rw [BD.out] at h9
                          cases h9
                        go_ret
                        exact ⟨by rw [F.out]; rfl, OZ.out⟩

                      · have BD : Hid (badB L i k = false) := by show _ = _; rw [EB.out, p1, p2, p3, p4]; simp
                        rw [p4] at qa
                        clear p4
                        go_wp2_with fail
                        refine (qa.out _).mono ?_
                        rintro e w9 ⟨rfl, o9⟩
                        have OZ := Lib.hid (OZ0.out.trans' o9)
                        have OZ1 := Lib.hid (OW.out.trans' o9)
                        clear o9
                        go_wp2_with fail

                        have J2 : Hid (∀ k', k' < k + 1 → badB L i k' = false) := fun k' hk' => by
                          by_cases e : k' = k
                          · subst e; exact BD.out
                          · exact hjk.out k' (by omega)
                        go_roundg (n + 1 - (k + 1))
                        case measure => omega
                        case rel => exact ⟨k + 1, by simp, by omega, by omega, J2, OZ1.out⟩

                  · have BD : Hid (badB L i k = true) := by show _ = _; rw [EB.out, p1, p2, D0.out]; simp
                    have OZ := OZ0
                    have OZ1 := OW
                    have F : Hid (rightB L = false) := rightB_f fun hR => by
                      have h9 := ((right_doc.1 hR) i (by have := H.out.2; omega)).2 k (by have := H.out.2; omega)
                      rw [BD.out] at h9
                      cases h9
                    go_wp2_with fail
                    go_ret
                    exact ⟨by rw [F.out]; rfl, OZ.out⟩

            · have h3 : ¬ ((k : Int) < (n : Int)) := by omega
              have d3 : decide ((k : Int) < (n : Int)) = false := decide_eq_false h3
              have J3 : Hid (∀ j, j < i + 1 → wrongB (dns L j) = false ∧ ∀ k', k' < n → badB L j k' = false) := fun j hj' => by
                by_cases e : j = i
                · subst e
                  exact ⟨by rw [HX.out]; exact WX.out, fun k' hk' => hjk.out k' (by omega)⟩
                · exact hj.out j (by omega)
              go_wp2_with fail
              go_roundg (n + 1 - (i + 1))
              case measure => omega
              case rel => exact ⟨i + 1, by simp, by omega, by omega, J3, O1.out.trans' O2.out⟩
        · have p5 : decide (x.to < x.fr) = false := by
            rcases p45 with h | h
            · rw [p4] at h; cases h
            · exact h
          clear p45
          go_wp2_with fail
          clear x0 x1 x2 x3 x4 x5 x6 x7 x8 x9 x10 x11
          go_loopg [5] (n + 1) (fun gk2 sk wr2 => ∃ k : Nat, sk = .int .i64 (k : Int) ∧ k ≤ n ∧ n + 1 ≤ gk2 + k ∧ Hid (∀ k', k' < k → badB L i k' = false) ∧ Hid (Only [] W1 wr2))
          case atStart => exact ⟨0, rfl, by omega, by omega, fun k' h => absurd h (by omega), Only.refl _ _⟩
          case round =>
            obtain ⟨k, rfl, hk, hg2, hjk, O2⟩ := hrel
            by_cases hkn : k < n
            · have h3 : (k : Int) < (n : Int) := by omega
              obtain ⟨ga', ea, hc⟩ := (H.out.1.only0 (O1.out.trans' O2.out)).at_ (k := k) (by have := H.out.2; omega)
              injection ea with ea
              injection ea with ea
              subst ea
              obtain ⟨y, hy⟩ : ∃ y, dns L k = y := ⟨_, rfl⟩
              rw [hy] at hc
              have HY := Lib.hid hy
              have al := Only.alloc (Only.refl [] wr) (.cells #[.int .i64 y.who, .int .i64 y.place, .int .i64 y.op, .int .i64 y.f, .int .i64 y.a, .int .i64 y.b, .int .i64 y.e, .slice y.A y.m y.c, .int .i64 y.n, .int .u64 y.v, .int .i64 y.fr, .int .i64 y.to] 31)
              have hyb := Lib.hid (fun (V : World) (o : Only [] (wr.alloc (.cells #[.int .i64 y.who, .int .i64 y.place, .int .i64 y.op, .int .i64 y.f, .int .i64 y.a, .int .i64 y.b, .int .i64 y.e, .slice y.A y.m y.c, .int .i64 y.n, .int .u64 y.v, .int .i64 y.fr, .int .i64 y.to] 31)) V) => (DnAt.box wr y 31).only0 o)
              have OW : Hid (Only [] W1 (wr.alloc (.cells #[.int .i64 y.who, .int .i64 y.place, .int .i64 y.op, .int .i64 y.f, .int .i64 y.a, .int .i64 y.b, .int .i64 y.e, .slice y.A y.m y.c, .int .i64 y.n, .int .u64 y.v, .int .i64 y.fr, .int .i64 y.to] 31))) := O2.out.trans' al
              obtain ⟨y0, y1, y2, y3, y4, y5, y6, y7, y8, y9, y10, y11⟩ := hc; (try simp only [Nat.zero_add] at y0 y1 y2 y3 y4 y5 y6 y7 y8 y9 y10 y11)
              clear hy al
              go_upto_region 11 with fail
              clear y0 y1 y2 y3 y4 y5 y6 y7 y8 y9 y10 y11
              generalize wr.alloc (.cells #[.int .i64 y.who, .int .i64 y.place, .int .i64 y.op, .int .i64 y.f, .int .i64 y.a, .int .i64 y.b, .int .i64 y.e, .slice y.A y.m y.c, .int .i64 y.n, .int .u64 y.v, .int .i64 y.fr, .int .i64 y.to] 31) = W2 at *
              generalize wr.heap.size = b2 at *
              have OZ0 : Hid (Only [] u W2) := O1.out.trans' OW.out
              have qa := Lib.hid (fun (V : World) => rAhead x y V)
              obtain ⟨x0, x1, x2, x3, x4, x5, x6, x7, x8, x9, x10, x11⟩ := hxb.out W2 OW.out; (try simp only [Nat.zero_add] at x0 x1 x2 x3 x4 x5 x6 x7 x8 x9 x10 x11)
              obtain ⟨y0, y1, y2, y3, y4, y5, y6, y7, y8, y9, y10, y11⟩ := hyb.out W2 (Only.refl _ _); (try simp only [Nat.zero_add] at y0 y1 y2 y3 y4 y5 y6 y7 y8 y9 y10 y11)
              have EB : Hid (badB L i k = (decide (k ≠ i) && (x.who == y.who && (x.place == y.place || (decide (x.place < y.place) && !aheadD x y))))) := by show _ = _; unfold badB; rw [HX.out, HY.out]
              by_cases p0 : k = i
              · have b0 : ((k : Int) != (i : Int)) = false := by simp [p0]
                have b0' : (k != i) = false := by simp [p0]
                have BD : Hid (badB L i k = false) := by show _ = _; rw [EB.out]; simp [p0]
                have OZ := OZ0
                have OZ1 := OW
                clear p0
                have J2 : Hid (∀ k', k' < k + 1 → badB L i k' = false) := fun k' hk' => by
                  by_cases e : k' = k
                  · subst e; exact BD.out
                  · exact hjk.out k' (by omega)
                go_wp2_with fail
                go_roundg (n + 1 - (k + 1))
                case measure => omega
                case rel => exact ⟨k + 1, by simp, by omega, by omega, J2, OZ1.out⟩

              · have b0 : ((k : Int) != (i : Int)) = true := by simp; omega
                have b0' : (k != i) = true := by simp; omega
                have d0 : decide (k ≠ i) = true := by simpa using p0
                have D0 := Lib.hid d0
                clear d0 p0
                rcases p1 : (x.who == y.who)
                · have BD : Hid (badB L i k = false) := by show _ = _; rw [EB.out, p1]; simp
                  have OZ := OZ0
                  have OZ1 := OW
                  have J2 : Hid (∀ k', k' < k + 1 → badB L i k' = false) := fun k' hk' => by
                    by_cases e : k' = k
                    · subst e; exact BD.out
                    · exact hjk.out k' (by omega)
                  go_wp2_with fail
                  go_roundg (n + 1 - (k + 1))
                  case measure => omega
                  case rel => exact ⟨k + 1, by simp, by omega, by omega, J2, OZ1.out⟩

                · rcases p2 : (x.place == y.place)
                  · rcases p3 : decide (x.place < y.place)
                    · have BD : Hid (badB L i k = false) := by show _ = _; rw [EB.out, p1, p2, p3]; simp
                      have OZ := OZ0
                      have OZ1 := OW
                      have J2 : Hid (∀ k', k' < k + 1 → badB L i k' = false) := fun k' hk' => by
                        by_cases e : k' = k
                        · subst e; exact BD.out
                        · exact hjk.out k' (by omega)
                      go_wp2_with fail
                      go_roundg (n + 1 - (k + 1))
                      case measure => omega
                      case rel => exact ⟨k + 1, by simp, by omega, by omega, J2, OZ1.out⟩

                    · rcases p4 : aheadD x y
                      · have BD : Hid (badB L i k = true) := by show _ = _; rw [EB.out, p1, p2, p3, p4, D0.out]; simp
                        rw [p4] at qa
                        clear p4
                        go_wp2_with fail
                        refine (qa.out _).mono ?_
                        rintro e w9 ⟨rfl, o9⟩
                        have OZ := Lib.hid (OZ0.out.trans' o9)
                        have OZ1 := Lib.hid (OW.out.trans' o9)
                        clear o9
                        go_wp2_with fail

                        have F : Hid (rightB L = false) := rightB_f fun hR => by
                          have h9 := ((right_doc.1 hR) i (by have := H.out.2; omega)).2 k (by have := H.out.2; omega)
                          rw [BD.out] at h9
                          cases h9
                        go_ret
                        exact ⟨by rw [F.out]; rfl, OZ.out⟩

                      · have BD : Hid (badB L i k = false) := by show _ = _; rw [EB.out, p1, p2, p3, p4]; simp
                        rw [p4] at qa
                        clear p4
                        go_wp2_with fail
                        refine (qa.out _).mono ?_
                        rintro e w9 ⟨rfl, o9⟩
                        have OZ := Lib.hid (OZ0.out.trans' o9)
                        have OZ1 := Lib.hid (OW.out.trans' o9)
                        clear o9
                        go_wp2_with fail

                        have J2 : Hid (∀ k', k' < k + 1 → badB L i k' = false) := fun k' hk' => by
                          by_cases e : k' = k
                          · subst e; exact BD.out
                          · exact hjk.out k' (by omega)
                        go_roundg (n + 1 - (k + 1))
                        case measure => omega
                        case rel => exact ⟨k + 1, by simp, by omega, by omega, J2, OZ1.out⟩

                  · have BD : Hid (badB L i k = true) := by show _ = _; rw [EB.out, p1, p2, D0.out]; simp
                    have OZ := OZ0
                    have OZ1 := OW
                    have F : Hid (rightB L = false) := rightB_f fun hR => by
                      have h9 := ((right_doc.1 hR) i (by have := H.out.2; omega)).2 k (by have := H.out.2; omega)
                      rw [BD.out] at h9
                      cases h9
                    go_wp2_with fail
                    go_ret
                    exact ⟨by rw [F.out]; rfl, OZ.out⟩

            · have h3 : ¬ ((k : Int) < (n : Int)) := by omega
              have d3 : decide ((k : Int) < (n : Int)) = false := decide_eq_false h3
              have J3 : Hid (∀ j, j < i + 1 → wrongB (dns L j) = false ∧ ∀ k', k' < n → badB L j k' = false) := fun j hj' => by
                by_cases e : j = i
                · subst e
                  exact ⟨by rw [HX.out]; exact WX.out, fun k' hk' => hjk.out k' (by omega)⟩
                · exact hj.out j (by omega)
              go_wp2_with fail
              go_roundg (n + 1 - (i + 1))
              case measure => omega
              case rel => exact ⟨i + 1, by simp, by omega, by omega, J3, O1.out.trans' O2.out⟩
    · have h1 : ¬ ((i : Int) < (n : Int)) := by omega
      have h3 : decide ((i : Int) < (n : Int)) = false := decide_eq_false h1
      have F : Hid (rightB L = true) := rightB_t <| right_doc.2 (fun j hjl => by
        have := H.out.2
        have h9 := hj.out j (by omega)
        exact ⟨h9.1, fun k hk => h9.2 k (by omega)⟩)
      go_wp2_with fail
      go_ret
      exact ⟨by rw [F.out]; rfl, O.out⟩
end Go.Proofs.Ytocokmjobbmodaa
