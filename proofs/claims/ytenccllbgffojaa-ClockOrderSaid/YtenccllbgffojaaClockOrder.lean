/-
  weighbridgelaw12.ClockOrder returns true for every input, and leaves its arguments as they were. No condition but that the arguments are values of their types.
-/
import Derived.Test.YtenccllbgffojaaRows
import Derived.Test.YtenccllbgffojaaClkL
import Derived.WalkKit
import Derived.ProofKit
import Derived.OpenShut
import Derived.ChangeOld
import Derived.Below
namespace Go.Proofs.Ytenccllbgffojaa.clockOrder
open Go.ChangeShapes Go.WideShapes Go.ChangeAt Go.RowKit
set_option linter.unusedVariables false
set_option linter.unusedSimpArgs false

set_option maxRecDepth 100000 in
set_option maxHeartbeats 4000000 in
theorem walk (a0 : Option Addr) (len0 cap0 : Nat) (z0 : Nat → Int) (a1 : Option Addr) (len1 cap1 : Nat) (z1 : Nat → Int) (a2 : Option Addr) (len2 cap2 : Nat) (z2 : Nat → Int) (w : World) (w0 : InNums .i64 w a0 len0 z0) (w1 : InNums .i64 w a1 len1 z1) (w2 : InNums .i64 w a2 len2 z2) :
    Calls Try.prog 5 #[.slice a0 len0 cap0, .slice a1 len1 cap1, .slice a2 len2 cap2] w fun e w' => e = .returned (.bool true) ∧ Below w.heap.size w w' := by
  obtain ⟨m0, hm0⟩ : ∃ m, (nearM z0 len0).length = m := ⟨_, rfl⟩
  have s0 : m0 ≤ 70 := by have := nearM_len z0 len0; omega
  have N0 := Lib.hid (fun (W : World) (o : Only [] w W) => ckNear (c := cap0) (w0.only0 o) hm0)
  have I0 := Lib.hid (nearM_ints w0)
  obtain ⟨m1, hm1⟩ : ∃ m, (nearM z1 len1).length = m := ⟨_, rfl⟩
  have s1 : m1 ≤ 70 := by have := nearM_len z1 len1; omega
  have N1 := Lib.hid (fun (W : World) (o : Only [] w W) => ckNear (c := cap1) (w1.only0 o) hm1)
  have I1 := Lib.hid (nearM_ints w1)
  obtain ⟨m2, hm2⟩ : ∃ m, (nearM z2 len2).length = m := ⟨_, rfl⟩
  have s2 : m2 ≤ 70 := by have := nearM_len z2 len2; omega
  have N2 := Lib.hid (fun (W : World) (o : Only [] w W) => ckNear (c := cap2) (w2.only0 o) hm2)
  have I2 := Lib.hid (nearM_ints w2)
  generalize nearM z0 len0 = x0 at *
  have M0 := Lib.hid hm0
  clear hm0 w0
  generalize nearM z1 len1 = x1 at *
  have M1 := Lib.hid hm1
  clear hm1 w1
  generalize nearM z2 len2 = x2 at *
  have M2 := Lib.hid hm2
  clear hm2 w2
  have O : Hid (Only [] w w) := Only.refl [] w
  obtain ⟨N, hN⟩ : ∃ N : Nat, max m0 m1 = N := ⟨_, rfl⟩
  have hmx : max (m0 : Int) (m1 : Int) = (N : Int) := by omega
  have D := Lib.hid (show (leqB x0 x1 && leqB x1 x0) = !difB x0 x1 N by rw [← hN, ← M0.out, ← M1.out]; exact leq_both x0 x1)
  have N9 : N ≤ 70 := by omega
  clear hN
  have E1 := Lib.hid (leqB_refl x0)
  have E2 := Lib.hid (cmpM_same (xs := x0) (ys := x0) fun _ => rfl)
  have E3 := Lib.hid (leq_chain x0 x1 x2)
  go_enter Try.func5, Try.ntmps5
  have cf := N0.out _ O.out
  go_wp2_with fail
  refine cf.mono ?_
  clear cf
  rintro e v1 ⟨A0, c0, rfl, k0, o⟩
  have O := Lib.hid (O.out.trans' o)
  have C0 := Lib.hid k0
  clear o k0
  have cf := N1.out _ O.out
  go_wp2_with fail
  refine cf.mono ?_
  clear cf
  rintro e v2 ⟨A1, c1, rfl, k1, o⟩
  have O := Lib.hid (O.out.trans' o)
  have C0 := Lib.hid (C0.out.only0 o)
  have C1 := Lib.hid k1
  clear o k1
  have cf := N2.out _ O.out
  go_wp2_with fail
  refine cf.mono ?_
  clear cf
  rintro e v3 ⟨A2, c2, rfl, k2, o⟩
  have O := Lib.hid (O.out.trans' o)
  have C0 := Lib.hid (C0.out.only0 o)
  have C1 := Lib.hid (C1.out.only0 o)
  have C2 := Lib.hid k2
  clear o k2
  have cf := cAwake v3
  go_wp2_with fail
  refine cf.mono ?_
  clear cf
  rintro e v4 ⟨rfl, o⟩
  have O := Lib.hid (O.out.trans' o)
  have C0 := Lib.hid (C0.out.only0 o)
  have C1 := Lib.hid (C1.out.only0 o)
  have C2 := Lib.hid (C2.out.only0 o)
  clear o
  have cf := C0.out.leq C0.out
  rw [E1.out] at cf
  go_wp2_with fail
  refine cf.mono ?_
  clear cf
  rintro e v5 ⟨rfl, o⟩
  have O := Lib.hid (O.out.trans' o)
  have C0 := Lib.hid (C0.out.only0 o)
  have C1 := Lib.hid (C1.out.only0 o)
  have C2 := Lib.hid (C2.out.only0 o)
  clear o
  have cf := C0.out.cmp C0.out
  rw [E2.out] at cf
  go_wp2_with fail
  refine cf.mono ?_
  clear cf
  rintro e v6 ⟨rfl, o⟩
  have O := Lib.hid (O.out.trans' o)
  have C0 := Lib.hid (C0.out.only0 o)
  have C1 := Lib.hid (C1.out.only0 o)
  have C2 := Lib.hid (C2.out.only0 o)
  clear o
  rcases e1 : leqB x0 x1
  · rcases e2 : leqB x1 x0
    · have Q := Lib.hid (And.intro e1 (And.intro e2 trivial))
      clear e1 e2
      have cf := C0.out.leq C1.out
      rw [Q.out.1] at cf
      go_wp2_with fail
      refine cf.mono ?_
      clear cf
      rintro e v7 ⟨rfl, o⟩
      have O := Lib.hid (O.out.trans' o)
      have C0 := Lib.hid (C0.out.only0 o)
      have C1 := Lib.hid (C1.out.only0 o)
      have C2 := Lib.hid (C2.out.only0 o)
      clear o
      have cf := C1.out.leq C0.out
      rw [Q.out.2.1] at cf
      go_wp2_with fail
      refine cf.mono ?_
      clear cf
      rintro e v8 ⟨rfl, o⟩
      have O := Lib.hid (O.out.trans' o)
      have C0 := Lib.hid (C0.out.only0 o)
      have C1 := Lib.hid (C1.out.only0 o)
      have C2 := Lib.hid (C2.out.only0 o)
      clear o
      go_wp2_with fail
      go_loopg [9, 10] (N + 1) (fun gk sv si wr => ∃ p : Nat, si = .int .i64 (p : Int) ∧ sv = .bool (difB x0 x1 p) ∧ p ≤ N ∧ N + 1 ≤ gk + p ∧ Hid (Only [] v8 wr))
      case atStart => exact ⟨0, rfl, rfl, by omega, by omega, Only.refl [] _⟩
      case round =>
        obtain ⟨p, rfl, rfl, hp, hg, P⟩ := hrel
        have O := Lib.hid (O.out.trans' P.out)
        have C0 := Lib.hid (C0.out.only0 P.out)
        have C1 := Lib.hid (C1.out.only0 P.out)
        have C2 := Lib.hid (C2.out.only0 P.out)
        by_cases hpl : p < N
        · have hpN : (p : Int) < (N : Int) := by omega
          rcases hd : difB x0 x1 p
          · have E5 := Lib.hid (show difB x0 x1 (p + 1) = (gC x0 p != gC x1 p) by simp [difB, hd])
            clear hd
            have g1 := Lib.hid (atM_nat x0 p)
            have g2 := Lib.hid (atM_nat x1 p)
            generalize gC x0 p = u at *
            generalize gC x1 p = v at *
            have Z := Lib.hid P.out
            have cf := C0.out.at_ (p : Int)
            rw [g1.out] at cf
            go_wp2_with fail
            refine cf.mono ?_
            clear cf
            rintro e v9 ⟨rfl, o⟩
            have O := Lib.hid (O.out.trans' o)
            have Z := Lib.hid (Z.out.trans' o)
            have C0 := Lib.hid (C0.out.only0 o)
            have C1 := Lib.hid (C1.out.only0 o)
            have C2 := Lib.hid (C2.out.only0 o)
            clear o
            have cf := C1.out.at_ (p : Int)
            rw [g2.out] at cf
            go_wp2_with fail
            refine cf.mono ?_
            clear cf
            rintro e v10 ⟨rfl, o⟩
            have O := Lib.hid (O.out.trans' o)
            have Z := Lib.hid (Z.out.trans' o)
            have C0 := Lib.hid (C0.out.only0 o)
            have C1 := Lib.hid (C1.out.only0 o)
            have C2 := Lib.hid (C2.out.only0 o)
            clear o
            go_wp2_with fail
            go_roundg (N + 1 - (p + 1))
            case measure => omega
            case rel => exact ⟨p + 1, by simp, by rw [E5.out], by omega, by omega, Z.out⟩
          · have E5 := Lib.hid (show difB x0 x1 (p + 1) = true by simp [difB, hd])
            clear hd
            go_wp2_with fail
            go_roundg (N + 1 - (p + 1))
            case measure => omega
            case rel => exact ⟨p + 1, by simp, by rw [E5.out], by omega, by omega, P.out⟩
        · have hpN : ¬ ((p : Int) < (N : Int)) := by omega
          have hpN2 : decide ((p : Int) < (N : Int)) = false := decide_eq_false hpN
          obtain rfl : p = N := by omega
          have hD : difB x0 x1 p = true := by have h := D.out; rw [Q.out.1, Q.out.2.1] at h; simpa using h
          rw [hD]
          clear hD
          have hC : cmpM x0 x1 = 2 := by unfold cmpM; rw [Q.out.1, Q.out.2.1]; rfl
          have HC := Lib.hid hC
          clear hC
          have cf := C0.out.cmp C1.out
          rw [HC.out] at cf
          go_wp2_with fail
          refine cf.mono ?_
          clear cf
          rintro e v9 ⟨rfl, o⟩
          have O := Lib.hid (O.out.trans' o)
          have C0 := Lib.hid (C0.out.only0 o)
          have C1 := Lib.hid (C1.out.only0 o)
          have C2 := Lib.hid (C2.out.only0 o)
          clear o
          go_wp2_with fail
          go_ret
          exact ⟨rfl, O.out.toBelow⟩
    · have Q := Lib.hid (And.intro e1 (And.intro e2 trivial))
      clear e1 e2
      have cf := C0.out.leq C1.out
      rw [Q.out.1] at cf
      go_wp2_with fail
      refine cf.mono ?_
      clear cf
      rintro e v7 ⟨rfl, o⟩
      have O := Lib.hid (O.out.trans' o)
      have C0 := Lib.hid (C0.out.only0 o)
      have C1 := Lib.hid (C1.out.only0 o)
      have C2 := Lib.hid (C2.out.only0 o)
      clear o
      have cf := C1.out.leq C0.out
      rw [Q.out.2.1] at cf
      go_wp2_with fail
      refine cf.mono ?_
      clear cf
      rintro e v8 ⟨rfl, o⟩
      have O := Lib.hid (O.out.trans' o)
      have C0 := Lib.hid (C0.out.only0 o)
      have C1 := Lib.hid (C1.out.only0 o)
      have C2 := Lib.hid (C2.out.only0 o)
      clear o
      go_wp2_with fail
      go_loopg [9, 10] (N + 1) (fun gk sv si wr => ∃ p : Nat, si = .int .i64 (p : Int) ∧ sv = .bool (difB x0 x1 p) ∧ p ≤ N ∧ N + 1 ≤ gk + p ∧ Hid (Only [] v8 wr))
      case atStart => exact ⟨0, rfl, rfl, by omega, by omega, Only.refl [] _⟩
      case round =>
        obtain ⟨p, rfl, rfl, hp, hg, P⟩ := hrel
        have O := Lib.hid (O.out.trans' P.out)
        have C0 := Lib.hid (C0.out.only0 P.out)
        have C1 := Lib.hid (C1.out.only0 P.out)
        have C2 := Lib.hid (C2.out.only0 P.out)
        by_cases hpl : p < N
        · have hpN : (p : Int) < (N : Int) := by omega
          rcases hd : difB x0 x1 p
          · have E5 := Lib.hid (show difB x0 x1 (p + 1) = (gC x0 p != gC x1 p) by simp [difB, hd])
            clear hd
            have g1 := Lib.hid (atM_nat x0 p)
            have g2 := Lib.hid (atM_nat x1 p)
            generalize gC x0 p = u at *
            generalize gC x1 p = v at *
            have Z := Lib.hid P.out
            have cf := C0.out.at_ (p : Int)
            rw [g1.out] at cf
            go_wp2_with fail
            refine cf.mono ?_
            clear cf
            rintro e v9 ⟨rfl, o⟩
            have O := Lib.hid (O.out.trans' o)
            have Z := Lib.hid (Z.out.trans' o)
            have C0 := Lib.hid (C0.out.only0 o)
            have C1 := Lib.hid (C1.out.only0 o)
            have C2 := Lib.hid (C2.out.only0 o)
            clear o
            have cf := C1.out.at_ (p : Int)
            rw [g2.out] at cf
            go_wp2_with fail
            refine cf.mono ?_
            clear cf
            rintro e v10 ⟨rfl, o⟩
            have O := Lib.hid (O.out.trans' o)
            have Z := Lib.hid (Z.out.trans' o)
            have C0 := Lib.hid (C0.out.only0 o)
            have C1 := Lib.hid (C1.out.only0 o)
            have C2 := Lib.hid (C2.out.only0 o)
            clear o
            go_wp2_with fail
            go_roundg (N + 1 - (p + 1))
            case measure => omega
            case rel => exact ⟨p + 1, by simp, by rw [E5.out], by omega, by omega, Z.out⟩
          · have E5 := Lib.hid (show difB x0 x1 (p + 1) = true by simp [difB, hd])
            clear hd
            go_wp2_with fail
            go_roundg (N + 1 - (p + 1))
            case measure => omega
            case rel => exact ⟨p + 1, by simp, by rw [E5.out], by omega, by omega, P.out⟩
        · have hpN : ¬ ((p : Int) < (N : Int)) := by omega
          have hpN2 : decide ((p : Int) < (N : Int)) = false := decide_eq_false hpN
          obtain rfl : p = N := by omega
          have hD : difB x0 x1 p = true := by have h := D.out; rw [Q.out.1, Q.out.2.1] at h; simpa using h
          rw [hD]
          clear hD
          have hC : cmpM x0 x1 = 1 := by unfold cmpM; rw [Q.out.1, Q.out.2.1]; rfl
          have HC := Lib.hid hC
          clear hC
          have cf := C0.out.cmp C1.out
          rw [HC.out] at cf
          go_wp2_with fail
          refine cf.mono ?_
          clear cf
          rintro e v9 ⟨rfl, o⟩
          have O := Lib.hid (O.out.trans' o)
          have C0 := Lib.hid (C0.out.only0 o)
          have C1 := Lib.hid (C1.out.only0 o)
          have C2 := Lib.hid (C2.out.only0 o)
          clear o
          go_wp2_with fail
          go_ret
          exact ⟨rfl, O.out.toBelow⟩
  · rcases e2 : leqB x1 x0
    · rcases e3 : leqB x1 x2
      · have Q := Lib.hid (And.intro e1 (And.intro e2 e3))
        clear e1 e2 e3
        have cf := C0.out.leq C1.out
        rw [Q.out.1] at cf
        go_wp2_with fail
        refine cf.mono ?_
        clear cf
        rintro e v7 ⟨rfl, o⟩
        have O := Lib.hid (O.out.trans' o)
        have C0 := Lib.hid (C0.out.only0 o)
        have C1 := Lib.hid (C1.out.only0 o)
        have C2 := Lib.hid (C2.out.only0 o)
        clear o
        have cf := C1.out.leq C0.out
        rw [Q.out.2.1] at cf
        go_wp2_with fail
        refine cf.mono ?_
        clear cf
        rintro e v8 ⟨rfl, o⟩
        have O := Lib.hid (O.out.trans' o)
        have C0 := Lib.hid (C0.out.only0 o)
        have C1 := Lib.hid (C1.out.only0 o)
        have C2 := Lib.hid (C2.out.only0 o)
        clear o
        have cf := C1.out.leq C2.out
        rw [Q.out.2.2] at cf
        go_wp2_with fail
        refine cf.mono ?_
        clear cf
        rintro e v9 ⟨rfl, o⟩
        have O := Lib.hid (O.out.trans' o)
        have C0 := Lib.hid (C0.out.only0 o)
        have C1 := Lib.hid (C1.out.only0 o)
        have C2 := Lib.hid (C2.out.only0 o)
        clear o
        go_wp2_with fail
        go_loopg [9, 10] (N + 1) (fun gk sv si wr => ∃ p : Nat, si = .int .i64 (p : Int) ∧ sv = .bool (difB x0 x1 p) ∧ p ≤ N ∧ N + 1 ≤ gk + p ∧ Hid (Only [] v9 wr))
        case atStart => exact ⟨0, rfl, rfl, by omega, by omega, Only.refl [] _⟩
        case round =>
          obtain ⟨p, rfl, rfl, hp, hg, P⟩ := hrel
          have O := Lib.hid (O.out.trans' P.out)
          have C0 := Lib.hid (C0.out.only0 P.out)
          have C1 := Lib.hid (C1.out.only0 P.out)
          have C2 := Lib.hid (C2.out.only0 P.out)
          by_cases hpl : p < N
          · have hpN : (p : Int) < (N : Int) := by omega
            rcases hd : difB x0 x1 p
            · have E5 := Lib.hid (show difB x0 x1 (p + 1) = (gC x0 p != gC x1 p) by simp [difB, hd])
              clear hd
              have g1 := Lib.hid (atM_nat x0 p)
              have g2 := Lib.hid (atM_nat x1 p)
              generalize gC x0 p = u at *
              generalize gC x1 p = v at *
              have Z := Lib.hid P.out
              have cf := C0.out.at_ (p : Int)
              rw [g1.out] at cf
              go_wp2_with fail
              refine cf.mono ?_
              clear cf
              rintro e v10 ⟨rfl, o⟩
              have O := Lib.hid (O.out.trans' o)
              have Z := Lib.hid (Z.out.trans' o)
              have C0 := Lib.hid (C0.out.only0 o)
              have C1 := Lib.hid (C1.out.only0 o)
              have C2 := Lib.hid (C2.out.only0 o)
              clear o
              have cf := C1.out.at_ (p : Int)
              rw [g2.out] at cf
              go_wp2_with fail
              refine cf.mono ?_
              clear cf
              rintro e v11 ⟨rfl, o⟩
              have O := Lib.hid (O.out.trans' o)
              have Z := Lib.hid (Z.out.trans' o)
              have C0 := Lib.hid (C0.out.only0 o)
              have C1 := Lib.hid (C1.out.only0 o)
              have C2 := Lib.hid (C2.out.only0 o)
              clear o
              go_wp2_with fail
              go_roundg (N + 1 - (p + 1))
              case measure => omega
              case rel => exact ⟨p + 1, by simp, by rw [E5.out], by omega, by omega, Z.out⟩
            · have E5 := Lib.hid (show difB x0 x1 (p + 1) = true by simp [difB, hd])
              clear hd
              go_wp2_with fail
              go_roundg (N + 1 - (p + 1))
              case measure => omega
              case rel => exact ⟨p + 1, by simp, by rw [E5.out], by omega, by omega, P.out⟩
          · have hpN : ¬ ((p : Int) < (N : Int)) := by omega
            have hpN2 : decide ((p : Int) < (N : Int)) = false := decide_eq_false hpN
            obtain rfl : p = N := by omega
            have hD : difB x0 x1 p = true := by have h := D.out; rw [Q.out.1, Q.out.2.1] at h; simpa using h
            rw [hD]
            clear hD
            have hC : cmpM x0 x1 = -1 := by unfold cmpM; rw [Q.out.1, Q.out.2.1]; rfl
            have HC := Lib.hid hC
            clear hC
            have cf := C0.out.cmp C1.out
            rw [HC.out] at cf
            go_wp2_with fail
            refine cf.mono ?_
            clear cf
            rintro e v10 ⟨rfl, o⟩
            have O := Lib.hid (O.out.trans' o)
            have C0 := Lib.hid (C0.out.only0 o)
            have C1 := Lib.hid (C1.out.only0 o)
            have C2 := Lib.hid (C2.out.only0 o)
            clear o
            go_wp2_with fail
            go_ret
            exact ⟨rfl, O.out.toBelow⟩
      · have e4 : leqB x0 x2 = true := by have h := E3.out; rw [e1, e3] at h; simpa using h
        have Q := Lib.hid (And.intro e1 (And.intro e2 (And.intro e3 e4)))
        clear e1 e2 e3 e4
        have cf := C0.out.leq C1.out
        rw [Q.out.1] at cf
        go_wp2_with fail
        refine cf.mono ?_
        clear cf
        rintro e v7 ⟨rfl, o⟩
        have O := Lib.hid (O.out.trans' o)
        have C0 := Lib.hid (C0.out.only0 o)
        have C1 := Lib.hid (C1.out.only0 o)
        have C2 := Lib.hid (C2.out.only0 o)
        clear o
        have cf := C1.out.leq C0.out
        rw [Q.out.2.1] at cf
        go_wp2_with fail
        refine cf.mono ?_
        clear cf
        rintro e v8 ⟨rfl, o⟩
        have O := Lib.hid (O.out.trans' o)
        have C0 := Lib.hid (C0.out.only0 o)
        have C1 := Lib.hid (C1.out.only0 o)
        have C2 := Lib.hid (C2.out.only0 o)
        clear o
        have cf := C1.out.leq C2.out
        rw [Q.out.2.2.1] at cf
        go_wp2_with fail
        refine cf.mono ?_
        clear cf
        rintro e v9 ⟨rfl, o⟩
        have O := Lib.hid (O.out.trans' o)
        have C0 := Lib.hid (C0.out.only0 o)
        have C1 := Lib.hid (C1.out.only0 o)
        have C2 := Lib.hid (C2.out.only0 o)
        clear o
        have cf := C0.out.leq C2.out
        rw [Q.out.2.2.2] at cf
        go_wp2_with fail
        refine cf.mono ?_
        clear cf
        rintro e v10 ⟨rfl, o⟩
        have O := Lib.hid (O.out.trans' o)
        have C0 := Lib.hid (C0.out.only0 o)
        have C1 := Lib.hid (C1.out.only0 o)
        have C2 := Lib.hid (C2.out.only0 o)
        clear o
        go_wp2_with fail
        go_loopg [9, 10] (N + 1) (fun gk sv si wr => ∃ p : Nat, si = .int .i64 (p : Int) ∧ sv = .bool (difB x0 x1 p) ∧ p ≤ N ∧ N + 1 ≤ gk + p ∧ Hid (Only [] v10 wr))
        case atStart => exact ⟨0, rfl, rfl, by omega, by omega, Only.refl [] _⟩
        case round =>
          obtain ⟨p, rfl, rfl, hp, hg, P⟩ := hrel
          have O := Lib.hid (O.out.trans' P.out)
          have C0 := Lib.hid (C0.out.only0 P.out)
          have C1 := Lib.hid (C1.out.only0 P.out)
          have C2 := Lib.hid (C2.out.only0 P.out)
          by_cases hpl : p < N
          · have hpN : (p : Int) < (N : Int) := by omega
            rcases hd : difB x0 x1 p
            · have E5 := Lib.hid (show difB x0 x1 (p + 1) = (gC x0 p != gC x1 p) by simp [difB, hd])
              clear hd
              have g1 := Lib.hid (atM_nat x0 p)
              have g2 := Lib.hid (atM_nat x1 p)
              generalize gC x0 p = u at *
              generalize gC x1 p = v at *
              have Z := Lib.hid P.out
              have cf := C0.out.at_ (p : Int)
              rw [g1.out] at cf
              go_wp2_with fail
              refine cf.mono ?_
              clear cf
              rintro e v11 ⟨rfl, o⟩
              have O := Lib.hid (O.out.trans' o)
              have Z := Lib.hid (Z.out.trans' o)
              have C0 := Lib.hid (C0.out.only0 o)
              have C1 := Lib.hid (C1.out.only0 o)
              have C2 := Lib.hid (C2.out.only0 o)
              clear o
              have cf := C1.out.at_ (p : Int)
              rw [g2.out] at cf
              go_wp2_with fail
              refine cf.mono ?_
              clear cf
              rintro e v12 ⟨rfl, o⟩
              have O := Lib.hid (O.out.trans' o)
              have Z := Lib.hid (Z.out.trans' o)
              have C0 := Lib.hid (C0.out.only0 o)
              have C1 := Lib.hid (C1.out.only0 o)
              have C2 := Lib.hid (C2.out.only0 o)
              clear o
              go_wp2_with fail
              go_roundg (N + 1 - (p + 1))
              case measure => omega
              case rel => exact ⟨p + 1, by simp, by rw [E5.out], by omega, by omega, Z.out⟩
            · have E5 := Lib.hid (show difB x0 x1 (p + 1) = true by simp [difB, hd])
              clear hd
              go_wp2_with fail
              go_roundg (N + 1 - (p + 1))
              case measure => omega
              case rel => exact ⟨p + 1, by simp, by rw [E5.out], by omega, by omega, P.out⟩
          · have hpN : ¬ ((p : Int) < (N : Int)) := by omega
            have hpN2 : decide ((p : Int) < (N : Int)) = false := decide_eq_false hpN
            obtain rfl : p = N := by omega
            have hD : difB x0 x1 p = true := by have h := D.out; rw [Q.out.1, Q.out.2.1] at h; simpa using h
            rw [hD]
            clear hD
            have hC : cmpM x0 x1 = -1 := by unfold cmpM; rw [Q.out.1, Q.out.2.1]; rfl
            have HC := Lib.hid hC
            clear hC
            have cf := C0.out.cmp C1.out
            rw [HC.out] at cf
            go_wp2_with fail
            refine cf.mono ?_
            clear cf
            rintro e v11 ⟨rfl, o⟩
            have O := Lib.hid (O.out.trans' o)
            have C0 := Lib.hid (C0.out.only0 o)
            have C1 := Lib.hid (C1.out.only0 o)
            have C2 := Lib.hid (C2.out.only0 o)
            clear o
            go_wp2_with fail
            go_ret
            exact ⟨rfl, O.out.toBelow⟩
    · rcases e3 : leqB x1 x2
      · have Q := Lib.hid (And.intro e1 (And.intro e2 e3))
        clear e1 e2 e3
        have cf := C0.out.leq C1.out
        rw [Q.out.1] at cf
        go_wp2_with fail
        refine cf.mono ?_
        clear cf
        rintro e v7 ⟨rfl, o⟩
        have O := Lib.hid (O.out.trans' o)
        have C0 := Lib.hid (C0.out.only0 o)
        have C1 := Lib.hid (C1.out.only0 o)
        have C2 := Lib.hid (C2.out.only0 o)
        clear o
        have cf := C1.out.leq C0.out
        rw [Q.out.2.1] at cf
        go_wp2_with fail
        refine cf.mono ?_
        clear cf
        rintro e v8 ⟨rfl, o⟩
        have O := Lib.hid (O.out.trans' o)
        have C0 := Lib.hid (C0.out.only0 o)
        have C1 := Lib.hid (C1.out.only0 o)
        have C2 := Lib.hid (C2.out.only0 o)
        clear o
        have cf := C1.out.leq C2.out
        rw [Q.out.2.2] at cf
        go_wp2_with fail
        refine cf.mono ?_
        clear cf
        rintro e v9 ⟨rfl, o⟩
        have O := Lib.hid (O.out.trans' o)
        have C0 := Lib.hid (C0.out.only0 o)
        have C1 := Lib.hid (C1.out.only0 o)
        have C2 := Lib.hid (C2.out.only0 o)
        clear o
        go_wp2_with fail
        go_loopg [9, 10] (N + 1) (fun gk sv si wr => ∃ p : Nat, si = .int .i64 (p : Int) ∧ sv = .bool (difB x0 x1 p) ∧ p ≤ N ∧ N + 1 ≤ gk + p ∧ Hid (Only [] v9 wr))
        case atStart => exact ⟨0, rfl, rfl, by omega, by omega, Only.refl [] _⟩
        case round =>
          obtain ⟨p, rfl, rfl, hp, hg, P⟩ := hrel
          have O := Lib.hid (O.out.trans' P.out)
          have C0 := Lib.hid (C0.out.only0 P.out)
          have C1 := Lib.hid (C1.out.only0 P.out)
          have C2 := Lib.hid (C2.out.only0 P.out)
          by_cases hpl : p < N
          · have hpN : (p : Int) < (N : Int) := by omega
            rcases hd : difB x0 x1 p
            · have E5 := Lib.hid (show difB x0 x1 (p + 1) = (gC x0 p != gC x1 p) by simp [difB, hd])
              clear hd
              have g1 := Lib.hid (atM_nat x0 p)
              have g2 := Lib.hid (atM_nat x1 p)
              generalize gC x0 p = u at *
              generalize gC x1 p = v at *
              have Z := Lib.hid P.out
              have cf := C0.out.at_ (p : Int)
              rw [g1.out] at cf
              go_wp2_with fail
              refine cf.mono ?_
              clear cf
              rintro e v10 ⟨rfl, o⟩
              have O := Lib.hid (O.out.trans' o)
              have Z := Lib.hid (Z.out.trans' o)
              have C0 := Lib.hid (C0.out.only0 o)
              have C1 := Lib.hid (C1.out.only0 o)
              have C2 := Lib.hid (C2.out.only0 o)
              clear o
              have cf := C1.out.at_ (p : Int)
              rw [g2.out] at cf
              go_wp2_with fail
              refine cf.mono ?_
              clear cf
              rintro e v11 ⟨rfl, o⟩
              have O := Lib.hid (O.out.trans' o)
              have Z := Lib.hid (Z.out.trans' o)
              have C0 := Lib.hid (C0.out.only0 o)
              have C1 := Lib.hid (C1.out.only0 o)
              have C2 := Lib.hid (C2.out.only0 o)
              clear o
              go_wp2_with fail
              go_roundg (N + 1 - (p + 1))
              case measure => omega
              case rel => exact ⟨p + 1, by simp, by rw [E5.out], by omega, by omega, Z.out⟩
            · have E5 := Lib.hid (show difB x0 x1 (p + 1) = true by simp [difB, hd])
              clear hd
              go_wp2_with fail
              go_roundg (N + 1 - (p + 1))
              case measure => omega
              case rel => exact ⟨p + 1, by simp, by rw [E5.out], by omega, by omega, P.out⟩
          · have hpN : ¬ ((p : Int) < (N : Int)) := by omega
            have hpN2 : decide ((p : Int) < (N : Int)) = false := decide_eq_false hpN
            obtain rfl : p = N := by omega
            have hD : difB x0 x1 p = false := by have h := D.out; rw [Q.out.1, Q.out.2.1] at h; simpa using h
            rw [hD]
            clear hD
            have hC : cmpM x0 x1 = 0 := by unfold cmpM; rw [Q.out.1, Q.out.2.1]; rfl
            have HC := Lib.hid hC
            clear hC
            have cf := C0.out.cmp C1.out
            rw [HC.out] at cf
            go_wp2_with fail
            refine cf.mono ?_
            clear cf
            rintro e v10 ⟨rfl, o⟩
            have O := Lib.hid (O.out.trans' o)
            have C0 := Lib.hid (C0.out.only0 o)
            have C1 := Lib.hid (C1.out.only0 o)
            have C2 := Lib.hid (C2.out.only0 o)
            clear o
            go_wp2_with fail
            go_ret
            exact ⟨rfl, O.out.toBelow⟩
      · have e4 : leqB x0 x2 = true := by have h := E3.out; rw [e1, e3] at h; simpa using h
        have Q := Lib.hid (And.intro e1 (And.intro e2 (And.intro e3 e4)))
        clear e1 e2 e3 e4
        have cf := C0.out.leq C1.out
        rw [Q.out.1] at cf
        go_wp2_with fail
        refine cf.mono ?_
        clear cf
        rintro e v7 ⟨rfl, o⟩
        have O := Lib.hid (O.out.trans' o)
        have C0 := Lib.hid (C0.out.only0 o)
        have C1 := Lib.hid (C1.out.only0 o)
        have C2 := Lib.hid (C2.out.only0 o)
        clear o
        have cf := C1.out.leq C0.out
        rw [Q.out.2.1] at cf
        go_wp2_with fail
        refine cf.mono ?_
        clear cf
        rintro e v8 ⟨rfl, o⟩
        have O := Lib.hid (O.out.trans' o)
        have C0 := Lib.hid (C0.out.only0 o)
        have C1 := Lib.hid (C1.out.only0 o)
        have C2 := Lib.hid (C2.out.only0 o)
        clear o
        have cf := C1.out.leq C2.out
        rw [Q.out.2.2.1] at cf
        go_wp2_with fail
        refine cf.mono ?_
        clear cf
        rintro e v9 ⟨rfl, o⟩
        have O := Lib.hid (O.out.trans' o)
        have C0 := Lib.hid (C0.out.only0 o)
        have C1 := Lib.hid (C1.out.only0 o)
        have C2 := Lib.hid (C2.out.only0 o)
        clear o
        have cf := C0.out.leq C2.out
        rw [Q.out.2.2.2] at cf
        go_wp2_with fail
        refine cf.mono ?_
        clear cf
        rintro e v10 ⟨rfl, o⟩
        have O := Lib.hid (O.out.trans' o)
        have C0 := Lib.hid (C0.out.only0 o)
        have C1 := Lib.hid (C1.out.only0 o)
        have C2 := Lib.hid (C2.out.only0 o)
        clear o
        go_wp2_with fail
        go_loopg [9, 10] (N + 1) (fun gk sv si wr => ∃ p : Nat, si = .int .i64 (p : Int) ∧ sv = .bool (difB x0 x1 p) ∧ p ≤ N ∧ N + 1 ≤ gk + p ∧ Hid (Only [] v10 wr))
        case atStart => exact ⟨0, rfl, rfl, by omega, by omega, Only.refl [] _⟩
        case round =>
          obtain ⟨p, rfl, rfl, hp, hg, P⟩ := hrel
          have O := Lib.hid (O.out.trans' P.out)
          have C0 := Lib.hid (C0.out.only0 P.out)
          have C1 := Lib.hid (C1.out.only0 P.out)
          have C2 := Lib.hid (C2.out.only0 P.out)
          by_cases hpl : p < N
          · have hpN : (p : Int) < (N : Int) := by omega
            rcases hd : difB x0 x1 p
            · have E5 := Lib.hid (show difB x0 x1 (p + 1) = (gC x0 p != gC x1 p) by simp [difB, hd])
              clear hd
              have g1 := Lib.hid (atM_nat x0 p)
              have g2 := Lib.hid (atM_nat x1 p)
              generalize gC x0 p = u at *
              generalize gC x1 p = v at *
              have Z := Lib.hid P.out
              have cf := C0.out.at_ (p : Int)
              rw [g1.out] at cf
              go_wp2_with fail
              refine cf.mono ?_
              clear cf
              rintro e v11 ⟨rfl, o⟩
              have O := Lib.hid (O.out.trans' o)
              have Z := Lib.hid (Z.out.trans' o)
              have C0 := Lib.hid (C0.out.only0 o)
              have C1 := Lib.hid (C1.out.only0 o)
              have C2 := Lib.hid (C2.out.only0 o)
              clear o
              have cf := C1.out.at_ (p : Int)
              rw [g2.out] at cf
              go_wp2_with fail
              refine cf.mono ?_
              clear cf
              rintro e v12 ⟨rfl, o⟩
              have O := Lib.hid (O.out.trans' o)
              have Z := Lib.hid (Z.out.trans' o)
              have C0 := Lib.hid (C0.out.only0 o)
              have C1 := Lib.hid (C1.out.only0 o)
              have C2 := Lib.hid (C2.out.only0 o)
              clear o
              go_wp2_with fail
              go_roundg (N + 1 - (p + 1))
              case measure => omega
              case rel => exact ⟨p + 1, by simp, by rw [E5.out], by omega, by omega, Z.out⟩
            · have E5 := Lib.hid (show difB x0 x1 (p + 1) = true by simp [difB, hd])
              clear hd
              go_wp2_with fail
              go_roundg (N + 1 - (p + 1))
              case measure => omega
              case rel => exact ⟨p + 1, by simp, by rw [E5.out], by omega, by omega, P.out⟩
          · have hpN : ¬ ((p : Int) < (N : Int)) := by omega
            have hpN2 : decide ((p : Int) < (N : Int)) = false := decide_eq_false hpN
            obtain rfl : p = N := by omega
            have hD : difB x0 x1 p = false := by have h := D.out; rw [Q.out.1, Q.out.2.1] at h; simpa using h
            rw [hD]
            clear hD
            have hC : cmpM x0 x1 = 0 := by unfold cmpM; rw [Q.out.1, Q.out.2.1]; rfl
            have HC := Lib.hid hC
            clear hC
            have cf := C0.out.cmp C1.out
            rw [HC.out] at cf
            go_wp2_with fail
            refine cf.mono ?_
            clear cf
            rintro e v11 ⟨rfl, o⟩
            have O := Lib.hid (O.out.trans' o)
            have C0 := Lib.hid (C0.out.only0 o)
            have C1 := Lib.hid (C1.out.only0 o)
            have C2 := Lib.hid (C2.out.only0 o)
            clear o
            go_wp2_with fail
            go_ret
            exact ⟨rfl, O.out.toBelow⟩

/-! ### The step from the walk to the statement -/
set_option maxRecDepth 100000 in
theorem lifted (os : Os) (started : os.Started) (H : Type) (enc : TypeId × Value → H) :
    ReturnsInHanded {} Try.checked os 5 .any (Rows.clockOrderSpec.pre6 enc Try.prog Try.f5 Rows.clockOrderRow.domain false) (Rows.clockOrderSpec.post enc Try.prog Try.f5 false true false false) := by
  refine returnsInHanded_of_change (C := Try.checked) own started (by kernel_rfl) Try.func5
    (ChangeSpec.witness6 (enc := enc) (C := Try.checked) false ⟨#[], #[.slice none 0 0, .slice none 0 0, .slice none 0 0], []⟩ 8 (by kernel_rfl) (by kernel_rfl) (by kernel_rfl) (by kernel_rfl)) ?_
  intro W base args ds gs before hval0 hW hcnd _
  have hval : ∀ (j : Nat) t v, Try.f5.params[j]? = some t → args[j]? = some v → Value.okWide Try.prog W .any base t v := hval0
  have hW' := hW
  obtain ⟨p, q, hA0, hV, rfl, hfz, hnd⟩ := hW
  have hA : DataW.TrodAll enc Try.prog W 0 (fun _ => true) true Try.f5.params.toList args.toList ds p := hA0
  rw [Try.params5] at hA hval
  obtain ⟨v0, vs0, d0, ds0, p0, q0, hargs, rfl, rfl, h0, r0⟩ := trodAll_cons hA
  obtain ⟨v1, vs1, d1, ds1, p1, q1, rfl, rfl, rfl, h1, r1⟩ := trodAll_cons r0
  obtain ⟨v2, vs2, d2, ds2, p2, q2, rfl, rfl, rfl, h2, r2⟩ := trodAll_cons r1
  obtain ⟨rfl, rfl, rfl⟩ := trodAll_nil r2
  obtain rfl : args = #[v0, v1, v2] := by cases args; simp_all
  obtain ⟨rfl, rfl⟩ := trodVars_none hV
  obtain ⟨a0, len0, cap0, rfl⟩ := okWide_slice Try.underlying22 (hval 0 22 v0 rfl rfl)
  have k0 := h0
  have lt0 : ∀ x ∈ p0, x.block < W.heap.size := by obtain ⟨m, hm⟩ := k0; exact DataW.trod_lt m _ _ _ hm
  obtain ⟨z0, w0⟩ : ∃ z, InNums .i64 W a0 len0 z := by
    obtain ⟨fuel, hf⟩ := h0
    exact open_numsF Try.underlying22 Try.underlying3 (by kernel_rfl) hf
  obtain ⟨a1, len1, cap1, rfl⟩ := okWide_slice Try.underlying22 (hval 1 22 v1 rfl rfl)
  have k1 := h1
  have lt1 : ∀ x ∈ p1, x.block < W.heap.size := by obtain ⟨m, hm⟩ := k1; exact DataW.trod_lt m _ _ _ hm
  obtain ⟨z1, w1⟩ : ∃ z, InNums .i64 W a1 len1 z := by
    obtain ⟨fuel, hf⟩ := h1
    exact open_numsF Try.underlying22 Try.underlying3 (by kernel_rfl) hf
  obtain ⟨a2, len2, cap2, rfl⟩ := okWide_slice Try.underlying22 (hval 2 22 v2 rfl rfl)
  have k2 := h2
  have lt2 : ∀ x ∈ p2, x.block < W.heap.size := by obtain ⟨m, hm⟩ := k2; exact DataW.trod_lt m _ _ _ hm
  obtain ⟨z2, w2⟩ : ∃ z, InNums .i64 W a2 len2 z := by
    obtain ⟨fuel, hf⟩ := h2
    exact open_numsF Try.underlying22 Try.underlying3 (by kernel_rfl) hf
  clear hA0 hval0
  refine (walk a0 len0 cap0 z0 a1 len1 cap1 z1 a2 len2 cap2 z2 W w0 w1 w2).mono fun e W' ⟨he, bel⟩ => ?_
  subst he
  exact ⟨_, rfl, _, _, _, [], _, [], hW', trodAll_mk1 (shut_bool Try.underlying4 _), (trodAll_cons_mk (Below.trod laidOut (by kernel_rfl) (of_decide_eq_true (by kernel_rfl)) k0 bel lt0) (trodAll_cons_mk (Below.trod laidOut (by kernel_rfl) (of_decide_eq_true (by kernel_rfl)) k1 bel lt1) (trodAll_cons_mk (Below.trod laidOut (by kernel_rfl) (of_decide_eq_true (by kernel_rfl)) k2 bel lt2) trodAll_mk0))), rfl, bel.frame _, fun h => by cases h⟩

theorem over : Rows.clockOrderRow.holds Try.pinned (OpenSpec.ofChange Rows.clockOrderSpec) :=
  OpenClaim.holds_of_wide 5 Try.f5 rfl rfl rfl rfl rfl rfl rfl ⟨rfl, rfl, rfl, rfl, rfl⟩ rfl rfl rfl rfl rfl (by kernel_rfl) Try.func5 (by kernel_rfl)
    (of_decide_eq_true (by kernel_rfl)) (by unfold Func.isWrapper; first | (rw [if_pos (by decide +kernel)]; kernel_rfl) | (rw [if_neg (by decide +kernel)]; exact ⟨rfl, rfl⟩))
    (fun os started H enc _ => lifted os started H enc)

/-- The statement. -/
theorem proved : Rows.ClockOrderSaid := over
#print axioms proved
end Go.Proofs.Ytenccllbgffojaa.clockOrder
