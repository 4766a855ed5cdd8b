/-
  The document's: RightHist, Ended, Most.
-/
import Derived.Test.YtocokmjobbmodaaHsM
import Derived.Lib.MinMax
namespace Go.Proofs.Ytocokmjobbmodaa
set_option maxRecDepth 100000
open Go.RowKit
set_option linter.unusedVariables false
set_option linter.unusedSimpArgs false
set_option maxRecDepth 100000

set_option maxHeartbeats 2000000
theorem rEnded (A : Option Addr) (n c : Nat) (L : List Dn) (u : World) (hL : L.length = n) (hb : n ≤ 1000000) (h : Dns u A L) :
    Calls Try.prog 15 #[.slice A n c] u fun e w' => e = .returned (.bool (!L.any opn)) ∧ Only [] u w' := by
  have H := Lib.hid (And.intro h hL)
  clear h hL
  go_enter Try.func15, Try.ntmps15
  go_wp2_with fail
  go_loopg [3] (n + 1) (fun gk si wr => ∃ k : Nat, si = .int .i64 (k : Int) ∧ k ≤ n ∧ n + 1 ≤ gk + k ∧ Hid (∀ i, i < k → opn (dns L i) = false) ∧ Hid (Only [] u wr))
  case atStart => exact ⟨0, rfl, by omega, by omega, fun i hi => absurd hi (by omega), Only.refl _ _⟩
  case round =>
    obtain ⟨k, rfl, hk, hg, hj, O⟩ := hrel
    by_cases hkn : k < n
    · have h1 : (k : Int) < (n : Int) := by omega
      obtain ⟨ga, rfl, hc⟩ := (H.out.1.only0 O.out).at_ (k := k) (by have := H.out.2; omega)
      obtain ⟨x, hx⟩ : ∃ x, dns L k = x := ⟨_, rfl⟩
      rw [hx] at hc
      have HX := Lib.hid hx
      have E : Hid (opn x = (x.to == -1)) := rfl
      obtain ⟨-, -, -, -, -, -, -, -, -, -, -, x11⟩ := hc
      clear hx
      rcases hp : (x.to == -1)
      · have J : Hid (∀ i, i < k + 1 → opn (dns L i) = false) := fun i hi => by
          by_cases e : i = k
          · subst e; rw [HX.out, E.out, hp]
          · exact hj.out i (by omega)
        go_wp2_with fail
        go_roundg (n + 1 - (k + 1))
        case measure => omega
        case rel => exact ⟨k + 1, by simp, by omega, by omega, J, O.out⟩
      · have F : Hid ((!L.any opn) = false) := by
          show _ = _
          have : L.any opn = true := List.any_eq_true.2 ⟨dns L k, dns_mem (by have := H.out.2; omega), by rw [HX.out, E.out, hp]⟩
          rw [this]; rfl
        go_wp2_with fail
        go_ret
        exact ⟨by rw [F.out]; rfl, O.out⟩
    · have h2 : ¬ ((k : Int) < (n : Int)) := by omega
      have h3 : decide ((k : Int) < (n : Int)) = false := decide_eq_false h2
      have F : Hid ((!L.any opn) = true) := by
        show _ = _
        have : L.any opn = false := by
          rw [List.any_eq_false]
          intro x hx
          obtain ⟨i, hi⟩ := List.getElem?_of_mem hx
          have hil := (List.getElem?_eq_some_iff.1 hi).1
          have := hj.out i (by have := H.out.2; omega)
          rw [dns_eq hi] at this
          simp [this]
        rw [this]; rfl
      go_wp2_with fail
      go_ret
      exact ⟨by rw [F.out]; rfl, O.out⟩
/-- How many of the first k are under way at t. -/
theorem countP_take_succ {L : List Dn} {k : Nat} (hk : k < L.length) (p : Dn → Bool) : (L.take (k + 1)).countP p = (L.take k).countP p + if p (dns L k) then 1 else 0 := by
  rw [take_succ_at (dns_get hk), List.countP_append]
  simp
theorem rMost (A : Option Addr) (n c : Nat) (L : List Dn) (u : World) (hL : L.length = n) (hb : n ≤ 1000000) (h : Dns u A L) :
    Calls Try.prog 17 #[.slice A n c] u fun e w' => e = .returned (.int .i64 (mostL L : Nat)) ∧ Only [] u w' := by
  have H := Lib.hid (And.intro h hL)
  have HB := Lib.hid hb
  obtain ⟨mx, hmx⟩ : ∃ mx : Nat → Nat, ∀ i, mx i = maxL ((L.take i).map fun x => cnt L x.fr) := ⟨_, fun _ => rfl⟩
  have MS : Hid (∀ i, i < n → mx (i + 1) = max (mx i) (cnt L (dns L i).fr)) := fun i hi => by
    rw [hmx, hmx, take_succ_at (dns_get (by omega)), List.map_append, List.map_cons, List.map_nil, maxL_snoc]
  have M0 : Hid (mx 0 = 0) := by show _ = _; rw [hmx]; rfl
  have MN : Hid (mx n = mostL L) := by
    show _ = _
    rw [hmx, List.take_of_length_le (by omega)]
    rfl
  have ML : Hid (∀ i, mx i ≤ n) := fun i => by
    rw [hmx, maxL_le]
    intro x hx
    obtain ⟨y, _, rfl⟩ := List.mem_map.1 hx
    have := List.countP_le_length (p := onB y.fr) (l := L)
    unfold cnt
    omega
  clear h hL hmx
  go_enter Try.func17, Try.ntmps17
  go_wp2_with fail
  go_loopg [3, 4] (n + 1) (fun gk sm si wr => ∃ i m : Nat, sm = .int .i64 (m : Int) ∧ si = .int .i64 (i : Int) ∧ i ≤ n ∧ n + 1 ≤ gk + i ∧ Hid (mx i = m) ∧ Hid (Only [] u wr))
  case atStart => exact ⟨0, 0, rfl, rfl, by omega, by omega, M0.out, Only.refl _ _⟩
  case round =>
    obtain ⟨i, m, rfl, rfl, hi, hg, hm, O⟩ := hrel
    by_cases hin : i < n
    · have h1 : (i : Int) < (n : Int) := by omega
      obtain ⟨ga, rfl, hc⟩ := (H.out.1.only0 O.out).at_ (k := i) (by have := H.out.2; omega)
      obtain ⟨x, hx⟩ : ∃ x, dns L i = x := ⟨_, rfl⟩
      rw [hx] at hc
      have HX := Lib.hid hx
      obtain ⟨-, -, -, -, -, -, -, -, -, -, x10, -⟩ := hc
      obtain ⟨at0, hat⟩ : ∃ t, x.fr = t := ⟨_, rfl⟩
      have HAT := Lib.hid hat
      rw [hat] at x10
      clear hx hat
      go_wp2_with fail
      clear x10
      go_loopg [6, 7] (n + 1) (fun gk2 sn sk wr2 => ∃ k q : Nat, sn = .int .i64 (q : Int) ∧ sk = .int .i64 (k : Int) ∧ k ≤ n ∧ n + 1 ≤ gk2 + k ∧ Hid ((L.take k).countP (onB at0) = q) ∧ Hid (Only [] u wr2))
      case atStart => exact ⟨0, 0, rfl, rfl, by omega, by omega, by show _ = _; simp, O.out⟩
      case round =>
        obtain ⟨k, q, rfl, rfl, hk, hg2, hq, O2⟩ := hrel
        have hqk : Hid (q ≤ k) := by
          show _ ≤ _
          have := List.countP_le_length (p := onB at0) (l := L.take k)
          rw [List.length_take] at this
          have := hq.out
          omega
        by_cases hkn : k < n
        · have h3 : (k : Int) < (n : Int) := by omega
          obtain ⟨ga', ea, hc⟩ := (H.out.1.only0 O2.out).at_ (k := k) (by have := H.out.2; omega)
          injection ea with ea
          injection ea with ea
          subst ea
          obtain ⟨y, hy⟩ : ∃ y, dns L k = y := ⟨_, rfl⟩
          rw [hy] at hc
          have CT : Hid ((L.take (k + 1)).countP (onB at0) = q + if onB at0 y then 1 else 0) := by
            show _ = _
            rw [countP_take_succ (by have := H.out.2; omega), hq.out, hy]
          have E : Hid (onB at0 y = (decide (y.fr ≤ at0) && (y.to == -1 || decide (at0 ≤ y.to)))) := rfl
          obtain ⟨-, -, -, -, -, -, -, -, -, -, y10, y11⟩ := hc
          have wq : IntKind.i64.wrap ((q : Int) + 1) = (q : Int) + 1 := by rw [IntKind.wrap_i64]; have := hqk.out; have := HB.out; omega
          clear hy
          rcases p1 : decide (y.fr ≤ at0) <;> rcases p2 : (y.to == -1) <;> rcases p3 : decide (at0 ≤ y.to)
          all_goals
            have C2 := CT.out
            rw [E.out, p1, p2, p3] at C2
            have C3 := Lib.hid C2
            clear C2
            have p4 := p3
            rw [show (decide (at0 ≤ y.to)) = decide (y.to ≥ at0) from rfl] at p4
            go_wp2_with fail
            go_roundg (n + 1 - (k + 1))
            case measure => omega
            case rel => first | exact ⟨k + 1, q, rfl, by simp, by omega, by omega, by have := C3.out; show _ = _; simpa using this, O2.out⟩ | exact ⟨k + 1, q + 1, by simp, by simp, by omega, by omega, by have := C3.out; show _ = _; simpa using this, O2.out⟩
        · have h3 : ¬ ((k : Int) < (n : Int)) := by omega
          have d3 : decide ((k : Int) < (n : Int)) = false := decide_eq_false h3
          have CQ : Hid (cnt L (dns L i).fr = q) := by
            show _ = _
            rw [HX.out, HAT.out, ← hq.out, List.take_of_length_le (by have := H.out.2; omega)]
            rfl
          obtain ⟨m2, hm2⟩ : ∃ m2, mx (i + 1) = m2 := ⟨_, rfl⟩
          have hmax : max (m : Int) (q : Int) = (m2 : Int) := by
            have e1 := MS.out i hin
            rw [hm.out, CQ.out, hm2] at e1
            omega
          have HM2 := Lib.hid hm2
          clear hm2
          go_wp2_with fail
          go_roundg (n + 1 - (i + 1))
          case measure => omega
          case rel => exact ⟨i + 1, m2, rfl, by simp, by omega, by omega, HM2.out, O2.out⟩
    · have h1 : ¬ ((i : Int) < (n : Int)) := by omega
      have d1 : decide ((i : Int) < (n : Int)) = false := decide_eq_false h1
      obtain rfl : i = n := by omega
      have F : Hid (mostL L = m) := MN.out.symm.trans hm.out
      go_wp2_with fail
      go_ret
      exact ⟨by rw [F.out]; rfl, O.out⟩
end Go.Proofs.Ytocokmjobbmodaa
