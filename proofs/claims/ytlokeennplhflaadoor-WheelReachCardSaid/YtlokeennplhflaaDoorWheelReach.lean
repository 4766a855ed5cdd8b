/-
  weighbridgelaw05.WheelReach returns true for every input, and leaves its arguments as they were, where math/bits' table holds what the program's own text lays there (the card ties it). No other condition but that the arguments are values of their types.
-/
import Derived.Test.YtlokeennplhflaaDoorRows
import Derived.Test.YtlokeennplhflaaDoorTie
import Derived.Test.YtlokeennplhflaaDoorCards
import Derived.Test.YtlokeennplhflaaDoorWheelH
import Derived.Test.YtlokeennplhflaaDoorWheelF
import Derived.Test.YtlokeennplhflaaDoorWheelO
import Derived.ShutString
import Derived.ChangeOld
import Derived.Below
import Derived.SevenTiedAt
namespace Go.Proofs.YtlokeennplhflaaDoor.wheelReach
open Go.ChangeShapes Go.WideShapes Go.ChangeAt Go.RowKit
set_option linter.unusedVariables false

theorem reach_span {wd : Nat} (hwd : wd ≤ 40) {base : Int} (b0 : 0 ≤ base) (b1 : base ≤ 18446744073709551615) : ∃ span last q : Int, (oneM ((wd : Int) + 18) : Int) = span ∧ 0 < span ∧ span ≤ 288230376151711744 ∧ base / span = q ∧ 0 ≤ q ∧ q * span ≤ base ∧ q * span + (span - 1) = last ∧ base ≤ last ∧ last ≤ 18446744073709551615 ∧ ∀ k, (reach wd base k ↔ base ≤ k ∧ k ≤ last) := by
  have e1 : (oneM ((wd : Int) + 18) : Int) = 2 ^ (wd + 18) := by
    unfold oneM
    rw [if_pos (by omega), show ((wd : Int) + 18).toNat = wd + 18 by omega, Int.natCast_pow]; rfl
  have hp : (0 : Int) < 2 ^ (wd + 18) := Int.pow_pos (by decide)
  have hp2 : (2 : Int) ^ (wd + 18) ≤ 2 ^ 58 := by
    have : 2 ^ (wd + 18) ≤ 2 ^ 58 := Nat.pow_le_pow_right (by decide) (by omega)
    have h2 : ((2 ^ (wd + 18) : Nat) : Int) ≤ ((2 ^ 58 : Nat) : Int) := by omega
    rw [Int.natCast_pow, Int.natCast_pow] at h2
    exact h2
  have hd : (2 : Int) ^ (wd + 18) ∣ 18446744073709551616 := by
    refine ⟨2 ^ (64 - (wd + 18)), ?_⟩
    rw [← Int.pow_add, show wd + 18 + (64 - (wd + 18)) = 64 by omega]
    rfl
  have hk : ∀ k : Int, uu wd k / 262144 = k / 2 ^ (wd + 18) := fun k => (pow_split wd 18 k).symm
  generalize hP : (2 : Int) ^ (wd + 18) = P at *
  obtain ⟨c, hc⟩ := hd
  have hm := Int.emod_add_mul_ediv base P
  have hm1 := Int.emod_nonneg base (by omega : P ≠ 0)
  have hm2 := Int.emod_lt_of_pos base hp
  obtain ⟨q, eq⟩ : ∃ q, base / P = q := ⟨_, rfl⟩
  rw [eq] at hm
  have hq0 : 0 ≤ q := by rw [← eq]; exact Int.ediv_nonneg b0 (by omega)
  have hcm : P * q = q * P := Int.mul_comm _ _
  have hqc : q + 1 ≤ c := by
    rcases Int.lt_or_le q c with h | h
    · omega
    · have := Int.mul_le_mul_of_nonneg_left h (by omega : (0 : Int) ≤ P)
      omega
  have hlast : q * P + (P - 1) ≤ 18446744073709551615 := by
    have := Int.mul_le_mul_of_nonneg_left hqc (by omega : (0 : Int) ≤ P)
    rw [Int.mul_add, Int.mul_one] at this
    omega
  refine ⟨P, q * P + (P - 1), q, e1, hp, hp2, eq, hq0, by omega, rfl, by omega, hlast, fun k => ?_⟩
  unfold reach
  rw [hk, hk, eq]
  constructor
  · rintro ⟨h1, h2⟩
    refine ⟨h1, ?_⟩
    have h3 := Int.emod_add_mul_ediv k P
    have h4 := Int.emod_lt_of_pos k hp
    rw [← h2] at h3
    omega
  · rintro ⟨h1, h2⟩
    refine ⟨h1, ?_⟩
    have h5 : k / P ≤ q := by
      have : k < (q + 1) * P := by rw [Int.add_mul, Int.one_mul]; omega
      have := Int.ediv_lt_of_lt_mul hp this
      omega
    have h6 : q ≤ k / P := by rw [← eq]; exact Int.ediv_le_ediv hp h1
    omega

theorem push_in (w : World) (wb : Nat) (S : List Nat) (wd : Nat) (base : Int) (l : List It) (h : WheelOf w wb S wd base l) (x : It) (hx : x.ok) (hroom : l.length < 400000) (hr : reach wd base x.k) (hi : hasId x.i l = false) :
    Calls Tryd.prog 19 #[.pointer (some ⟨wb, 0, none⟩), .agg #[.int .u64 x.k, .int .i64 x.i]] w fun e w' => e = .returned (.bool true) ∧ ∃ S', WheelOf w' wb S' wd base (ins x l) ∧ Moved w S w' S' := by
  have := wPush w wb S wd base l h x hx hroom
  rw [hi, inR_iff.2 hr] at this
  exact this
theorem push_out (w : World) (wb : Nat) (S : List Nat) (wd : Nat) (base : Int) (l : List It) (h : WheelOf w wb S wd base l) (x : It) (hx : x.ok) (hroom : l.length < 400000) (hi : ¬ reach wd base x.k ∨ hasId x.i l = true) :
    Calls Tryd.prog 19 #[.pointer (some ⟨wb, 0, none⟩), .agg #[.int .u64 x.k, .int .i64 x.i]] w fun e w' => e = .returned (.bool false) ∧ ∃ S', WheelOf w' wb S' wd base l ∧ Moved w S w' S' := by
  have := wPush w wb S wd base l h x hx hroom
  have e : (!hasId x.i l && inR wd base x.k) = false := by
    rcases hi with h | h
    · have : inR wd base x.k = false := by
        cases hh : inR wd base x.k with
        | false => rfl
        | true => exact absurd (inR_iff.1 hh) h
      rw [this, Bool.and_false]
    · rw [h]; rfl
  rw [e] at this
  exact this
theorem ins_len9 (x : It) (l : List It) : (ins x l).length = l.length + 1 := by
  have := (ins_perm x l).length_eq
  simpa using this
theorem has_ins (x : It) (l : List It) (id : Int) : hasId id (ins x l) = (decide (x.i = id) || hasId id l) := by
  rw [hasId_perm id (ins_perm x l)]
  unfold hasId
  rw [List.any_append]
  simp only [List.any_cons, List.any_nil, Bool.or_false]
  rw [Bool.or_comm]
  rfl

set_option maxRecDepth 100000 in
set_option maxHeartbeats 4000000 in
theorem walk (a0 : Int) (a1 : Int) (a2 : Int) (w : World) (w0 : (Lit.int .u64 a0).wf = true) (w1 : (Lit.int .u64 a1).wf = true) (w2 : (Lit.int .i64 a2).wf = true) (hT : Tab w) :
    Calls Tryd.prog 8 #[.int .u64 a0, .int .u64 a1, .int .i64 a2] w fun e w' => e = .returned (.bool true) ∧ Below w.heap.size w w' := by
  obtain ⟨b0, b1⟩ := u64ok_to w0
  obtain ⟨o0, o1⟩ := u64ok_to w1
  obtain ⟨m, hm, hmod⟩ := hModN a2 41 (by omega) (by omega)
  change ∀ w, Calls _ _ #[.int .i64 a2, .int .i64 41] w _ at hmod
  have hm40 : m ≤ 40 := by omega
  obtain ⟨span, last, q, hone, hs0, hs1, hq, hq0, hqs, hlast, hl0, hl1, hreach⟩ := reach_span hm40 b0 b1
  have HR := Lib.hid hreach
  have HT := Lib.hid hT
  have hnew := wNewOf w (m : Int)
  rw [wid_nat hm40] at hnew
  have okI : ∀ i : Int, 0 ≤ i → i ≤ 9 → i64ok i := fun i h1 h2 => i64ok_of (by omega)
  have HI := Lib.hid okI
  have hq' : a0.tdiv span = q := by rw [Int.tdiv_eq_ediv_of_nonneg b0]; exact hq
  obtain ⟨z, hz⟩ : ∃ z, q * span = z := ⟨_, rfl⟩
  rw [hz] at hqs hlast
  have hz0 : 0 ≤ z := by rw [← hz]; exact Int.mul_nonneg hq0 (by omega)
  have hqz : q ≤ z := by
    rw [← hz]
    have := Int.mul_le_mul_of_nonneg_left (show (1 : Int) ≤ span by omega) hq0
    rw [Int.mul_one] at this
    exact this
  have hwz : IntKind.u64.wrap z = z := by rw [IntKind.wrap_u64]; omega
  have hwq : IntKind.u64.wrap q = q := by rw [IntKind.wrap_u64]; omega
  have hwl : IntKind.u64.wrap last = last := by rw [IntKind.wrap_u64]; omega
  obtain ⟨y, hy⟩ : ∃ y, last - a0 = y := ⟨_, rfl⟩
  have hwy : IntKind.u64.wrap y = y := by rw [IntKind.wrap_u64]; omega
  obtain ⟨D, hD⟩ : ∃ D, y + 1 = D := ⟨_, rfl⟩
  have hwD : IntKind.u64.wrap D = D := by rw [IntKind.wrap_u64]; omega
  have hD0 : 0 < D := by omega
  have hD1 : D ≤ 288230376151711744 := by omega
  obtain ⟨r, hr⟩ : ∃ r, a1 % D = r := ⟨_, rfl⟩
  have hr0 : 0 ≤ r := by rw [← hr]; exact Int.emod_nonneg _ (by omega)
  have hr1 : r < D := by rw [← hr]; exact Int.emod_lt_of_pos _ hD0
  obtain ⟨kk, hkk⟩ : ∃ kk, a0 + r = kk := ⟨_, rfl⟩
  have hwk : IntKind.u64.wrap kk = kk := by rw [IntKind.wrap_u64]; omega
  have okl : (Lit.int .u64 last).wf = true := u64ok_of ⟨by omega, hl1⟩
  have okk : (Lit.int .u64 kk).wf = true := u64ok_of ⟨by omega, by omega⟩
  have hkl : a0 ≤ kk ∧ kk ≤ last := by omega
  have hne : ¬ span = 0 := by omega
  have hDne : ¬ D = 0 := by omega
  have hone' := rone_any ((m : Int) + 18)
  rw [hone] at hone'
  clear hreach hT hq okI hone
  go_enter Tryd.func8, Tryd.ntmps8
  go_wp2_with fail
  refine (hmod _).mono ?_
  rintro e v0 ⟨rfl, rfl⟩
  go_wp2_with fail
  refine hnew.mono ?_
  rintro e v1 ⟨wb, S1, rfl, h1, f1, n1⟩
  have aw := wAwake v1 (HT.out.only0 n1)
  have H1 := Lib.hid (And.intro h1 (And.intro f1 n1))
  clear h1 f1 n1 hnew hmod
  go_wp2_with fail
  refine aw.mono ?_
  rintro e v2 ⟨rfl, n2⟩
  have hmv := wMove v2 wb S1 m 0 [] (H1.out.1.only0 n2) (HT.out.only0 (H1.out.2.2.trans' n2)) a0 b0 b1
  have e1 : mayGo 0 [] a0 = true := by unfold mayGo; simp [b0]
  rw [e1] at hmv
  simp only [if_true] at hmv
  have H2 : Hid (Moved v0 [] v2 S1) := ⟨H1.out.2.2.trans' n2, fun b hb => .inr (H1.out.2.1 b hb)⟩
  clear aw n2 e1 H1
  go_wp2_with fail
  refine hmv.mono ?_
  rintro e v3 ⟨rfl, S3, h3, m3⟩
  have H3 := Lib.hid (And.intro h3 (H2.out.trans m3))
  clear h3 m3 hmv H2
  go_wp2_with fail
  refine (hone' _).mono ?_
  rintro e v4 ⟨rfl, rfl⟩
  clear hone'
  -- the rest of the walk, from the first item on
  have tail3 : Hid (∀ (W : World) (Q : List Nat), WheelOf W wb Q m a0 [] → ∃ l3 : List It, l3.length = 3 ∧ hasId 5 l3 = true ∧
      Calls Tryd.prog 19 #[.pointer (some ⟨wb, 0, none⟩), .agg #[.int .u64 last, .int .i64 3]] W (fun e w1 => e = .returned (.bool true) ∧ ∃ Q1, Moved W Q w1 Q1 ∧
        Calls Tryd.prog 19 #[.pointer (some ⟨wb, 0, none⟩), .agg #[.int .u64 a0, .int .i64 4]] w1 (fun e w2 => e = .returned (.bool true) ∧ ∃ Q2, Moved w1 Q1 w2 Q2 ∧
          Calls Tryd.prog 19 #[.pointer (some ⟨wb, 0, none⟩), .agg #[.int .u64 kk, .int .i64 5]] w2 (fun e w3 => e = .returned (.bool true) ∧ ∃ Q3, WheelOf w3 wb Q3 m a0 l3 ∧ Moved w2 Q2 w3 Q3)))) := fun W Q hW => by
    have p1 := push_in W wb Q m a0 [] hW ⟨last, 3⟩ ⟨okl, HI.out 3 (by omega) (by omega)⟩ (by simp) ((HR.out last).2 ⟨hl0, by omega⟩) rfl
    refine ⟨ins ⟨kk, 5⟩ (ins ⟨a0, 4⟩ (ins ⟨last, 3⟩ [])), by simp [ins_len9], by rw [has_ins]; simp, p1.mono ?_⟩
    rintro e w1 ⟨rfl, Q1, q1, q2⟩
    refine ⟨rfl, Q1, q2, ?_⟩
    have p2 := push_in w1 wb Q1 m a0 _ q1 ⟨a0, 4⟩ ⟨w0, HI.out 4 (by omega) (by omega)⟩ (by simp [ins_len9]) ((HR.out a0).2 ⟨by omega, hl0⟩) (by rw [has_ins]; simp [hasId])
    refine p2.mono ?_
    rintro e w2 ⟨rfl, Q2, q3, q4⟩
    refine ⟨rfl, Q2, q4, ?_⟩
    exact push_in w2 wb Q2 m a0 _ q3 ⟨kk, 5⟩ ⟨okk, HI.out 5 (by omega) (by omega)⟩ (by simp [ins_len9]) ((HR.out kk).2 hkl) (by rw [has_ins, has_ins]; simp [hasId])
  by_cases hb0 : 0 < a0
  · have hbp : a0 > 0 := hb0
    have okb : (Lit.int .u64 (a0 - 1)).wf = true := u64ok_of ⟨by omega, by omega⟩
    have hwb1 : IntKind.u64.wrap (a0 - 1) = a0 - 1 := by rw [IntKind.wrap_u64]; omega
    by_cases hlt : last < 18446744073709551615
    · have okm : (Lit.int .u64 (last + 1)).wf = true := u64ok_of ⟨by omega, by omega⟩
      go_wp2_with fail
      refine (push_out _ wb S3 m a0 [] H3.out.1 ⟨a0 - 1, 1⟩ ⟨okb, HI.out 1 (by omega) (by omega)⟩ (by simp) (.inl (fun h => by have := ((HR.out (a0 - 1)).1 h).1; omega))).mono ?_
      rintro e v5 ⟨rfl, S5, h5, m5⟩
      have H5 := Lib.hid (And.intro h5 (H3.out.2.trans m5))
      clear h5 m5
      go_wp2_with fail
      refine (push_out _ wb S5 m a0 [] H5.out.1 ⟨last + 1, 2⟩ ⟨okm, HI.out 2 (by omega) (by omega)⟩ (by simp) (.inl (fun h => by have := ((HR.out (last + 1)).1 h).2; omega))).mono ?_
      rintro e v6 ⟨rfl, S6, h6, m6⟩
      have H6 := Lib.hid (And.intro h6 (H5.out.2.trans m6))
      clear h6 m6
      obtain ⟨l3, hl3, hi3, c3⟩ := tail3.out _ S6 H6.out.1
      go_wp2_with fail
      refine c3.mono ?_
      rintro e u1 ⟨rfl, Q1, n1, c4⟩
      have N1 := Lib.hid (H6.out.2.trans n1)
      clear n1 c3
      go_wp2_with fail
      refine c4.mono ?_
      rintro e u2 ⟨rfl, Q2, n2, c5⟩
      have N2 := Lib.hid (N1.out.trans n2)
      clear n2 c4
      go_wp2_with fail
      refine c5.mono ?_
      rintro e u3 ⟨rfl, Q3, h3, n3⟩
      have c6 := push_out u3 wb Q3 m a0 l3 h3 ⟨kk, 5⟩ ⟨okk, HI.out 5 (by omega) (by omega)⟩ (by omega) (.inr hi3)
      have N3 := Lib.hid (N2.out.trans n3)
      clear n3 c5 h3
      go_wp2_with fail
      refine c6.mono ?_
      rintro e u4 ⟨rfl, Q4, h4, n4⟩
      have c7 := wLenOf u4 wb Q4 m a0 l3 h4
      rw [hl3] at c7
      have N4 := Lib.hid (N3.out.trans n4)
      clear n4 c6 h4
      go_wp2_with fail
      refine c7.mono ?_
      rintro e u5 ⟨rfl, rfl⟩
      go_wp2_with fail
      go_ret
      exact ⟨rfl, N4.out.1.below (Nat.le_refl _) (by simp)⟩
    · have hle : ¬ last < 18446744073709551615 := hlt
      go_wp2_with fail
      refine (push_out _ wb S3 m a0 [] H3.out.1 ⟨a0 - 1, 1⟩ ⟨okb, HI.out 1 (by omega) (by omega)⟩ (by simp) (.inl (fun h => by have := ((HR.out (a0 - 1)).1 h).1; omega))).mono ?_
      rintro e v5 ⟨rfl, S5, h5, m5⟩
      have H5 := Lib.hid (And.intro h5 (H3.out.2.trans m5))
      clear h5 m5
      have H6 := H5
      obtain ⟨S6, eS6⟩ : ∃ S6, S5 = S6 := ⟨_, rfl⟩
      rw [eS6] at H6
      obtain ⟨l3, hl3, hi3, c3⟩ := tail3.out _ S6 H6.out.1
      go_wp2_with fail
      refine c3.mono ?_
      rintro e u1 ⟨rfl, Q1, n1, c4⟩
      have N1 := Lib.hid (H6.out.2.trans n1)
      clear n1 c3
      go_wp2_with fail
      refine c4.mono ?_
      rintro e u2 ⟨rfl, Q2, n2, c5⟩
      have N2 := Lib.hid (N1.out.trans n2)
      clear n2 c4
      go_wp2_with fail
      refine c5.mono ?_
      rintro e u3 ⟨rfl, Q3, h3, n3⟩
      have c6 := push_out u3 wb Q3 m a0 l3 h3 ⟨kk, 5⟩ ⟨okk, HI.out 5 (by omega) (by omega)⟩ (by omega) (.inr hi3)
      have N3 := Lib.hid (N2.out.trans n3)
      clear n3 c5 h3
      go_wp2_with fail
      refine c6.mono ?_
      rintro e u4 ⟨rfl, Q4, h4, n4⟩
      have c7 := wLenOf u4 wb Q4 m a0 l3 h4
      rw [hl3] at c7
      have N4 := Lib.hid (N3.out.trans n4)
      clear n4 c6 h4
      go_wp2_with fail
      refine c7.mono ?_
      rintro e u5 ⟨rfl, rfl⟩
      go_wp2_with fail
      go_ret
      exact ⟨rfl, N4.out.1.below (Nat.le_refl _) (by simp)⟩
  · have hb9 : ¬ a0 > 0 := hb0
    by_cases hlt : last < 18446744073709551615
    · have okm : (Lit.int .u64 (last + 1)).wf = true := u64ok_of ⟨by omega, by omega⟩
      have H5 := H3
      obtain ⟨S5, eS5⟩ : ∃ S5, S3 = S5 := ⟨_, rfl⟩
      rw [eS5] at H5
      go_wp2_with fail
      refine (push_out _ wb S5 m a0 [] H5.out.1 ⟨last + 1, 2⟩ ⟨okm, HI.out 2 (by omega) (by omega)⟩ (by simp) (.inl (fun h => by have := ((HR.out (last + 1)).1 h).2; omega))).mono ?_
      rintro e v6 ⟨rfl, S6, h6, m6⟩
      have H6 := Lib.hid (And.intro h6 (H5.out.2.trans m6))
      clear h6 m6
      obtain ⟨l3, hl3, hi3, c3⟩ := tail3.out _ S6 H6.out.1
      go_wp2_with fail
      refine c3.mono ?_
      rintro e u1 ⟨rfl, Q1, n1, c4⟩
      have N1 := Lib.hid (H6.out.2.trans n1)
      clear n1 c3
      go_wp2_with fail
      refine c4.mono ?_
      rintro e u2 ⟨rfl, Q2, n2, c5⟩
      have N2 := Lib.hid (N1.out.trans n2)
      clear n2 c4
      go_wp2_with fail
      refine c5.mono ?_
      rintro e u3 ⟨rfl, Q3, h3, n3⟩
      have c6 := push_out u3 wb Q3 m a0 l3 h3 ⟨kk, 5⟩ ⟨okk, HI.out 5 (by omega) (by omega)⟩ (by omega) (.inr hi3)
      have N3 := Lib.hid (N2.out.trans n3)
      clear n3 c5 h3
      go_wp2_with fail
      refine c6.mono ?_
      rintro e u4 ⟨rfl, Q4, h4, n4⟩
      have c7 := wLenOf u4 wb Q4 m a0 l3 h4
      rw [hl3] at c7
      have N4 := Lib.hid (N3.out.trans n4)
      clear n4 c6 h4
      go_wp2_with fail
      refine c7.mono ?_
      rintro e u5 ⟨rfl, rfl⟩
      go_wp2_with fail
      go_ret
      exact ⟨rfl, N4.out.1.below (Nat.le_refl _) (by simp)⟩
    · exfalso
      omega

/-! ### The step from the walk to the row -/
set_option maxRecDepth 100000 in
theorem lifted (os : Os) (started : os.Started) (H : Type) (enc : TypeId × Value → H) :
    ReturnsInHanded {} Tryd.checked os 8 .any (fun w args => (Rows.wheelReachSpec.pre enc Tryd.prog Tryd.f8 [] false w args ∧ laidMetH Tryd.prog listed w) ∧ sizedMet enc Tryd.prog Tryd.f8 (OpenSpec.ofChange Rows.wheelReachSpec) false w args)
      (Rows.wheelReachSpec.post enc Tryd.prog Tryd.f8 false true false false) := by
  refine returnsInHanded_of_change_and (C := Tryd.checked) (X := fun w _ => laidMetH Tryd.prog listed w) (fun _ _ _ hh h => h.of_heap hh) own started (by kernel_rfl) Tryd.func8
    (ChangeSpec.witness_shaped (enc := enc) (C := Tryd.checked) (os := os) (X := fun w _ => laidMetH Tryd.prog listed w) false (World.doorLaid Tryd.prog 14 os) #[.int .u64 0, .int .u64 0, .int .i64 0] 8 rfl (World.shaped_of_RefB (by kernel_rfl) (by kernel_rfl)) (by kernel_rfl) (by kernel_rfl) (by kernel_rfl) (door_met os _)) ?_
  intro W base args ds gs before hval0 hW _ _ hL _
  have hval : ∀ (j : Nat) t v, Tryd.f8.params[j]? = some t → args[j]? = some v → Value.okWide Tryd.prog W .any base t v := hval0
  have hW' := hW
  obtain ⟨p, q, hA0, hV, rfl, hfz, hnd⟩ := hW
  have hA : DataW.TrodAll enc Tryd.prog W 0 (fun _ => true) true Tryd.f8.params.toList args.toList ds p := hA0
  rw [Tryd.params8] at hA hval
  obtain ⟨v0, vs0, d0, ds0, p0, q0, hargs, rfl, rfl, h0, r0⟩ := trodAll_cons hA
  obtain ⟨v1, vs1, d1, ds1, p1, q1, rfl, rfl, rfl, h1, r1⟩ := trodAll_cons r0
  obtain ⟨v2, vs2, d2, ds2, p2, q2, rfl, rfl, rfl, h2, r2⟩ := trodAll_cons r1
  obtain ⟨rfl, rfl, rfl⟩ := trodAll_nil r2
  obtain rfl : args = #[v0, v1, v2] := by cases args; simp_all
  obtain ⟨rfl, rfl⟩ := trodVars_none hV
  obtain ⟨a0, rfl, rfl, rfl, w0⟩ := open_int Tryd.underlying22 (hval 0 22 v0 rfl rfl) h0
  obtain ⟨a1, rfl, rfl, rfl, w1⟩ := open_int Tryd.underlying22 (hval 1 22 v1 rfl rfl) h1
  obtain ⟨a2, rfl, rfl, rfl, w2⟩ := open_int Tryd.underlying3 (hval 2 3 v2 rfl rfl) h2
  clear hA0 hval0
  refine (walk a0 a1 a2 W w0 w1 w2 (tab_of_laid hL)).mono fun e W' ⟨he, bel⟩ => ?_
  subst he
  exact ⟨_, rfl, _, _, _, [], _, [], hW', trodAll_mk1 (shut_bool Tryd.underlying4 _), (trodAll_cons_mk (shut_int Tryd.underlying22 w0) (trodAll_cons_mk (shut_int Tryd.underlying22 w1) (trodAll_cons_mk (shut_int Tryd.underlying3 w2) trodAll_mk0))), rfl, bel.frame _, fun h => by cases h⟩

theorem over : Rows.wheelReachRow.holds Tryd.pinned (OpenSpec.ofChange Rows.wheelReachSpec) :=
  OpenClaim.holds_of_wide 8 Tryd.f8 rfl rfl rfl rfl rfl rfl rfl ⟨rfl, rfl, rfl, rfl, rfl⟩ rfl rfl rfl rfl rfl (by kernel_rfl) Tryd.func8 (by kernel_rfl)
    (of_decide_eq_true (by kernel_rfl)) (by unfold Func.isWrapper; first | (rw [if_pos (by decide +kernel)]; kernel_rfl) | (rw [if_neg (by decide +kernel)]; exact ⟨rfl, rfl⟩))
    (fun os started H enc _ => lifted os started H enc)

/-- The statement: the card, its listed variable tied to the program's text. -/
theorem proved : Rows.WheelReachCardSaid :=
  Claim7.holds_tied_plain_at .later [] [.data] true (true, "c1baca7e8a45fd53add94cf52a5f971d519e3f9f1c46d631b42e2657d54dce93") false
    over (fun _ h => by cases h) (by kernel_rfl) (fun _ h => by cases h) wheelReach_row_tie rfl ⟨rfl, rfl⟩ (by kernel_rfl) rfl
    (fun f fn hf hfn => by
      obtain rfl : f = 8 := Option.some.inj ((show Tryd.prog.funcNamed "weighbridge/weighbridgelaw05.WheelReach" = some 8 by kernel_rfl).symm.trans hf) |>.symm
      obtain rfl : fn = Tryd.f8 := (Option.some.inj (Tryd.func8.symm.trans hfn)).symm
      exact ⟨by kernel_rfl, fun j t ht => by
        rw [Tryd.params8] at ht
        have hm : t ∈ [22, 22, 3] := by simpa using Array.mem_of_getElem? ht
        have hall : ([22, 22, 3].all fun u => !Tryd.prog.wantsStandIn u) = true := by kernel_rfl
        exact (show Tryd.prog.wantsStandIn t = false by simpa using List.all_eq_true.1 hall t hm)⟩)
    (by kernel_rfl)
#print axioms proved
end Go.Proofs.YtlokeennplhflaaDoor.wheelReach
