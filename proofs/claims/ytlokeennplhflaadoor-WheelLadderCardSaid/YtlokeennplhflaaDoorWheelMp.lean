/-
  Contract of the document's Map.
-/
import Derived.Test.YtlokeennplhflaaDoorWheelC
import Derived.Test.YtlokeennplhflaaDoorWheelB
import Derived.Test.YtlokeennplhflaaDoorWheelO
import Derived.Deep.QuietTactic
namespace Go.Proofs.YtlokeennplhflaaDoor
open Go.RowKit Go.ChangeMaps Go.MapKept
set_option linter.unusedVariables false
set_option linter.unusedSimpArgs false

/-- The number whose bits below n are those that f tells. -/
def mapN (f : Nat → Bool) : Nat → Nat
  | 0 => 0
  | b + 1 => mapN f b + if f b then 2 ^ b else 0
theorem mapN_lt (f : Nat → Bool) : ∀ b, mapN f b < 2 ^ b
  | 0 => by simp [mapN]
  | b + 1 => by
    have := mapN_lt f b
    simp only [mapN]
    rw [Nat.pow_succ]
    split <;> omega
theorem mapN_bit (f : Nat → Bool) : ∀ b i, i < b → (mapN f b).testBit i = f i
  | 0, i, h => absurd h (Nat.not_lt_zero i)
  | b + 1, i, h => by
    have hl := mapN_lt f b
    simp only [mapN]
    rcases Nat.lt_or_ge i b with h1 | h1
    · have ih := mapN_bit f b i h1
      split
      · rw [Nat.add_comm, Nat.testBit_two_pow_add_gt h1, ih]
      · rw [Nat.add_zero, ih]
    · have e : i = b := by omega
      subst e
      split
      · next h2 => rw [Nat.add_comm, Nat.testBit_two_pow_add_eq, Nat.testBit_lt_two_pow hl, h2]; rfl
      · next h2 => rw [Nat.add_zero, Nat.testBit_lt_two_pow hl]; simpa using h2
/-- Does the item lie in that bucket of that level? -/
def hitB (wd : Nat) (base level : Int) (b : Nat) (x : It) : Bool := decide (0 ≤ level ∧ level < 3) && (decide (levM wd base x.k = level) && decide (bkM wd x.k level.toNat = (b : Int)))
def hits (wd : Nat) (base level : Int) (l : List It) (b : Nat) : Bool := l.any (hitB wd base level b)
theorem hits_false {wd : Nat} {base level : Int} {l : List It} {b : Nat} (h : ∀ j, j < l.length → hitB wd base level b (gOf l j) = false) : hits wd base level l b = false := by
  unfold hits
  rw [List.any_eq_false]
  intro x hx
  obtain ⟨j, hj, e⟩ := List.mem_iff_getElem.1 hx
  have := h j hj
  rw [gOf_get hj, e] at this
  simp [this]
theorem hits_true {wd : Nat} {base level : Int} {l : List It} {b j : Nat} (hj : j < l.length) (h : hitB wd base level b (gOf l j) = true) : hits wd base level l b = true := by
  unfold hits
  rw [List.any_eq_true]
  exact ⟨gOf l j, by rw [gOf_get hj]; exact List.getElem_mem hj, h⟩
theorem hits_out {wd : Nat} {base level : Int} {l : List It} (h : ¬ (0 ≤ level ∧ level < 3)) (b : Nat) : hits wd base level l b = false := by
  unfold hits
  rw [List.any_eq_false]
  intro x hx
  unfold hitB
  rw [decide_eq_false h]
  simp
theorem hit_pos {wd : Nat} {base : Int} {x : It} {L b : Nat} (hL : L < 3) (hb : b < 64) (h : reach wd base x.k) : hitB wd base (L : Int) b x = decide (pl wd base x = L * 64 + b) := by
  obtain ⟨L', hL', e1, b', hb', e2, e3⟩ := pos_is h
  unfold hitB
  rw [decide_eq_true (show 0 ≤ (L : Int) ∧ (L : Int) < 3 by omega), e1]
  simp only [Bool.true_and, Int.toNat_natCast]
  change _ = decide (pos wd base x.k = L * 64 + b)
  rw [e3]
  by_cases c : L' = L
  · subst c
    simp only [e2]
    by_cases c2 : b' = b
    · subst c2; simp
    · have : ¬ ((b' : Int) = (b : Int)) := by omega
      simp [this, c2]
  · have h1 : ¬ ((L' : Int) = (L : Int)) := by omega
    have h2 : ¬ (L' * 64 + b' = L * 64 + b) := by omega
    simp [h1, h2]
/-- The document's bitmap is what the wheel's own one is. -/
theorem hits_map {wd : Nat} {base : Int} {l : List It} {L : Nat} (hL : L < 3) (h : Lies wd base l) : mapM wd base l L (mapN (hits wd base (L : Int) l) 64) := by
  refine ⟨?_, fun b hb => ?_⟩
  · have := mapN_lt (hits wd base (L : Int) l) 64
    exact this
  · rw [mapN_bit _ 64 b hb]
    unfold hits
    have hc : ∀ x ∈ l, hitB wd base (L : Int) b x = decide (pl wd base x = L * 64 + b) := fun x hx => hit_pos hL hb (h.near x hx)
    cases hp : (part (pl wd base) (L * 64 + b) l).isEmpty with
    | true =>
      rw [List.any_eq_false.2]
      · rfl
      · intro x hx
        rw [hc x hx]
        have := part_nil_iff.1 (List.isEmpty_iff.1 hp) x hx
        simp [this]
    | false =>
      rw [List.any_eq_true.2]
      · rfl
      · have hne : part (pl wd base) (L * 64 + b) l ≠ [] := by
          intro e
          rw [e] at hp
          simp at hp
        obtain ⟨x, hx⟩ := List.exists_mem_of_ne_nil _ hne
        obtain ⟨hx1, hx2⟩ := mem_part.1 hx
        exact ⟨x, hx1, by rw [hc x hx1]; simp [hx2]⟩
theorem mapN_none {f : Nat → Bool} (h : ∀ b, f b = false) : ∀ n, mapN f n = 0
  | 0 => rfl
  | n + 1 => by simp [mapN, h n, mapN_none h n]
theorem mapN_in {f : Nat → Bool} {b : Nat} (hb : b < 64) : ∃ m t : Nat, mapN f b = m ∧ oneM (b : Int) = t ∧ m + t < 18446744073709551616 ∧ (f b = true → mapN f (b + 1) = m + t) ∧ (f b = false → mapN f (b + 1) = m) := by
  refine ⟨mapN f b, 2 ^ b, rfl, ?_, ?_, fun h => by simp [mapN, h], fun h => by simp [mapN, h]⟩
  · unfold oneM
    rw [if_pos (by omega)]
    simp
  · have h1 := mapN_lt f b
    have h2 : 2 ^ (b + 1) ≤ 2 ^ 64 := Nat.pow_le_pow_right (by decide) (by omega)
    rw [Nat.pow_succ] at h2
    have h3 : (2 : Nat) ^ 64 = 18446744073709551616 := by decide
    omega

set_option maxRecDepth 100000 in
set_option maxHeartbeats 4000000 in
theorem rMapAny (w : World) (xb : Nat) (S : List Nat) (wd : Nat) (base : Int) (l : List It) (h : RefOf w xb S wd base l) (hwd : wd ≤ 40) (b0 : 0 ≤ base) (b1 : base ≤ 18446744073709551615) (hok : ∀ x ∈ l, x.ok) (hlen : l.length ≤ 1000000) (level : Int) :
    Calls Tryd.prog 27 #[.pointer (some ⟨xb, 0, none⟩), .int .i64 level] w fun e w' => e = .returned (.int .u64 ((mapN (hits wd base level l) 64 : Nat) : Int)) ∧ Only [] w w' := by
  obtain ⟨c1, c2, -, -⟩ := h.cells
  obtain ⟨v, -, h1, -⟩ := h
  obtain ⟨A, cap, ev⟩ := h1.row.form
  have c0 := h1.c0
  have hrow := Lib.hid h1.row
  rw [ev] at c0 hrow
  clear h1 ev
  obtain ⟨f, hf⟩ : ∃ f, hits wd base level l = f := ⟨_, rfl⟩
  have HF := Lib.hid hf
  rw [hf]
  clear hf
  have C := Lib.hid (And.intro c0 (And.intro c1 c2))
  have hlv : Hid (∀ k, 0 ≤ k → k ≤ 18446744073709551615 → ∀ W, Calls Tryd.prog 15 #[.int .u64 base, .int .u64 k, .int .i64 (wd : Int)] W fun e w' => e = .returned (.int .i64 (levM wd base k)) ∧ W = w') := fun k k0 k1 W => by
    have := rlevel_any base k (wd : Int) b0 b1 k0 k1 W
    rw [wid_nat hwd] at this
    exact this
  clear c0 c1 c2
  go_enter Tryd.func27, Tryd.ntmps27
  go_wp2_with fail
  go_loopg [5, 6] 65 (fun gk s5 s6 wr => ∃ b : Nat, s5 = .int .u64 ((mapN f b : Nat) : Int) ∧ s6 = .int .i64 (b : Int) ∧ b ≤ 64 ∧ 65 ≤ gk + b ∧ Hid (Only [] w wr))
  case atStart => exact ⟨0, rfl, rfl, by omega, by omega, Only.refl _ _⟩
  case round =>
    obtain ⟨b, rfl, rfl, hb, hg, ho⟩ := hrel
    by_cases hc : b < 64
    · have c64 : (b : Int) < 64 := by omega
      obtain ⟨m, t, em, et, hmt, hs1, hs0⟩ := mapN_in (f := f) hc
      have hone := rone_any (b : Int)
      rw [et] at hone
      have HS := Lib.hid (And.intro hs1 hs0)
      have EM := Lib.hid em
      rw [em]
      clear em et hs1 hs0
      go_wp2_with fail
      go_loopg [5, 7] (l.length + 1) (fun gk s5 s7 wr => ∃ i : Nat, s5 = .int .u64 (m : Int) ∧ s7 = .int .i64 (i : Int) ∧ i ≤ l.length ∧ l.length + 1 ≤ gk + i ∧ Hid (∀ j, j < i → hitB wd base level b (gOf l j) = false) ∧ Hid (Only [] w wr))
      case atStart => exact ⟨0, rfl, rfl, by omega, by omega, (fun j hj => absurd hj (Nat.not_lt_zero j)), ho⟩
      case round =>
        obtain ⟨i, rfl, rfl, hi, hgi, hno, ho2⟩ := hrel
        have c0 := ho2.out.stay C.out.1
        have c1 := ho2.out.stay C.out.2.1
        have c2 := ho2.out.stay C.out.2.2
        by_cases hil : i < l.length
        · have cil : (i : Int) < (l.length : Int) := by omega
          obtain ⟨g, cap', e9, hcp, hcm, hgl, -, hat⟩ := hrow.out.at_ (by omega)
          cases e9
          have ck := ho2.out.stay (hat i hil).1
          have hmem : gOf l i ∈ l := by rw [gOf_get hil]; exact List.getElem_mem hil
          have hxk := u64ok_to (hok _ hmem).1
          obtain ⟨k, hk⟩ : ∃ k, (gOf l i).k = k := ⟨_, rfl⟩
          have HK := Lib.hid hk
          rw [hk] at ck hxk
          have hl1 := hlv.out k hxk.1 hxk.2
          have HXK := Lib.hid hxk
          clear hat hmem hk hxk hgl
          have hcases : (level < 0 ∧ hitB wd base level b (gOf l i) = false) ∨ (¬ level < 0 ∧ 3 ≤ level ∧ hitB wd base level b (gOf l i) = false) ∨ (∃ L : Nat, L < 3 ∧ level = (L : Int) ∧ hitB wd base level b (gOf l i) = (decide (levM wd base k = (L : Int)) && decide (bkM wd k L = (b : Int)))) := by
            rcases Int.lt_or_le level 0 with h9 | h9
            · exact .inl ⟨h9, by unfold hitB; rw [decide_eq_false (by omega)]; rfl⟩
            · rcases Int.lt_or_le level 3 with h8 | h8
              · obtain ⟨L, rfl⟩ := Int.eq_ofNat_of_zero_le h9
                exact .inr (.inr ⟨L, by omega, rfl, by unfold hitB; rw [decide_eq_true (show 0 ≤ (L : Int) ∧ (L : Int) < 3 by omega), HK.out]; simp⟩)
              · exact .inr (.inl ⟨by omega, h8, by unfold hitB; rw [decide_eq_false (by omega)]; rfl⟩)
          rcases hcases with ⟨q1, q2⟩ | ⟨q1, q2, q3⟩ | ⟨L, hL, rfl, hq⟩
          · have q4 : ¬ level ≥ 0 := by omega
            have q5 : decide (level ≥ 0) = false := decide_eq_false q4
            have hmiss := Lib.hid q2
            clear q2
            go_wp2_with fail
            go_quiet (first | (go_at_call 15; exact Calls.quiet_of_same ((hl1 _).mono fun _ _ q => ⟨q.1, q.2.symm⟩)) | (go_at_call 17; exact Calls.quiet_of_same ((hbk _).mono fun _ _ q => ⟨q.1, q.2.symm⟩)))
            have ho3 : Hid (Only [] w (wr.drewN _)) := ho2.out.drewN nq
            generalize wr.drewN nq = wl at *
            go_wp2_with fail
            go_roundg (l.length + 1 - (i + 1))
            case measure => omega
            case rel => exact ⟨i + 1, rfl, by simp, by omega, by omega, (fun j hj => by
              rcases Nat.lt_or_ge j i with h9 | h9
              · exact hno.out j h9
              · have e9 : j = i := by omega
                rw [e9]
                exact hmiss.out), ho3⟩
          · have q4 : level ≥ 0 := by omega
            have q5 : ¬ level < 3 := by omega
            have q6 : decide (level < 3) = false := decide_eq_false q5
            have hmiss := Lib.hid q3
            clear q3
            go_wp2_with fail
            go_quiet (first | (go_at_call 15; exact Calls.quiet_of_same ((hl1 _).mono fun _ _ q => ⟨q.1, q.2.symm⟩)) | (go_at_call 17; exact Calls.quiet_of_same ((hbk _).mono fun _ _ q => ⟨q.1, q.2.symm⟩)))
            have ho3 : Hid (Only [] w (wr.drewN _)) := ho2.out.drewN nq
            generalize wr.drewN nq = wl at *
            go_wp2_with fail
            go_roundg (l.length + 1 - (i + 1))
            case measure => omega
            case rel => exact ⟨i + 1, rfl, by simp, by omega, by omega, (fun j hj => by
              rcases Nat.lt_or_ge j i with h9 | h9
              · exact hno.out j h9
              · have e9 : j = i := by omega
                rw [e9]
                exact hmiss.out), ho3⟩
          · have q4 : (L : Int) ≥ 0 := by omega
            have q5 : (L : Int) < 3 := by omega
            have hbk := fun W => rbucket_in k (wd : Int) L hL HXK.out.1 HXK.out.2 W
            rw [wid_nat hwd] at hbk
            obtain ⟨lv, elv⟩ : ∃ lv, levM wd base k = lv := ⟨_, rfl⟩
            obtain ⟨bk, ebk⟩ : ∃ bk, bkM wd k L = bk := ⟨_, rfl⟩
            rw [elv] at hl1 hq
            rw [ebk] at hbk hq
            clear elv ebk
            by_cases z1 : lv = (L : Int)
            · by_cases z2 : bk = (b : Int)
              · have hhit : Hid (hitB wd base (L : Int) b (gOf l i) = true) := by rw [z1, z2] at hq; show _ = _; rw [hq]; simp
                subst z1 z2
                clear hq
                go_wp2_with fail
                go_quiet (first | (go_at_call 15; exact Calls.quiet_of_same ((hl1 _).mono fun _ _ q => ⟨q.1, q.2.symm⟩)) | (go_at_call 17; exact Calls.quiet_of_same ((hbk _).mono fun _ _ q => ⟨q.1, q.2.symm⟩)))
                have ho3 : Hid (Only [] w (wr.drewN _)) := ho2.out.drewN nq
                generalize wr.drewN nq = wl at *
                go_wp2_with (go_at_call 30; refine (hone _).mono ?_; rintro e w' ⟨rfl, rfl⟩)
                go_roundg (65 - (b + 1))
                case measure => omega
                case rel => exact ⟨b + 1, by rw [HS.out.1 (by rw [← HF.out]; exact hits_true hil hhit.out)]; simp, by simp, by omega, by omega, ho3⟩
              · have hmiss : Hid (hitB wd base (L : Int) b (gOf l i) = false) := by show _ = _; rw [hq]; simp [z2]
                have z3 : (bk == (b : Int)) = false := by simp [z2]
                subst z1
                clear hq
                go_wp2_with fail
                go_quiet (first | (go_at_call 15; exact Calls.quiet_of_same ((hl1 _).mono fun _ _ q => ⟨q.1, q.2.symm⟩)) | (go_at_call 17; exact Calls.quiet_of_same ((hbk _).mono fun _ _ q => ⟨q.1, q.2.symm⟩)))
                have ho3 : Hid (Only [] w (wr.drewN _)) := ho2.out.drewN nq
                generalize wr.drewN nq = wl at *
                go_wp2_with fail
                go_roundg (l.length + 1 - (i + 1))
                case measure => omega
                case rel => exact ⟨i + 1, rfl, by simp, by omega, by omega, (fun j hj => by
                  rcases Nat.lt_or_ge j i with h9 | h9
                  · exact hno.out j h9
                  · have e9 : j = i := by omega
                    rw [e9]
                    exact hmiss.out), ho3⟩
            · have hmiss : Hid (hitB wd base (L : Int) b (gOf l i) = false) := by show _ = _; rw [hq]; simp [z1]
              have z3 : (lv == (L : Int)) = false := by simp [z1]
              clear hq
              go_wp2_with fail
              go_quiet (first | (go_at_call 15; exact Calls.quiet_of_same ((hl1 _).mono fun _ _ q => ⟨q.1, q.2.symm⟩)) | (go_at_call 17; exact Calls.quiet_of_same ((hbk _).mono fun _ _ q => ⟨q.1, q.2.symm⟩)))
              have ho3 : Hid (Only [] w (wr.drewN _)) := ho2.out.drewN nq
              generalize wr.drewN nq = wl at *
              go_wp2_with fail
              go_roundg (l.length + 1 - (i + 1))
              case measure => omega
              case rel => exact ⟨i + 1, rfl, by simp, by omega, by omega, (fun j hj => by
                rcases Nat.lt_or_ge j i with h9 | h9
                · exact hno.out j h9
                · have e9 : j = i := by omega
                  rw [e9]
                  exact hmiss.out), ho3⟩
        · have cil : decide ((i : Int) < (l.length : Int)) = false := decide_eq_false (by omega)
          have cil2 : ¬ ((i : Int) < (l.length : Int)) := by omega
          have hnone : Hid (f b = false) := by
            show _ = _
            rw [← HF.out]
            exact hits_false fun j hj => hno.out j (by omega)
          go_wp2_with fail
          go_roundg (65 - (b + 1))
          case measure => omega
          case rel => exact ⟨b + 1, by rw [HS.out.2 hnone.out], by simp, by omega, by omega, ho2⟩
    · have e64 : b = 64 := by omega
      subst e64
      go_wp2_with fail
      go_ret
      exact ⟨rfl, ho.out⟩
end Go.Proofs.YtlokeennplhflaaDoor
