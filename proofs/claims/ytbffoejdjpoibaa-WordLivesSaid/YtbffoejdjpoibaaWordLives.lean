/-
  weighbridgelaw02.WordLives returns true for every input, and leaves its arguments as they were. No condition but that the arguments are values of their types.
-/
import Derived.Test.YtbffoejdjpoibaaRows
import Derived.Test.YtbffoejdjpoibaaWordC
import Derived.WalkKit
import Derived.ProofKit
import Derived.OpenShut
import Derived.ShutString
import Derived.ChangeOld
import Derived.Below
namespace Go.Proofs.Ytbffoejdjpoibaa.wordLives
open Go.ChangeShapes Go.WideShapes Go.ChangeAt Go.RowKit
open Go.ChangeMaps (open_string shut_string)
set_option linter.unusedVariables false

theorem own : ownKnob Try.prog.godebug = none := by kernel_rfl
theorem laidOut : laidOutB Try.prog = true := by kernel_rfl

/-- WHAT THE WALK IS TOLD OF A SLICE OF INTEGERS THAT CAME IN: it is nil; or it leads to a row of 'cap' cells, the numbers 'zs' (the first 'len' are its elements, the rest its spare room), each fitting its kind. -/
def IsRow (k : IntKind) (w : World) (a : Option Addr) (len cap : Nat) (zs : List Int) : Prop :=
  (a = none ∧ len = 0 ∧ cap = 0 ∧ zs = []) ∨
  ∃ x, a = some x ∧ len ≤ cap ∧ cap ≤ maxLen ∧ zs.length = cap ∧ (∀ i, i < zs.length → w.cell? (x.add i) = some (.int k (zs.getD i 0))) ∧ ∀ n ∈ zs, (Lit.int k n).wf = true

/-! ### STEP 1: THE WALK: the Go text returns true, AND WRITES NOTHING THAT WAS THERE: 'Below w.heap.size w w'' (Derived/Below.lean: '.refl', '.alloc', '.drew', '.setCell' at a new block, '.trans'). Open each 'IsRow' by 'rcases' AHEAD of 'go_enter'; part every test ahead of the walk. -/
set_option maxHeartbeats 4000000 in
theorem lives (a0 : Int) (b off len cap : Nat) (zs : List Int) (w : World) (b0 : 0 ≤ a0) (c0 : a0 ≤ 18446744073709551615) (hm : len ≤ 9223372036854775807)
    (hc : ∀ k, k < len → w.cell? ⟨b, off + k, none⟩ = some (.int .i64 (zs.getD k 0))) :
    Calls Try.prog 7 #[.int .u64 a0, .slice (some ⟨b, off, none⟩) len cap] w fun e w' => e = .returned (.bool true) ∧ w = w' := by
  go_enter Try.func7, Try.ntmps7
  go_wp2_with fail
  refine (near_any _ _ _ b0 c0 (by omega) (by omega)).mono ?_
  rintro e w' ⟨⟨z, z0, zz, rfl⟩, rfl⟩
  go_wp2_with fail
  go_loop [5, 6] (fun v i => ∃ (k : Nat) (z : Int), k ≤ len ∧ i = .int .i64 k ∧ v = .int .u64 z ∧ 0 ≤ z ∧ z < 6917529027641081856) (fun _ i => len - (intOf i).toNat)
  case atStart => exact ⟨0, z, Nat.zero_le _, rfl, rfl, z0, zz⟩
  case round =>
    clear z0 zz
    obtain ⟨k, z, hk, rfl, rfl, z0, zz⟩ := hrel
    have zt : z ≤ 18446744073709551615 := by omega
    have zu := Lib.hid zz
    clear zz
    by_cases hlt : k < len
    · by_cases h100 : (k : Int) < 100
      · have hcell := hc k hlt
        clear hc
        obtain ⟨r, r0, r3, er⟩ := rem3 (zs.getD k 0)
        have hr : r = 0 ∨ r = 1 ∨ r = 2 := by omega
        clear r0 r3
        obtain ⟨q, hq⟩ : ∃ q : Int, zs.getD k 0 = q := ⟨_, rfl⟩
        rw [hq] at er hcell
        clear hq
        rcases hr with rfl | rfl | rfl
        · by_cases ok : moreB z = true
          · obtain ⟨s1, s2, s3, s4, s5⟩ := more_step z z0 ok
            have st : moreM z ≤ 18446744073709551615 := by omega
            have su := Lib.hid s5
            clear s5
            go_wp2_with (first | (go_at_call 9; refine (wawake _).mono ?_; rintro e w' ⟨rfl, rfl⟩) | (go_at_call 10; refine (right_any _ _).mono ?_; rintro e w' ⟨rfl, rfl⟩) | (go_at_call 12; refine (state_any z _ z0 zt).mono ?_; rintro e w' ⟨rfl, rfl⟩) | (go_at_call 16; refine (more_any z _ z0 zt).mono ?_; rintro e w' ⟨rfl, rfl⟩) | (go_at_call 17; refine (rest_any z _ z0 zt).mono ?_; rintro e w' ⟨rfl, rfl⟩) | (go_at_call 18; refine (shut_any z _ z0 zt).mono ?_; rintro e w' ⟨rfl, rfl⟩) | (go_at_call 11; first | (refine (count_any _ _ s4 st).mono ?_; rintro e w' ⟨rfl, rfl⟩) | (refine (count_any _ _ z0 zt).mono ?_; rintro e w' ⟨rfl, rfl⟩)))
            go_round
            case rel => exact ⟨k + 1, _, by omega, by go_num, rfl, s4, su.out⟩
            case measure => simp [intOf]; omega
          · have ok : moreB z = false := by simpa using ok
            go_wp2_with (first | (go_at_call 9; refine (wawake _).mono ?_; rintro e w' ⟨rfl, rfl⟩) | (go_at_call 10; refine (right_any _ _).mono ?_; rintro e w' ⟨rfl, rfl⟩) | (go_at_call 12; refine (state_any z _ z0 zt).mono ?_; rintro e w' ⟨rfl, rfl⟩) | (go_at_call 16; refine (more_any z _ z0 zt).mono ?_; rintro e w' ⟨rfl, rfl⟩) | (go_at_call 17; refine (rest_any z _ z0 zt).mono ?_; rintro e w' ⟨rfl, rfl⟩) | (go_at_call 18; refine (shut_any z _ z0 zt).mono ?_; rintro e w' ⟨rfl, rfl⟩) | (go_at_call 11; refine (count_any z _ z0 zt).mono ?_; rintro e w' ⟨rfl, rfl⟩))
            go_round
            case rel => exact ⟨k + 1, z, by omega, by go_num, rfl, z0, zu.out⟩
            case measure => simp [intOf]; omega
        · by_cases ok : restB z = true
          · obtain ⟨s1, s2, s3, s4, s5⟩ := rest_step z z0 ok
            have st : restM z ≤ 18446744073709551615 := by omega
            have su := Lib.hid s5
            clear s5
            go_wp2_with (first | (go_at_call 9; refine (wawake _).mono ?_; rintro e w' ⟨rfl, rfl⟩) | (go_at_call 10; refine (right_any _ _).mono ?_; rintro e w' ⟨rfl, rfl⟩) | (go_at_call 12; refine (state_any z _ z0 zt).mono ?_; rintro e w' ⟨rfl, rfl⟩) | (go_at_call 16; refine (more_any z _ z0 zt).mono ?_; rintro e w' ⟨rfl, rfl⟩) | (go_at_call 17; refine (rest_any z _ z0 zt).mono ?_; rintro e w' ⟨rfl, rfl⟩) | (go_at_call 18; refine (shut_any z _ z0 zt).mono ?_; rintro e w' ⟨rfl, rfl⟩) | (go_at_call 11; first | (refine (count_any _ _ s4 st).mono ?_; rintro e w' ⟨rfl, rfl⟩) | (refine (count_any _ _ z0 zt).mono ?_; rintro e w' ⟨rfl, rfl⟩)))
            go_round
            case rel => exact ⟨k + 1, _, by omega, by go_num, rfl, s4, su.out⟩
            case measure => simp [intOf]; omega
          · have ok : restB z = false := by simpa using ok
            go_wp2_with (first | (go_at_call 9; refine (wawake _).mono ?_; rintro e w' ⟨rfl, rfl⟩) | (go_at_call 10; refine (right_any _ _).mono ?_; rintro e w' ⟨rfl, rfl⟩) | (go_at_call 12; refine (state_any z _ z0 zt).mono ?_; rintro e w' ⟨rfl, rfl⟩) | (go_at_call 16; refine (more_any z _ z0 zt).mono ?_; rintro e w' ⟨rfl, rfl⟩) | (go_at_call 17; refine (rest_any z _ z0 zt).mono ?_; rintro e w' ⟨rfl, rfl⟩) | (go_at_call 18; refine (shut_any z _ z0 zt).mono ?_; rintro e w' ⟨rfl, rfl⟩) | (go_at_call 11; refine (count_any z _ z0 zt).mono ?_; rintro e w' ⟨rfl, rfl⟩))
            go_round
            case rel => exact ⟨k + 1, z, by omega, by go_num, rfl, z0, zu.out⟩
            case measure => simp [intOf]; omega
        · by_cases ok : shutB z = true
          · obtain ⟨s1, s2, s3, s4, s5⟩ := shut_step z z0 ok
            have st : shutM z ≤ 18446744073709551615 := by omega
            have su := Lib.hid s5
            clear s5
            go_wp2_with (first | (go_at_call 9; refine (wawake _).mono ?_; rintro e w' ⟨rfl, rfl⟩) | (go_at_call 10; refine (right_any _ _).mono ?_; rintro e w' ⟨rfl, rfl⟩) | (go_at_call 12; refine (state_any z _ z0 zt).mono ?_; rintro e w' ⟨rfl, rfl⟩) | (go_at_call 16; refine (more_any z _ z0 zt).mono ?_; rintro e w' ⟨rfl, rfl⟩) | (go_at_call 17; refine (rest_any z _ z0 zt).mono ?_; rintro e w' ⟨rfl, rfl⟩) | (go_at_call 18; refine (shut_any z _ z0 zt).mono ?_; rintro e w' ⟨rfl, rfl⟩) | (go_at_call 11; first | (refine (count_any _ _ s4 st).mono ?_; rintro e w' ⟨rfl, rfl⟩) | (refine (count_any _ _ z0 zt).mono ?_; rintro e w' ⟨rfl, rfl⟩)))
            go_round
            case rel => exact ⟨k + 1, _, by omega, by go_num, rfl, s4, su.out⟩
            case measure => simp [intOf]; omega
          · have ok : shutB z = false := by simpa using ok
            go_wp2_with (first | (go_at_call 9; refine (wawake _).mono ?_; rintro e w' ⟨rfl, rfl⟩) | (go_at_call 10; refine (right_any _ _).mono ?_; rintro e w' ⟨rfl, rfl⟩) | (go_at_call 12; refine (state_any z _ z0 zt).mono ?_; rintro e w' ⟨rfl, rfl⟩) | (go_at_call 16; refine (more_any z _ z0 zt).mono ?_; rintro e w' ⟨rfl, rfl⟩) | (go_at_call 17; refine (rest_any z _ z0 zt).mono ?_; rintro e w' ⟨rfl, rfl⟩) | (go_at_call 18; refine (shut_any z _ z0 zt).mono ?_; rintro e w' ⟨rfl, rfl⟩) | (go_at_call 11; refine (count_any z _ z0 zt).mono ?_; rintro e w' ⟨rfl, rfl⟩))
            go_round
            case rel => exact ⟨k + 1, z, by omega, by go_num, rfl, z0, zu.out⟩
            case measure => simp [intOf]; omega
      · go_wp2_with (first | (go_at_call 9; refine (wawake _).mono ?_; rintro e w' ⟨rfl, rfl⟩) | (go_at_call 10; refine (right_any _ _).mono ?_; rintro e w' ⟨rfl, rfl⟩) | (go_at_call 12; refine (state_any z _ z0 zt).mono ?_; rintro e w' ⟨rfl, rfl⟩) | (go_at_call 16; refine (more_any z _ z0 zt).mono ?_; rintro e w' ⟨rfl, rfl⟩) | (go_at_call 17; refine (rest_any z _ z0 zt).mono ?_; rintro e w' ⟨rfl, rfl⟩) | (go_at_call 18; refine (shut_any z _ z0 zt).mono ?_; rintro e w' ⟨rfl, rfl⟩) | (go_at_call 11; refine (count_any z _ z0 zt).mono ?_; rintro e w' ⟨rfl, rfl⟩))
        go_ret
        exact ⟨rfl, rfl⟩
    · go_wp2_with (first | (go_at_call 9; refine (wawake _).mono ?_; rintro e w' ⟨rfl, rfl⟩) | (go_at_call 10; refine (right_any _ _).mono ?_; rintro e w' ⟨rfl, rfl⟩) | (go_at_call 12; refine (state_any z _ z0 zt).mono ?_; rintro e w' ⟨rfl, rfl⟩) | (go_at_call 16; refine (more_any z _ z0 zt).mono ?_; rintro e w' ⟨rfl, rfl⟩) | (go_at_call 17; refine (rest_any z _ z0 zt).mono ?_; rintro e w' ⟨rfl, rfl⟩) | (go_at_call 18; refine (shut_any z _ z0 zt).mono ?_; rintro e w' ⟨rfl, rfl⟩) | (go_at_call 11; refine (count_any z _ z0 zt).mono ?_; rintro e w' ⟨rfl, rfl⟩))
      go_ret
      exact ⟨rfl, rfl⟩

set_option maxHeartbeats 4000000 in
theorem lives_none (a0 : Int) (a : Option Addr) (cap : Nat) (w : World) (b0 : 0 ≤ a0) (c0 : a0 ≤ 18446744073709551615) :
    Calls Try.prog 7 #[.int .u64 a0, .slice a 0 cap] w fun e w' => e = .returned (.bool true) ∧ w = w' := by
  go_enter Try.func7, Try.ntmps7
  go_wp2_with fail
  refine (near_any _ _ _ b0 c0 (by omega) (by omega)).mono ?_
  rintro e w' ⟨⟨z, z0, zz, rfl⟩, rfl⟩
  go_wp2_with fail
  go_loop [5, 6] (fun v i => i = .int .i64 0 ∧ v = .int .u64 z) (fun _ i => 0)
  case atStart => exact ⟨rfl, rfl⟩
  case round =>
    obtain ⟨rfl, rfl⟩ := hrel
    go_wp2_with (go_at_call 9; refine (wawake _).mono ?_; rintro e w' ⟨rfl, rfl⟩)
    go_ret
    exact ⟨rfl, rfl⟩

set_option maxHeartbeats 400000 in
theorem walk (a0 : Int) (a1 : Option Addr) (len1 cap1 : Nat) (z1 : List Int) (w : World) (w0 : (Lit.int .u64 a0).wf = true) (w1 : IsRow .i64 w a1 len1 cap1 z1) :
    Calls Try.prog 7 #[.int .u64 a0, .slice a1 len1 cap1] w fun e w' => e = .returned (.bool true) ∧ Below w.heap.size w w' := by
  obtain ⟨b0, c0⟩ := bounds_u64 w0
  rcases w1 with ⟨rfl, rfl, rfl, rfl⟩ | ⟨x, rfl, hl, hm, hz, hcell, hwz⟩
  · exact (lives_none a0 _ _ w b0 c0).mono fun e w' h => ⟨h.1, h.2 ▸ Below.refl _ _⟩
  · unfold maxLen at hm
    obtain ⟨b, off, spot⟩ := x
    by_cases h0 : len1 = 0
    · subst h0
      exact (lives_none a0 _ _ w b0 c0).mono fun e w' h => ⟨h.1, h.2 ▸ Below.refl _ _⟩
    · have hc := hcell 0 (by omega)
      have hspot : spot = none := by simpa [Addr.add] using World.cell?_spot hc
      subst hspot
      exact (lives a0 b off len1 cap1 z1 w b0 c0 (by omega) (fun k hk => by have h := hcell k (by omega); by_cases e : k = 0 <;> simpa [Addr.add, e] using h)).mono fun e w' h => ⟨h.1, h.2 ▸ Below.refl _ _⟩

/-! ### The step from the walk to the statement -/
set_option maxRecDepth 100000 in
theorem lifted (os : Os) (started : os.Started) (H : Type) (enc : TypeId × Value → H) :
    ReturnsInHanded {} Try.checked os 7 .any (Rows.wordLivesSpec.pre6 enc Try.prog Try.f7 Rows.wordLivesRow.domain false) (Rows.wordLivesSpec.post enc Try.prog Try.f7 false true false false) := by
  refine returnsInHanded_of_change (C := Try.checked) own started (by kernel_rfl) Try.func7
    (ChangeSpec.witness6 (enc := enc) (C := Try.checked) false ⟨#[], #[.int .u64 0, .slice none 0 0], []⟩ 8 (by kernel_rfl) (by kernel_rfl) (by kernel_rfl) (by kernel_rfl)) ?_
  intro W base args ds gs before hval0 hW hcnd _
  have hval : ∀ (j : Nat) t v, Try.f7.params[j]? = some t → args[j]? = some v → Value.okWide Try.prog W .any base t v := hval0
  have hW' := hW
  obtain ⟨p, q, hA0, hV, rfl, hfz, hnd⟩ := hW
  have hA : DataW.TrodAll enc Try.prog W 0 (fun _ => true) true Try.f7.params.toList args.toList ds p := hA0
  rw [Try.params7] at hA hval
  obtain ⟨v0, vs0, d0, ds0, p0, q0, hargs, rfl, rfl, h0, r0⟩ := trodAll_cons hA
  obtain ⟨v1, vs1, d1, ds1, p1, q1, rfl, rfl, rfl, h1, r1⟩ := trodAll_cons r0
  obtain ⟨rfl, rfl, rfl⟩ := trodAll_nil r1
  obtain rfl : args = #[v0, v1] := by cases args; simp_all
  obtain ⟨rfl, rfl⟩ := trodVars_none hV
  obtain ⟨a0, rfl, rfl, rfl, w0⟩ := open_int Try.underlying22 (hval 0 22 v0 rfl rfl) h0
  obtain ⟨a1, len1, cap1, rfl⟩ := okWide_slice Try.underlying37 (hval 1 37 v1 rfl rfl)
  have k1 := h1
  have lt1 : ∀ x ∈ p1, x.block < W.heap.size := by obtain ⟨m, hm⟩ := k1; exact DataW.trod_lt m _ _ _ hm
  obtain ⟨z1, w1⟩ : ∃ zs, IsRow .i64 W a1 len1 cap1 zs := by
    obtain ⟨fuel, hf⟩ := h1
    rcases open_ints Try.underlying37 Try.underlying3 (by kernel_rfl) hf with ⟨hcs, _⟩ | ⟨x, l, c, zs, hcs, _, hl, hm, hz, _, hcell, hwz⟩
    · simp [Value.cells] at hcs
      obtain ⟨rfl, rfl, rfl⟩ := hcs
      exact ⟨[], .inl ⟨rfl, rfl, rfl, rfl⟩⟩
    · simp [Value.cells] at hcs
      obtain ⟨rfl, rfl, rfl⟩ := hcs
      exact ⟨zs, .inr ⟨_, rfl, hl, hm, by simpa using hz, hcell, hwz⟩⟩
  clear hA0 hval0
  refine (walk a0 a1 len1 cap1 z1 W w0 w1).mono fun e W' ⟨he, bel⟩ => ?_
  subst he
  exact ⟨_, rfl, _, _, _, [], _, [], hW', trodAll_mk1 (shut_bool Try.underlying4 _), (trodAll_cons_mk (shut_int Try.underlying22 w0) (trodAll_cons_mk (Below.trod laidOut (by kernel_rfl) (of_decide_eq_true (by kernel_rfl)) k1 bel lt1) trodAll_mk0)), rfl, bel.frame _, fun h => by cases h⟩

theorem over : Rows.wordLivesRow.holds Try.pinned (OpenSpec.ofChange Rows.wordLivesSpec) :=
  OpenClaim.holds_of_wide 7 Try.f7 rfl rfl rfl rfl rfl rfl rfl ⟨rfl, rfl, rfl, rfl, rfl⟩ rfl rfl rfl rfl rfl (by kernel_rfl) Try.func7 (by kernel_rfl)
    (of_decide_eq_true (by kernel_rfl)) (by unfold Func.isWrapper; first | (rw [if_pos (by decide +kernel)]; kernel_rfl) | (rw [if_neg (by decide +kernel)]; exact ⟨rfl, rfl⟩))
    (fun os started H enc _ => lifted os started H enc)

/-- The statement. -/
theorem proved : Rows.WordLivesSaid := over
#print axioms proved
end Go.Proofs.Ytbffoejdjpoibaa.wordLives
