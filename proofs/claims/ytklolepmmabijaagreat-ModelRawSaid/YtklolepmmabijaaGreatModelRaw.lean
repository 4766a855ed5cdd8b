/-
  weighbridgelaw11.ModelRaw returns true for every input, and leaves its arguments as they were. No condition but that the arguments are values of their types.
-/
import Derived.Test.YtklolepmmabijaaGreatRows
import Derived.Test.YtklolepmmabijaaGreatMdSt
import Derived.WalkKit
import Derived.ProofKit
import Derived.OpenShut
import Derived.ChangeOld
import Derived.Below
namespace Go.Proofs.YtklolepmmabijaaGreat.modelRaw
open Go.ChangeShapes Go.WideShapes Go.ChangeAt Go.RowKit
set_option linter.unusedVariables false
set_option linter.unusedSimpArgs false

set_option maxRecDepth 100000 in
set_option maxHeartbeats 8000000 in
theorem walk (sh0 sl0 wk0 wd0 un0 : Int) (a1 : Option Addr) (len1 cap1 : Nat) (z1 : Nat → Cl) (a2 : Int) (w : World) (wsh0 : (Lit.int .i64 sh0).wf = true) (wsl0 : (Lit.int .i64 sl0).wf = true) (wwk0 : (Lit.int .i64 wk0).wf = true) (wwd0 : (Lit.int .i64 wd0).wf = true) (wun0 : (Lit.int .u64 un0).wf = true) (w1 : InCalls w a1 len1 z1) (w2 : (Lit.int .i64 a2).wf = true) :
    Calls Tryz.prog 4 #[.agg #[.int .i64 sh0, .int .i64 sl0, .int .i64 wk0, .int .i64 wd0, .int .u64 un0], .slice a1 len1 cap1, .int .i64 a2] w fun e w' => e = .returned (.bool true) ∧ Below w.heap.size w w' := by
  have W1 := Lib.hid w1
  have km := Lib.hid (fun W => mMade ⟨sh0, sl0, wk0, wd0, un0⟩ (U64.of_wf wun0) true W)
  have hM0 := Lib.hid (madeM_ok ⟨sh0, sl0, wk0, wd0, un0⟩ true)
  clear w1 wsh0 wsl0 wwk0 wwd0 wun0
  generalize madeM ⟨sh0, sl0, wk0, wd0, un0⟩ true = M0 at *
  go_enter Tryz.func4, Tryz.ntmps4
  go_wp2_with fail
  refine (km.out _).mono ?_
  rintro e v1 ⟨b, x, rfl, O1, P1, h1⟩
  have H1 := Lib.hid (h1.from ((Only.refl [] w).alloc _))
  clear h1 km
  go_wp2_with fail
  refine (mAwake _).mono ?_
  rintro e v2 ⟨rfl, o2⟩
  have H2 := Lib.hid (And.intro (H1.out.only0 o2) hM0.out)
  clear o2 H1 hM0
  go_wp2_with fail
  go_loopg [9] (len1 + 1) (fun gk si wr => ∃ (p : Nat) (M : Md) (O P : List Nat), si = .int .i64 (p : Int) ∧ p ≤ len1 ∧ p ≤ 60 ∧ len1 + 1 ≤ gk + p ∧ Hid (Ms w wr b x M O P ∧ M.ok (4 + p) (64 + 16 * p)))
  case atStart => exact ⟨0, M0, O1, P1, rfl, by omega, by omega, by omega, H2⟩
  case round =>
    obtain ⟨p, M, O, P, rfl, hp, hp1, hg, hS⟩ := hrel
    clear H2
    by_cases hc : p < len1 ∧ p < 60
    · have c1 : (p : Int) < (len1 : Int) := by omega
      have c2 : (p : Int) < 60 := by omega
      obtain ⟨hdok, ad, bb, o, s, rfl, hadd, r0, r1, r2, r3⟩ := W1.out.at_ hS.out.1.only hc.1
      obtain ⟨d, ed⟩ : ∃ d, z1 p = d := ⟨_, rfl⟩
      rw [ed] at r0 r1 r2 r3 hdok
      have oA : Only [] wr (wr.alloc (.cells #[.int .i64 d.op, .int .i64 d.f, .int .i64 d.a, .int .i64 d.b] 33)) := (Only.refl [] wr).alloc _
      have bA : CBox (wr.alloc (.cells #[.int .i64 d.op, .int .i64 d.f, .int .i64 d.a, .int .i64 d.b] 33)) wr.heap.size ⟨d.op, d.f, d.a, d.b⟩ := CBox.new wr d
      clear ed
      rcases Nat.mod_two_eq_zero_or_one p with hm | hm
      · have er : Int.tmod (p : Int) 2 = 0 := by rw [Int.tmod_eq_emod_of_nonneg (by omega)]; omega
        obtain ⟨g, eg⟩ : ∃ g, modI d.op 6 = g := ⟨_, rfl⟩
        have hg6 := modI_lt d.op (n := 6) (by decide)
        rw [eg] at hg6
        have kM := fun W => sMod d.op 6 (by decide) (by decide) W
        rw [eg] at kM
        have hdn : Hid ((⟨1 + g, d.f, d.a, d.b⟩ : Cl).ok) := ⟨i64_of (by simp only; omega), hdok.2⟩
        have oB : Hid (Only [] wr (wr.alloc (.cells #[.int .i64 (1 + g), .int .i64 d.f, .int .i64 d.a, .int .i64 d.b] 33)) ∧ CBox (wr.alloc (.cells #[.int .i64 (1 + g), .int .i64 d.f, .int .i64 d.a, .int .i64 d.b] 33)) wr.heap.size ⟨1 + g, d.f, d.a, d.b⟩) := ⟨(Only.refl [] wr).alloc _, CBox.new wr ⟨1 + g, d.f, d.a, d.b⟩⟩
        clear oA bA hdok eg
        go_wp2_with fail
        refine (kM _).mono ?_
        rintro e u1 ⟨rfl, rfl⟩
        clear r0 r1 r2 r3 kM
        have hst := Lib.hid ((hS.out.1.only0 oB.out.1).stepK ⟨1 + g, d.f, d.a, d.b⟩ hdn.out _ _ hS.out.2 (by omega) (by omega))
        have hok2 := Lib.hid (hS.out.2.todo hdn.out (by omega))
        obtain ⟨y0, y1, y2, y3⟩ := oB.out.2.c
        simp only at y0 y1 y2 y3
        go_wp2_with fail
        refine hst.out.mono ?_
        rintro e u2 ⟨rfl, ⟨O2, P2, h2⟩, oK⟩
        have b2 := oB.out.2.only oK (hS.out.1.out (Nat.le_refl _))
        have hlk := Lib.hid (h2.looksK a2 w2)
        have B2 := Lib.hid b2
        clear h2 hst oK b2 y0 y1 y2 y3
        go_wp2_with fail
        refine hlk.out.mono ?_
        rintro e u3 ⟨rfl, k3, o3⟩
        have b3 := B2.out.only0 o3
        obtain ⟨y0, y1, y2, y3⟩ := b3.c
        simp only at y1
        have hlk2 := Lib.hid (k3.looks d.f hdn.out.2.1)
        clear k3 o3 hlk b3 y0 y2 y3 B2
        go_wp2_with fail
        refine hlk2.out.mono ?_
        rintro e u4 ⟨rfl, k4⟩
        have K4 := Lib.hid k4
        clear k4 hlk2
        go_wp2_with fail
        go_roundg (len1 + 1 - (p + 1))
        case measure => omega
        case rel => exact ⟨p + 1, _, O2, P2, by simp, by omega, by omega, by omega, K4.out, hok2.out.mono (by omega) (by omega)⟩
      · have er : Int.tmod (p : Int) 2 = 1 := by rw [Int.tmod_eq_emod_of_nonneg (by omega)]; omega
        have hdn := Lib.hid hdok
        have oB := Lib.hid (And.intro oA bA)
        clear oA bA hdok
        have hst := Lib.hid ((hS.out.1.only0 oB.out.1).stepK d hdn.out _ _ hS.out.2 (by omega) (by omega))
        have hok2 := Lib.hid (hS.out.2.todo hdn.out (by omega))
        obtain ⟨y0, y1, y2, y3⟩ := oB.out.2.c
        simp only at y0 y1 y2 y3
        go_wp2_with fail
        refine hst.out.mono ?_
        rintro e u2 ⟨rfl, ⟨O2, P2, h2⟩, oK⟩
        have b2 := oB.out.2.only oK (hS.out.1.out (Nat.le_refl _))
        have hlk := Lib.hid (h2.looksK a2 w2)
        have B2 := Lib.hid b2
        clear h2 hst oK b2 y0 y1 y2 y3
        go_wp2_with fail
        refine hlk.out.mono ?_
        rintro e u3 ⟨rfl, k3, o3⟩
        have b3 := B2.out.only0 o3
        obtain ⟨y0, y1, y2, y3⟩ := b3.c
        simp only at y1
        have hlk2 := Lib.hid (k3.looks d.f hdn.out.2.1)
        clear k3 o3 hlk b3 y0 y2 y3 B2
        go_wp2_with fail
        refine hlk2.out.mono ?_
        rintro e u4 ⟨rfl, k4⟩
        have K4 := Lib.hid k4
        clear k4 hlk2
        go_wp2_with fail
        go_roundg (len1 + 1 - (p + 1))
        case measure => omega
        case rel => exact ⟨p + 1, _, O2, P2, by simp, by omega, by omega, by omega, K4.out, hok2.out.mono (by omega) (by omega)⟩
    · have hcd : (decide ((p : Int) < (len1 : Int)) = false ∧ ¬ ((p : Int) < (len1 : Int))) ∨ ((p : Int) < (len1 : Int) ∧ decide ((p : Int) < 60) = false) := by
        have hce : ¬ p < len1 ∨ (p < len1 ∧ ¬ p < 60) := by omega
        rcases hce with h9 | h9
        · exact .inl ⟨decide_eq_false (by omega), by omega⟩
        · exact .inr ⟨by omega, decide_eq_false (by omega)⟩
      clear hc
      rcases hcd with ⟨h1, h2⟩ | ⟨h1, h2⟩
      all_goals
        go_wp2_with fail
        go_ret
        exact ⟨rfl, hS.out.1.only.below (Nat.le_refl _) (by simp)⟩

/-! ### The step from the walk to the statement -/
set_option maxRecDepth 100000 in
theorem lifted (os : Os) (started : os.Started) (H : Type) (enc : TypeId × Value → H) :
    ReturnsInHanded {} Tryz.checked os 4 .any (Rows.modelRawSpec.pre6 enc Tryz.prog Tryz.f4 Rows.modelRawRow.domain false) (Rows.modelRawSpec.post enc Tryz.prog Tryz.f4 false true false false) := by
  refine returnsInHanded_of_change (C := Tryz.checked) own started (by kernel_rfl) Tryz.func4
    (ChangeSpec.witness6 (enc := enc) (C := Tryz.checked) false ⟨#[], #[.agg #[.int .i64 0, .int .i64 0, .int .i64 0, .int .i64 0, .int .u64 0], .slice none 0 0, .int .i64 0], []⟩ 8 (by kernel_rfl) (by kernel_rfl) (by kernel_rfl) (by kernel_rfl)) ?_
  intro W base args ds gs before hval0 hW hcnd _
  have hval : ∀ (j : Nat) t v, Tryz.f4.params[j]? = some t → args[j]? = some v → Value.okWide Tryz.prog W .any base t v := hval0
  have hW' := hW
  obtain ⟨p, q, hA0, hV, rfl, hfz, hnd⟩ := hW
  have hA : DataW.TrodAll enc Tryz.prog W 0 (fun _ => true) true Tryz.f4.params.toList args.toList ds p := hA0
  rw [Tryz.params4] at hA hval
  obtain ⟨v0, vs0, d0, ds0, p0, q0, hargs, rfl, rfl, h0, r0⟩ := trodAll_cons hA
  obtain ⟨v1, vs1, d1, ds1, p1, q1, rfl, rfl, rfl, h1, r1⟩ := trodAll_cons r0
  obtain ⟨v2, vs2, d2, ds2, p2, q2, rfl, rfl, rfl, h2, r2⟩ := trodAll_cons r1
  obtain ⟨rfl, rfl, rfl⟩ := trodAll_nil r2
  obtain rfl : args = #[v0, v1, v2] := by cases args; simp_all
  obtain ⟨rfl, rfl⟩ := trodVars_none hV
  obtain ⟨sh0, sl0, wk0, wd0, un0, rfl, rfl, rfl, wsh0, wsl0, wwk0, wwd0, wun0⟩ := open_cf (hval 0 24 v0 rfl rfl) h0
  obtain ⟨a1, len1, cap1, rfl⟩ := okWide_slice Tryz.underlying25 (hval 1 25 v1 rfl rfl)
  have k1 := h1
  have lt1 : ∀ x ∈ p1, x.block < W.heap.size := by obtain ⟨m, hm⟩ := k1; exact DataW.trod_lt m _ _ _ hm
  obtain ⟨z1, w1⟩ : ∃ z, InCalls W a1 len1 z := by
    obtain ⟨fuel, hf⟩ := h1
    exact open_calls hf
  obtain ⟨a2, rfl, rfl, rfl, w2⟩ := open_int Tryz.underlying3 (hval 2 3 v2 rfl rfl) h2
  clear hA0 hval0
  refine (walk sh0 sl0 wk0 wd0 un0 a1 len1 cap1 z1 a2 W wsh0 wsl0 wwk0 wwd0 wun0 w1 w2).mono fun e W' ⟨he, bel⟩ => ?_
  subst he
  exact ⟨_, rfl, _, _, _, [], _, [], hW', trodAll_mk1 (shut_bool Tryz.underlying4 _), (trodAll_cons_mk (reads_cf wsh0 wsl0 wwk0 wwd0 wun0 _ _ _) (trodAll_cons_mk (Below.trod laidOut (by kernel_rfl) (of_decide_eq_true (by kernel_rfl)) k1 bel lt1) (trodAll_cons_mk (shut_int Tryz.underlying3 w2) trodAll_mk0))), rfl, bel.frame _, fun h => by cases h⟩

theorem over : Rows.modelRawRow.holds Tryz.pinned (OpenSpec.ofChange Rows.modelRawSpec) :=
  OpenClaim.holds_of_wide 4 Tryz.f4 rfl rfl rfl rfl rfl rfl rfl ⟨rfl, rfl, rfl, rfl, rfl⟩ rfl rfl rfl rfl rfl (by kernel_rfl) Tryz.func4 (by kernel_rfl)
    (of_decide_eq_true (by kernel_rfl)) (by unfold Func.isWrapper; first | (rw [if_pos (by decide +kernel)]; kernel_rfl) | (rw [if_neg (by decide +kernel)]; exact ⟨rfl, rfl⟩))
    (fun os started H enc _ => lifted os started H enc)

/-- The statement. -/
theorem proved : Rows.ModelRawSaid := over
#print axioms proved
end Go.Proofs.YtklolepmmabijaaGreat.modelRaw
