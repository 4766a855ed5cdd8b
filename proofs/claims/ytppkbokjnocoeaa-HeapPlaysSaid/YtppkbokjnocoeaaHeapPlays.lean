/-
  weighbridgelaw04.HeapPlays returns true for every input, and leaves its arguments as they were. No condition but that the arguments are values of their types.
-/
import Derived.Test.YtppkbokjnocoeaaRows
import Derived.Test.YtppkbokjnocoeaaHeapO
import Derived.WalkKit
import Derived.ProofKit
import Derived.OpenShut
import Derived.ChangeOld
import Derived.Below
namespace Go.Proofs.Ytppkbokjnocoeaa.heapPlays
open Go.ChangeShapes Go.WideShapes Go.ChangeAt Go.RowKit
set_option linter.unusedVariables false
set_option linter.unusedSimpArgs false

theorem new_items (w : World) : ItemsOf (w.alloc (.cells #[.slice none 0 0] 28)) w.heap.size [w.heap.size] [] :=
  ⟨.slice none 0 0, rfl, ⟨heap_alloc_new w _, RowIs.nil _⟩, by simp⟩

set_option maxRecDepth 100000 in
set_option maxHeartbeats 8000000 in
theorem walk (a0 : Option Addr) (len0 cap0 : Nat) (z0 : Nat → Dd) (w : World) (w0 : InDeeds w a0 len0 z0) :
    Calls Try.prog 3 #[.slice a0 len0 cap0] w fun e w' => e = .returned (.bool true) ∧ Below w.heap.size w w' := by
  have W0 := Lib.hid w0
  clear w0
  go_enter Try.func3, Try.ntmps3
  go_wp2_with fail
  refine (hNew _).mono ?_
  rintro e w1 ⟨hb, S1, rfl, h1, f1, o1⟩
  have hx1 := new_items w1
  have oX : Only [] w1 (w1.alloc (.cells #[.slice none 0 0] 28)) := (Only.refl [] w1).alloc _
  have hS1 : ∀ b ∈ S1, b ∉ [w1.heap.size] := fun b hb e => by have := h1.lt b hb; simp only [List.mem_singleton] at e; omega
  have m1 : Hid (Moved w [] (w1.alloc (.cells #[.slice none 0 0] 28)) (S1 ++ [w1.heap.size])) := ⟨o1.trans' oX, fun b hb => .inr (by
    rcases List.mem_append.1 hb with h9 | h9
    · exact f1 b h9
    · simp only [List.mem_singleton] at h9; rw [h9]; exact o1.size)⟩
  have H1 := Lib.hid (And.intro (h1.only0 oX) (And.intro hx1 hS1))
  clear h1 f1 o1 oX hx1 hS1
  go_wp2_with fail
  generalize hW1 : w1.alloc (.cells #[.slice none 0 0] 28) = W1 at *
  generalize w1.heap.size = xb at *
  clear hW1
  refine (hAwake _).mono ?_
  rintro e w2 ⟨rfl, o2⟩
  have m2 : Hid (Moved w [] w2 (S1 ++ [xb])) := m1.out.still o2
  have H2 := Lib.hid (And.intro (H1.out.1.only0 o2) (And.intro (H1.out.2.1.only0 o2) H1.out.2.2))
  clear m1 H1 o2
  go_wp2_with fail
  go_loopg [5] (len0 + 1) (fun gk si wr => ∃ (p : Nat) (S T : List Nat) (l : List It), si = .int .i64 (p : Int) ∧ p ≤ len0 ∧ p ≤ 80 ∧ len0 + 1 ≤ gk + p ∧ l.length ≤ p ∧ Hid (HeapOf wr hb S l ∧ ItemsOf wr xb T l ∧ ∀ b ∈ S, b ∉ T) ∧ Hid (Moved w [] wr (S ++ T)))
  case atStart => exact ⟨0, S1, [xb], [], rfl, by omega, by omega, by omega, by simp, H2, m2⟩
  case round =>
    obtain ⟨p, S, T, l, rfl, hp, hp80, hg, hlp, hH, hM⟩ := hrel
    clear H2 m2
    by_cases hc : p < len0 ∧ p < 80
    · have c1 : (p : Int) < (len0 : Int) := by omega
      have c2 : (p : Int) < 80 := by omega
      obtain ⟨hdok, ad, b, o, s, rfl, hadd, hbw, q0, q1, q2⟩ := W0.out p hc.1
      obtain ⟨d, ed⟩ : ∃ d, z0 p = d := ⟨_, rfl⟩
      rw [ed] at q0 q1 q2 hdok
      have r0 := hM.out.1.stay q0
      have r1 := hM.out.1.stay q1
      have r2 := hM.out.1.stay q2
      clear q0 q1 q2 ed hbw hc
      go_wp2_with fail
      go_region_with (first | (go_at_call 10; refine (hStep _ hb xb S T l l (by exact hH.out.1.only0 ((Only.refl [] wr).drew)) (by exact hH.out.2.1.only0 ((Only.refl [] wr).drew)) hH.out.1.ids hH.out.2.2 (by omega) (by omega) d hdok).mono ?_; rintro e w2 ⟨b2, rfl, hb1, S2, T2, l2, m2, hH2, hX2, hd2, hlm, hlen, hmv⟩; obtain rfl := hb1 rfl; obtain rfl := hlm rfl; obtain ⟨vx, eT, hxi, hxl⟩ := id hX2; obtain ⟨Ax, capx, ex⟩ := hxi.row.form; have cx := hxi.c0; rw [ex] at cx; have HS := Lib.hid (And.intro hH2 (And.intro hX2 hd2)); have HV := Lib.hid ((Moved.of_only ((Only.refl [] wr).drew)).trans hmv); have HL := Lib.hid hlen; clear eT hxi hxl ex hH2 hX2 hd2 hmv hb1 hlm hlen) | (go_at_call 11; refine (hLen _ hb S2 l2 (by exact HS.out.1)).mono ?_; rintro e w3 ⟨rfl, rfl⟩))
      all_goals
        go_wp2_with fail
        go_roundg (len0 + 1 - (p + 1))
        case measure => omega
        case rel =>
          have h9 := HL.out
          exact ⟨p + 1, S2, T2, l2, by simp, by omega, by omega, by omega, by omega, HS, hM.out.trans HV.out⟩
    · obtain ⟨vx, eT, hxi, hxl⟩ := hH.out.2.1
      obtain ⟨Ax, capx, ex⟩ := hxi.row.form
      have cx := hxi.c0
      rw [ex] at cx
      have HX := Lib.hid hxi.row
      rw [ex] at HX
      clear eT hxi ex
      have hcd : (decide ((p : Int) < (len0 : Int)) = false ∧ ¬ ((p : Int) < (len0 : Int))) ∨ ((p : Int) < (len0 : Int) ∧ decide ((p : Int) < 80) = false) := by
        have hce : ¬ p < len0 ∨ (p < len0 ∧ ¬ p < 80) := by omega
        rcases hce with h9 | h9
        · exact .inl ⟨decide_eq_false (by omega), by omega⟩
        · exact .inr ⟨by omega, decide_eq_false (by omega)⟩
      clear hc hp
      rcases hcd with ⟨c1, c2⟩ | ⟨c1, c2⟩
      all_goals
        go_wp2_with fail
        go_region_with (first | (go_at_call 13; refine (hAll _ hb S l (by exact hH.out.1.only0 ((Only.refl [] wr).drew))).mono ?_; rintro e w2 ⟨A2, cap2, rfl, r2, v2, o2⟩; have cx2 := o2.stay (p := ⟨xb, 0, none⟩) (v := .slice Ax l.length capx) (by go_simp); have RX := Lib.hid (HX.out.keep (w' := w2) (fun g hg => o2.block g (HX.out.lt hg) (by simp))); have R2 := Lib.hid r2; have O2 := Lib.hid o2; clear r2 v2 o2) | (go_at_call 12; refine (hPlain _ _ _ l l (by exact R2.out) (by exact RX.out) (by omega) (by omega)).mono ?_; rintro e w3 ⟨rfl, o3⟩))
        all_goals
          go_wp2_with fail
          go_ret
          have hd9 : decide (l = l) = true := by simp
          exact ⟨by first | (rw [hd9]; rfl) | simp [Act.put], ((hM.out.1.drew.trans' O2.out).trans' o3).below (Nat.le_refl _) (by simp)⟩

/-! ### The step from the walk to the statement -/
set_option maxRecDepth 100000 in
theorem lifted (os : Os) (started : os.Started) (H : Type) (enc : TypeId × Value → H) :
    ReturnsInHanded {} Try.checked os 3 .any (Rows.heapPlaysSpec.pre6 enc Try.prog Try.f3 Rows.heapPlaysRow.domain false) (Rows.heapPlaysSpec.post enc Try.prog Try.f3 false true false false) := by
  refine returnsInHanded_of_change (C := Try.checked) own started (by kernel_rfl) Try.func3
    (ChangeSpec.witness6 (enc := enc) (C := Try.checked) false ⟨#[], #[.slice none 0 0], []⟩ 8 (by kernel_rfl) (by kernel_rfl) (by kernel_rfl) (by kernel_rfl)) ?_
  intro W base args ds gs before hval0 hW hcnd _
  have hval : ∀ (j : Nat) t v, Try.f3.params[j]? = some t → args[j]? = some v → Value.okWide Try.prog W .any base t v := hval0
  have hW' := hW
  obtain ⟨p, q, hA0, hV, rfl, hfz, hnd⟩ := hW
  have hA : DataW.TrodAll enc Try.prog W 0 (fun _ => true) true Try.f3.params.toList args.toList ds p := hA0
  rw [Try.params3] at hA hval
  obtain ⟨v0, vs0, d0, ds0, p0, q0, hargs, rfl, rfl, h0, r0⟩ := trodAll_cons hA
  obtain ⟨rfl, rfl, rfl⟩ := trodAll_nil r0
  obtain rfl : args = #[v0] := by cases args; simp_all
  obtain ⟨rfl, rfl⟩ := trodVars_none hV
  obtain ⟨a0, len0, cap0, rfl⟩ := okWide_slice Try.underlying22 (hval 0 22 v0 rfl rfl)
  have k0 := h0
  have lt0 : ∀ x ∈ p0, x.block < W.heap.size := by obtain ⟨m, hm⟩ := k0; exact DataW.trod_lt m _ _ _ hm
  obtain ⟨z0, w0⟩ : ∃ z, InDeeds W a0 len0 z := by
    obtain ⟨fuel, hf⟩ := h0
    exact open_deeds hf
  clear hA0 hval0
  refine (walk a0 len0 cap0 z0 W w0).mono fun e W' ⟨he, bel⟩ => ?_
  subst he
  exact ⟨_, rfl, _, _, _, [], _, [], hW', trodAll_mk1 (shut_bool Try.underlying4 _), (trodAll_cons_mk (Below.trod laidOut (by kernel_rfl) (of_decide_eq_true (by kernel_rfl)) k0 bel lt0) trodAll_mk0), rfl, bel.frame _, fun h => by cases h⟩

theorem over : Rows.heapPlaysRow.holds Try.pinned (OpenSpec.ofChange Rows.heapPlaysSpec) :=
  OpenClaim.holds_of_wide 3 Try.f3 rfl rfl rfl rfl rfl rfl rfl ⟨rfl, rfl, rfl, rfl, rfl⟩ rfl rfl rfl rfl rfl (by kernel_rfl) Try.func3 (by kernel_rfl)
    (of_decide_eq_true (by kernel_rfl)) (by unfold Func.isWrapper; first | (rw [if_pos (by decide +kernel)]; kernel_rfl) | (rw [if_neg (by decide +kernel)]; exact ⟨rfl, rfl⟩))
    (fun os started H enc _ => lifted os started H enc)

/-- The statement. -/
theorem proved : Rows.HeapPlaysSaid := over
#print axioms proved
end Go.Proofs.Ytppkbokjnocoeaa.heapPlays
