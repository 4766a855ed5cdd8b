/-
  weighbridgelaw01.TagAhead returns true for every input, and leaves its arguments as they were. No condition but that the arguments are items.
-/
import Derived.Test.YtamokhoiglklkaaTagE
import Derived.Deep.RegionHeld3
import Derived.Lib.SmallJoins
namespace Go.Proofs.Ytamokhoiglklkaa.tagAhead
open Go.ChangeShapes Go.WideShapes Go.ChangeAt Go.RowKit Go.Joins
set_option linter.unusedVariables false

/-- An item as the program holds it. -/
abbrev it (k i : Int) : Value := .agg #[.int .u64 k, .int .i64 i]

theorem self (k i : Int) : aheadB k i k i = false := by unfold aheadB; simp
theorem turn {k1 i1 k2 i2 : Int} (h : ¬ (k1 = k2 ∧ i1 = i2)) : aheadB k2 i2 k1 i1 = !aheadB k1 i1 k2 i2 := by
  unfold aheadB
  rw [← decide_not]
  apply decide_eq_decide.2
  omega
theorem thrice {k1 i1 k2 i2 k3 i3 : Int} (h1 : aheadB k1 i1 k2 i2 = true) (h2 : aheadB k2 i2 k3 i3 = true) : aheadB k1 i1 k3 i3 = true := by
  unfold aheadB at *
  simp only [decide_eq_true_eq] at *
  omega

/-- What the three boxes hold. -/
def Six (N : Nat) (k1 i1 k2 i2 k3 i3 : Int) (w : World) : Prop :=
  w.cell? ⟨N, 0, none⟩ = some (.int .u64 k1) ∧ w.cell? ⟨N, 1, none⟩ = some (.int .i64 i1) ∧ w.cell? ⟨N + 1, 0, none⟩ = some (.int .u64 k2) ∧
      w.cell? ⟨N + 1, 1, none⟩ = some (.int .i64 i2) ∧ w.cell? ⟨N + 1 + 1, 0, none⟩ = some (.int .u64 k3) ∧ w.cell? ⟨N + 1 + 1, 1, none⟩ = some (.int .i64 i3)
theorem Six.keep {N : Nat} {k1 i1 k2 i2 k3 i3 : Int} {w w' : World} (h : Six N k1 i1 k2 i2 k3 i3 w) (hk : Keeps w w') : Six N k1 i1 k2 i2 k3 i3 w' :=
  ⟨hk.2 _ _ h.1, hk.2 _ _ h.2.1, hk.2 _ _ h.2.2.1, hk.2 _ _ h.2.2.2.1, hk.2 _ _ h.2.2.2.2.1, hk.2 _ _ h.2.2.2.2.2⟩

set_option maxHeartbeats 1000000 in
theorem walk1 (k1 i1 k2 i2 k3 i3 : Int) (w : World) (hne : ¬ (k1 = k2 ∧ i1 = i2)) :
    Calls Try.prog 9 #[it k1 i1, it k2 i2, it k3 i3] w fun e w' => e = .returned (.bool true) ∧ Grown w w' := by
  have e1 := self k1 i1
  have e2 := turn hne
  have H := Lib.hid hne
  clear hne
  have hd : aheadB k1 i1 k2 i2 = false ∨ (aheadB k1 i1 k2 i2 = true ∧ aheadB k2 i2 k3 i3 = false) ∨ (aheadB k1 i1 k2 i2 = true ∧ aheadB k2 i2 k3 i3 = true ∧ aheadB k1 i1 k3 i3 = true) := by
    by_cases hx : aheadB k1 i1 k2 i2 = true
    · by_cases hy : aheadB k2 i2 k3 i3 = true
      · exact .inr (.inr ⟨hx, hy, thrice hx hy⟩)
      · exact .inr (.inl ⟨hx, by simpa using hy⟩)
    · exact .inl (by simpa using hx)
  rcases hd with hx | ⟨hx, hy⟩ | ⟨hx, hy, hz⟩
  all_goals rw [hx] at e2
  all_goals
    go_enter Try.func9, Try.ntmps9
    go_wp2_with fail
    have hk0 : Keeps w (((w.alloc (.cells #[.int .u64 k1, .int .i64 i1] 35)).alloc (.cells #[.int .u64 k2, .int .i64 i2] 35)).alloc (.cells #[.int .u64 k3, .int .i64 i3] 35)) :=
      ((Keeps.alloc _ _ _).trans (Keeps.alloc _ _ _)).trans (Keeps.alloc _ _ _)
    generalize hW : (((w.alloc (.cells #[.int .u64 k1, .int .i64 i1] 35)).alloc (.cells #[.int .u64 k2, .int .i64 i2] 35)).alloc (.cells #[.int .u64 k3, .int .i64 i3] 35)) = W at hk0 ⊢
    have c1 : W.cell? ⟨w.heap.size, 0, none⟩ = some (.int .u64 k1) := by subst hW; go_simp
    have c2 : W.cell? ⟨w.heap.size, 1, none⟩ = some (.int .i64 i1) := by subst hW; go_simp
    have c3 : W.cell? ⟨w.heap.size + 1, 0, none⟩ = some (.int .u64 k2) := by subst hW; go_simp
    have c4 : W.cell? ⟨w.heap.size + 1, 1, none⟩ = some (.int .i64 i2) := by subst hW; go_simp
    have c5 : W.cell? ⟨w.heap.size + 1 + 1, 0, none⟩ = some (.int .u64 k3) := by subst hW; go_simp
    have c6 : W.cell? ⟨w.heap.size + 1 + 1, 1, none⟩ = some (.int .i64 i3) := by subst hW; go_simp
    clear hW
    generalize w.heap.size = N at *
    go_region_held3 (fun w' => w'.cell? ⟨N, 0, none⟩ = some (.int .u64 k1) ∧ w'.cell? ⟨N, 1, none⟩ = some (.int .i64 i1) ∧ w'.cell? ⟨N + 1, 0, none⟩ = some (.int .u64 k2) ∧
      w'.cell? ⟨N + 1, 1, none⟩ = some (.int .i64 i2) ∧ w'.cell? ⟨N + 1 + 1, 0, none⟩ = some (.int .u64 k3) ∧ w'.cell? ⟨N + 1 + 1, 1, none⟩ = some (.int .i64 i3))
      (first | go_keep | (go_split_ands; refine ⟨?_, ?_, ?_, ?_, ?_, ?_⟩ <;> (apply hk.2; assumption)))
      (first | (go_at_call 19; refine (ahead_keeps _ _ _ _ _).mono ?_; rintro e w' ⟨rfl, hk⟩))
    rename_i u1 h1 u2 h2 hh
    have hw3 := (((hk0.trans (Keeps.drew W)).trans h1).trans h2).trans hk
    have hs3 : Six N k1 i1 k2 i2 k3 i3 w' := hh
    clear hk0 h1 h2 hk hh
    go_wp2_with fail
    refine (awake_keeps _).mono ?_
    rintro e w4 ⟨rfl, hk4⟩
    have hs4 := hs3.keep hk4
    have hw4 := hw3.trans hk4
    clear hs3 hw3 hk4 c1 c2 c3 c4 c5 c6
    obtain ⟨c1, c2, c3, c4, c5, c6⟩ := id hs4
    go_wp2_with fail
    refine (rahead_keeps _ _ _ _ _).mono ?_
    rintro e w5 ⟨rfl, hk5⟩
    have hs5 := hs4.keep hk5
    have hw5 := hw4.trans hk5
    clear hs4 hw4 hk5 c1 c2 c3 c4 c5 c6
    obtain ⟨c1, c2, c3, c4, c5, c6⟩ := id hs5
    go_wp2_with fail
    refine (ahead_keeps _ _ _ _ _).mono ?_
    rintro e w6 ⟨rfl, hk6⟩
    have hs6 := hs5.keep hk6
    have hw6 := hw5.trans hk6
    clear hs5 hw5 hk6 c1 c2 c3 c4 c5 c6
    obtain ⟨c1, c2, c3, c4, c5, c6⟩ := id hs6
    go_wp2_with (go_at_call 19; refine (ahead_keeps _ _ _ _ _).mono ?_; rintro e w7 ⟨rfl, hk7⟩)
    all_goals
      go_ret
      first
        | exact ⟨rfl, (hw6.trans hk7).1⟩
        | exact absurd ⟨(by assumption : k1 = k2), (by assumption : i1 = i2)⟩ H.out
        | (exfalso; clear c1 c2 c3 c4 c5 c6; have hq : k1 = k2 := by assumption
           subst hq; simp_all)

set_option maxHeartbeats 1000000 in
theorem walk0 (k1 i1 k3 i3 : Int) (w : World) :
    Calls Try.prog 9 #[it k1 i1, it k1 i1, it k3 i3] w fun e w' => e = .returned (.bool true) ∧ Grown w w' := by
  have e1 := self k1 i1
  all_goals
    go_enter Try.func9, Try.ntmps9
    go_wp2_with fail
    have hk0 : Keeps w (((w.alloc (.cells #[.int .u64 k1, .int .i64 i1] 35)).alloc (.cells #[.int .u64 k1, .int .i64 i1] 35)).alloc (.cells #[.int .u64 k3, .int .i64 i3] 35)) :=
      ((Keeps.alloc _ _ _).trans (Keeps.alloc _ _ _)).trans (Keeps.alloc _ _ _)
    generalize hW : (((w.alloc (.cells #[.int .u64 k1, .int .i64 i1] 35)).alloc (.cells #[.int .u64 k1, .int .i64 i1] 35)).alloc (.cells #[.int .u64 k3, .int .i64 i3] 35)) = W at hk0 ⊢
    have c1 : W.cell? ⟨w.heap.size, 0, none⟩ = some (.int .u64 k1) := by subst hW; go_simp
    have c2 : W.cell? ⟨w.heap.size, 1, none⟩ = some (.int .i64 i1) := by subst hW; go_simp
    have c3 : W.cell? ⟨w.heap.size + 1, 0, none⟩ = some (.int .u64 k1) := by subst hW; go_simp
    have c4 : W.cell? ⟨w.heap.size + 1, 1, none⟩ = some (.int .i64 i1) := by subst hW; go_simp
    have c5 : W.cell? ⟨w.heap.size + 1 + 1, 0, none⟩ = some (.int .u64 k3) := by subst hW; go_simp
    have c6 : W.cell? ⟨w.heap.size + 1 + 1, 1, none⟩ = some (.int .i64 i3) := by subst hW; go_simp
    clear hW
    generalize w.heap.size = N at *
    go_region_held3 (fun w' => w'.cell? ⟨N, 0, none⟩ = some (.int .u64 k1) ∧ w'.cell? ⟨N, 1, none⟩ = some (.int .i64 i1) ∧ w'.cell? ⟨N + 1, 0, none⟩ = some (.int .u64 k1) ∧
      w'.cell? ⟨N + 1, 1, none⟩ = some (.int .i64 i1) ∧ w'.cell? ⟨N + 1 + 1, 0, none⟩ = some (.int .u64 k3) ∧ w'.cell? ⟨N + 1 + 1, 1, none⟩ = some (.int .i64 i3))
      (first | go_keep | (go_split_ands; refine ⟨?_, ?_, ?_, ?_, ?_, ?_⟩ <;> (apply hk.2; assumption)))
      (first | (go_at_call 19; refine (ahead_keeps _ _ _ _ _).mono ?_; rintro e w' ⟨rfl, hk⟩))
    rename_i u1 h1 u2 h2 hh
    have hw3 := (((hk0.trans (Keeps.drew W)).trans h1).trans h2).trans hk
    have hs3 : Six N k1 i1 k1 i1 k3 i3 w' := hh
    clear hk0 h1 h2 hk hh
    go_wp2_with fail
    refine (awake_keeps _).mono ?_
    rintro e w4 ⟨rfl, hk4⟩
    have hs4 := hs3.keep hk4
    have hw4 := hw3.trans hk4
    clear hs3 hw3 hk4 c1 c2 c3 c4 c5 c6
    obtain ⟨c1, c2, c3, c4, c5, c6⟩ := id hs4
    go_wp2_with fail
    refine (rahead_keeps _ _ _ _ _).mono ?_
    rintro e w5 ⟨rfl, hk5⟩
    have hs5 := hs4.keep hk5
    have hw5 := hw4.trans hk5
    clear hs4 hw4 hk5 c1 c2 c3 c4 c5 c6
    obtain ⟨c1, c2, c3, c4, c5, c6⟩ := id hs5
    go_wp2_with fail
    refine (ahead_keeps _ _ _ _ _).mono ?_
    rintro e w6 ⟨rfl, hk6⟩
    have hs6 := hs5.keep hk6
    have hw6 := hw5.trans hk6
    clear hs5 hw5 hk6 c1 c2 c3 c4 c5 c6
    obtain ⟨c1, c2, c3, c4, c5, c6⟩ := id hs6
    go_wp2_with fail
    go_ret
    exact ⟨by simp, hw6.1⟩

theorem walk (k1 i1 k2 i2 k3 i3 : Int) (w : World) :
    Calls Try.prog 9 #[it k1 i1, it k2 i2, it k3 i3] w fun e w' => e = .returned (.bool true) ∧ Grown w w' := by
  by_cases h : k1 = k2 ∧ i1 = i2
  · obtain ⟨rfl, rfl⟩ := h
    exact walk0 k1 i1 k3 i3 w
  · exact walk1 k1 i1 k2 i2 k3 i3 w h

theorem own : ownKnob Try.prog.godebug = none := by kernel_rfl
theorem cellsItem : Try.prog.cellsOf 35 = 2 := by kernel_rfl

set_option maxRecDepth 100000 in
theorem lifted (os : Os) (started : os.Started) (H : Type) (enc : TypeId × Value → H) :
    ReturnsInHanded {} Try.checked os 9 .any (Rows.tagAheadSpec.pre6 enc Try.prog Try.f9 Rows.tagAheadRow.domain false) (Rows.tagAheadSpec.post enc Try.prog Try.f9 false true false false) := by
  refine returnsInHanded_of_change (C := Try.checked) own started (by kernel_rfl) Try.func9
    (ChangeSpec.witness6 (enc := enc) (C := Try.checked) false ⟨#[], #[.agg #[.int .u64 0, .int .i64 0], .agg #[.int .u64 0, .int .i64 0], .agg #[.int .u64 0, .int .i64 0]], []⟩ 8 (by kernel_rfl) (by kernel_rfl) (by kernel_rfl) (by kernel_rfl)) ?_
  intro W base args ds gs before hval0 hW hcnd _
  have hval : ∀ (j : Nat) t v, Try.f9.params[j]? = some t → args[j]? = some v → Value.okWide Try.prog W .any base t v := hval0
  have hW' := hW
  obtain ⟨p, q, hA0, hV, rfl, hfz, hnd⟩ := hW
  have hA : DataW.TrodAll enc Try.prog W 0 (fun _ => true) true Try.f9.params.toList args.toList ds p := hA0
  rw [Try.params9] at hA hval
  obtain ⟨v0, vs0, d0, ds0, p0, q0, hargs, rfl, rfl, h0, r0⟩ := trodAll_cons hA
  obtain ⟨v1, vs1, d1, ds1, p1, q1, rfl, rfl, rfl, h1, r1⟩ := trodAll_cons r0
  obtain ⟨v2, vs2, d2, ds2, p2, q2, rfl, rfl, rfl, h2, r2⟩ := trodAll_cons r1
  obtain ⟨rfl, rfl, rfl⟩ := trodAll_nil r2
  obtain rfl : args = #[v0, v1, v2] := by cases args; simp_all
  obtain ⟨rfl, rfl⟩ := trodVars_none hV
  obtain ⟨c0, c1, y0, y1, m, rfl, rfl, rfl, hy0, hy1⟩ := open_agg2 Try.underlying35 (by kernel_rfl) cellsItem (hval 0 35 v0 rfl rfl) h0
  obtain ⟨k1, e0, rfl, wk1⟩ := DataW.trod_int Try.underlying22 hy0
  obtain ⟨i1, e1, rfl, wi1⟩ := DataW.trod_int Try.underlying3 hy1
  simp at e0 e1
  subst e0 e1
  obtain ⟨c0, c1, y0, y1, m, rfl, rfl, rfl, hy0, hy1⟩ := open_agg2 Try.underlying35 (by kernel_rfl) cellsItem (hval 1 35 v1 rfl rfl) h1
  obtain ⟨k2, e0, rfl, wk2⟩ := DataW.trod_int Try.underlying22 hy0
  obtain ⟨i2, e1, rfl, wi2⟩ := DataW.trod_int Try.underlying3 hy1
  simp at e0 e1
  subst e0 e1
  obtain ⟨c0, c1, y0, y1, m, rfl, rfl, rfl, hy0, hy1⟩ := open_agg2 Try.underlying35 (by kernel_rfl) cellsItem (hval 2 35 v2 rfl rfl) h2
  obtain ⟨k3, e0, rfl, wk3⟩ := DataW.trod_int Try.underlying22 hy0
  obtain ⟨i3, e1, rfl, wi3⟩ := DataW.trod_int Try.underlying3 hy1
  simp at e0 e1
  subst e0 e1
  clear hA0 hval0
  simp only [List.append_nil] at hW'
  have reads : ∀ (k i : Int) (hk : (Lit.int .u64 k).wf = true) (hi : (Lit.int .i64 i).wf = true) (W' : World) (sp : Nat → Bool), DataW.Trod enc Try.prog W' 0 sp true 35 (.agg #[.int .u64 k, .int .i64 i]) (.agg [.lit (.int .u64 k), .lit (.int .i64 i)]) [] := fun k i hk hi W' sp =>
    shut_agg2 (y0 := (.lit (.int .u64 k), [])) (y1 := (.lit (.int .i64 i), [])) Try.underlying35 (by kernel_rfl) cellsItem ⟨1, by simp [DataW.trod, Try.underlying22, hk]⟩ ⟨1, by simp [DataW.trod, Try.underlying3, hi]⟩
  refine (walk k1 i1 k2 i2 k3 i3 W).mono fun e W' ⟨he, hg⟩ => ?_
  subst he
  exact ⟨_, rfl, post_of_same (pa := []) (pv := []) hW' (fun _ _ _ => (trodAll_cons_mk (shut_bool Try.underlying4 _) trodAll_mk0)) (fun sp _ => (trodAll_cons_mk (reads k1 i1 wk1 wi1 _ sp) (trodAll_cons_mk (reads k2 i2 wk2 wi2 _ sp) (trodAll_cons_mk (reads k3 i3 wk3 wi3 _ sp) trodAll_mk0)))) (fun _ _ => rfl) rfl
    (hg.frame _) hg.2.1 (ok_one (by kernel_rfl) rfl (okWide_bool_mk Try.underlying4 _))⟩

theorem over : Rows.tagAheadRow.holds Try.pinned (OpenSpec.ofChange Rows.tagAheadSpec) :=
  OpenClaim.holds_of_wide 9 Try.f9 rfl rfl rfl rfl rfl rfl rfl ⟨rfl, rfl, rfl, rfl, rfl⟩ rfl rfl rfl rfl rfl (by kernel_rfl) Try.func9 (by kernel_rfl)
    (of_decide_eq_true (by kernel_rfl)) (by unfold Func.isWrapper; first | (rw [if_pos (by decide +kernel)]; kernel_rfl) | (rw [if_neg (by decide +kernel)]; exact ⟨rfl, rfl⟩))
    (fun os started H enc _ => lifted os started H enc)

/-- The statement. -/
theorem proved : Rows.TagAheadSaid :=
  over
#print axioms proved
end Go.Proofs.Ytamokhoiglklkaa.tagAhead
