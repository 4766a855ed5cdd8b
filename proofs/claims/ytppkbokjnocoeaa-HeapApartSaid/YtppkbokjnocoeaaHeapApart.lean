/-
  weighbridgelaw04.HeapApart returns true for every input, and leaves its arguments as they were. No condition but that the arguments are values of their types.
-/
import Derived.Test.YtppkbokjnocoeaaRows
import Derived.Test.YtppkbokjnocoeaaHeapO
import Derived.WalkKit
import Derived.ProofKit
import Derived.OpenShut
import Derived.ChangeOld
import Derived.Below
namespace Go.Proofs.Ytppkbokjnocoeaa.heapApart
open Go.ChangeShapes Go.WideShapes Go.ChangeAt Go.RowKit
set_option linter.unusedVariables false
set_option linter.unusedSimpArgs false

theorem new_items (w : World) : ItemsOf (w.alloc (.cells #[.slice none 0 0] 28)) w.heap.size [w.heap.size] [] :=
  ⟨.slice none 0 0, rfl, ⟨heap_alloc_new w _, RowIs.nil _⟩, by simp⟩
/-- A heap and the document's list that hold the same; another heap beside them. -/
def Three (w : World) (hb xb gb : Nat) (S T G : List Nat) (l m : List It) : Prop :=
  HeapOf w hb S l ∧ ItemsOf w xb T l ∧ HeapOf w gb G m ∧ (∀ b ∈ S, b ∉ T) ∧ (∀ b ∈ S, b ∉ G) ∧ ∀ b ∈ T, b ∉ G
theorem Three.only0 {w w' : World} {hb xb gb : Nat} {S T G : List Nat} {l m : List It} (h : Three w hb xb gb S T G l m) (o : Only [] w w') : Three w' hb xb gb S T G l m :=
  ⟨h.1.only0 o, h.2.1.only0 o, h.2.2.1.only0 o, h.2.2.2⟩
theorem Three.step1 {w w' : World} {hb xb gb : Nat} {S T G : List Nat} {l m : List It} {e : Ending} (h : Three w hb xb gb S T G l m) (ha : After w hb xb S T l l e w') :
    e = .returned (.bool true) ∧ ∃ S' T' l', Three w' hb xb gb S' T' G l' m ∧ l'.length ≤ l.length + 1 ∧ Moved w (S ++ T ++ G) w' (S' ++ T' ++ G) := by
  obtain ⟨b, rfl, hb1, S', T', l', m', h1, h2, h3, h4, h5, h6⟩ := ha
  obtain rfl := hb1 rfl
  obtain rfl := h4 rfl
  have hG : ∀ b ∈ S ++ T, b ∉ G := fun b hb => by
    rcases List.mem_append.1 hb with h9 | h9
    · exact h.2.2.2.2.1 b h9
    · exact h.2.2.2.2.2 b h9
  have hap := h6.apart hG h.2.2.1.lt
  refine ⟨rfl, S', T', l', ⟨h1, h2, h.2.2.1.only h6.1 (fun b hb hb' => hG b hb' hb), h3, fun b hb => hap b (List.mem_append.2 (.inl hb)), fun b hb => hap b (List.mem_append.2 (.inr hb))⟩, h5, ?_⟩
  refine ⟨h6.1.mono (fun k hk => .inl (List.mem_append.2 (.inl hk))), fun b hb => ?_⟩
  rcases List.mem_append.1 hb with h9 | h9
  · rcases h6.2 b h9 with h8 | h8
    · exact .inl (List.mem_append.2 (.inl h8))
    · exact .inr h8
  · exact .inl (List.mem_append.2 (.inr h9))
theorem Three.step2 {w w' : World} {hb xb gb : Nat} {S T G : List Nat} {l m : List It} {e : Ending} (h : Three w hb xb gb S T G l m)
    (ha : After (w.alloc (.cells #[.slice none 0 0] 28)) gb w.heap.size G [w.heap.size] m [] e w') :
    ∃ b, e = .returned (.bool b) ∧ ∃ G' m', Three w' hb xb gb S T G' l m' ∧ m'.length ≤ m.length + 1 ∧ Moved w (S ++ T ++ G) w' (S ++ T ++ G') := by
  obtain ⟨b, rfl, hb1, G', T', m', n', h1, h2, h3, h4, h5, h6⟩ := ha
  have oX : Only [] w (w.alloc (.cells #[.slice none 0 0] 28)) := (Only.refl [] w).alloc _
  have hw := h.only0 oX
  have hlt : ∀ b ∈ S ++ T, b < w.heap.size := fun b hb => by
    rcases List.mem_append.1 hb with h9 | h9
    · exact h.1.lt b h9
    · exact h.2.1.lt b h9
  have hG : ∀ b ∈ G ++ [w.heap.size], b ∉ S ++ T := fun b hb hb' => by
    rcases List.mem_append.1 hb with h9 | h9
    · rcases List.mem_append.1 hb' with h8 | h8
      · exact h.2.2.2.2.1 b h8 h9
      · exact h.2.2.2.2.2 b h8 h9
    · simp only [List.mem_singleton] at h9
      have := hlt b hb'
      omega
  have hap := h6.apart hG (fun b hb => Nat.lt_of_lt_of_le (hlt b hb) oX.size)
  have m1 : Moved w (G ++ [w.heap.size]) w' (G' ++ T') := (Moved.of_only oX).trans h6
  refine ⟨b, rfl, G', m', ⟨hw.1.only h6.1 (fun b hb hb' => hG b hb' (List.mem_append.2 (.inl hb))), hw.2.1.only h6.1 (fun b hb hb' => hG b hb' (List.mem_append.2 (.inr hb))), h1, h.2.2.2.1,
    fun b hb hb' => hap b (List.mem_append.2 (.inl hb')) (List.mem_append.2 (.inl hb)), fun b hb hb' => hap b (List.mem_append.2 (.inl hb')) (List.mem_append.2 (.inr hb))⟩, h5, ?_⟩
  refine ⟨m1.1.mono (fun k hk => ?_), fun b hb => ?_⟩
  · rcases List.mem_append.1 hk with h9 | h9
    · exact .inl (List.mem_append.2 (.inr h9))
    · simp only [List.mem_singleton] at h9; exact .inr (by omega)
  · rcases List.mem_append.1 hb with h9 | h9
    · exact .inl (List.mem_append.2 (.inl h9))
    · rcases m1.2 b (List.mem_append.2 (.inl h9)) with h8 | h8
      · rcases List.mem_append.1 h8 with h7 | h7
        · exact .inl (List.mem_append.2 (.inr h7))
        · simp only [List.mem_singleton] at h7; exact .inr (by omega)
      · exact .inr h8
/-- What All told, written over: nothing that was there has turned. -/
theorem spoilt {w w1 w2 : World} {v : Value} (o1 : Only [] w w1) (hv : ∀ k, v.ownBlock = some k → w.heap.size ≤ k) (o2 : Only v.ownBlock.toList w1 w2) : Only [] w w2 :=
  o1.trans o2 (fun k hk => .inr (hv k (by simpa using hk)))

set_option maxRecDepth 100000 in
set_option maxHeartbeats 8000000 in
theorem walk (a0 : Option Addr) (len0 cap0 : Nat) (z0 : Nat → Dd) (a1 : Option Addr) (len1 cap1 : Nat) (z1 : Nat → Dd) (w : World) (w0 : InDeeds w a0 len0 z0) (w1 : InDeeds w a1 len1 z1) :
    Calls Try.prog 7 #[.slice a0 len0 cap0, .slice a1 len1 cap1] w fun e w' => e = .returned (.bool true) ∧ Below w.heap.size w w' := by
  have W0 := Lib.hid w0
  have W1 := Lib.hid w1
  clear w0 w1
  go_enter Try.func7, Try.ntmps7
  go_wp2_with fail
  refine (hNew _).mono ?_
  rintro e u1 ⟨hb, S1, rfl, h1, f1, o1⟩
  have A1 := Lib.hid (And.intro h1 (And.intro f1 o1))
  clear h1 f1 o1
  go_wp2_with fail
  refine (hNew _).mono ?_
  rintro e u2 ⟨gb, G1, rfl, h2, f2, o2⟩
  have oX : Only [] u2 (u2.alloc (.cells #[.slice none 0 0] 28)) := (Only.refl [] u2).alloc _
  have TT : Hid (Three (u2.alloc (.cells #[.slice none 0 0] 28)) hb u2.heap.size gb S1 [u2.heap.size] G1 [] []) :=
    ⟨(A1.out.1.only0 o2).only0 oX, new_items u2, h2.only0 oX, fun b hb e => by have := (A1.out.1.only0 o2).lt b hb; simp only [List.mem_singleton] at e; omega,
      fun b hb e => by have := A1.out.1.lt b hb; have := f2 b e; omega, fun b hb e => by have := h2.lt b e; simp only [List.mem_singleton] at hb; omega⟩
  have MM : Hid (Moved w [] (u2.alloc (.cells #[.slice none 0 0] 28)) (S1 ++ [u2.heap.size] ++ G1)) :=
    ⟨(A1.out.2.2.trans' o2).trans' oX, fun b hb => .inr (by
      have h9 := A1.out.2.2.size
      have h8 := o2.size
      simp only [List.mem_append, List.mem_singleton] at hb
      rcases hb with (h7 | h7) | h7
      · exact A1.out.2.1 b h7
      · omega
      · have := f2 b h7; omega)⟩
  clear h2 f2 o2 oX A1
  go_wp2_with fail
  generalize hU : u2.alloc (.cells #[.slice none 0 0] 28) = U at *
  generalize u2.heap.size = xb at *
  clear hU
  refine (hAwake _).mono ?_
  rintro e u3 ⟨rfl, o3⟩
  have M3 := Lib.hid (MM.out.still o3)
  have T3 := Lib.hid (TT.out.only0 o3)
  clear MM TT o3
  go_wp2_with fail
  go_loopg [8] (len0 + 1) (fun gk si wr => ∃ (p : Nat) (S T G : List Nat) (l m : List It), si = .int .i64 (p : Int) ∧ p ≤ len0 ∧ p ≤ 40 ∧ len0 + 1 ≤ gk + p ∧ l.length ≤ p ∧ m.length ≤ p ∧ Hid (Three wr hb xb gb S T G l m) ∧ Hid (Moved w [] wr (S ++ T ++ G)))
  case atStart => exact ⟨0, S1, [xb], G1, [], [], rfl, by omega, by omega, by omega, by simp, by simp, T3, M3⟩
  case round =>
    obtain ⟨p, S, T, G, l, m, rfl, hp, hp40, hg, hlp, hmp, hH, hM⟩ := hrel
    clear T3 M3
    by_cases hc : p < len0 ∧ p < 40
    · have c1 : (p : Int) < (len0 : Int) := by omega
      have c2 : (p : Int) < 40 := by omega
      obtain ⟨hdok, ad, b, o, s, rfl, hadd, hbw, q0, q1, q2⟩ := W0.out p hc.1
      obtain ⟨d, ed⟩ : ∃ d, z0 p = d := ⟨_, rfl⟩
      rw [ed] at q0 q1 q2 hdok
      have r0 := hM.out.1.stay q0
      have r1 := hM.out.1.stay q1
      have r2 := hM.out.1.stay q2
      have s1 := hStep wr hb xb S T l l hH.out.1 hH.out.2.1 hH.out.1.ids hH.out.2.2.2.1 (by omega) (by omega) d hdok
      clear q0 q1 q2 ed hbw hc hdok
      go_wp2_with fail
      refine s1.mono ?_
      clear s1
      intro e w2 hA
      obtain ⟨rfl, S2, T2, l2, hH2, hl2, hm2⟩ := hH.out.step1 hA
      have H2 := Lib.hid hH2
      have M2 := Lib.hid (hM.out.trans hm2)
      have hl2' : l2.length ≤ p + 1 := by omega
      clear hA hH2 hm2 hH hM hl2
      by_cases hc1 : p < len1
      · have c3 : (p : Int) < (len1 : Int) := by omega
        obtain ⟨hdok, ad1, b1, o1, s1, rfl, hadd1, hbw, q0, q1, q2⟩ := W1.out p hc1
        obtain ⟨d1, ed⟩ : ∃ d, z1 p = d := ⟨_, rfl⟩
        rw [ed] at q0 q1 q2 hdok
        have oX : Only [] w2 (w2.alloc (.cells #[.slice none 0 0] 28)) := (Only.refl [] w2).alloc _
        have e0 := (M2.out.1.trans' oX).stay q0
        have e1 := (M2.out.1.trans' oX).stay q1
        have e2 := (M2.out.1.trans' oX).stay q2
        have t0 := M2.out.1.stay q0
        have t1 := M2.out.1.stay q1
        have t2 := M2.out.1.stay q2
        have hb1 : b1 < w2.heap.size := Nat.lt_of_lt_of_le hbw M2.out.1.size
        have s2 := hStep _ gb w2.heap.size G [w2.heap.size] m [] (H2.out.2.2.1.only0 oX) (new_items w2) (by simp [Ids]) (fun b hb e => by have := H2.out.2.2.1.lt b hb; simp only [List.mem_singleton] at e; omega) (by omega) (by simp) d1 hdok
        clear q0 q1 q2 ed hbw hdok oX
        go_wp2_with fail
        refine s2.mono ?_
        clear s2
        intro e w3 hA
        obtain ⟨bb, rfl, G3, m3, hH3, hl3, hm3⟩ := H2.out.step2 hA
        have H3 := Lib.hid hH3
        have M3 := Lib.hid (M2.out.trans hm3)
        have hm3' : m3.length ≤ p + 1 := by omega
        have s3 := hAll w3 gb G3 m3 hH3.2.2.1
        clear hA hH3 hm3 H2 M2 hl3
        go_wp2_with fail
        refine s3.mono ?_
        clear s3
        rintro e w4 ⟨A4, cap4, rfl, r4, v4, o4⟩
        have s4 := hSpoil w4 _ m3 r4 (by omega)
        have O4 := Lib.hid (And.intro v4 o4)
        clear r4 v4 o4
        go_wp2_with fail
        refine s4.mono ?_
        clear s4
        rintro e w5 ⟨rfl, o5⟩
        have o35 := spoilt O4.out.2 O4.out.1 o5
        have H5 := Lib.hid (H3.out.only0 o35)
        have M5 := Lib.hid (M3.out.still o35)
        have s5 := hAll w5 hb S2 l2 H5.out.1
        clear o5 o35 O4 H3 M3
        go_wp2_with fail
        refine s5.mono ?_
        clear s5
        rintro e w6 ⟨A6, cap6, rfl, r6, v6, o6⟩
        have s6 := hSpoil w6 _ l2 r6 (by omega)
        have O6 := Lib.hid (And.intro v6 o6)
        clear r6 v6 o6
        go_wp2_with fail
        refine s6.mono ?_
        clear s6
        rintro e w7 ⟨rfl, o7⟩
        have o57 := spoilt O6.out.2 O6.out.1 o7
        have H7 := Lib.hid (H5.out.only0 o57)
        have M7 := Lib.hid (M5.out.still o57)
        clear o7 o57 O6 H5 M5
        go_wp2_with fail
        go_roundg (len0 + 1 - (p + 1))
        case measure => omega
        case rel => exact ⟨p + 1, S2, T2, G3, l2, m3, by simp, by omega, by omega, by omega, hl2', hm3', H7, M7⟩
      · have c3 : decide ((p : Int) < (len1 : Int)) = false := decide_eq_false (by omega)
        have c4 : ¬ ((p : Int) < (len1 : Int)) := by omega
        have s5 := hAll w2 hb S2 l2 H2.out.1
        clear hc1
        go_wp2_with fail
        refine s5.mono ?_
        clear s5
        rintro e w6 ⟨A6, cap6, rfl, r6, v6, o6⟩
        have s6 := hSpoil w6 _ l2 r6 (by omega)
        have O6 := Lib.hid (And.intro v6 o6)
        clear r6 v6 o6
        go_wp2_with fail
        refine s6.mono ?_
        clear s6
        rintro e w7 ⟨rfl, o7⟩
        have o57 := spoilt O6.out.2 O6.out.1 o7
        have H7 := Lib.hid (H2.out.only0 o57)
        have M7 := Lib.hid (M2.out.still o57)
        clear o7 o57 O6 H2 M2
        go_wp2_with fail
        go_roundg (len0 + 1 - (p + 1))
        case measure => omega
        case rel => exact ⟨p + 1, S2, T2, G, l2, m, by simp, by omega, by omega, by omega, hl2', by omega, H7, M7⟩
    · obtain ⟨vx, eT, hxi, hxl⟩ := hH.out.2.1
      obtain ⟨Ax, capx, ex⟩ := hxi.row.form
      have cx := hxi.c0
      rw [ex] at cx
      have HX := Lib.hid hxi.row
      rw [ex] at HX
      clear eT hxi ex
      have hcd : (decide ((p : Int) < (len0 : Int)) = false ∧ ¬ ((p : Int) < (len0 : Int))) ∨ ((p : Int) < (len0 : Int) ∧ decide ((p : Int) < 40) = false) := by
        have hce : ¬ p < len0 ∨ (p < len0 ∧ ¬ p < 40) := by omega
        rcases hce with h9 | h9
        · exact .inl ⟨decide_eq_false (by omega), by omega⟩
        · exact .inr ⟨by omega, decide_eq_false (by omega)⟩
      clear hc hp
      rcases hcd with ⟨c1, c2⟩ | ⟨c1, c2⟩
      all_goals
        go_wp2_with fail
        go_region_with (first | (go_at_call 13; refine (hAll _ hb S l (by exact hH.out.1.only0 ((Only.refl [] wr).drew))).mono ?_; rintro e w2 ⟨A2, cap2, rfl, r2, v2, o2⟩; have cx2 := o2.stay (p := ⟨xb, 0, none⟩) (v := .slice Ax l.length capx) (by go_simp); have RX := Lib.hid (HX.out.keep (w' := w2) (fun g hg => o2.block g (HX.out.lt hg) (by simp))); have R2 := Lib.hid r2; have O2 := Lib.hid o2; clear r2 v2 o2) | (go_at_call 12; refine (Calls.mono (by exact hPlain _ _ _ l l (by exact R2.out) (by exact RX.out) (by omega) (by omega)) ?_); rintro e w3 ⟨rfl, o3⟩; rw [show decide (l = l) = true by simp]; have cx3 := o3.stay cx2; have HL3 := Lib.hid (((hH.out.1.only0 ((Only.refl [] wr).drew)).only0 O2.out).only0 o3); have O3 := Lib.hid o3; clear o3) | (go_at_call 11; refine (hLen _ hb S l (by exact HL3.out)).mono ?_; rintro e w4 ⟨rfl, rfl⟩))
        all_goals
          go_wp2_with fail
          go_ret
          exact ⟨by first | rfl | simp [Act.put], ((hM.out.1.drew.trans' O2.out).trans' O3.out).below (Nat.le_refl _) (by simp)⟩

/-! ### The step from the walk to the statement -/
set_option maxRecDepth 100000 in
theorem lifted (os : Os) (started : os.Started) (H : Type) (enc : TypeId × Value → H) :
    ReturnsInHanded {} Try.checked os 7 .any (Rows.heapApartSpec.pre6 enc Try.prog Try.f7 Rows.heapApartRow.domain false) (Rows.heapApartSpec.post enc Try.prog Try.f7 false true false false) := by
  refine returnsInHanded_of_change (C := Try.checked) own started (by kernel_rfl) Try.func7
    (ChangeSpec.witness6 (enc := enc) (C := Try.checked) false ⟨#[], #[.slice none 0 0, .slice none 0 0], []⟩ 8 (by kernel_rfl) (by kernel_rfl) (by kernel_rfl) (by kernel_rfl)) ?_
  intro W base args ds gs before hval0 hW hcnd _
  have hval : ∀ (j : Nat) t v, Try.f7.params[j]? = some t → args[j]? = some v → Value.okWide Try.prog W .any base t v := hval0
  have hW' := hW
  obtain ⟨p, q, hA0, hV, rfl, hfz, hnd⟩ := hW
  have hA : DataW.TrodAll enc Try.prog W 0 (fun _ => true) true Try.f7.params.toList args.toList ds p := hA0
  rw [Try.params7] at hA hval
  obtain ⟨v0, vs0, d0, ds0, p0, q0, hargs, rfl, rfl, h0, r0⟩ := trodAll_cons hA
  obtain ⟨v1, vs1, d1, ds1, p1, q1, rfl, rfl, rfl, h1, r1⟩ := trodAll_cons r0
  obtain ⟨rfl, rfl, rfl⟩ := trodAll_nil r1
  obtain rfl : args = #[v0, v1] := by cases args; simp_all
  obtain ⟨rfl, rfl⟩ := trodVars_none hV
  obtain ⟨a0, len0, cap0, rfl⟩ := okWide_slice Try.underlying22 (hval 0 22 v0 rfl rfl)
  have k0 := h0
  have lt0 : ∀ x ∈ p0, x.block < W.heap.size := by obtain ⟨m, hm⟩ := k0; exact DataW.trod_lt m _ _ _ hm
  obtain ⟨z0, w0⟩ : ∃ z, InDeeds W a0 len0 z := by
    obtain ⟨fuel, hf⟩ := h0
    exact open_deeds hf
  obtain ⟨a1, len1, cap1, rfl⟩ := okWide_slice Try.underlying22 (hval 1 22 v1 rfl rfl)
  have k1 := h1
  have lt1 : ∀ x ∈ p1, x.block < W.heap.size := by obtain ⟨m, hm⟩ := k1; exact DataW.trod_lt m _ _ _ hm
  obtain ⟨z1, w1⟩ : ∃ z, InDeeds W a1 len1 z := by
    obtain ⟨fuel, hf⟩ := h1
    exact open_deeds hf
  clear hA0 hval0
  refine (walk a0 len0 cap0 z0 a1 len1 cap1 z1 W w0 w1).mono fun e W' ⟨he, bel⟩ => ?_
  subst he
  exact ⟨_, rfl, _, _, _, [], _, [], hW', trodAll_mk1 (shut_bool Try.underlying4 _), (trodAll_cons_mk (Below.trod laidOut (by kernel_rfl) (of_decide_eq_true (by kernel_rfl)) k0 bel lt0) (trodAll_cons_mk (Below.trod laidOut (by kernel_rfl) (of_decide_eq_true (by kernel_rfl)) k1 bel lt1) trodAll_mk0)), rfl, bel.frame _, fun h => by cases h⟩

theorem over : Rows.heapApartRow.holds Try.pinned (OpenSpec.ofChange Rows.heapApartSpec) :=
  OpenClaim.holds_of_wide 7 Try.f7 rfl rfl rfl rfl rfl rfl rfl ⟨rfl, rfl, rfl, rfl, rfl⟩ rfl rfl rfl rfl rfl (by kernel_rfl) Try.func7 (by kernel_rfl)
    (of_decide_eq_true (by kernel_rfl)) (by unfold Func.isWrapper; first | (rw [if_pos (by decide +kernel)]; kernel_rfl) | (rw [if_neg (by decide +kernel)]; exact ⟨rfl, rfl⟩))
    (fun os started H enc _ => lifted os started H enc)

/-- The statement. -/
theorem proved : Rows.HeapApartSaid := over
#print axioms proved
end Go.Proofs.Ytppkbokjnocoeaa.heapApart
