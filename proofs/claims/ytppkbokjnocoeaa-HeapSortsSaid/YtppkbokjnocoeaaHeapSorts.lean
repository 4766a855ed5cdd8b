/-
  weighbridgelaw04.HeapSorts returns true for every input, and leaves its arguments as they were. No condition but that the arguments are values of their types.
-/
import Derived.Test.YtppkbokjnocoeaaRows
import Derived.Test.YtppkbokjnocoeaaHeapO
import Derived.WalkKit
import Derived.ProofKit
import Derived.OpenShut
import Derived.ChangeOld
import Derived.Below
namespace Go.Proofs.Ytppkbokjnocoeaa.heapSorts
open Go.ChangeShapes Go.WideShapes Go.ChangeAt Go.RowKit
set_option linter.unusedVariables false
set_option linter.unusedSimpArgs false

theorem zero_ok : i64ok 0 := by unfold i64ok; decide
theorem rises_tail {l : List It} {x : It} {r : List It} (h : Rises l) (e : l = x :: r) : (∀ y ∈ r, x.lt y = true) ∧ Rises r := by
  subst e
  exact List.pairwise_cons.1 h
theorem ids_tail {l : List It} {x : It} {r : List It} (h : Ids l) (e : l = x :: r) : hasId x.i r = false := by
  subst e
  have := List.nodup_cons.1 (show ((x :: r).map It.i).Nodup from h)
  exact (hasId_not _ _).2 (fun y hy e2 => this.1 (List.mem_map.2 ⟨y, hy, e2⟩))
theorem has_ins (x : It) (l : List It) : hasId x.i (if hasId x.i l = true then l else ins x l) = true := by
  split
  · assumption
  · exact (hasId_iff _ _).2 ⟨x, (ins_perm x l).symm.subset (by simp), rfl⟩
theorem len_ins (x : It) (l : List It) : (if hasId x.i l = true then l else ins x l).length = l.length + (if hasId x.i l = true then 0 else 1) := by
  split
  · rfl
  · rw [ins_len]

set_option maxRecDepth 100000 in
set_option maxHeartbeats 8000000 in
theorem walk (a0 : Option Addr) (len0 cap0 : Nat) (z0 : List It) (w : World) (w0 : InItems w a0 len0 z0) :
    Calls Try.prog 4 #[.slice a0 len0 cap0] w fun e w' => e = .returned (.bool true) ∧ Below w.heap.size w w' := by
  have W0 := Lib.hid w0
  clear w0
  go_enter Try.func4, Try.ntmps4
  go_wp2_with fail
  refine (hNew _).mono ?_
  rintro e w1 ⟨hb, S1, rfl, h1, f1, o1⟩
  have m1 : Hid (Moved w [] w1 S1) := ⟨o1, fun b hb => .inr (f1 b hb)⟩
  have H1 := Lib.hid h1
  clear h1 f1 o1
  go_wp2_with fail
  refine (hAwake _).mono ?_
  rintro e w2 ⟨rfl, o2⟩
  have m2 : Hid (Moved w [] w2 S1) := m1.out.still o2
  have H2 := Lib.hid (H1.out.only0 o2)
  clear m1 H1 o2
  go_wp2_with fail
  go_loopg [4, 5] (len0 + 1) (fun gk sn si wr => ∃ (p : Nat) (S : List Nat) (l : List It), sn = .int .i64 (l.length : Int) ∧ si = .int .i64 (p : Int) ∧ p ≤ len0 ∧ p ≤ 80 ∧ len0 + 1 ≤ gk + p ∧ l.length ≤ p ∧ Hid (HeapOf wr hb S l) ∧ Hid (Moved w [] wr S))
  case atStart => exact ⟨0, S1, [], rfl, rfl, by omega, by omega, by omega, by simp, H2, m2⟩
  case round =>
    obtain ⟨p, S, l, rfl, rfl, hp, hp80, hg, hlp, hH, hM⟩ := hrel
    clear H2 m2
    by_cases hc : p < len0 ∧ p < 80
    · have c1 : (p : Int) < (len0 : Int) := by omega
      have c2 : (p : Int) < 80 := by omega
      obtain ⟨hzl, hzok, hzat⟩ := W0.out
      obtain ⟨ad, b, o, s, rfl, hadd, hbw, q0, q1⟩ := hzat p hc.1
      have hxok : (gOf z0 p).ok := hzok _ (by rw [gOf_get (by omega)]; exact List.getElem_mem _)
      obtain ⟨x, ex⟩ : ∃ x, gOf z0 p = x := ⟨_, rfl⟩
      rw [ex] at q0 q1 hxok
      have r0 := hM.out.1.stay q0
      have r1 := hM.out.1.stay q1
      have Q := Lib.hid (And.intro q0 q1)
      have a1 := hHas wr hb S l hH.out x.i hxok.2
      have a2 := hPush wr hb S l hH.out x hxok (by omega)
      have hi3 := has_ins x l
      have hl3 := len_ins x l
      clear q0 q1 ex hzl hzok hzat hbw hc
      obtain ⟨l3, el3⟩ : ∃ l3, (if hasId x.i l = true then l else ins x l) = l3 := ⟨_, rfl⟩
      rw [el3] at a2 hi3 hl3
      have HI := Lib.hid (And.intro hi3 hl3)
      clear el3 hi3 hl3
      unfold It.val at a2
      rcases hh : hasId x.i l with _ | _
      all_goals
        rw [hh] at a1 a2
        have HL3 := Lib.hid (HI.out.2)
        rw [hh] at HL3
        go_wp2_with fail
        refine a1.mono ?_
        rintro e w3 ⟨rfl, rfl⟩
        go_wp2_with fail
        refine a2.mono ?_
        rintro e w4 ⟨rfl, S4, h4, m4⟩
        have M4 := Lib.hid (hM.out.trans m4)
        have u0 := M4.out.1.stay Q.out.1
        have u1 := M4.out.1.stay Q.out.2
        have a3 := hHas w4 hb S4 l3 h4 x.i hxok.2
        rw [HI.out.1] at a3
        have H4 := Lib.hid h4
        clear h4 m4 a1 a2
        go_wp2_with fail
        refine a3.mono ?_
        rintro e w5 ⟨rfl, rfl⟩
        go_wp2_with fail
        go_roundg (len0 + 1 - (p + 1))
        case measure => omega
        case rel =>
          have h9 := HL3.out
          refine ⟨p + 1, S4, l3, ?_, by simp, by omega, by omega, by omega, ?_, H4, M4⟩
          · rw [h9]; simp
          · rw [h9]; simp; omega
    · have hce : ¬ p < len0 ∨ (p < len0 ∧ ¬ p < 80) := by omega
      have b0 := Box.new wr ⟨0, 0⟩
      have hNS : wr.heap.size ∉ S := fun e => by have := hH.out.lt _ e; omega
      have HA := Lib.hid (hH.out.only0 ((Only.refl [] wr).alloc (.cells #[.int .u64 0, .int .i64 0] 37)))
      have MA := Lib.hid (hM.out.still ((Only.refl [] wr).alloc (.cells #[.int .u64 0, .int .i64 0] 37)))
      have a1 := hLen wr hb S l hH.out
      have B0 := Lib.hid b0
      have hwr : w.heap.size ≤ wr.heap.size := hM.out.1.size
      clear b0 hM
      have hcd : (decide ((p : Int) < (len0 : Int)) = false ∧ ¬ ((p : Int) < (len0 : Int))) ∨ ((p : Int) < (len0 : Int) ∧ decide ((p : Int) < 80) = false) := by
        rcases hce with h9 | h9
        · exact .inl ⟨decide_eq_false (by omega), by omega⟩
        · exact .inr ⟨by omega, decide_eq_false (by omega)⟩
      clear hce hc hp
      rcases hcd with ⟨c1, c2⟩ | ⟨c1, c2⟩
      all_goals
        go_wp2_with fail
        refine a1.mono ?_
        rintro e w3 ⟨rfl, rfl⟩
        clear a1
        go_wp2_with fail
        obtain ⟨n, en⟩ : ∃ n, l.length = n := ⟨_, rfl⟩
        have HN := Lib.hid en
        have hn80 : n ≤ 80 := by omega
        rw [en]
        clear en hlp
        generalize hWu : w3.alloc (.cells #[.int .u64 0, .int .i64 0] 37) = wu at *
        obtain ⟨N, eN⟩ : ∃ N, w3.heap.size = N := ⟨_, rfl⟩
        rw [eN] at B0 hNS hwr ⊢
        clear hWu eN
        go_loopg [8, 9] (n + 1) (fun gk ss sk wr => ∃ (p : Nat) (S : List Nat) (l : List It) (x : It), ss = .bool (decide (0 < p)) ∧ sk = .int .i64 (p : Int) ∧ p ≤ n ∧ n + 1 ≤ gk + p ∧ l.length + p = n ∧ Hid (HeapOf wr hb S l) ∧ Hid (Moved w [] wr S) ∧ Hid (Box wr N x) ∧ Hid (N ∉ S) ∧ Hid (0 < p → ∀ y ∈ l, x.lt y = true))
        case atStart => exact ⟨0, S, l, ⟨0, 0⟩, rfl, rfl, by omega, by omega, HN.out, HA, MA, B0, hNS, fun h => absurd h (by omega)⟩
        case round =>
          obtain ⟨p, S, l, y, rfl, rfl, hpn, hg, hln, hH, hM, hB, hNS, hlast⟩ := hrel
          clear HA MA B0 HN
          by_cases hpk : p < n
          · have c3 : (p : Int) < (n : Int) := by omega
            obtain ⟨x, r, el⟩ : ∃ x r, l = x :: r := List.exists_cons_of_length_pos (by omega)
            have a2 := hPop wr hb S l hH.out
            have e1 : first l = x := by rw [el]; rfl
            have e2 : (!l.isEmpty) = true := by rw [el]; rfl
            have e3 : l.tail = r := by rw [el]; rfl
            rw [e1, e2, e3] at a2
            have hrt := rises_tail hH.out.rises el
            have hit := ids_tail hH.out.ids el
            have hxok : x.ok := hH.out.fit x (by rw [el]; simp)
            have hrl : r.length + (p + 1) = n := by rw [el] at hln; simp at hln; omega
            have hlx : 0 < p → y.lt x = true := fun h0 => hlast.out h0 x (by rw [el]; simp)
            have HT := Lib.hid (And.intro hrt (And.intro hrl hlx))
            clear el e1 e2 e3 hrt hrl hlx hln hlast
            unfold It.val at a2
            go_wp2_with fail
            refine a2.mono ?_
            clear a2
            rintro e w4 ⟨rfl, S4, h4, m4⟩
            have M4 := Lib.hid (hM.out.trans m4)
            have hB4 := hB.out.only m4.1 hNS.out
            have hN4 : N ∉ S4 := fun e => (m4.apart (T := [N]) (fun b hb' e2 => hNS.out (by simp only [List.mem_singleton] at e2; rw [← e2]; exact hb')) (fun b hb' => by simp only [List.mem_singleton] at hb'; rw [hb']; exact hB.out.lt)) N e (by simp)
            have H4 := Lib.hid h4
            have oX : Only [] w4 (w4.alloc (.cells #[.int .u64 x.k, .int .i64 x.i] 37)) := (Only.refl [] w4).alloc _
            have H5 := Lib.hid (h4.only0 oX)
            have hB5 := hB4.only oX (by simp)
            have hx5 : Box (w4.alloc (.cells #[.int .u64 x.k, .int .i64 x.i] 37)) w4.heap.size x := Box.new w4 x
            have M5 := Lib.hid (M4.out.still oX)
            have hN5 : N < w4.heap.size := hB4.lt
            have HN4 := Lib.hid hN4
            have HB4 := Lib.hid hB4
            clear h4 m4 hB4 hN4 hM hB hNS hH
            rcases Nat.eq_zero_or_pos p with hp0 | hp0
            · subst hp0
              have a3 := hHas _ hb S4 r H5.out x.i hxok.2
              rw [hit] at a3
              have BB := Lib.hid (And.intro hB5 hx5)
              have f0 := HB4.out.fr 0
              have f1 := HB4.out.fr 1
              have g0 := HB4.out.c0
              have g1 := HB4.out.c1
              clear hB5 hx5 oX
              go_wp2_with fail
              refine a3.mono ?_
              clear a3
              rintro e w6 ⟨rfl, rfl⟩
              go_wp2_with fail
              go_roundg n
              case measure => omega
              case rel =>
                have oF : Only [N] w4 ((w4.setCell ⟨N, 0, none⟩ (.int .u64 x.k)).setCell ⟨N, 1, none⟩ (.int .i64 x.i)) := ((Only.refl _ _).setCell (by simp) _).setCell (by simp) _
                have hHF := H4.out.only oF (fun b hb e => HN4.out (by simp only [List.mem_singleton] at e; rw [← e]; exact hb))
                refine ⟨0 + 1, S4, r, x, by simp, by simp, by omega, by omega, HT.out.2.1, ?_, ?_, ?_, HN4, fun _ => HT.out.1.1⟩
                · exact hHF.only0 ((Only.refl [] _).alloc _)
                · exact ⟨(M4.out.1.trans oF (by simp; exact hwr)).alloc _, M4.out.2⟩
                · exact (HB4.out.put x.k x.i).only ((Only.refl [] _).alloc _) (by simp)
            · have c4 : decide (0 < p) = true := by simpa using hp0
              rw [c4]
              have c5 := HT.out.2.2 hp0
              have g0 := hB5.c0
              have g1 := hB5.c1
              have a2 := rahead_only y x (w4.alloc (.cells #[.int .u64 x.k, .int .i64 x.i] 37))
              rw [c5] at a2
              have BB := Lib.hid (And.intro hB5 hx5)
              have hN5b : N < (w4.alloc (.cells #[.int .u64 x.k, .int .i64 x.i] 37)).heap.size := hB5.lt
              clear hB5 hx5 oX c5 c4
              go_wp2_with fail
              refine a2.mono ?_
              clear a2
              rintro e w6 ⟨rfl, o6⟩
              have hB6 := BB.out.1.only o6 (by simp)
              have hx6 := BB.out.2.only o6 (by simp)
              have H6 := Lib.hid (H5.out.only0 o6)
              have M6 := Lib.hid (M5.out.still o6)
              have a3 := hHas w6 hb S4 r H6.out x.i hxok.2
              rw [hit] at a3
              have B6 := Lib.hid (And.intro hB6 hx6)
              have f0 := hB6.fr 0
              have f1 := hB6.fr 1
              have g0 := hB6.c0
              have g1 := hB6.c1
              have j0 := hx6.c0
              have j1 := hx6.c1
              clear hB6 hx6 o6 BB M5 H5
              go_wp2_with fail
              refine a3.mono ?_
              clear a3
              rintro e w7 ⟨rfl, rfl⟩
              go_wp2_with fail
              go_roundg (n + 1 - (p + 1))
              case measure => omega
              case rel =>
                have oF : Only [N] w7 ((w7.setCell ⟨N, 0, none⟩ (.int .u64 x.k)).setCell ⟨N, 1, none⟩ (.int .i64 x.i)) := ((Only.refl _ _).setCell (by simp) _).setCell (by simp) _
                refine ⟨p + 1, S4, r, x, by simp, by simp, by omega, by omega, HT.out.2.1, ?_, ?_, ?_, HN4, fun _ => HT.out.1.1⟩
                · exact H6.out.only oF (fun b hb e => HN4.out (by simp only [List.mem_singleton] at e; rw [← e]; exact hb))
                · exact ⟨M6.out.1.trans oF (by simp; exact hwr), M6.out.2⟩
                · exact B6.out.1.put x.k x.i
          · have c3 : decide ((p : Int) < (n : Int)) = false := decide_eq_false (by omega)
            have el : l = [] := List.length_eq_zero_iff.1 (by omega)
            subst el
            have a2 := hPop wr hb S [] hH.out
            unfold first It.val at a2
            simp only [List.headD_nil, List.isEmpty_nil, Bool.not_true, List.tail_nil] at a2
            go_wp2_with fail
            refine a2.mono ?_
            clear a2
            rintro e w4 ⟨rfl, S4, h4, m4⟩
            have M4 := Lib.hid (hM.out.trans m4)
            have a3 := hLen _ hb S4 [] (h4.only0 ((Only.refl [] w4).alloc (.cells #[.int .u64 0, .int .i64 0] 37)))
            simp only [List.length_nil] at a3
            clear h4 m4
            go_wp2_with fail
            refine a3.mono ?_
            clear a3
            rintro e w5 ⟨rfl, rfl⟩
            go_wp2_with fail
            go_ret
            exact ⟨rfl, (M4.out.1.alloc _).below (Nat.le_refl _) (by simp)⟩

/-! ### The step from the walk to the statement -/
set_option maxRecDepth 100000 in
theorem lifted (os : Os) (started : os.Started) (H : Type) (enc : TypeId × Value → H) :
    ReturnsInHanded {} Try.checked os 4 .any (Rows.heapSortsSpec.pre6 enc Try.prog Try.f4 Rows.heapSortsRow.domain false) (Rows.heapSortsSpec.post enc Try.prog Try.f4 false true false false) := by
  refine returnsInHanded_of_change (C := Try.checked) own started (by kernel_rfl) Try.func4
    (ChangeSpec.witness6 (enc := enc) (C := Try.checked) false ⟨#[], #[.slice none 0 0], []⟩ 8 (by kernel_rfl) (by kernel_rfl) (by kernel_rfl) (by kernel_rfl)) ?_
  intro W base args ds gs before hval0 hW hcnd _
  have hval : ∀ (j : Nat) t v, Try.f4.params[j]? = some t → args[j]? = some v → Value.okWide Try.prog W .any base t v := hval0
  have hW' := hW
  obtain ⟨p, q, hA0, hV, rfl, hfz, hnd⟩ := hW
  have hA : DataW.TrodAll enc Try.prog W 0 (fun _ => true) true Try.f4.params.toList args.toList ds p := hA0
  rw [Try.params4] at hA hval
  obtain ⟨v0, vs0, d0, ds0, p0, q0, hargs, rfl, rfl, h0, r0⟩ := trodAll_cons hA
  obtain ⟨rfl, rfl, rfl⟩ := trodAll_nil r0
  obtain rfl : args = #[v0] := by cases args; simp_all
  obtain ⟨rfl, rfl⟩ := trodVars_none hV
  obtain ⟨a0, len0, cap0, rfl⟩ := okWide_slice Try.underlying26 (hval 0 26 v0 rfl rfl)
  have k0 := h0
  have lt0 : ∀ x ∈ p0, x.block < W.heap.size := by obtain ⟨m, hm⟩ := k0; exact DataW.trod_lt m _ _ _ hm
  obtain ⟨z0, w0⟩ : ∃ z, InItems W a0 len0 z := by
    obtain ⟨fuel, hf⟩ := h0
    exact open_items hf
  clear hA0 hval0
  refine (walk a0 len0 cap0 z0 W w0).mono fun e W' ⟨he, bel⟩ => ?_
  subst he
  exact ⟨_, rfl, _, _, _, [], _, [], hW', trodAll_mk1 (shut_bool Try.underlying4 _), (trodAll_cons_mk (Below.trod laidOut (by kernel_rfl) (of_decide_eq_true (by kernel_rfl)) k0 bel lt0) trodAll_mk0), rfl, bel.frame _, fun h => by cases h⟩

theorem over : Rows.heapSortsRow.holds Try.pinned (OpenSpec.ofChange Rows.heapSortsSpec) :=
  OpenClaim.holds_of_wide 4 Try.f4 rfl rfl rfl rfl rfl rfl rfl ⟨rfl, rfl, rfl, rfl, rfl⟩ rfl rfl rfl rfl rfl (by kernel_rfl) Try.func4 (by kernel_rfl)
    (of_decide_eq_true (by kernel_rfl)) (by unfold Func.isWrapper; first | (rw [if_pos (by decide +kernel)]; kernel_rfl) | (rw [if_neg (by decide +kernel)]; exact ⟨rfl, rfl⟩))
    (fun os started H enc _ => lifted os started H enc)

/-- The statement. -/
theorem proved : Rows.HeapSortsSaid := over
#print axioms proved
end Go.Proofs.Ytppkbokjnocoeaa.heapSorts
