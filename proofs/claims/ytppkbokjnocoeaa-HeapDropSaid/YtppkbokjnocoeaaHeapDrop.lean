/-
  weighbridgelaw04.HeapDrop returns true for every input, and leaves its arguments as they were. No condition but that the arguments are values of their types.
-/
import Derived.Test.YtppkbokjnocoeaaRows
import Derived.Test.YtppkbokjnocoeaaHeapO
import Derived.WalkKit
import Derived.ProofKit
import Derived.OpenShut
import Derived.ChangeOld
import Derived.Below
namespace Go.Proofs.Ytppkbokjnocoeaa.heapDrop
open Go.ChangeShapes Go.WideShapes Go.ChangeAt Go.RowKit
set_option linter.unusedVariables false
set_option linter.unusedSimpArgs false

theorem new_items (w : World) : ItemsOf (w.alloc (.cells #[.slice none 0 0] 28)) w.heap.size [w.heap.size] [] :=
  ⟨.slice none 0 0, rfl, ⟨heap_alloc_new w _, RowIs.nil _⟩, by simp⟩
theorem len_ins (x : It) (l : List It) : (if hasId x.i l = true then l else ins x l).length ≤ l.length + 1 := by
  split
  · omega
  · rw [ins_len]; omega
theorem gone {l : List It} (hi : Ids l) (id : Int) : hasId id (dropId id l) = false := by
  rcases h : hasId id l with _ | _
  · rw [(dropId_none h).1]; exact h
  · obtain ⟨x, hx, e⟩ := (hasId_iff _ _).1 h
    obtain ⟨k, hk, ek⟩ := List.getElem_of_mem hx
    have hg : (gOf l k).i = id := by rw [gOf_get hk, ek]; exact e
    rw [← (drop_at hi hk hg).1]
    refine (hasId_not _ _).2 (fun y hy e2 => ?_)
    obtain ⟨j, hne, hj⟩ := List.mem_eraseIdx_iff_getElem?.1 hy
    obtain ⟨hjl, hj2⟩ := List.getElem?_eq_some_iff.1 hj
    have := hi.place (a := j) (b := k) hjl hk (by rw [gOf_get hjl, hj2, e2, hg])
    exact hne this
/-- A heap and the document's list that hold the same. -/
def Two (w : World) (hb xb : Nat) (S T : List Nat) (l : List It) : Prop := HeapOf w hb S l ∧ ItemsOf w xb T l ∧ ∀ b ∈ S, b ∉ T
theorem Two.only0 {w w' : World} {hb xb : Nat} {S T : List Nat} {l : List It} (h : Two w hb xb S T l) (o : Only [] w w') : Two w' hb xb S T l := ⟨h.1.only0 o, h.2.1.only0 o, h.2.2⟩

set_option maxRecDepth 100000 in
set_option maxHeartbeats 8000000 in
theorem walk (a0 : Option Addr) (len0 cap0 : Nat) (z0 : List It) (a1 : Int) (w : World) (w0 : InItems w a0 len0 z0) (w1 : (Lit.int .i64 a1).wf = true) :
    Calls Try.prog 6 #[.slice a0 len0 cap0, .int .i64 a1] w fun e w' => e = .returned (.bool true) ∧ Below w.heap.size w w' := by
  have W0 := Lib.hid w0
  have W1 : Hid (i64ok a1) := w1
  clear w0 w1
  go_enter Try.func6, Try.ntmps6
  go_wp2_with fail
  refine (hNew _).mono ?_
  rintro e u1 ⟨hb, S1, rfl, h1, f1, o1⟩
  have oX : Only [] u1 (u1.alloc (.cells #[.slice none 0 0] 28)) := (Only.refl [] u1).alloc _
  have TT : Hid (Two (u1.alloc (.cells #[.slice none 0 0] 28)) hb u1.heap.size S1 [u1.heap.size] []) :=
    ⟨h1.only0 oX, new_items u1, fun b hb e => by have := h1.lt b hb; simp only [List.mem_singleton] at e; omega⟩
  have MM : Hid (Moved w [] (u1.alloc (.cells #[.slice none 0 0] 28)) (S1 ++ [u1.heap.size])) :=
    ⟨o1.trans' oX, fun b hb => .inr (by
      rcases List.mem_append.1 hb with h9 | h9
      · exact f1 b h9
      · simp only [List.mem_singleton] at h9; rw [h9]; exact o1.size)⟩
  clear h1 f1 o1 oX
  go_wp2_with fail
  generalize hU : u1.alloc (.cells #[.slice none 0 0] 28) = U at *
  generalize u1.heap.size = xb at *
  clear hU
  refine (hAwake _).mono ?_
  rintro e u3 ⟨rfl, o3⟩
  have M3 := Lib.hid (MM.out.still o3)
  have T3 := Lib.hid (TT.out.only0 o3)
  clear MM TT o3
  go_wp2_with fail
  rename_i KL hKL
  have after : ∀ (p : Nat) (S T : List Nat) (l : List It) (v24 v25 v26 v27 v28 v29 v30 v31 v32 v33 v34 v35 v36 v37 v38 v39 v40 v41 v42 v43 v44 v45 : Value) (wr : World), l.length ≤ 60 → Hid (Two wr hb xb S T l) → Hid (Moved w [] wr (S ++ T)) → KL { tmps := #[.slice a0 len0 cap0, .int .i64 a1, undef, undef, .bool false, .pointer (some ⟨hb, 0, none⟩), .pointer (some ⟨xb, 0, none⟩), .int .i64 (p : Int), undef, undef, undef, undef, undef, undef, undef, .pointer (some ⟨hb, 0, none⟩), .agg #[.slice none 0 0], .pointer (some ⟨xb, 0, none⟩), .bool true, .bool false, .bool false, .pointer (some ⟨hb, 0, none⟩), .bool false, .bool false, v24, v25, v26, v27, v28, v29, v30, v31, v32, v33, v34, v35, v36, v37, v38, v39, v40, v41, v42, v43, v44, v45, undef, undef, undef, undef, undef, undef, undef, undef, undef, undef, undef, undef, undef, undef, undef, undef, undef, undef, undef, undef, undef, undef, undef, undef, undef, undef, undef, undef, undef, undef, undef, undef, undef, undef, undef, undef, undef, undef, undef, undef, undef, undef, undef, undef, undef, undef, undef, undef, undef, undef, undef, undef, undef, undef, undef, undef, undef, undef, undef, undef, undef, undef, undef, undef, undef, undef, undef, undef, undef, undef, undef], defers := [] } wr := by
    intro p S T l v24 v25 v26 v27 v28 v29 v30 v31 v32 v33 v34 v35 v36 v37 v38 v39 v40 v41 v42 v43 v44 v45 wr hlp hH hM
    obtain ⟨vx, eT, hxi, hxl⟩ := hH.out.2.1
    obtain ⟨Ax, capx, ex⟩ := hxi.row.form
    have cx := hxi.c0
    rw [ex] at cx
    have HX := Lib.hid hxi.row
    rw [ex] at HX
    have hxbl : xb < wr.heap.size := hxi.lt xb (by simp [iown])
    clear eT hxi ex T3 M3
    apply hKL
    clear hKL
    by_cases hl0 : 0 < l.length
    · obtain ⟨g, cap', e9, -, -, hgl, -, hcell⟩ := HX.out.at_ hl0
      have e9' : Ax = some ⟨g, 0, none⟩ := by injection e9
      subst e9'
      have HC := Lib.hid hcell
      have hne : ((l.length : Int) == 0) = false := by simp; intro e; subst e; simp at hl0
      have hmod := hMod a1 l.length hl0 (by omega)
      clear e9 hcell
      go_wp2_with fail
      rename_i K12 hK12
      have rest : ∀ (q : Nat) (x : It), q < l.length → Hid (gOf l q = x) → K12 { tmps := #[.slice a0 len0 cap0, .int .i64 a1, undef, undef, .bool false, .pointer (some ⟨hb, 0, none⟩), .pointer (some ⟨xb, 0, none⟩), .int .i64 (p : Int), undef, undef, .pointer (some ⟨wr.heap.size, 0, none⟩), undef, undef, undef, undef, .pointer (some ⟨hb, 0, none⟩), .agg #[.slice none 0 0], .pointer (some ⟨xb, 0, none⟩), .bool true, .bool false, .bool false, .pointer (some ⟨hb, 0, none⟩), .bool false, .bool false, v24, v25, v26, v27, v28, v29, v30, v31, v32, v33, v34, v35, v36, v37, v38, v39, v40, v41, v42, v43, v44, v45, .pointer (some ⟨xb, 0, none⟩), .pointer (some ⟨xb, 0, none⟩), .pointer (some ⟨xb, 0, none⟩), .slice (some ⟨g, 0, none⟩) l.length capx, .int .i64 (l.length : Int), .bool false, undef, undef, undef, undef, undef, undef, undef, undef, .pointer (some ⟨xb, 0, none⟩), .pointer (some ⟨xb, 0, none⟩), .pointer (some ⟨xb, 0, none⟩), .slice (some ⟨g, 0, none⟩) l.length capx, .int .i64 a1, .pointer (some ⟨xb, 0, none⟩), .pointer (some ⟨xb, 0, none⟩), .pointer (some ⟨xb, 0, none⟩), .slice (some ⟨g, 0, none⟩) l.length capx, .int .i64 (l.length : Int), .int .i64 (q : Int), .pointer (some ⟨g, q * 2, none⟩), .agg #[.int .u64 x.k, .int .i64 x.i], undef, undef, undef, undef, undef, undef, undef, undef, undef, undef, undef, undef, undef, undef, undef, undef, undef, undef, undef, undef, undef, undef, undef, undef, undef, undef, undef, undef, undef, undef, undef, undef, undef, undef, undef, undef, undef, undef, undef, undef, undef, undef, undef, undef], defers := [] } (wr.alloc (.cells #[.int .u64 x.k, .int .i64 x.i] 37)).drew := by
        intro q x hq EX
        apply hK12
        clear hK12
        have hid : i64ok x.i := (hH.out.1.fit x (by rw [← EX.out, gOf_get hq]; exact List.getElem_mem _)).2
        obtain ⟨dA, dB⟩ := drop_at hH.out.1.ids hq (by rw [EX.out])
        rw [EX.out] at dB
        have oA : Only [] wr (wr.alloc (.cells #[.int .u64 x.k, .int .i64 x.i] 37)).drew := ((Only.refl [] wr).alloc _).drew
        have b1 : Box (wr.alloc (.cells #[.int .u64 x.k, .int .i64 x.i] 37)).drew wr.heap.size x := Box.new wr x
        have H1 := Lib.hid (hH.out.only0 oA)
        have M1 := Lib.hid (hM.out.still oA)
        have B1 := Lib.hid b1
        have hBS : wr.heap.size ∉ S := fun e => by have := hH.out.1.lt _ e; omega
        have hBT : wr.heap.size ∉ T := fun e => by have := hH.out.2.1.lt _ e; omega
        have x1 := b1.c1
        have d1 := hDrop _ hb S l H1.out.1 x.i hid
        rw [dB] at d1
        simp only [Option.getD_some, Option.isSome_some] at d1
        unfold It.val at d1
        have hgone := gone hH.out.1.ids x.i
        obtain ⟨dC, dD⟩ := dropId_none hgone
        have HD := Lib.hid (And.intro hgone (And.intro dC dD))
        have hll : (dropId x.i l).length ≤ 1000000 := Nat.le_trans (List.eraseP_sublist).length_le (by omega)
        generalize hW1 : (wr.alloc (.cells #[.int .u64 x.k, .int .i64 x.i] 37)).drew = V1 at *
        generalize hB0 : wr.heap.size = B at *
        clear hW1 b1 oA dA dB dC dD hgone hB0 cx HX HC hmod
        go_wp2_with fail
        refine d1.mono ?_
        clear d1
        rintro e v2 ⟨rfl, S2, h2, m2⟩
        have oX2 : Only [] v2 (v2.alloc (.cells #[.int .u64 x.k, .int .i64 x.i] 37)) := (Only.refl [] v2).alloc _
        have hX2 := (H1.out.2.1.only m2.1 (fun b hb hb' => H1.out.2.2 b hb' hb)).only0 oX2
        have hd2 := m2.apart H1.out.2.2 H1.out.2.1.lt
        have bB2 := (B1.out.only m2.1 hBS).only oX2 (by simp)
        have hBS2 : B ∉ S2 := fun e => (m2.apart (T := [B]) (fun b hb' e2 => hBS (by simp only [List.mem_singleton] at e2; rw [← e2]; exact hb')) (fun b hb' => by simp only [List.mem_singleton] at hb'; rw [hb']; exact B1.out.lt)) B e (by simp)
        have bA2 : Box _ v2.heap.size x := Box.new v2 x
        have hAS2 : v2.heap.size ∉ S2 := fun e => by have := h2.lt _ e; omega
        have hAT : v2.heap.size ∉ T := fun e => by have := H1.out.2.1.lt _ e; have := m2.1.size; omega
        have M2 : Hid (Moved w [] (v2.alloc (.cells #[.int .u64 x.k, .int .i64 x.i] 37)) (S2 ++ T)) := (M1.out.trans (m2.both (Moved.refl v2 T))).still oX2
        have d2 := hDrop _ hb S2 _ (h2.only0 oX2) x.i hid
        rw [HD.out.2.2, HD.out.2.1] at d2
        simp only [Option.getD_none, Option.isSome_none] at d2
        unfold It.val at d2
        have t1 := bB2.c1
        have t1' := (B1.out.only m2.1 hBS).c1
        have hBv2 : B < v2.heap.size := (B1.out.only m2.1 hBS).lt
        have R2 := Lib.hid (And.intro hX2 (And.intro hd2 (And.intro bB2 bA2)))
        clear h2 m2 oX2 hX2 hd2 bB2 bA2 H1 M1 B1
        go_wp2_with fail
        refine d2.mono ?_
        clear d2
        rintro e v3 ⟨rfl, S3, h3, m3⟩
        have oX3 : Only [] v3 (v3.alloc (.cells #[.int .u64 0, .int .i64 0] 37)) := (Only.refl [] v3).alloc _
        have hX3 := (R2.out.1.only m3.1 (fun b hb hb' => R2.out.2.1 b hb' hb)).only0 oX3
        have hd3 := m3.apart R2.out.2.1 R2.out.1.lt
        have bB3 := R2.out.2.2.1.only m3.1 hBS2
        have bA3 := R2.out.2.2.2.only m3.1 hAS2
        have M3 : Hid (Moved w [] (v3.alloc (.cells #[.int .u64 0, .int .i64 0] 37)) (S3 ++ T)) := (M2.out.trans (m3.both (Moved.refl v3 T))).still oX3
        have d3 := xDrop _ xb T l hX3 hH.out.1.ids x.i
        have hh3 := h3.only0 oX3
        have bB3' := bB3.only oX3 (by simp)
        have bA3' := bA3.only oX3 (by simp)
        have j1 := bB3'.c1
        have j1' := bB3.c1
        have hBv3 : B < v3.heap.size := bB3.lt
        have R3 := Lib.hid (And.intro hh3 (And.intro hd3 (And.intro bB3' (And.intro bA3' hX3.lt))))
        clear h3 m3 oX3 hX3 hd3 bB3 bA3 bB3' bA3' hh3 R2 M2
        go_wp2_with fail
        refine d3.mono ?_
        clear d3
        rintro e v4 ⟨rfl, T4, h4, m4⟩
        have hh4 := R3.out.1.only m4.1 R3.out.2.1
        have hd4 := m4.apart (fun b hb hb' => R3.out.2.1 b hb' hb) R3.out.1.lt
        have bB4 := R3.out.2.2.1.only m4.1 hBT
        have bA4 := R3.out.2.2.2.1.only m4.1 hAT
        have M4 : Hid (Moved w [] v4 (S3 ++ T4)) := M3.out.trans ((Moved.refl _ S3).both m4)
        obtain ⟨vy, eT4, hyi, hyl⟩ := h4
        obtain ⟨Ay, capy, ey⟩ := hyi.row.form
        have cy := hyi.c0
        rw [ey] at cy
        have HY := Lib.hid hyi.row
        rw [ey] at HY
        have HH4 := Lib.hid hh4
        have y0 := bB4.c0
        have y1 := bB4.c1
        have z0' := bA4.c0
        have z1' := bA4.c1
        have he := item_eql x x
        simp only [decide_true] at he
        have hgu := item_guard
        have HG := Lib.hid HD.out.1
        generalize dropId x.i l = l4 at *
        clear m4 hh4 hd4 bB4 bA4 eT4 hyi ey R3 M3 HD
        go_wp2_with fail
        clear t1 t1' j1 j1' hBv2 hBv3 x1 hBS hBT hBS2 hAS2 hAT hxbl hgl hne hq hlp hl0 hxl
        go_region_held3 (fun w' => w'.cell? ⟨B, 0, none⟩ = some (.int .u64 x.k) ∧ w'.cell? ⟨B, 1, none⟩ = some (.int .i64 x.i) ∧ w'.cell? ⟨v2.heap.size, 0, none⟩ = some (.int .u64 x.k) ∧ w'.cell? ⟨v2.heap.size, 1, none⟩ = some (.int .i64 x.i) ∧ w'.cell? ⟨xb, 0, none⟩ = some (.slice Ay l4.length capy))
          (first | go_keep | (go_split_ands; refine ⟨?_, ?_, ?_, ?_, ?_⟩ <;> (apply hk.stay; assumption)))
          (first | (go_at_call 14; refine (hHas _ hb S3 l4 (HH4.out.only0 ((Only.refl [] v4).drew)) x.i hid).mono ?_; rintro e v5 ⟨rfl, rfl⟩; rw [HG.out]) | (go_at_call 13; refine (hAll _ hb S3 l4 (HH4.out.only0 ((Only.refl [] v4).drew))).mono ?_; rintro e v6 ⟨A6, cap6, rfl, r6, q6, hk⟩; have RY := Lib.hid (HY.out.keep (w' := v6) (fun g hg => hk.block g (HY.out.lt hg) (by simp))); have R6 := Lib.hid r6; have O6 := Lib.hid hk) | (go_at_call 12; refine (hPlain _ _ _ l4 l4 R6.out RY.out hll hll).mono ?_; rintro e v7 ⟨rfl, hk⟩; rw [show decide (l4 = l4) = true by simp]; have O7 := Lib.hid hk))
        all_goals
          go_wp2_with fail
          go_ret
          exact ⟨by first | rfl | simp [Act.put], ((M4.out.1.drew.trans' O6.out).trans' O7.out).below (Nat.le_refl _) (by simp)⟩
      have HREST := Lib.hid rest
      clear rest hK12
      go_region_with (first | (go_at_call 18; refine (hmod _).mono ?_; rintro e w2 ⟨⟨q, hq, rfl⟩, rfl⟩; obtain ⟨k0, k1, -, -⟩ := HC.out q hq; have hq' : (q : Int) < (l.length : Int) := (by omega); obtain ⟨x, ex⟩ : ∃ x, gOf l q = x := ⟨_, rfl⟩; rw [ex] at k0 k1; have EX := Lib.hid ex; clear ex))
      all_goals exact HREST.out q x hq EX
    · have el : l = [] := List.length_eq_zero_iff.1 (by omega)
      subst el
      have d1 := hDrop wr hb S [] hH.out.1 a1 W1.out
      have e1 : findId a1 [] = none := rfl
      rw [e1] at d1
      simp only [Option.getD_none, Option.isSome_none] at d1
      unfold It.val at d1
      clear e1
      go_wp2_with fail
      refine d1.mono ?_
      rintro e v2 ⟨rfl, S2, h2, m2⟩
      have M2 := Lib.hid (hM.out.1.trans m2.1 (fun k hk => hM.out.2 k (List.mem_append.2 (.inl hk))))
      clear h2 m2
      go_wp2_with fail
      go_ret
      exact ⟨rfl, (M2.out.alloc _).below (Nat.le_refl _) (by simp)⟩
  have AFTER := Lib.hid after
  clear after hKL
  go_loopg [7] (len0 + 1) (fun gk si wr => ∃ (p : Nat) (S T : List Nat) (l : List It), si = .int .i64 (p : Int) ∧ p ≤ len0 ∧ p ≤ 60 ∧ len0 + 1 ≤ gk + p ∧ l.length ≤ p ∧ Hid (Two wr hb xb S T l) ∧ Hid (Moved w [] wr (S ++ T)))
  case atStart => exact ⟨0, S1, [xb], [], rfl, by omega, by omega, by omega, by simp, T3, M3⟩
  case round =>
    obtain ⟨p, S, T, l, rfl, hp, hp60, hg, hlp, hH, hM⟩ := hrel
    clear T3 M3
    by_cases hc : p < len0 ∧ p < 60
    · have c1 : (p : Int) < (len0 : Int) := by omega
      have c2 : (p : Int) < 60 := by omega
      obtain ⟨hzl, hzok, hzat⟩ := W0.out
      obtain ⟨ad, b, o, s, rfl, hadd, hbw, q0, q1⟩ := hzat p hc.1
      have hxok : (gOf z0 p).ok := hzok _ (by rw [gOf_get (by omega)]; exact List.getElem_mem _)
      obtain ⟨x, ex⟩ : ∃ x, gOf z0 p = x := ⟨_, rfl⟩
      rw [ex] at q0 q1 hxok
      have r0 := hM.out.1.stay q0
      have r1 := hM.out.1.stay q1
      have Q := Lib.hid (And.intro q0 q1)
      have a2 := hPush wr hb S l hH.out.1 x hxok (by omega)
      have hl3 := len_ins x l
      have HR := Lib.hid (And.intro hH.out.2.2 hl3)
      clear q0 q1 ex hzl hzok hzat hbw hc hl3
      unfold It.val at a2
      go_wp2_with fail
      refine a2.mono ?_
      clear a2
      rintro e w2 ⟨rfl, S2, h2, m2⟩
      have hX2 := hH.out.2.1.only m2.1 (fun b hb hb' => HR.out.1 b hb' hb)
      have a3 := xPush w2 xb T l hX2 x (by omega)
      have M2 : Hid (Moved w [] w2 (S2 ++ T)) := by
        have h9 := hM.out.trans (m2.both (Moved.refl w2 T))
        exact h9
      have hd2 := m2.apart HR.out.1 hH.out.2.1.lt
      have u0 := M2.out.1.stay Q.out.1
      have u1 := M2.out.1.stay Q.out.2
      have H2 := Lib.hid (And.intro h2 (And.intro m2 hd2))
      clear h2 m2 hX2 hd2
      unfold It.val at a3
      go_wp2_with fail
      refine a3.mono ?_
      clear a3
      rintro e w3 ⟨rfl, T3, h3, m3⟩
      have hT3 := m3.apart (fun b hb hb' => H2.out.2.2 b hb' hb) H2.out.1.lt
      have HF : Hid (Two w3 hb xb S2 T3 (if hasId x.i l = true then l else ins x l)) := ⟨H2.out.1.only m3.1 H2.out.2.2, h3, fun b hb hb' => hT3 b hb' hb⟩
      have MF : Hid (Moved w [] w3 (S2 ++ T3)) := hM.out.trans (H2.out.2.1.both m3)
      obtain ⟨l3, el3⟩ : ∃ l3, (if hasId x.i l = true then l else ins x l) = l3 := ⟨_, rfl⟩
      have HL := Lib.hid HR.out.2
      rw [el3] at HF HL
      clear h3 m3 hT3 el3 H2 M2
      go_wp2_with fail
      go_roundg (len0 + 1 - (p + 1))
      case measure => omega
      case rel =>
        have h9 := HL.out
        exact ⟨p + 1, S2, T3, l3, by simp, by omega, by omega, by omega, by omega, HF, MF⟩
    · have hcd : (decide ((p : Int) < (len0 : Int)) = false ∧ ¬ ((p : Int) < (len0 : Int))) ∨ ((p : Int) < (len0 : Int) ∧ decide ((p : Int) < 60) = false) := by
        have hce : ¬ p < len0 ∨ (p < len0 ∧ ¬ p < 60) := by omega
        rcases hce with h9 | h9
        · exact .inl ⟨decide_eq_false (by omega), by omega⟩
        · exact .inr ⟨by omega, decide_eq_false (by omega)⟩
      clear hc hp
      rcases hcd with ⟨c1, c2⟩ | ⟨c1, c2⟩
      all_goals
        go_wp2_with fail
        exact AFTER.out p S T l _ _ _ _ _ _ _ _ _ _ _ _ _ _ _ _ _ _ _ _ _ _ wr (by omega) hH hM

/-! ### The step from the walk to the statement -/
set_option maxRecDepth 100000 in
theorem lifted (os : Os) (started : os.Started) (H : Type) (enc : TypeId × Value → H) :
    ReturnsInHanded {} Try.checked os 6 .any (Rows.heapDropSpec.pre6 enc Try.prog Try.f6 Rows.heapDropRow.domain false) (Rows.heapDropSpec.post enc Try.prog Try.f6 false true false false) := by
  refine returnsInHanded_of_change (C := Try.checked) own started (by kernel_rfl) Try.func6
    (ChangeSpec.witness6 (enc := enc) (C := Try.checked) false ⟨#[], #[.slice none 0 0, .int .i64 0], []⟩ 8 (by kernel_rfl) (by kernel_rfl) (by kernel_rfl) (by kernel_rfl)) ?_
  intro W base args ds gs before hval0 hW hcnd _
  have hval : ∀ (j : Nat) t v, Try.f6.params[j]? = some t → args[j]? = some v → Value.okWide Try.prog W .any base t v := hval0
  have hW' := hW
  obtain ⟨p, q, hA0, hV, rfl, hfz, hnd⟩ := hW
  have hA : DataW.TrodAll enc Try.prog W 0 (fun _ => true) true Try.f6.params.toList args.toList ds p := hA0
  rw [Try.params6] at hA hval
  obtain ⟨v0, vs0, d0, ds0, p0, q0, hargs, rfl, rfl, h0, r0⟩ := trodAll_cons hA
  obtain ⟨v1, vs1, d1, ds1, p1, q1, rfl, rfl, rfl, h1, r1⟩ := trodAll_cons r0
  obtain ⟨rfl, rfl, rfl⟩ := trodAll_nil r1
  obtain rfl : args = #[v0, v1] := by cases args; simp_all
  obtain ⟨rfl, rfl⟩ := trodVars_none hV
  obtain ⟨a0, len0, cap0, rfl⟩ := okWide_slice Try.underlying26 (hval 0 26 v0 rfl rfl)
  have k0 := h0
  have lt0 : ∀ x ∈ p0, x.block < W.heap.size := by obtain ⟨m, hm⟩ := k0; exact DataW.trod_lt m _ _ _ hm
  obtain ⟨z0, w0⟩ : ∃ z, InItems W a0 len0 z := by
    obtain ⟨fuel, hf⟩ := h0
    exact open_items hf
  obtain ⟨a1, rfl, rfl, rfl, w1⟩ := open_int Try.underlying3 (hval 1 3 v1 rfl rfl) h1
  clear hA0 hval0
  refine (walk a0 len0 cap0 z0 a1 W w0 w1).mono fun e W' ⟨he, bel⟩ => ?_
  subst he
  exact ⟨_, rfl, _, _, _, [], _, [], hW', trodAll_mk1 (shut_bool Try.underlying4 _), (trodAll_cons_mk (Below.trod laidOut (by kernel_rfl) (of_decide_eq_true (by kernel_rfl)) k0 bel lt0) (trodAll_cons_mk (shut_int Try.underlying3 w1) trodAll_mk0)), rfl, bel.frame _, fun h => by cases h⟩

theorem over : Rows.heapDropRow.holds Try.pinned (OpenSpec.ofChange Rows.heapDropSpec) :=
  OpenClaim.holds_of_wide 6 Try.f6 rfl rfl rfl rfl rfl rfl rfl ⟨rfl, rfl, rfl, rfl, rfl⟩ rfl rfl rfl rfl rfl (by kernel_rfl) Try.func6 (by kernel_rfl)
    (of_decide_eq_true (by kernel_rfl)) (by unfold Func.isWrapper; first | (rw [if_pos (by decide +kernel)]; kernel_rfl) | (rw [if_neg (by decide +kernel)]; exact ⟨rfl, rfl⟩))
    (fun os started H enc _ => lifted os started H enc)

/-- The statement. -/
theorem proved : Rows.HeapDropSaid := over
#print axioms proved
end Go.Proofs.Ytppkbokjnocoeaa.heapDrop
