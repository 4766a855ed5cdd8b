/-
  Own, Kept and Spoil of packets; Spoil of calls.
-/
import Derived.Test.YtocokmjobbmodaaHsZ
import Derived.Deep.DeepAppendRoom
namespace Go.Proofs.Ytocokmjobbmodaa
set_option maxRecDepth 100000
open Go.RowKit
set_option linter.unusedVariables false
set_option linter.unusedSimpArgs false
set_option maxRecDepth 100000

set_option maxHeartbeats 2000000
/-- The three cells of a packet. -/
def PkAt (w : World) (g o : Nat) (p : Pk) : Prop := w.cell? ⟨g, o, none⟩ = some (.int .i64 p.f) ∧ w.cell? ⟨g, o + 1, none⟩ = some (.int .i64 p.l) ∧ w.cell? ⟨g, o + 2, none⟩ = some (.int .i64 p.m)
theorem PkAt.only0 {w w' : World} {g o : Nat} {p : Pk} (h : PkAt w g o p) (ho : Only [] w w') : PkAt w' g o p := by
  obtain ⟨h0, h1, h2⟩ := h
  exact ⟨ho.kp h0, ho.kp h1, ho.kp h2⟩
theorem PkAt.box (w : World) (x : Pk) : PkAt (w.alloc (.cells #[.int .i64 x.f, .int .i64 x.l, .int .i64 x.m] 49)) w.heap.size 0 x := by
  have hb := heap_alloc_new w (.cells #[.int .i64 x.f, .int .i64 x.l, .int .i64 x.m] 49)
  generalize w.alloc _ = W at *
  exact ⟨by rw [cell_of_row W _ _ _ _ (0, 0) hb]; rfl, by rw [cell_of_row W _ _ _ _ (0, 0) hb]; rfl, by rw [cell_of_row W _ _ _ _ (0, 0) hb]; rfl⟩
theorem pkAt_row {w : World} {A : Option Addr} {m c : Nat} {ps : List Pk} (h : pE.Row w (.slice A m c) ps) {k : Nat} {x : Pk} (hk : ps[k]? = some x) : ∃ g, A = some ⟨g, 0, none⟩ ∧ PkAt w g (k * 3) x := by
  obtain ⟨g, e, hg, hc⟩ := h.cell hk
  have c := fun j u hu => (hc j u hu).1
  exact ⟨g, e, c 0 _ rfl, c 1 _ rfl, c 2 _ rfl⟩
theorem take_three {L : List Value} {a : Nat} {v0 v1 v2 : Value} (h : a + 3 ≤ L.length) : (((L.set a v0).set (a + 1) v1).set (a + 2) v2).take (a + 3) = L.take a ++ [v0, v1, v2] := by
  apply List.ext_getElem?
  intro i
  rw [List.getElem?_take, List.getElem?_append, List.length_take]
  have hm : min a L.length = a := by omega
  rw [hm]
  by_cases h1 : i < a
  · rw [if_pos (by omega), if_pos h1, List.getElem?_take, if_pos h1]
    rw [List.getElem?_set_ne (by omega), List.getElem?_set_ne (by omega), List.getElem?_set_ne (by omega)]
  · rw [if_neg h1]
    by_cases h2 : i < a + 3
    · rw [if_pos h2]
      obtain ⟨j, rfl⟩ : ∃ j, i = a + j := ⟨i - a, by omega⟩
      have hj : j < 3 := by omega
      rw [show a + j - a = j by omega]
      match j, hj with
      | 0, _ => rw [List.getElem?_set_ne (by omega), List.getElem?_set_ne (by omega), Nat.add_zero, List.getElem?_set_self (by omega)]; rfl
      | 1, _ => rw [List.getElem?_set_ne (by omega), List.getElem?_set_self (by rw [List.length_set]; omega)]; rfl
      | 2, _ => rw [List.getElem?_set_self (by simp only [List.length_set]; omega)]; rfl
    · rw [if_neg h2, List.getElem?_eq_none (by simp; omega)]
theorem pRow_room {W : World} {g n c : Nat} {xs : List Pk} (h : pE.Row W (.slice (some ⟨g, 0, none⟩) n c) xs) (hl : xs.length = n) (hn : n < c) :
    (∀ j, j < 3 → ∃ u, W.cell? ⟨g, n * 3 + j, none⟩ = some u ∧ W.frozen? ⟨g, n * 3 + j, none⟩ = false) ∧
    ∀ v : Pk, pE.Row (((W.setCell ⟨g, n * 3, none⟩ (.int .i64 v.f)).setCell ⟨g, n * 3 + 1, none⟩ (.int .i64 v.l)).setCell ⟨g, n * 3 + 2, none⟩ (.int .i64 v.m)) (.slice (some ⟨g, 0, none⟩) (n + 1) c) (xs ++ [v]) := by
  rcases h.2 with ⟨e, _⟩ | ⟨g', cap', cur, e, hb0, hgb, hnc, hcm, hsz, hcur⟩
  · cases e
  · injection e with e1 e2 e3
    injection e1 with e1
    injection e1 with e1
    subst e1 e3
    have hfit : n * 3 + 3 ≤ cur.size := by rw [hsz]; have : (n + 1) * 3 ≤ c * 3 := Nat.mul_le_mul_right 3 hn; omega
    refine ⟨fun j hj => ⟨cur[n * 3 + j]'(by omega), ?_, by simp [World.frozen?, hgb]⟩, fun v => ?_⟩
    · rw [cell_of_row W g _ cur _ (0, 0) hgb]
      simp [show n * 3 + j < cur.size by omega]
    · refine ⟨by rw [pE.flat_length], .inr ⟨g, c, ((cur.setIfInBounds (n * 3) (.int .i64 v.f)).setIfInBounds (n * 3 + 1) (.int .i64 v.l)).setIfInBounds (n * 3 + 2) (.int .i64 v.m), by rw [List.length_append, hl]; rfl, hb0, ?_, by rw [List.length_append, hl]; simp; omega, hcm, by simpa using hsz, ?_⟩⟩
      · simp [World.setCell, Array.getElem?_modify, hgb]
      · have hlen : n * 3 + 3 ≤ cur.toList.length := by simpa using hfit
        rw [List.length_append, hl, pE.flat_append, ← hcur, hl]
        simp only [Array.toList_setIfInBounds, List.length_singleton]
        rw [show (n + 1) * 3 = n * 3 + 3 by omega, take_three hlen]
        rfl
section
variable {w : World} {ops : Array Oper} {o : Oper} {a : Act} {K : Act → World → Prop} {Q : Exit → Act → World → Prop}
/-- A list behind a row that has room for it. -/
theorem wp_appSpareP (s x : Operand) (ho : o.op = .call { callee := .builtin .append, args := #[s, x], argTypes := #[26, 26] })
    (g n cap : Nat) (xs : List Pk) (A : Option Addr) (m c : Nat) (ys : List Pk) (hs : a.eval s = .slice (some ⟨g, 0, none⟩) n cap) (hx : a.eval x = .slice A m c) (h : pE.Row w (.slice (some ⟨g, 0, none⟩) n cap) xs) (hn : xs.length = n) (hsrc : pE.Src w A ys) (hm : ys.length = m) (hroom : n + m ≤ cap)
    (hK : ∀ w2, pE.Row w2 (.slice (some ⟨g, 0, none⟩) (n + m) cap) (xs ++ ys) → w.grownBy w2 (some g) → K (a.put o.dst (.slice (some ⟨g, 0, none⟩) (n + m) cap)) w2) : o.wp Try.prog a w K Q := by
  obtain ⟨i0, hi0, hz0, hz1, hz2⟩ := info_parts pE.info
  rcases ys with _ | ⟨y, ys'⟩
  · obtain rfl : m = 0 := by simpa using hm.symm
    have r1 : (Builtin.append_ #[26, 26] o.type #[.slice (some ⟨g, 0, none⟩) n cap, .slice A 0 c]).run Try.prog w = .ok (.slice (some ⟨g, 0, none⟩) n cap) w ∨ ∃ ad, A = some ad := by
      rcases A with _ | ad
      · left
        rcases h.2 with ⟨e, _⟩ | ⟨g', cap', cur, e, _, _, hnc, _⟩
        · cases e
        · injection e with e1 e2 e3
          injection e1 with e1
          injection e1 with e1
          subst e1 e2 e3
          have hi1 : Try.prog.info? 49 = some i0 := hi0
          simp [Builtin.append_, run_underlying Try.underlying26, sizeOf, typeInfo, hi1, Builtin.lenOf, Builtin.firstCells, hnc, storeCells]
      · exact .inr ⟨ad, rfl⟩
    rcases r1 with r1 | ⟨ad, rfl⟩
    · unfold Oper.wp execOp
      simp only [ho, resolve, invoke, builtin, Sem.run_bind, Sem.run_pure, Result.andThen_ok, List.map_toArray, List.map_cons, List.map_nil, hs, hx, r1]
      exact hK w (by simpa using h) (World.grownBy.refl w _)
    · have hrow : w.ownsRow 0 49 3 (.slice (some ⟨g, 0, none⟩) n cap) n (pE.flat xs) := by have := h; unfold El.Row at this; rw [hn] at this; exact this
      refine wp_append_own_spare w s x 26 ho 0 49 i0 3 Try.underlying26 hi0 hz1 g n cap (pE.flat xs) hs hrow ad 0 c [] hx (by simp) (by simp) (by simp) hroom ?_
      intro w2 h2 g2
      refine hK w2 ?_ g2
      unfold El.Row
      show w2.ownsRow 0 49 3 _ _ _
      simpa [hn] using h2
  · obtain ⟨ad, rfl, hc⟩ := hsrc (by simp)
    generalize y :: ys' = ys at *
    have hrow : w.ownsRow 0 49 3 (.slice (some ⟨g, 0, none⟩) n cap) n (pE.flat xs) := by have := h; unfold El.Row at this; rw [hn] at this; exact this
    refine wp_append_own_spare w s x 26 ho 0 49 i0 3 Try.underlying26 hi0 hz1 g n cap (pE.flat xs) hs hrow ad m c (pE.flat ys) hx (by rw [pE.flat_length, hm]) hc (pE.flat_one ys) hroom ?_
    intro w2 h2 g2
    refine hK w2 ?_ g2
    unfold El.Row
    rw [pE.flat_append, List.length_append, hn, hm]
    exact h2
theorem wpList_appSpareP {rest : List Oper} (hgd : o.guard = none) (s x : Operand) (ho : o.op = .call { callee := .builtin .append, args := #[s, x], argTypes := #[26, 26] })
    (g n cap : Nat) (xs : List Pk) (A : Option Addr) (m c : Nat) (ys : List Pk) (hs : a.eval s = .slice (some ⟨g, 0, none⟩) n cap) (hx : a.eval x = .slice A m c) (h : pE.Row w (.slice (some ⟨g, 0, none⟩) n cap) xs) (hn : xs.length = n) (hsrc : pE.Src w A ys) (hm : ys.length = m) (hroom : n + m ≤ cap) (N : Nat) (hN : n + m = N)
    (hK : ∀ w2, pE.Row w2 (.slice (some ⟨g, 0, none⟩) N cap) (xs ++ ys) → w.grownBy w2 (some g) → wpList Try.prog ops Q rest (a.put o.dst (.slice (some ⟨g, 0, none⟩) N cap)) w2) : wpList Try.prog ops Q (o :: rest) a w := by
  subst hN
  exact wpList_plain hgd fun _ hK' => wp_appSpareP s x ho g n cap xs A m c ys hs hx h hn hsrc hm hroom fun w2 h2 h3 => hK' _ _ (hK w2 h2 h3)
end
theorem El.run_makeB {α : Type} {n : Nat} {E : El α n} {T : TypeId} (hT : Try.prog.underlying T = some (.slice E.T)) (w : World) (l c : Nat) (hl : l ≤ c) (hc : c ≤ 100000000) :
    (Instr.makeSlice T (.int .i64 (l : Int)) (.int .i64 (c : Int))).run Try.prog w = .ok (.slice (some ⟨w.heap.size, 0, none⟩) l c) (w.alloc (.cells (madeCells E.z.cells (c * n)) E.T)) := by
  obtain ⟨i0, hi0, hz0, hz1, hz2⟩ := info_parts E.info
  have hw : E.wide * c ≤ 1000 * 100000000 := Nat.mul_le_mul E.small hc
  have hb : (i0.bytes : Int) * (c : Int) ≤ 281474976710656 := by
    rw [hz2]
    have h9 : ((E.wide * c : Nat) : Int) ≤ 100000000000 := by omega
    rw [Int.natCast_mul] at h9
    omega
  have h := run_make (P := Try.prog) w T E.T i0 E.z hT hi0 hz0 .i64 .i64 (l : Int) (c : Int) (by omega) (by omega) hb (by omega)
  simp only [Int.toNat_natCast, hz1] at h
  exact h
theorem El.Row.made0B {α : Type} {n : Nat} {E : El α n} (w : World) (c : Nat) (hc : c ≤ 100000000) : E.Row (w.alloc (.cells (madeCells E.z.cells (c * n)) E.T)) (.slice (some ⟨w.heap.size, 0, none⟩) 0 c) [] :=
  ⟨by simp [El.flat], .inr ⟨w.heap.size, c, _, rfl, Nat.zero_le _, heap_alloc_new w _, Nat.zero_le _, by unfold maxLen; omega, size_madeCells _ _, by simp [El.flat]⟩⟩
theorem pOwn (A : Option Addr) (m c : Nat) (ps : List Pk) (v : Pk) (w : World) (hm : ps.length = m) (hb : m ≤ 1048576) (hsrc : pE.Src w A ps) :
    Calls Try.prog 28 #[.slice A m c, .agg #[.int .i64 v.f, .int .i64 v.l, .int .i64 v.m]] w fun e w' => ∃ g, e = .returned (.slice (some ⟨g, 0, none⟩) m (m + 3)) ∧ pE.Row w' (.slice (some ⟨g, 0, none⟩) (m + 3) (m + 3)) (ps ++ List.replicate 3 v) ∧ Only [] w w' ∧ w.heap.size ≤ g := by
  have HL := Lib.hid hm
  have HB := Lib.hid (PkAt.box w v)
  have OB : Hid (Only [] w (w.alloc (.cells #[.int .i64 v.f, .int .i64 v.l, .int .i64 v.m] 49))) := (Only.refl [] w).alloc _
  go_enter Try.func28, Try.ntmps28
  go_upto_region 1 with fail
  have hle : Hid (w.heap.size ≤ (w.alloc (.cells #[.int .i64 v.f, .int .i64 v.l, .int .i64 v.m] 49)).heap.size) := OB.out.size
  generalize w.alloc (.cells #[.int .i64 v.f, .int .i64 v.l, .int .i64 v.m] 49) = V at *
  have hmk := El.run_makeB (E := pE) Try.underlying26 V 0 (m + 3) (by omega) (by omega)
  have oA : Only [] V (V.alloc (.cells (madeCells pE.z.cells ((m + 3) * 3)) pE.T)) := (Only.refl [] V).alloc _
  have hr0 := El.Row.made0B (E := pE) V (m + 3) (by omega)
  have H0 := Lib.hid (And.intro oA (And.intro hr0 ((hsrc.only0 OB.out).only0 oA)))
  clear oA hr0 hm hsrc
  generalize V.alloc (.cells (madeCells pE.z.cells ((m + 3) * 3)) pE.T) = W at *
  obtain ⟨G, eG⟩ : ∃ G, V.heap.size = G := ⟨_, rfl⟩
  have HG := Lib.hid eG
  rw [eG] at hmk H0
  obtain ⟨bx, ebx⟩ : ∃ bx, w.heap.size = bx := ⟨_, rfl⟩
  have HX := Lib.hid ebx
  rw [ebx] at HB ⊢
  clear eG ebx
  have hc3 : ((m + 3 : Nat) : Int) = (m : Int) + 3 := by omega
  have hc0 : ((0 : Nat) : Int) = 0 := rfl
  rw [hc0, hc3] at hmk
  clear hc3 hc0
  go_wp2_with (first
    | (at_builtin
       refine wpList_appSpareP rfl (.tmp 12) (.tmp 13) rfl G 0 (m + 3) [] A m c ps rfl rfl H0.out.2.1 rfl H0.out.2.2 HL.out (by omega) m (by omega) ?_
       intro w1 h1 g1
       have R1 : Hid (pE.Row w1 (.slice (some ⟨G, 0, none⟩) m (m + 3)) ps ∧ Only [] V w1) := ⟨h1, H0.out.1.grown g1 (fun k hk => .inr (by have := HG.out; simp at hk; omega))⟩
       clear h1 g1))
  go_loopg [7] 5 (fun gk si wr => ∃ p : Nat, si = .int .i64 ((m + p : Nat) : Int) ∧ p ≤ 3 ∧ 5 ≤ gk + p ∧ Hid (pE.Row wr (.slice (some ⟨G, 0, none⟩) (m + p) (m + 3)) (ps ++ List.replicate p v) ∧ Only [] V wr))
  case atStart => exact ⟨0, rfl, by omega, by omega, by rw [List.replicate_zero, List.append_nil]; exact R1.out⟩
  case round =>
    obtain ⟨p, rfl, hp, hg, R⟩ := hrel
    clear R1
    by_cases hp3 : p < 3
    · have h1 : ((m + p : Nat) : Int) < (m : Int) + 3 := by omega
      obtain ⟨q, hq⟩ : ∃ q, m + p = q := ⟨_, rfl⟩
      have HQ := Lib.hid hq
      rw [hq] at h1 R ⊢
      have hq3 : q < m + 3 := by omega
      obtain ⟨rm, ro⟩ := pRow_room R.out.1 (by simp [HL.out]; exact HQ.out) hq3
      have RO := Lib.hid (ro v)
      obtain ⟨_, x0, f0⟩ := rm 0 (by decide)
      obtain ⟨_, x1, f1⟩ := rm 1 (by decide)
      obtain ⟨_, x2, f2⟩ := rm 2 (by decide)
      simp only [Nat.add_zero] at x0 f0
      obtain ⟨y0, y1, y2⟩ := HB.out.only0 R.out.2
      simp only [Nat.zero_add] at y0 y1 y2
      clear hq rm ro
      go_wp2_with fail
      go_roundg (5 - (p + 1))
      case measure => omega
      case rel =>
        have hq := HQ.out
        have hge : V.heap.size ≤ G := by have := HG.out; omega
        refine ⟨p + 1, by rw [show m + (p + 1) = q + 1 by omega]; simp, by omega, by omega, ?_, ((R.out.2.setCell (.inr hge) _).setCell (.inr hge) _).setCell (.inr hge) _⟩
        rw [show m + (p + 1) = q + 1 by omega, List.replicate_succ', ← List.append_assoc]
        exact RO.out
    · have h1 : ¬ (((m + p : Nat) : Int) < (m : Int) + 3) := by omega
      have h2 : decide (((m + p : Nat) : Int) < (m : Int) + 3) = false := decide_eq_false h1
      obtain rfl : p = 3 := by omega
      have F := Lib.hid R.out
      clear R
      go_wp2_with fail
      go_ret
      exact ⟨G, rfl, F.out.1, OB.out.trans' F.out.2, by have := HG.out; have := hle.out; have := HX.out; omega⟩
end Go.Proofs.Ytocokmjobbmodaa
