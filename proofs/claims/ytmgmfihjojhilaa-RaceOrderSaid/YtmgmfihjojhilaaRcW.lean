/-
  Own at events.
-/
import Derived.Test.YtmgmfihjojhilaaRcOw
import Derived.Deep.DeepAppendRoom
namespace Go.Proofs.Ytmgmfihjojhilaa
set_option maxRecDepth 100000
open Go.RowKit
set_option linter.unusedVariables false
set_option linter.unusedSimpArgs false
set_option maxRecDepth 100000

section
variable {w : World} {ops : Array Oper} {o : Oper} {a : Act} {K : Act → World → Prop} {Q : Exit → Act → World → Prop}
/-- A list behind a row that has room for it. -/
theorem wp_appSpareE (s x : Operand) (ho : o.op = .call { callee := .builtin .append, args := #[s, x], argTypes := #[22, 22] })
    (g n cap : Nat) (xs : List Ev) (A : Option Addr) (m c : Nat) (ys : List Ev) (hs : a.eval s = .slice (some ⟨g, 0, none⟩) n cap) (hx : a.eval x = .slice A m c) (h : eE.Row w (.slice (some ⟨g, 0, none⟩) n cap) xs) (hn : xs.length = n) (hsrc : eE.Src w A ys) (hm : ys.length = m) (hroom : n + m ≤ cap)
    (hK : ∀ w2, eE.Row w2 (.slice (some ⟨g, 0, none⟩) (n + m) cap) (xs ++ ys) → w.grownBy w2 (some g) → K (a.put o.dst (.slice (some ⟨g, 0, none⟩) (n + m) cap)) w2) : o.wp Try.prog a w K Q := by
  obtain ⟨i0, hi0, hz0, hz1, hz2⟩ := info_parts eE.info
  rcases ys with _ | ⟨y, ys'⟩
  · obtain rfl : m = 0 := by simpa using hm.symm
    have r1 : (Builtin.append_ #[22, 22] o.type #[.slice (some ⟨g, 0, none⟩) n cap, .slice A 0 c]).run Try.prog w = .ok (.slice (some ⟨g, 0, none⟩) n cap) w ∨ ∃ ad, A = some ad := by
      rcases A with _ | ad
      · left
        rcases h.2 with ⟨e, _⟩ | ⟨g', cap', cur, e, _, _, hnc, _⟩
        · cases e
        · injection e with e1 e2 e3
          injection e1 with e1
          injection e1 with e1
          subst e1 e2 e3
          have hi1 : Try.prog.info? 36 = some i0 := hi0
          simp [Builtin.append_, run_underlying Try.underlying22, sizeOf, typeInfo, hi1, Builtin.lenOf, Builtin.firstCells, hnc, storeCells]
      · exact .inr ⟨ad, rfl⟩
    rcases r1 with r1 | ⟨ad, rfl⟩
    · unfold Oper.wp execOp
      simp only [ho, resolve, invoke, builtin, Sem.run_bind, Sem.run_pure, Result.andThen_ok, List.map_toArray, List.map_cons, List.map_nil, hs, hx, r1]
      exact hK w (by simpa using h) (World.grownBy.refl w _)
    · have hrow : w.ownsRow 0 36 5 (.slice (some ⟨g, 0, none⟩) n cap) n (eE.flat xs) := by rw [← hn]; rw [hn]; have := h; unfold El.Row at this; rw [hn] at this; exact this
      refine wp_append_own_spare w s x 22 ho 0 36 i0 5 Try.underlying22 hi0 hz1 g n cap (eE.flat xs) hs hrow ad 0 c [] hx (by simp) (by simp) (by simp) hroom ?_
      intro w2 h2 g2
      refine hK w2 ?_ g2
      unfold El.Row
      show w2.ownsRow 0 36 5 _ _ _
      simpa [hn] using h2
  · obtain ⟨ad, rfl, hc⟩ := hsrc (by simp)
    generalize y :: ys' = ys at *
    have hrow : w.ownsRow 0 36 5 (.slice (some ⟨g, 0, none⟩) n cap) n (eE.flat xs) := by have := h; unfold El.Row at this; rw [hn] at this; exact this
    refine wp_append_own_spare w s x 22 ho 0 36 i0 5 Try.underlying22 hi0 hz1 g n cap (eE.flat xs) hs hrow ad m c (eE.flat ys) hx (by rw [eE.flat_length, hm]) hc (eE.flat_one ys) hroom ?_
    intro w2 h2 g2
    refine hK w2 ?_ g2
    unfold El.Row
    rw [eE.flat_append, List.length_append, hn, hm]
    exact h2
theorem wpList_appSpareE {rest : List Oper} (hgd : o.guard = none) (s x : Operand) (ho : o.op = .call { callee := .builtin .append, args := #[s, x], argTypes := #[22, 22] })
    (g n cap : Nat) (xs : List Ev) (A : Option Addr) (m c : Nat) (ys : List Ev) (hs : a.eval s = .slice (some ⟨g, 0, none⟩) n cap) (hx : a.eval x = .slice A m c) (h : eE.Row w (.slice (some ⟨g, 0, none⟩) n cap) xs) (hn : xs.length = n) (hsrc : eE.Src w A ys) (hm : ys.length = m) (hroom : n + m ≤ cap) (N : Nat) (hN : n + m = N)
    (hK : ∀ w2, eE.Row w2 (.slice (some ⟨g, 0, none⟩) N cap) (xs ++ ys) → w.grownBy w2 (some g) → wpList Try.prog ops Q rest (a.put o.dst (.slice (some ⟨g, 0, none⟩) N cap)) w2) : wpList Try.prog ops Q (o :: rest) a w := by
  subst hN
  exact wpList_plain hgd fun _ hK' => wp_appSpareE s x ho g n cap xs A m c ys hs hx h hn hsrc hm hroom fun w2 h2 h3 => hK' _ _ (hK w2 h2 h3)
end
set_option maxHeartbeats 2000000 in
theorem eOwn (A : Option Addr) (m c : Nat) (xs : List Ev) (v : Ev) (w : World) (hm : xs.length = m) (hb : m ≤ 100) (h : Evs w A xs) (hsrc : eE.Src w A xs) :
    Calls Try.prog 26 #[.slice A m c, .agg #[.int .i64 v.who, .int .i64 v.kind, .int .i64 v.lc.k, .int .i64 v.lc.a, .int .i64 v.lc.b]] w fun e w' => ∃ g, e = .returned (.slice (some ⟨g, 0, none⟩) m (m + 3)) ∧ Evs w' (some ⟨g, 0, none⟩) (xs ++ List.replicate 3 v) ∧ Only [] w w' ∧ w.heap.size ≤ g := by
  have HL := Lib.hid hm
  have HB := Lib.hid (EvAt.box w v)
  have OB : Hid (Only [] w (w.alloc (.cells #[.int .i64 v.who, .int .i64 v.kind, .int .i64 v.lc.k, .int .i64 v.lc.a, .int .i64 v.lc.b] 36))) := (Only.refl [] w).alloc _
  go_enter Try.func26, Try.ntmps26
  go_upto_region 1 with fail
  have hle : Hid (w.heap.size ≤ (w.alloc (.cells #[.int .i64 v.who, .int .i64 v.kind, .int .i64 v.lc.k, .int .i64 v.lc.a, .int .i64 v.lc.b] 36)).heap.size) := OB.out.size
  have hlt : Hid (w.heap.size < (w.alloc (.cells #[.int .i64 v.who, .int .i64 v.kind, .int .i64 v.lc.k, .int .i64 v.lc.a, .int .i64 v.lc.b] 36)).heap.size) := by show _ < _; simp
  generalize w.alloc (.cells #[.int .i64 v.who, .int .i64 v.kind, .int .i64 v.lc.k, .int .i64 v.lc.a, .int .i64 v.lc.b] 36) = V at *
  have hmk := El.run_make_ (E := eE) Try.underlying22 V 0 (m + 3) (by omega) (by omega)
  have oA : Only [] V (V.alloc (.cells (madeCells eE.z.cells ((m + 3) * 5)) eE.T)) := (Only.refl [] V).alloc _
  have hr0 := El.Row.made0 (E := eE) V (m + 3) (by omega)
  have H0 := Lib.hid (And.intro oA (And.intro hr0 ((hsrc.only0 OB.out).only0 oA)))
  clear h oA hr0 hm hsrc
  generalize V.alloc (.cells (madeCells eE.z.cells ((m + 3) * 5)) eE.T) = W at *
  obtain ⟨G, eG⟩ : ∃ G, V.heap.size = G := ⟨_, rfl⟩
  have HG := Lib.hid eG
  rw [eG] at hmk H0
  obtain ⟨bx, ebx⟩ : ∃ bx, w.heap.size = bx := ⟨_, rfl⟩
  have HX := Lib.hid ebx
  rw [ebx] at HB ⊢
  clear eG ebx
  have hc3 : ((m + 3 : Nat) : Int) = (m : Int) + 3 := by omega
  have hc0 : ((0 : Nat) : Int) = 0 := rfl
  rw [hc0, hc3] at hmk
  clear hc3 hc0
  go_wp2_with (first
    | (at_builtin
       refine wpList_appSpareE rfl (.tmp 12) (.tmp 13) rfl G 0 (m + 3) [] A m c xs rfl rfl H0.out.2.1 rfl H0.out.2.2 HL.out (by omega) m (by omega) ?_
       intro w1 h1 g1
       have R1 : Hid (eE.Row w1 (.slice (some ⟨G, 0, none⟩) m (m + 3)) xs ∧ Only [] V w1) := ⟨h1, H0.out.1.grown g1 (fun k hk => .inr (by have := HG.out; simp at hk; omega))⟩
       clear h1 g1))
  go_loopg [7] 5 (fun gk si wr => ∃ p : Nat, si = .int .i64 ((m + p : Nat) : Int) ∧ p ≤ 3 ∧ 5 ≤ gk + p ∧ Hid (eE.Row wr (.slice (some ⟨G, 0, none⟩) (m + p) (m + 3)) (xs ++ List.replicate p v) ∧ Only [] V wr))
  case atStart => exact ⟨0, rfl, by omega, by omega, by rw [List.replicate_zero, List.append_nil]; exact R1.out⟩
  case round =>
    obtain ⟨p, rfl, hp, hg, R⟩ := hrel
    clear R1
    by_cases hp3 : p < 3
    · have h1 : ((m + p : Nat) : Int) < (m : Int) + 3 := by omega
      obtain ⟨q, hq⟩ : ∃ q, m + p = q := ⟨_, rfl⟩
      have HQ := Lib.hid hq
      rw [hq] at h1 R ⊢
      have hq3 : q < m + 3 := by omega
      obtain ⟨rm, ro⟩ := eRow_room R.out.1 (by simp [HL.out]; exact HQ.out) hq3
      have RO := Lib.hid (ro v)
      obtain ⟨_, x0, f0⟩ := rm 0 (by decide)
      obtain ⟨_, x1, f1⟩ := rm 1 (by decide)
      obtain ⟨_, x2, f2⟩ := rm 2 (by decide)
      obtain ⟨_, x3, f3⟩ := rm 3 (by decide)
      obtain ⟨_, x4, f4⟩ := rm 4 (by decide)
      simp only [Nat.add_zero] at x0 f0
      obtain ⟨y0, y1, y2, y3, y4⟩ := HB.out.only0 R.out.2
      simp only [Nat.zero_add] at y0 y1 y2 y3 y4
      clear hq rm ro
      go_wp2_with fail
      go_roundg (5 - (p + 1))
      case measure => omega
      case rel =>
        have hq := HQ.out
        have hge : V.heap.size ≤ G := by have := HG.out; omega
        refine ⟨p + 1, by rw [show m + (p + 1) = q + 1 by omega]; simp, by omega, by omega, ?_, ((((R.out.2.setCell (.inr hge) _).setCell (.inr hge) _).setCell (.inr hge) _).setCell (.inr hge) _).setCell (.inr hge) _⟩
        rw [show m + (p + 1) = q + 1 by omega, List.replicate_succ', ← List.append_assoc]
        exact RO.out
    · have h1 : ¬ (((m + p : Nat) : Int) < (m : Int) + 3) := by omega
      have h2 : decide (((m + p : Nat) : Int) < (m : Int) + 3) = false := decide_eq_false h1
      obtain rfl : p = 3 := by omega
      have F := Lib.hid R.out
      clear R
      go_wp2_with fail
      go_ret
      exact ⟨G, rfl, Evs.of_row F.out.1, OB.out.trans' F.out.2, by have := HG.out; have := hle.out; have := HX.out; omega⟩
end Go.Proofs.Ytmgmfihjojhilaa
