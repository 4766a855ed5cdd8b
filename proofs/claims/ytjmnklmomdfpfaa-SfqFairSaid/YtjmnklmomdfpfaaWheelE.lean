/-
  Items held against each other; the statements' Same, Plain, Spoil at items.
-/
import Derived.Test.YtjmnklmomdfpfaaWheelI
import Derived.Laws.StructEq
namespace Go.Proofs.Ytjmnklmomdfpfaa
set_option maxRecDepth 100000
open Go.RowKit
set_option linter.unusedVariables false
set_option linter.unusedSimpArgs false

theorem item_guard : Try.prog.eqGuardType Try.prog.depth 43 = false := by kernel_rfl
theorem item_held : Try.prog.stoodInHeld 43 = false := by kernel_rfl
theorem item_struct : Try.prog.underlying 43 = some (.struct (Try.prog.fieldsOf 43)) := by kernel_rfl
theorem item_eql (x y : It) (w : World) : (binOp .eql 43 (.agg #[.int .u64 x.k, .int .i64 x.i]) (.agg #[.int .u64 y.k, .int .i64 y.i])).run Try.prog w = .ok (.bool (decide (x = y))) w := by
  have u1 := Try.underlying3
  have a1 := Try.isAgg3
  have z1 := Try.sizeOf3
  have u2 := Try.underlying27
  have a2 := Try.isAgg27
  have z2 := Try.sizeOf27
  rw [run_eql_struct, show (10000 : Nat) = 9999 + 1 from rfl, run_equalIn_agg w 9999 43 _ _ item_struct item_held]
  simp only [Program.fieldsOf, Try.underlying43]
  go_simp
  obtain ⟨k, i⟩ := x
  obtain ⟨k', i'⟩ := y
  by_cases h1 : k = k' <;> by_cases h2 : i = i' <;> simp [h1, h2]

/-- The closure of Plain. -/
theorem plain1 (x y : It) (w : World) : Calls Try.prog 60 #[.agg #[.int .u64 x.k, .int .i64 x.i], .agg #[.int .u64 y.k, .int .i64 y.i]] w fun e w' =>
    e = .returned (.bool (decide (x = y))) ∧ Only [] w w' := by
  have hg := item_guard
  have he := item_eql x y
  generalize decide (x = y) = b at *
  go_enter Try.func60, Try.ntmps60
  go_wp2
  go_ret
  exact ⟨rfl, ((Only.refl _ _).alloc _).alloc _⟩

theorem ext_gOf {xs ys : List It} (hl : xs.length = ys.length) (h : ∀ k, k < xs.length → gOf xs k = gOf ys k) : xs = ys := by
  apply List.ext_getElem hl
  intro k h1 h2
  have := h k h1
  rw [gOf_get h1, gOf_get h2] at this
  exact this

set_option maxRecDepth 100000 in
set_option maxHeartbeats 2000000 in
theorem hSame (w : World) (v1 v2 : Value) (xs ys : List It) (h1 : RowIs w v1 xs) (h2 : RowIs w v2 ys) (hl1 : xs.length ≤ 1000000) (hl2 : ys.length ≤ 1000000) :
    Calls Try.prog 59 #[v1, v2, .func (.func 60) #[] #[]] w fun e w' => e = .returned (.bool (decide (xs = ys))) ∧ Only [] w w' := by
  obtain ⟨A1, cap1, e1⟩ := h1.form
  obtain ⟨A2, cap2, e2⟩ := h2.form
  have row : ∀ {v : Value} {zs : List It} {A : Option Addr} {cap : Nat}, RowIs w v zs → v = .slice A zs.length cap → Hid (∀ W, Only [] w W → ∀ k, k < zs.length → ∃ g, A = some ⟨g, 0, none⟩ ∧ W.cell? ⟨g, k * 2, none⟩ = some (.int .u64 (gOf zs k).k) ∧ W.cell? ⟨g, k * 2 + 1, none⟩ = some (.int .i64 (gOf zs k).i)) := by
    intro v zs A cap hr he W hW k hk
    have h9 := hr.keep (w' := W) (fun g hg => hW.block g (hr.lt hg) (by simp))
    obtain ⟨g, cap', e, -, -, -, -, hc⟩ := h9.at_ (by omega)
    rw [he] at e
    injection e with e1 e2 e3
    exact ⟨g, e1, (hc k hk).1, (hc k hk).2.1⟩
  have R1 := row h1 e1
  have R2 := row h2 e2
  subst e1 e2
  clear row h1 h2
  by_cases hl : xs.length = ys.length
  · have hl' : ((xs.length : Int) != (ys.length : Int)) = false := by rw [hl]; simp
    have HL := Lib.hid hl
    clear hl
    go_enter Try.func59, Try.ntmps59
    go_wp2_with fail
    go_loopg [7] (xs.length + 1) (fun gk si wr => ∃ p : Nat, si = .int .i64 (p : Int) ∧ p ≤ xs.length ∧ xs.length + 1 ≤ gk + p ∧ Hid (Only [] w wr) ∧ Hid (∀ k, k < p → gOf xs k = gOf ys k))
    case atStart => exact ⟨0, rfl, by omega, by omega, Only.refl _ _, fun k hk => absurd hk (by omega)⟩
    case round =>
      obtain ⟨p, rfl, hp, hg, ho, HK⟩ := hrel
      by_cases hpl : p < xs.length
      · have hpl2 : p < ys.length := by rw [← HL.out]; exact hpl
        obtain ⟨g1, rfl, a0, a1⟩ := R1.out wr ho.out p hpl
        obtain ⟨g2, rfl, b0, b1⟩ := R2.out wr ho.out p hpl2
        have hpl' : (p : Int) < (xs.length : Int) := by omega
        have hpl2' : (p : Int) < (ys.length : Int) := by omega
        obtain ⟨x, ex⟩ : ∃ x, gOf xs p = x := ⟨_, rfl⟩
        obtain ⟨y, ey⟩ : ∃ y, gOf ys p = y := ⟨_, rfl⟩
        rw [ex] at a0 a1
        rw [ey] at b0 b1
        have HX := Lib.hid ex
        have HY := Lib.hid ey
        clear ex ey
        go_wp2_with fail
        go_still_tail 9, (by kernel_rfl)
        change wpList _ _ _ _ _ wr.drew
        go_wp2_with fail
        refine (plain1 x y _).mono ?_
        rintro e w2 ⟨rfl, o2⟩
        have ho2 : Hid (Only [] w w2) := ho.out.drew.trans' o2
        clear o2
        by_cases hxy : x = y
        · have hd : decide (x = y) = true := by simpa using hxy
          have HE := Lib.hid hxy
          clear hxy
          rw [hd]
          clear hd
          go_wp2_with fail
          go_roundg (xs.length + 1 - (p + 1))
          case measure => omega
          case rel => exact ⟨p + 1, by simp, by omega, by omega, ho2, fun k hk => by
            rcases Nat.lt_or_ge k p with h1 | h1
            · exact HK.out k h1
            · have : k = p := by omega
              subst this
              rw [HX.out, HY.out]; exact HE.out⟩
        · have hd : decide (x = y) = false := by simpa using hxy
          have hne : decide (xs = ys) = false := by
            apply decide_eq_false
            intro e
            apply hxy
            rw [← HX.out, ← HY.out, e]
          have HE := Lib.hid hne
          clear hxy hne
          rw [hd]
          clear hd
          go_wp2_with fail
          go_ret
          exact ⟨by rw [HE.out]; rfl, ho2.out⟩
      · have hpl' : decide ((p : Int) < (xs.length : Int)) = false := decide_eq_false (by omega)
        have he : decide (xs = ys) = true := by
          simp only [decide_eq_true_eq]
          exact ext_gOf HL.out (fun k hk => HK.out k (by omega))
        have HE := Lib.hid he
        clear he
        go_wp2_with fail
        go_ret
        exact ⟨by rw [HE.out]; rfl, ho.out⟩
  · have hl' : ((xs.length : Int) != (ys.length : Int)) = true := by simp; omega
    have hne : decide (xs = ys) = false := decide_eq_false (fun e => hl (by rw [e]))
    have HE := Lib.hid hne
    clear hl hne
    go_enter Try.func59, Try.ntmps59
    go_wp2_with fail
    go_ret
    exact ⟨by rw [HE.out]; rfl, Only.refl _ _⟩

theorem hPlain (w : World) (v1 v2 : Value) (xs ys : List It) (h1 : RowIs w v1 xs) (h2 : RowIs w v2 ys) (hl1 : xs.length ≤ 1000000) (hl2 : ys.length ≤ 1000000) :
    Calls Try.prog 35 #[v1, v2] w fun e w' => e = .returned (.bool (decide (xs = ys))) ∧ Only [] w w' := by
  have hs := hSame w v1 v2 xs ys h1 h2 hl1 hl2
  generalize decide (xs = ys) = b at *
  go_enter Try.func35, Try.ntmps35
  go_wp2_with fail
  refine hs.mono ?_
  rintro e w2 ⟨rfl, o2⟩
  go_wp2_with fail
  go_ret
  exact ⟨rfl, o2⟩

set_option maxRecDepth 100000 in
set_option maxHeartbeats 2000000 in
/-- Spoil: the row alone turns. -/
theorem hSpoil (w : World) (v : Value) (xs : List It) (h : RowIs w v xs) (hl : xs.length ≤ 1000000) :
    Calls Try.prog 27 #[v] w fun e w' => e = .returned (.tuple #[]) ∧ Only v.ownBlock.toList w w' := by
  obtain ⟨A, cap, e1⟩ := h.form
  have oA : Only [] w (w.alloc (.cells #[.int .u64 0, .int .i64 0] 43)) := (Only.refl [] w).alloc _
  have bN : Box _ w.heap.size ⟨0, 0⟩ := Box.new w ⟨0, 0⟩
  have hvl : Hid (∀ g, v.ownBlock = some g → g < w.heap.size) := fun g hg => h.lt hg
  have H := Lib.hid h
  have EV := Lib.hid e1
  have hoA : Hid (Only v.ownBlock.toList w (w.alloc (.cells #[.int .u64 0, .int .i64 0] 43))) := oA.mono (by simp)
  have hrA : Hid (RowIs (w.alloc (.cells #[.int .u64 0, .int .i64 0] 43)) v xs) := h.keep fun g hg => oA.block g (h.lt hg) (by simp)
  clear h oA
  generalize hn : xs.length = n at *
  rw [e1]
  clear e1
  go_enter Try.func27, Try.ntmps27
  go_wp2_with fail
  go_loopg [3] (n + 1) (fun gk si wr => ∃ (p : Nat) (zs : List It), si = .int .i64 (p : Int) ∧ p ≤ n ∧ n + 1 ≤ gk + p ∧ Hid (Only v.ownBlock.toList w wr) ∧ Hid (RowIs wr v zs) ∧ Hid (zs.length = n) ∧ Hid (Box wr w.heap.size ⟨0, 0⟩))
  case atStart => exact ⟨0, xs, rfl, by omega, by omega, hoA, hrA, hn, bN⟩
  case round =>
    obtain ⟨p, zs, rfl, hp, hg, ho, hR, hZ, hB⟩ := hrel
    have y0 := hB.out.c0
    have y1 := hB.out.c1
    clear bN hrA hoA
    by_cases hpl : p < n
    · have hpl' : (p : Int) < (n : Int) := by omega
      obtain ⟨g, cap', e, -, -, -, -, hc⟩ := hR.out.at_ (by rw [hZ.out]; omega)
      have e' := e
      rw [EV.out] at e'
      injection e' with e1 e2 e3
      subst e1
      obtain ⟨-, -, f0, f1⟩ := hc p (by rw [hZ.out]; exact hpl)
      obtain ⟨d0, d1, -, -⟩ := hc p (by rw [hZ.out]; exact hpl)
      have hgw := hvl.out g (by rw [e]; rfl)
      have hS := hR.out
      rw [e] at hS
      have HS := Lib.hid (hS.store (k := p) (by rw [hZ.out]; exact hpl) ⟨0, 0⟩)
      have HE := Lib.hid e
      clear hc e e2 e3 hS
      go_wp2_with fail
      go_roundg (n + 1 - (p + 1))
      case measure => omega
      case rel =>
        have hown : v.ownBlock = some g := by rw [HE.out]; rfl
        refine ⟨p + 1, zs.set p ⟨0, 0⟩, by simp, by omega, by omega, ?_, by rw [HE.out]; exact HS.out, by show _ = _; simp; exact hZ.out, ?_⟩
        · exact (ho.out.setCell (by simp [hown]) _).setCell (by simp [hown]) _
        · refine hB.out.only (S := [g]) (((Only.refl _ _).setCell (by simp) _).setCell (by simp) _) (by simp; omega)
    · have hpl' : decide ((p : Int) < (n : Int)) = false := decide_eq_false (by omega)
      go_wp2_with fail
      go_end0
      exact ⟨rfl, by rw [← EV.out]; exact ho.out⟩
end Go.Proofs.Ytjmnklmomdfpfaa
