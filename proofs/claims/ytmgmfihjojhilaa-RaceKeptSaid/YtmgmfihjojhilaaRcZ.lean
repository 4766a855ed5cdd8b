/-
  Kept at events.
-/
import Derived.Test.YtmgmfihjojhilaaRcY
namespace Go.Proofs.Ytmgmfihjojhilaa
set_option maxRecDepth 100000
open Go.RowKit
set_option linter.unusedVariables false
set_option linter.unusedSimpArgs false
set_option maxRecDepth 100000

theorem ev_neq (x y : Ev) (w : World) : (binOp .neq 36 (.agg #[.int .i64 x.who, .int .i64 x.kind, .int .i64 x.lc.k, .int .i64 x.lc.a, .int .i64 x.lc.b]) (.agg #[.int .i64 y.who, .int .i64 y.kind, .int .i64 y.lc.k, .int .i64 y.lc.a, .int .i64 y.lc.b])).run Try.prog w = .ok (.bool (!decide (x = y))) w := by
  have u1 := Try.underlying3
  have a1 := Try.isAgg3
  have z1 := Try.sizeOf3
  rw [run_neq_struct, show (10000 : Nat) = 9999 + 1 from rfl, run_equalIn_agg w 9999 36 _ _ ev_struct ev_held]
  simp only [Program.fieldsOf, Try.underlying36]
  go_simp
  obtain ⟨w1, k1, ⟨a1, b1, c1⟩⟩ := x
  obtain ⟨w2, k2, ⟨a2, b2, c2⟩⟩ := y
  by_cases h1 : w1 = w2 <;> by_cases h2 : k1 = k2 <;> by_cases h3 : a1 = a2 <;> by_cases h4 : b1 = b2 <;> by_cases h5 : c1 = c2 <;> simp [h1, h2, h3, h4, h5]
set_option maxHeartbeats 2000000 in
theorem eKept (A : Option Addr) (m : Nat) (xs : List Ev) (A' : Option Addr) (c' : Nat) (v : Ev) (w : World) (hm : xs.length = m) (hb : m ≤ 100) (h : Evs w A (xs ++ List.replicate 3 v)) (h' : Evs w A' xs) :
    Calls Try.prog 29 #[.slice A m (m + 3), .slice A' m c', .agg #[.int .i64 v.who, .int .i64 v.kind, .int .i64 v.lc.k, .int .i64 v.lc.a, .int .i64 v.lc.b]] w fun e w' => e = .returned (.bool true) ∧ Only [] w w' := by
  have hpl := Lib.hid (fun (V : World) (o : Only [] w V) => ePlain V A A' m (m + 3) c' xs hm (by omega) (h.head.only0 o) (h'.only0 o))
  have HL := Lib.hid hm
  have H := Lib.hid h
  have HB := Lib.hid (EvAt.box w v)
  have OB : Hid (Only [] w (w.alloc (.cells #[.int .i64 v.who, .int .i64 v.kind, .int .i64 v.lc.k, .int .i64 v.lc.a, .int .i64 v.lc.b] 36))) := (Only.refl [] w).alloc _
  obtain ⟨g, rfl, _⟩ := h m v (by rw [List.getElem?_append_right (by omega)]; simp [hm])
  have ne := ev_neq v v
  rw [decide_eq_true rfl] at ne
  clear h h' hm
  go_enter Try.func29, Try.ntmps29
  go_upto_region 1 with fail
  generalize w.alloc (.cells #[.int .i64 v.who, .int .i64 v.kind, .int .i64 v.lc.k, .int .i64 v.lc.a, .int .i64 v.lc.b] 36) = W at *
  generalize w.heap.size = bx at *
  go_wp2_with fail
  refine (hpl.out W OB.out).mono ?_
  rintro e w1 ⟨rfl, o1⟩
  have O1 := Lib.hid o1
  clear o1 hpl
  go_wp2_with fail
  go_loopg [8] 5 (fun gk si wr => ∃ p : Nat, si = .int .i64 ((m + p : Nat) : Int) ∧ p ≤ 3 ∧ 5 ≤ gk + p ∧ Hid (Only [] w1 wr))
  case atStart => exact ⟨0, rfl, by omega, by omega, Only.refl _ _⟩
  case round =>
    obtain ⟨p, rfl, hp, hg, O⟩ := hrel
    by_cases hp3 : p < 3
    · have h1 : ((m + p : Nat) : Int) < (m : Int) + 3 := by omega
      obtain ⟨q, hq⟩ : ∃ q, m + p = q := ⟨_, rfl⟩
      have HQ := Lib.hid hq
      rw [hq] at h1 ⊢
      have hq3 : q < m + 3 := by omega
      obtain ⟨g', eg, x0, x1, x2, x3, x4⟩ := (H.out.only0 ((OB.out.trans' O1.out).trans' O.out)) q v (by
        have := HL.out
        rw [List.getElem?_append_right (by omega), List.getElem?_replicate, if_pos (by omega)])
      injection eg with eg
      injection eg with eg
      subst eg
      obtain ⟨y0, y1, y2, y3, y4⟩ := HB.out.only0 (O1.out.trans' O.out)
      simp only [Nat.zero_add] at y0 y1 y2 y3 y4
      clear hq
      go_wp2_with fail
      go_quiet (fail)
      have O5 : Hid (Only [] w1 (wr.drewN nq)) := O.out.drewN nq
      generalize wr.drewN nq = w5 at *
      go_wp2_with fail
      go_roundg (5 - (p + 1))
      case measure => omega
      case rel =>
        have hq := HQ.out
        exact ⟨p + 1, by rw [show m + (p + 1) = q + 1 by omega]; simp, by omega, by omega, O5⟩
    · have h1 : ¬ (((m + p : Nat) : Int) < (m : Int) + 3) := by omega
      have h2 : decide (((m + p : Nat) : Int) < (m : Int) + 3) = false := decide_eq_false h1
      obtain rfl : p = 3 := by omega
      go_wp2_with fail
      go_ret
      exact ⟨rfl, (OB.out.trans' O1.out).trans' O.out⟩
end Go.Proofs.Ytmgmfihjojhilaa
