/-
  Kept of packets.
-/
import Derived.Test.YtocokmjobbmodaaHsK
namespace Go.Proofs.Ytocokmjobbmodaa
set_option maxRecDepth 100000
open Go.RowKit
set_option linter.unusedVariables false
set_option linter.unusedSimpArgs false
set_option maxRecDepth 100000

set_option maxHeartbeats 2000000
theorem pk_neq (x : Pk) (w : World) : (binOp .neq 49 (.agg #[.int .i64 x.f, .int .i64 x.l, .int .i64 x.m]) (.agg #[.int .i64 x.f, .int .i64 x.l, .int .i64 x.m])).run Try.prog w = .ok (.bool false) w := by
  have u1 := Try.underlying3
  have a1 := Try.isAgg3
  have z1 := Try.sizeOf3
  rw [run_neq_struct, show (10000 : Nat) = 9999 + 1 from rfl, run_equalIn_agg w 9999 49 _ _ pk_struct pk_held]
  simp only [Program.fieldsOf, Try.underlying49]
  go_simp
theorem src_take {w : World} {A : Option Addr} {ps qs : List Pk} (h : pE.Src w A (ps ++ qs)) : pE.Src w A ps := fun h0 => by
  obtain ⟨ad, e, hc⟩ := h (by
    intro e
    exact h0 (List.append_eq_nil_iff.1 e).1)
  refine ⟨ad, e, fun j u hu => hc j u ?_⟩
  rw [pE.flat_append, List.getElem?_append_left (List.getElem?_eq_some_iff.1 hu).1]
  exact hu
theorem pKept (g : Nat) (m : Nat) (ps : List Pk) (A' : Option Addr) (c' : Nat) (v : Pk) (w : World) (hm : ps.length = m) (hb : m ≤ 1048576) (h : pE.Row w (.slice (some ⟨g, 0, none⟩) (m + 3) (m + 3)) (ps ++ List.replicate 3 v)) (h' : pE.Src w A' ps) :
    Calls Try.prog 31 #[.slice (some ⟨g, 0, none⟩) m (m + 3), .slice A' m c', .agg #[.int .i64 v.f, .int .i64 v.l, .int .i64 v.m]] w fun e w' => e = .returned (.bool true) ∧ Only [] w w' := by
  have hpl := Lib.hid (fun (V : World) (o : Only [] w V) => pPlain V (some ⟨g, 0, none⟩) A' m (m + 3) c' ps hm hb ((src_take (El.Src.of_row h)).only0 o) (h'.only0 o))
  have HL := Lib.hid hm
  have H := Lib.hid h
  have HB := Lib.hid (PkAt.box w v)
  have OB : Hid (Only [] w (w.alloc (.cells #[.int .i64 v.f, .int .i64 v.l, .int .i64 v.m] 49))) := (Only.refl [] w).alloc _
  have ne := pk_neq v
  clear h h' hm
  go_enter Try.func31, Try.ntmps31
  go_upto_region 1 with fail
  generalize w.alloc (.cells #[.int .i64 v.f, .int .i64 v.l, .int .i64 v.m] 49) = W at *
  generalize w.heap.size = bx at *
  go_wp2_with fail
  refine (hpl.out W OB.out).mono ?_
  rintro e w1 ⟨rfl, o1⟩
  have O1 := Lib.hid o1
  clear o1 hpl
  go_wp2_with fail
  go_loopg [8] 5 (fun gk si wr => ∃ p : Nat, si = .int .i64 ((m + p : Nat) : Int) ∧ p ≤ 3 ∧ 5 ≤ gk + p ∧ Hid (Only [] w1 wr))
  case atStart => exact ⟨0, rfl, by omega, by omega, Only.refl _ _⟩
  case round =>
    obtain ⟨p, rfl, hp, hg, O⟩ := hrel
    by_cases hp3 : p < 3
    · have h1 : ((m + p : Nat) : Int) < (m : Int) + 3 := by omega
      obtain ⟨q, hq⟩ : ∃ q, m + p = q := ⟨_, rfl⟩
      have HQ := Lib.hid hq
      rw [hq] at h1 ⊢
      have hq3 : q < m + 3 := by omega
      obtain ⟨g', eg, x0, x1, x2⟩ := pkAt_row (H.out.only0 ((OB.out.trans' O1.out).trans' O.out)) (k := q) (x := v) (by
        have := HL.out
        rw [List.getElem?_append_right (by omega), List.getElem?_replicate, if_pos (by omega)])
      injection eg with eg
      injection eg with eg
      subst eg
      obtain ⟨y0, y1, y2⟩ := HB.out.only0 (O1.out.trans' O.out)
      simp only [Nat.zero_add] at y0 y1 y2
      clear hq
      go_wp2_with fail
      go_quiet (fail)
      have O5 : Hid (Only [] w1 (wr.drewN nq)) := O.out.drewN nq
      generalize wr.drewN nq = w5 at *
      go_wp2_with fail
      go_roundg (5 - (p + 1))
      case measure => omega
      case rel =>
        have hq := HQ.out
        exact ⟨p + 1, by rw [show m + (p + 1) = q + 1 by omega]; simp, by omega, by omega, O5⟩
    · have h1 : ¬ (((m + p : Nat) : Int) < (m : Int) + 3) := by omega
      have h2 : decide (((m + p : Nat) : Int) < (m : Int) + 3) = false := decide_eq_false h1
      obtain rfl : p = 3 := by omega
      go_wp2_with fail
      go_ret
      exact ⟨rfl, (OB.out.trans' O1.out).trans' O.out⟩
end Go.Proofs.Ytocokmjobbmodaa
