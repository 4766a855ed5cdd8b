/-
  Events and locations by value, as they come in and go out.
-/
import Derived.Test.YtmgmfihjojhilaaRcS
namespace Go.Proofs.Ytmgmfihjojhilaa
set_option maxRecDepth 100000
open Go.RowKit Go.ChangeShapes Go.WideShapes Go.ChangeAt Go.Joins Go.Deep
set_option linter.unusedVariables false
set_option linter.unusedSimpArgs false
set_option maxRecDepth 100000

section
variable {H : Type} {enc : TypeId × Value → H} {w : World} {sp : Nat → Bool} {held : Bool} {fuel : Nat}
theorem open_ev {r : Reach} {b0 : Nat} {v : Value} {d : DataW H} {p : List MemPlace} (hv : Value.okWide Try.prog w r b0 36 v) (h : DataW.Trod enc Try.prog w 0 sp held 36 v d p) :
    ∃ a b k x y : Int, v = .agg #[.int .i64 a, .int .i64 b, .int .i64 k, .int .i64 x, .int .i64 y] ∧ d = .agg [.lit (.int .i64 a), .lit (.int .i64 b), .agg [.lit (.int .i64 k), .lit (.int .i64 x), .lit (.int .i64 y)]] ∧ p = [] ∧ (Lit.int .i64 a).wf = true ∧ (Lit.int .i64 b).wf = true ∧ (Lit.int .i64 k).wf = true ∧ (Lit.int .i64 x).wf = true ∧ (Lit.int .i64 y).wf = true := by
  obtain ⟨cs, rfl, hsz⟩ := okWide_struct Try.underlying36 hv
  obtain ⟨c0, c1, c2, c3, c4, rfl⟩ := array5e (hsz.trans cellsEv)
  obtain ⟨fuel, hf⟩ := h
  obtain ⟨ys, n, _, hx, hl, hyl, hg⟩ := DataW.trod_struct Try.underlying36 hf
  have t0 := hg 0 _ rfl
  have t1 := hg 1 _ rfl
  have t2 := hg 2 _ rfl
  simp [cellsI, cellsLc, Value.cells] at t0 t1 t2
  match ys, hyl with
  | [u0, u1, u2], _ =>
    simp at t0 t1 t2
    obtain ⟨z0, q0, e0, w0⟩ := DataW.trod_int Try.underlying3 t0
    obtain ⟨z1, q1, e1, w1⟩ := DataW.trod_int Try.underlying3 t1
    obtain ⟨ys', n2, _, hx2, _, hyl', hf'⟩ := DataW.trod_struct Try.underlying34 t2
    have t3 := hf' 0 _ rfl
    have t4 := hf' 1 _ rfl
    have t5 := hf' 2 _ rfl
    simp [cellsI] at t3 t4 t5
    match ys', hyl' with
    | [u3, u4, u5], _ =>
      simp at t3 t4 t5
      obtain ⟨z2, q2, e2, w2⟩ := DataW.trod_int Try.underlying3 t3
      obtain ⟨z3, q3, e3, w3⟩ := DataW.trod_int Try.underlying3 t4
      obtain ⟨z4, q4, e4, w4⟩ := DataW.trod_int Try.underlying3 t5
      injection q0 with q0 _
      injection q1 with q1 _
      injection q2 with q2 _
      injection q3 with q3 _
      injection q4 with q4 _
      subst q0 q1 q2 q3 q4
      subst e0 e1 e2 e3 e4
      subst hx2
      injection hx with h1 h2
      subst h1 h2
      exact ⟨z0, z1, z2, z3, z4, rfl, rfl, rfl, w0, w1, w2, w3, w4⟩
theorem reads_ev {a b k x y : Int} (h0 : (Lit.int .i64 a).wf = true) (h1 : (Lit.int .i64 b).wf = true) (h2 : (Lit.int .i64 k).wf = true) (h3 : (Lit.int .i64 x).wf = true) (h4 : (Lit.int .i64 y).wf = true) (W' : World) (sp : Nat → Bool) (held : Bool) :
    DataW.Trod enc Try.prog W' 0 sp held 36 (.agg #[.int .i64 a, .int .i64 b, .int .i64 k, .int .i64 x, .int .i64 y]) (.agg [.lit (.int .i64 a), .lit (.int .i64 b), .agg [.lit (.int .i64 k), .lit (.int .i64 x), .lit (.int .i64 y)]]) [] := by
  have ti := trod_struct_mk (enc := enc) (P := Try.prog) (w := W') (base := 0) (spare := sp) (held := held) (n := 1) (cs := [.int .i64 k, .int .i64 x, .int .i64 y]) (xs := [(.lit (.int .i64 k), []), (.lit (.int .i64 x), []), (.lit (.int .i64 y), [])]) Try.underlying34 (by simp [cellsLc])
    (by simp [DataW.trod, Try.underlying3, h2, h3, h4, cellsI])
  simp only [List.map_cons, List.map_nil, List.flatMap_cons, List.flatMap_nil, List.append_nil] at ti
  have ii : ∀ z : Int, (Lit.int .i64 z).wf = true → DataW.trod enc Try.prog W' 0 sp held (1 + 1) 3 [.int .i64 z] = some (.lit (.int .i64 z), []) := fun z hz => by simp [DataW.trod, Try.underlying3, hz]
  have ts := trod_struct_mk (enc := enc) (P := Try.prog) (w := W') (base := 0) (spare := sp) (held := held) (n := 1 + 1) (cs := [.int .i64 a, .int .i64 b, .int .i64 k, .int .i64 x, .int .i64 y]) (xs := [(.lit (.int .i64 a), []), (.lit (.int .i64 b), []), (.agg [.lit (.int .i64 k), .lit (.int .i64 x), .lit (.int .i64 y)], [])]) Try.underlying36 (by simp [cellsEv])
    (by
      simp only [List.mapM_cons, List.mapM_nil, cellsI, cellsLc, List.drop_zero, List.drop_succ_cons, List.take_succ_cons, List.take_zero]
      rw [ii a h0, ii b h1, ti]
      rfl)
  exact ⟨_, by simpa [Value.cells] using ts⟩
theorem reads_lc {k i j : Int} (hk : (Lit.int .i64 k).wf = true) (hi : (Lit.int .i64 i).wf = true) (hj : (Lit.int .i64 j).wf = true) (W' : World) (sp : Nat → Bool) (held : Bool) : DataW.Trod enc Try.prog W' 0 sp held 34 (.agg #[.int .i64 k, .int .i64 i, .int .i64 j]) (.agg [.lit (.int .i64 k), .lit (.int .i64 i), .lit (.int .i64 j)]) [] :=
  shut_agg3 (y0 := (.lit (.int .i64 k), [])) (y1 := (.lit (.int .i64 i), [])) (y2 := (.lit (.int .i64 j), [])) Try.underlying34 (by kernel_rfl) cellsLc ⟨1, by simp [DataW.trod, Try.underlying3, hk]⟩ ⟨1, by simp [DataW.trod, Try.underlying3, hi]⟩ ⟨1, by simp [DataW.trod, Try.underlying3, hj]⟩
end
end Go.Proofs.Ytmgmfihjojhilaa
