/-
  What a law's frame wants of the program: its knobs, its layout; a config by value, slices of calls that came in.
-/
import Derived.Test.YtklolepmmabijaaMdL
import Derived.ProofKit
import Derived.OpenShut
import Derived.ChangeOld
import Derived.Deep.Slices
import Derived.Deep.LoopGhost
import Derived.Deep.DeepCutAuto
import Derived.Lib.SmallJoins
namespace Go.Proofs.Ytklolepmmabijaa
set_option maxRecDepth 100000
open Go.RowKit Go.ChangeShapes Go.WideShapes Go.ChangeAt Go.Joins Go.Deep
set_option linter.unusedVariables false
set_option linter.unusedSimpArgs false
set_option maxRecDepth 100000

theorem own : ownKnob Try.prog.godebug = none := by kernel_rfl
theorem laidOut : laidOutB Try.prog = true := by kernel_rfl
theorem cellsCf : Try.prog.cellsOf 24 = 5 := by kernel_rfl
theorem cellsCl : Try.prog.cellsOf 44 = 4 := by kernel_rfl
theorem U64.of_wf {a : Int} (h : (Lit.int .u64 a).wf = true) : U64 a := by
  simp [Lit.wf, IntKind.min, IntKind.max, IntKind.signed, IntKind.bits] at h
  unfold U64
  omega
theorem array5 {α : Type} {cs : Array α} (h : cs.size = 5) : ∃ c0 c1 c2 c3 c4, cs = #[c0, c1, c2, c3, c4] := by
  obtain ⟨l⟩ := cs
  match l, h with
  | [c0, c1, c2, c3, c4], _ => exact ⟨c0, c1, c2, c3, c4, rfl⟩
section
variable {H : Type} {enc : TypeId × Value → H} {w : World} {sp : Nat → Bool} {held : Bool} {fuel : Nat}
theorem open_cf {r : Reach} {b0 : Nat} {v : Value} {d : DataW H} {p : List MemPlace} (hv : Value.okWide Try.prog w r b0 24 v) (h : DataW.Trod enc Try.prog w 0 sp held 24 v d p) :
    ∃ a b c e f : Int, v = .agg #[.int .i64 a, .int .i64 b, .int .i64 c, .int .i64 e, .int .u64 f] ∧ d = .agg [.lit (.int .i64 a), .lit (.int .i64 b), .lit (.int .i64 c), .lit (.int .i64 e), .lit (.int .u64 f)] ∧ p = [] ∧ (Lit.int .i64 a).wf = true ∧ (Lit.int .i64 b).wf = true ∧ (Lit.int .i64 c).wf = true ∧ (Lit.int .i64 e).wf = true ∧ (Lit.int .u64 f).wf = true := by
  obtain ⟨cs, rfl, hsz⟩ := okWide_struct Try.underlying24 hv
  obtain ⟨c0, c1, c2, c3, c4, rfl⟩ := array5 (hsz.trans cellsCf)
  obtain ⟨fuel, hf⟩ := h
  obtain ⟨ys, n, _, hx, hl, hyl, hg⟩ := DataW.trod_struct Try.underlying24 hf
  have k0 : Try.prog.cellsOf 22 = 1 := by kernel_rfl
  have k1 : Try.prog.cellsOf 3 = 1 := by kernel_rfl
  have t0 := hg 0 _ rfl
  have t1 := hg 1 _ rfl
  have t2 := hg 2 _ rfl
  have t3 := hg 3 _ rfl
  have t4 := hg 4 _ rfl
  simp [k0, k1, Value.cells] at t0 t1 t2 t3 t4
  match ys, hyl with
  | [u0, u1, u2, u3, u4], _ =>
    simp at t0 t1 t2 t3 t4
    obtain ⟨z0, q0, e0, w0⟩ := DataW.trod_int Try.underlying3 t0
    obtain ⟨z1, q1, e1, w1⟩ := DataW.trod_int Try.underlying3 t1
    obtain ⟨z2, q2, e2, w2⟩ := DataW.trod_int Try.underlying3 t2
    obtain ⟨z3, q3, e3, w3⟩ := DataW.trod_int Try.underlying3 t3
    obtain ⟨z4, q4, e4, w4⟩ := DataW.trod_int Try.underlying22 t4
    injection q0 with q0 _
    injection q1 with q1 _
    injection q2 with q2 _
    injection q3 with q3 _
    injection q4 with q4 _
    subst q0 q1 q2 q3 q4
    subst e0 e1 e2 e3 e4
    injection hx with h1 h2
    subst h1 h2
    exact ⟨z0, z1, z2, z3, z4, rfl, rfl, rfl, w0, w1, w2, w3, w4⟩
theorem reads_cf {a b c e f : Int} (h0 : (Lit.int .i64 a).wf = true) (h1 : (Lit.int .i64 b).wf = true) (h2 : (Lit.int .i64 c).wf = true) (h3 : (Lit.int .i64 e).wf = true) (h4 : (Lit.int .u64 f).wf = true) (W' : World) (sp : Nat → Bool) (held : Bool) :
    DataW.Trod enc Try.prog W' 0 sp held 24 (.agg #[.int .i64 a, .int .i64 b, .int .i64 c, .int .i64 e, .int .u64 f]) (.agg [.lit (.int .i64 a), .lit (.int .i64 b), .lit (.int .i64 c), .lit (.int .i64 e), .lit (.int .u64 f)]) [] := by
  have k0 : Try.prog.cellsOf 22 = 1 := by kernel_rfl
  have k1 : Try.prog.cellsOf 3 = 1 := by kernel_rfl
  have ts := trod_struct_mk (enc := enc) (w := W') (base := 0) (spare := sp) (held := held) (n := 1) (cs := [.int .i64 a, .int .i64 b, .int .i64 c, .int .i64 e, .int .u64 f]) (xs := [(.lit (.int .i64 a), []), (.lit (.int .i64 b), []), (.lit (.int .i64 c), []), (.lit (.int .i64 e), []), (.lit (.int .u64 f), [])]) Try.underlying24 (by simp [cellsCf])
    (by simp [DataW.trod, Try.underlying3, Try.underlying22, h0, h1, h2, h3, h4, k0, k1])
  exact ⟨_, by simpa [Value.cells] using ts⟩
end
/-- A slice of calls that came in. -/
def InCalls (w : World) (A : Option Addr) (len : Nat) (ds : Nat → Cl) : Prop :=
  ∀ k, k < len → (ds k).ok ∧ ∃ (x : Addr) (b o : Nat) (s : Option Nat), A = some x ∧ x.add (k * 4) = ⟨b, o, s⟩ ∧ b < w.heap.size ∧ w.cell? ⟨b, o, s⟩ = some (.int .i64 (ds k).op) ∧ w.cell? ⟨b, o + 1, none⟩ = some (.int .i64 (ds k).f) ∧ w.cell? ⟨b, o + 2, none⟩ = some (.int .i64 (ds k).a) ∧ w.cell? ⟨b, o + 3, none⟩ = some (.int .i64 (ds k).b)
theorem add_atM (x : Addr) (n j : Nat) (hj : 0 < j) {b o : Nat} {s : Option Nat} (h : x.add n = ⟨b, o, s⟩) : x.add (n + j) = ⟨b, o + j, none⟩ := by
  unfold Addr.add at h ⊢
  rw [if_neg (by omega)]
  split at h
  · rename_i h0
    subst h0
    subst h
    simp
  · injection h with h1 h2 h3
    subst h1 h2
    simp [Nat.add_assoc]
section
variable {H : Type} {enc : TypeId × Value → H} {w : World} {sp : Nat → Bool} {held : Bool} {fuel : Nat}
theorem open_calls {a : Option Addr} {len cap : Nat} {x : DataW H × List MemPlace} (h : DataW.trod enc Try.prog w 0 sp held fuel 62 [.slice a len cap] = some x) : ∃ ds, InCalls w a len ds := by
  rcases open_slice Try.underlying62 h with ⟨e, _⟩ | ⟨ad, len', cap', m, n, D, Pl, e, _, hl, hm, hmm, _, hx⟩
  · injection e with e _
    injection e with e1 e2 e3
    subst e1 e2
    exact ⟨fun _ => default, fun k hk => absurd hk (by omega)⟩
  · injection e with e _
    injection e with e1 e2 e3
    subst e1 e2 e3
    have hlm : len ≤ m := by rw [hmm]; split <;> omega
    have each : ∀ k, k < len → ∃ z : Cl, z.ok ∧ ∃ (b o : Nat) (s : Option Nat), ad.add (k * 4) = ⟨b, o, s⟩ ∧ b < w.heap.size ∧ w.cell? ⟨b, o, s⟩ = some (.int .i64 z.op) ∧ w.cell? ⟨b, o + 1, none⟩ = some (.int .i64 z.f) ∧ w.cell? ⟨b, o + 2, none⟩ = some (.int .i64 z.a) ∧ w.cell? ⟨b, o + 3, none⟩ = some (.int .i64 z.b) := by
      intro k hk
      obtain ⟨cs', g1, g2⟩ := hx k (by omega)
      rw [cellsCl] at g1
      obtain ⟨_, hcl, hcell⟩ := World.cells?_some g1
      obtain ⟨ys, n', _, _, _, hyl, hf⟩ := DataW.trod_struct Try.underlying44 g2
      match cs', hcl with
      | [v0, v1, v2, v3], _ =>
        have t0 := hf 0 _ rfl
        have t1 := hf 1 _ rfl
        have t2 := hf 2 _ rfl
        have t3 := hf 3 _ rfl
        have k1 : Try.prog.cellsOf 3 = 1 := by kernel_rfl
        simp [k1] at t0 t1 t2 t3
        match ys, hyl with
        | [u0, u1, u2, u3], _ =>
          simp at t0 t1 t2 t3
          obtain ⟨z0, q0, _, w0⟩ := DataW.trod_int Try.underlying3 t0
          obtain ⟨z1, q1, _, w1⟩ := DataW.trod_int Try.underlying3 t1
          obtain ⟨z2, q2, _, w2⟩ := DataW.trod_int Try.underlying3 t2
          obtain ⟨z3, q3, _, w3⟩ := DataW.trod_int Try.underlying3 t3
          injection q0 with q0 _
          injection q1 with q1 _
          injection q2 with q2 _
          injection q3 with q3 _
          subst q0 q1 q2 q3
          have e0 := hcell 0 (by omega)
          have e1 := hcell 1 (by omega)
          have e2 := hcell 2 (by omega)
          have e3 := hcell 3 (by omega)
          rw [Go.Deep.add_add] at e0 e1 e2 e3
          simp at e0 e1 e2 e3
          obtain ⟨⟨b, o, s⟩, eA⟩ : ∃ A, ad.add (k * 4) = A := ⟨_, rfl⟩
          rw [eA] at e0
          rw [add_atM ad (k * 4) 1 (by omega) eA] at e1
          rw [add_atM ad (k * 4) 2 (by omega) eA] at e2
          rw [add_atM ad (k * 4) 3 (by omega) eA] at e3
          exact ⟨⟨z0, z1, z2, z3⟩, ⟨w0, w1, w2, w3⟩, b, o, s, eA, World.block_lt_of_cell? w _ e0, e0, e1, e2, e3⟩
    obtain ⟨q, hq⟩ := choose_lt each
    refine ⟨q, fun k hk => ?_⟩
    obtain ⟨hok, b, o, s, r1, r2, r3, r4, r5, r6⟩ := hq k hk
    exact ⟨hok, ad, b, o, s, rfl, r1, r2, r3, r4, r5, r6⟩
end
theorem Only.stays {w w' : World} (h : Only [] w w') {p : Addr} {v : Value} (hc : w.cell? p = some v) : w'.cell? p = some v :=
  (h.cell (World.block_lt_of_cell? w p hc) (by simp)).trans hc
/-- A call that came in is there still. -/
theorem InCalls.at_ {w W : World} {A : Option Addr} {len : Nat} {ds : Nat → Cl} (h : InCalls w A len ds) (ho : Only [] w W) {k : Nat} (hk : k < len) : (ds k).ok ∧ ∃ (x : Addr) (b o : Nat) (s : Option Nat), A = some x ∧ x.add (k * 4) = ⟨b, o, s⟩ ∧ W.cell? ⟨b, o, s⟩ = some (.int .i64 (ds k).op) ∧ W.cell? ⟨b, o + 1, none⟩ = some (.int .i64 (ds k).f) ∧ W.cell? ⟨b, o + 2, none⟩ = some (.int .i64 (ds k).a) ∧ W.cell? ⟨b, o + 3, none⟩ = some (.int .i64 (ds k).b) := by
  obtain ⟨hok, x, b, o, s, e1, e2, _, r0, r1, r2, r3⟩ := h k hk
  exact ⟨hok, x, b, o, s, e1, e2, ho.stays r0, ho.stays r1, ho.stays r2, ho.stays r3⟩
end Go.Proofs.Ytklolepmmabijaa
