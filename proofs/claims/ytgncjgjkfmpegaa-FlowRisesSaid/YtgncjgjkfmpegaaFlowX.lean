/-
  What a law's frame wants of the program, in a plain seat: its knobs, its layout, a packet by value, slices of acts and of integers that came in; what a walk over acts keeps.
-/
import Derived.Test.YtgncjgjkfmpegaaFlowE
import Derived.Test.YtgncjgjkfmpegaaFlowL
import Derived.Test.YtgncjgjkfmpegaaFlowS
import Derived.ProofKit
import Derived.OpenShut
import Derived.ChangeOld
import Derived.Deep.Slices
import Derived.Deep.LoopGhost
import Derived.Deep.DeepCutAuto
import Derived.Lib.SmallJoins
namespace Go.Proofs.Ytgncjgjkfmpegaa
set_option maxRecDepth 100000
open Go.RowKit Go.ChangeShapes Go.WideShapes Go.ChangeAt Go.Joins Go.Deep
set_option linter.unusedVariables false
set_option linter.unusedSimpArgs false
set_option maxRecDepth 100000

theorem own : ownKnob Try.prog.godebug = none := by kernel_rfl
theorem laidOut : laidOutB Try.prog = true := by kernel_rfl
theorem cellsPk : Try.prog.cellsOf 32 = 3 := by kernel_rfl
theorem reads_pk {H : Type} {enc : TypeId × Value → H} {k i j : Int} (hk : (Lit.int .i64 k).wf = true) (hi : (Lit.int .i64 i).wf = true) (hj : (Lit.int .i64 j).wf = true) (W' : World) (sp : Nat → Bool) (held : Bool) : DataW.Trod enc Try.prog W' 0 sp held 32 (.agg #[.int .i64 k, .int .i64 i, .int .i64 j]) (.agg [.lit (.int .i64 k), .lit (.int .i64 i), .lit (.int .i64 j)]) [] :=
  shut_agg3 (y0 := (.lit (.int .i64 k), [])) (y1 := (.lit (.int .i64 i), [])) (y2 := (.lit (.int .i64 j), [])) Try.underlying32 (by kernel_rfl) cellsPk ⟨1, by simp [DataW.trod, Try.underlying3, hk]⟩ ⟨1, by simp [DataW.trod, Try.underlying3, hi]⟩ ⟨1, by simp [DataW.trod, Try.underlying3, hj]⟩
theorem U64.of_wf {a : Int} (h : (Lit.int .u64 a).wf = true) : U64 a := by
  simp [Lit.wf, IntKind.min, IntKind.max, IntKind.signed, IntKind.bits] at h
  unfold U64
  omega

/-- A slice of acts that came in. -/
def InActs (w : World) (A : Option Addr) (len : Nat) (ds : Nat → Ak) : Prop :=
  ∀ k, k < len → (ds k).ok ∧ ∃ (x : Addr) (b o : Nat) (s : Option Nat), A = some x ∧ x.add (k * 5) = ⟨b, o, s⟩ ∧ b < w.heap.size ∧ w.cell? ⟨b, o, s⟩ = some (.int .i64 (ds k).k) ∧ w.cell? ⟨b, o + 1, none⟩ = some (.int .u64 (ds k).v) ∧ w.cell? ⟨b, o + 2, none⟩ = some (.int .i64 (ds k).p.f) ∧ w.cell? ⟨b, o + 3, none⟩ = some (.int .i64 (ds k).p.l) ∧ w.cell? ⟨b, o + 4, none⟩ = some (.int .i64 (ds k).p.m)
/-- A slice of integers that came in. -/
def InNums (q : IntKind) (w : World) (A : Option Addr) (len : Nat) (z : Nat → Int) : Prop :=
  ∀ k, k < len → (Lit.int q (z k)).wf = true ∧ ∃ x : Addr, A = some x ∧ (x.add k).block < w.heap.size ∧ w.cell? (x.add k) = some (.int q (z k))
theorem add_atF (x : Addr) (n j : Nat) (hj : 0 < j) {b o : Nat} {s : Option Nat} (h : x.add n = ⟨b, o, s⟩) : x.add (n + j) = ⟨b, o + j, none⟩ := by
  unfold Addr.add at h ⊢
  rw [if_neg (by omega)]
  split at h
  · rename_i h0
    subst h0
    subst h
    simp
  · injection h with h1 h2 h3
    subst h1 h2
    simp [Nat.add_assoc]
section
variable {H : Type} {enc : TypeId × Value → H} {w : World} {sp : Nat → Bool} {held : Bool} {fuel : Nat}
theorem open_acts {a : Option Addr} {len cap : Nat} {x : DataW H × List MemPlace} (h : DataW.trod enc Try.prog w 0 sp held fuel 23 [.slice a len cap] = some x) : ∃ ds, InActs w a len ds := by
  rcases open_slice Try.underlying23 h with ⟨e, _⟩ | ⟨ad, len', cap', m, n, D, Pl, e, _, hl, hm, hmm, _, hx⟩
  · injection e with e _
    injection e with e1 e2 e3
    subst e1 e2
    exact ⟨fun _ => default, fun k hk => absurd hk (by omega)⟩
  · injection e with e _
    injection e with e1 e2 e3
    subst e1 e2 e3
    have hlm : len ≤ m := by rw [hmm]; split <;> omega
    have each : ∀ k, k < len → ∃ z : Ak, z.ok ∧ ∃ (b o : Nat) (s : Option Nat), ad.add (k * 5) = ⟨b, o, s⟩ ∧ b < w.heap.size ∧ w.cell? ⟨b, o, s⟩ = some (.int .i64 z.k) ∧ w.cell? ⟨b, o + 1, none⟩ = some (.int .u64 z.v) ∧ w.cell? ⟨b, o + 2, none⟩ = some (.int .i64 z.p.f) ∧ w.cell? ⟨b, o + 3, none⟩ = some (.int .i64 z.p.l) ∧ w.cell? ⟨b, o + 4, none⟩ = some (.int .i64 z.p.m) := by
      intro k hk
      obtain ⟨cs', g1, g2⟩ := hx k (by omega)
      have ce : Try.prog.cellsOf 34 = 5 := by kernel_rfl
      rw [ce] at g1
      obtain ⟨_, hcl, hcell⟩ := World.cells?_some g1
      obtain ⟨ys, n', _, _, _, hyl, hf⟩ := DataW.trod_struct Try.underlying34 g2
      match cs', hcl with
      | [v0, v1, v2, v3, v4], _ =>
        have t0 := hf 0 _ rfl
        have t1 := hf 1 _ rfl
        have t2 := hf 2 _ rfl
        have k0 : Try.prog.cellsOf 22 = 1 := by kernel_rfl
        have k1 : Try.prog.cellsOf 3 = 1 := by kernel_rfl
        have k2 : Try.prog.cellsOf 32 = 3 := cellsPk
        simp [k0, k1, k2] at t0 t1 t2
        match ys, hyl with
        | [u0, u1, u2], _ =>
          simp at t0 t1 t2
          obtain ⟨z0, q0, _, w0⟩ := DataW.trod_int Try.underlying3 t0
          obtain ⟨z1, q1, _, w1⟩ := DataW.trod_int Try.underlying22 t1
          obtain ⟨ys', n2, _, _, _, hyl', hf'⟩ := DataW.trod_struct Try.underlying32 t2
          have t3 := hf' 0 _ rfl
          have t4 := hf' 1 _ rfl
          have t5 := hf' 2 _ rfl
          simp [k0, k1] at t3 t4 t5
          match ys', hyl' with
          | [u3, u4, u5], _ =>
            simp at t3 t4 t5
            obtain ⟨z2, q2, _, w2⟩ := DataW.trod_int Try.underlying3 t3
            obtain ⟨z3, q3, _, w3⟩ := DataW.trod_int Try.underlying3 t4
            obtain ⟨z4, q4, _, w4⟩ := DataW.trod_int Try.underlying3 t5
            injection q0 with q0 _
            injection q1 with q1 _
            injection q2 with q2 _
            injection q3 with q3 _
            injection q4 with q4 _
            subst q0 q1 q2 q3 q4
            have e0 := hcell 0 (by omega)
            have e1 := hcell 1 (by omega)
            have e2 := hcell 2 (by omega)
            have e3 := hcell 3 (by omega)
            have e4 := hcell 4 (by omega)
            rw [Go.Deep.add_add] at e0 e1 e2 e3 e4
            simp at e0 e1 e2 e3 e4
            obtain ⟨⟨b, o, s⟩, eA⟩ : ∃ A, ad.add (k * 5) = A := ⟨_, rfl⟩
            rw [eA] at e0
            rw [add_atF ad (k * 5) 1 (by omega) eA] at e1
            rw [add_atF ad (k * 5) 2 (by omega) eA] at e2
            rw [add_atF ad (k * 5) 3 (by omega) eA] at e3
            rw [add_atF ad (k * 5) 4 (by omega) eA] at e4
            exact ⟨⟨z0, z1, ⟨z2, z3, z4⟩⟩, ⟨w0, U64.of_wf w1, w2, w3, w4⟩, b, o, s, eA, World.block_lt_of_cell? w _ e0, e0, e1, e2, e3, e4⟩
    obtain ⟨q, hq⟩ := choose_lt each
    refine ⟨q, fun k hk => ?_⟩
    obtain ⟨hok, b, o, s, r1, r2, r3, r4, r5, r6, r7⟩ := hq k hk
    exact ⟨hok, ad, b, o, s, rfl, r1, r2, r3, r4, r5, r6, r7⟩
theorem open_numsF {q : IntKind} {t e : TypeId} (ht : Try.prog.underlying t = some (.slice e)) (he : Try.prog.underlying e = some (.int q)) (hc : Try.prog.cellsOf e = 1) {a : Option Addr} {len cap : Nat} {x : DataW H × List MemPlace}
    (h : DataW.trod enc Try.prog w 0 (fun _ => true) held fuel t [.slice a len cap] = some x) : ∃ z, InNums q w a len z := by
  rcases open_ints ht he hc h with ⟨hcs, _⟩ | ⟨ad, l, c, zs, hcs, _, hl, hm, hz, _, hcell, hwz⟩
  · injection hcs with e _
    injection e with e1 e2 e3
    subst e1 e2
    exact ⟨fun _ => 0, fun k hk => absurd hk (by omega)⟩
  · injection hcs with e _
    injection e with e1 e2 e3
    subst e1 e2 e3
    have hzl : zs.length = cap := by simpa using hz
    refine ⟨fun k => zs.getD k 0, fun k hk => ⟨?_, ad, rfl, ?_, hcell k (by omega)⟩⟩
    · have hkz : k < zs.length := by omega
      have : zs.getD k 0 = zs[k] := by simp [hkz]
      simp only [this]
      exact hwz _ (List.getElem_mem hkz)
    · exact World.block_lt_of_cell? w _ (hcell k (by omega))
end

theorem Only.stays {w w' : World} (h : Only [] w w') {p : Addr} {v : Value} (hc : w.cell? p = some v) : w'.cell? p = some v :=
  (h.cell (World.block_lt_of_cell? w p hc) (by simp)).trans hc

/-- What a walk over acts keeps: a flow beside the document's, in new memory; all that was there is as it was. -/
structure FSound (w0 wr : World) (b c : Nat) (F : Fl) (O P : List Nat) : Prop where
  duo : Duo wr b c F O P
  new : ∀ k ∈ O ++ P, w0.heap.size ≤ k
  only : Only [] w0 wr
section
variable {w0 wr w' : World} {b c : Nat} {F F' : Fl} {O P O' P' : List Nat}
theorem FSound.only0 (h : FSound w0 wr b c F O P) (ho : Only [] wr w') : FSound w0 w' b c F O P := ⟨h.duo.only0 ho, h.new, h.only.trans' ho⟩
theorem FSound.went (h : FSound w0 wr b c F O P) (hd : Duo w' b c F' O' P') (hw : Went wr (O ++ P) w' (O' ++ P')) : FSound w0 w' b c F' O' P' :=
  ⟨hd, fun k hk => (hw.2 k hk).elim (h.new k) (fun h2 => Nat.le_trans h.only.size h2), h.only.trans hw.1 (fun k hk => .inr (h.new k hk))⟩
theorem FSound.looks (h : FSound w0 wr b c F O P) : Calls Try.prog 11 #[.pointer (some ⟨b, 0, none⟩), .pointer (some ⟨c, 0, none⟩)] wr fun e w' => e = .returned (.bool true) ∧ FSound w0 w' b c F O P :=
  (fLooks wr b c F O P h.duo).mono fun e w' q => ⟨q.1, h.only0 q.2⟩
theorem FSound.step (h : FSound w0 wr b c F O P) (a : Ak) (ha : a.ok) :
    Calls Try.prog 12 #[.pointer (some ⟨b, 0, none⟩), .pointer (some ⟨c, 0, none⟩), .agg #[.int .i64 a.k, .int .u64 a.v, .int .i64 a.p.f, .int .i64 a.p.l, .int .i64 a.p.m]] wr fun e w' => e = .returned (.bool true) ∧ ∃ F' O' P', FSound w0 w' b c F' O' P' :=
  (fStep wr b c F O P h.duo a ha).mono fun e w' q => by
    obtain ⟨q1, F', O', P', q2, q3⟩ := q
    exact ⟨q1, F', O', P', h.went q2 q3⟩
end
theorem made_sound (r most : Int) (hr : U64 r) (w : World) :
    Calls Try.prog 9 #[.int .u64 r, .int .i64 most] w fun e w' => ∃ b c, e = .returned (.tuple #[.pointer (some ⟨b, 0, none⟩), .pointer (some ⟨c, 0, none⟩)]) ∧ ∃ r' n', FSound w w' b c (Fl.new r' n') [b] [c] :=
  (aMade r most hr w).mono fun e w' q => by
    obtain ⟨b, c, q1, r', n', q2, q3, q4, q5⟩ := q
    exact ⟨b, c, q1, r', n', q2, by intro k hk; simp at hk; rcases hk with rfl | rfl <;> assumption, q5⟩
end Go.Proofs.Ytgncjgjkfmpegaa
