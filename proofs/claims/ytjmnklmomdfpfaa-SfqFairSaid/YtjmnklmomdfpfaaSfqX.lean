/-
  What a law's frame wants of the program, in a plain seat: its knobs, its layout, slices of acts and of integers that came in; what a walk over acts keeps.
-/
import Derived.Test.YtjmnklmomdfpfaaSfqHW
import Derived.Test.YtjmnklmomdfpfaaSfqHS
import Derived.Test.YtjmnklmomdfpfaaSfqHL
import Derived.ProofKit
import Derived.OpenShut
import Derived.ChangeOld
import Derived.Deep.Slices
import Derived.Deep.LoopGhost
import Derived.Deep.DeepCutAuto
import Derived.Lib.SmallJoins
namespace Go.Proofs.Ytjmnklmomdfpfaa
set_option maxRecDepth 100000
open Go.RowKit Go.ChangeShapes Go.WideShapes Go.ChangeAt Go.Joins Go.Deep
set_option linter.unusedVariables false
set_option linter.unusedSimpArgs false
set_option maxRecDepth 100000

theorem own : ownKnob Try.prog.godebug = none := by kernel_rfl
theorem laidOut : laidOutB Try.prog = true := by kernel_rfl
theorem cellsPk : Try.prog.cellsOf 34 = 3 := by kernel_rfl
theorem U64.of_wf {a : Int} (h : (Lit.int .u64 a).wf = true) : U64 a := by
  simp [Lit.wf, IntKind.min, IntKind.max, IntKind.signed, IntKind.bits] at h
  unfold U64
  omega

/-- A slice of acts that came in. -/
def InAxs (w : World) (A : Option Addr) (len : Nat) (ds : Nat → Ax) : Prop :=
  ∀ k, k < len → (ds k).ok ∧ ∃ (x : Addr) (b o : Nat) (s : Option Nat), A = some x ∧ x.add (k * 7) = ⟨b, o, s⟩ ∧ b < w.heap.size ∧ w.cell? ⟨b, o, s⟩ = some (.int .i64 (ds k).k) ∧ w.cell? ⟨b, o + 1, none⟩ = some (.int .i64 (ds k).f) ∧ w.cell? ⟨b, o + 2, none⟩ = some (.int .i64 (ds k).m) ∧ w.cell? ⟨b, o + 3, none⟩ = some (.int .u64 (ds k).r) ∧ w.cell? ⟨b, o + 4, none⟩ = some (.int .i64 (ds k).p.f) ∧ w.cell? ⟨b, o + 5, none⟩ = some (.int .i64 (ds k).p.l) ∧ w.cell? ⟨b, o + 6, none⟩ = some (.int .i64 (ds k).p.m)
/-- A slice of integers that came in. -/
def InNums (q : IntKind) (w : World) (A : Option Addr) (len : Nat) (z : Nat → Int) : Prop :=
  ∀ k, k < len → (Lit.int q (z k)).wf = true ∧ ∃ x : Addr, A = some x ∧ (x.add k).block < w.heap.size ∧ w.cell? (x.add k) = some (.int q (z k))
theorem add_atF (x : Addr) (n j : Nat) (hj : 0 < j) {b o : Nat} {s : Option Nat} (h : x.add n = ⟨b, o, s⟩) : x.add (n + j) = ⟨b, o + j, none⟩ := by
  unfold Addr.add at h ⊢
  rw [if_neg (by omega)]
  split at h
  · rename_i h0
    subst h0
    subst h
    simp
  · injection h with h1 h2 h3
    subst h1 h2
    simp [Nat.add_assoc]
section
variable {H : Type} {enc : TypeId × Value → H} {w : World} {sp : Nat → Bool} {held : Bool} {fuel : Nat}
theorem open_axs {a : Option Addr} {len cap : Nat} {x : DataW H × List MemPlace} (h : DataW.trod enc Try.prog w 0 sp held fuel 22 [.slice a len cap] = some x) : ∃ ds, InAxs w a len ds := by
  rcases open_slice Try.underlying22 h with ⟨e, _⟩ | ⟨ad, len', cap', m, n, D, Pl, e, _, hl, hm, hmm, _, hx⟩
  · injection e with e _
    injection e with e1 e2 e3
    subst e1 e2
    exact ⟨fun _ => default, fun k hk => absurd hk (by omega)⟩
  · injection e with e _
    injection e with e1 e2 e3
    subst e1 e2 e3
    have hlm : len ≤ m := by rw [hmm]; split <;> omega
    have each : ∀ k, k < len → ∃ z : Ax, z.ok ∧ ∃ (b o : Nat) (s : Option Nat), ad.add (k * 7) = ⟨b, o, s⟩ ∧ b < w.heap.size ∧ w.cell? ⟨b, o, s⟩ = some (.int .i64 z.k) ∧ w.cell? ⟨b, o + 1, none⟩ = some (.int .i64 z.f) ∧ w.cell? ⟨b, o + 2, none⟩ = some (.int .i64 z.m) ∧ w.cell? ⟨b, o + 3, none⟩ = some (.int .u64 z.r) ∧ w.cell? ⟨b, o + 4, none⟩ = some (.int .i64 z.p.f) ∧ w.cell? ⟨b, o + 5, none⟩ = some (.int .i64 z.p.l) ∧ w.cell? ⟨b, o + 6, none⟩ = some (.int .i64 z.p.m) := by
      intro k hk
      obtain ⟨cs', g1, g2⟩ := hx k (by omega)
      have ce : Try.prog.cellsOf 36 = 7 := by kernel_rfl
      rw [ce] at g1
      obtain ⟨_, hcl, hcell⟩ := World.cells?_some g1
      obtain ⟨ys, n', _, _, _, hyl, hf⟩ := DataW.trod_struct Try.underlying36 g2
      match cs', hcl with
      | [v0, v1, v2, v3, v4, v5, v6], _ =>
        have t0 := hf 0 _ rfl
        have t1 := hf 1 _ rfl
        have t2 := hf 2 _ rfl
        have t3 := hf 3 _ rfl
        have t4 := hf 4 _ rfl
        have k0 : Try.prog.cellsOf 27 = 1 := by kernel_rfl
        have k1 : Try.prog.cellsOf 3 = 1 := by kernel_rfl
        have k2 : Try.prog.cellsOf 34 = 3 := cellsPk
        simp [k0, k1, k2] at t0 t1 t2 t3 t4
        match ys, hyl with
        | [u0, u1, u2, u3, u4], _ =>
          simp at t0 t1 t2 t3 t4
          obtain ⟨z0, q0, _, w0⟩ := DataW.trod_int Try.underlying3 t0
          obtain ⟨z1, q1, _, w1⟩ := DataW.trod_int Try.underlying3 t1
          obtain ⟨z2, q2, _, w2⟩ := DataW.trod_int Try.underlying3 t2
          obtain ⟨z3, q3, _, w3⟩ := DataW.trod_int Try.underlying27 t3
          obtain ⟨ys', n2, _, _, _, hyl', hf'⟩ := DataW.trod_struct Try.underlying34 t4
          have t5 := hf' 0 _ rfl
          have t6 := hf' 1 _ rfl
          have t7 := hf' 2 _ rfl
          simp [k0, k1] at t5 t6 t7
          match ys', hyl' with
          | [u5, u6, u7], _ =>
            simp at t5 t6 t7
            obtain ⟨z4, q4, _, w4⟩ := DataW.trod_int Try.underlying3 t5
            obtain ⟨z5, q5, _, w5⟩ := DataW.trod_int Try.underlying3 t6
            obtain ⟨z6, q6, _, w6⟩ := DataW.trod_int Try.underlying3 t7
            injection q0 with q0 _
            injection q1 with q1 _
            injection q2 with q2 _
            injection q3 with q3 _
            injection q4 with q4 _
            injection q5 with q5 _
            injection q6 with q6 _
            subst q0 q1 q2 q3 q4 q5 q6
            have e0 := hcell 0 (by omega)
            have e1 := hcell 1 (by omega)
            have e2 := hcell 2 (by omega)
            have e3 := hcell 3 (by omega)
            have e4 := hcell 4 (by omega)
            have e5 := hcell 5 (by omega)
            have e6 := hcell 6 (by omega)
            rw [Go.Deep.add_add] at e0 e1 e2 e3 e4 e5 e6
            simp at e0 e1 e2 e3 e4 e5 e6
            obtain ⟨⟨b, o, s⟩, eA⟩ : ∃ A, ad.add (k * 7) = A := ⟨_, rfl⟩
            rw [eA] at e0
            rw [add_atF ad (k * 7) 1 (by omega) eA] at e1
            rw [add_atF ad (k * 7) 2 (by omega) eA] at e2
            rw [add_atF ad (k * 7) 3 (by omega) eA] at e3
            rw [add_atF ad (k * 7) 4 (by omega) eA] at e4
            rw [add_atF ad (k * 7) 5 (by omega) eA] at e5
            rw [add_atF ad (k * 7) 6 (by omega) eA] at e6
            exact ⟨⟨z0, z1, z2, z3, ⟨z4, z5, z6⟩⟩, ⟨w0, w1, w2, U64.of_wf w3, w4, w5, w6⟩, b, o, s, eA, World.block_lt_of_cell? w _ e0, e0, e1, e2, e3, e4, e5, e6⟩
    obtain ⟨q, hq⟩ := choose_lt each
    refine ⟨q, fun k hk => ?_⟩
    obtain ⟨hok, b, o, s, r1, r2, r3, r4, r5, r6, r7, r8, r9⟩ := hq k hk
    exact ⟨hok, ad, b, o, s, rfl, r1, r2, r3, r4, r5, r6, r7, r8, r9⟩
theorem open_numsF {q : IntKind} {t e : TypeId} (ht : Try.prog.underlying t = some (.slice e)) (he : Try.prog.underlying e = some (.int q)) (hc : Try.prog.cellsOf e = 1) {a : Option Addr} {len cap : Nat} {x : DataW H × List MemPlace}
    (h : DataW.trod enc Try.prog w 0 (fun _ => true) held fuel t [.slice a len cap] = some x) : ∃ z, InNums q w a len z := by
  rcases open_ints ht he hc h with ⟨hcs, _⟩ | ⟨ad, l, c, zs, hcs, _, hl, hm, hz, _, hcell, hwz⟩
  · injection hcs with e _
    injection e with e1 e2 e3
    subst e1 e2
    exact ⟨fun _ => 0, fun k hk => absurd hk (by omega)⟩
  · injection hcs with e _
    injection e with e1 e2 e3
    subst e1 e2 e3
    have hzl : zs.length = cap := by simpa using hz
    refine ⟨fun k => zs.getD k 0, fun k hk => ⟨?_, ad, rfl, ?_, hcell k (by omega)⟩⟩
    · have hkz : k < zs.length := by omega
      have : zs.getD k 0 = zs[k] := by simp [hkz]
      simp only [this]
      exact hwz _ (List.getElem_mem hkz)
    · exact World.block_lt_of_cell? w _ (hcell k (by omega))
end

theorem Only.stays {w w' : World} (h : Only [] w w') {p : Addr} {v : Value} (hc : w.cell? p = some v) : w'.cell? p = some v :=
  (h.cell (World.block_lt_of_cell? w p hc) (by simp)).trans hc
/-- An act that came in is there still. -/
theorem InAxs.at_ {w W : World} {A : Option Addr} {len : Nat} {ds : Nat → Ax} (h : InAxs w A len ds) (ho : Only [] w W) {k : Nat} (hk : k < len) : (ds k).ok ∧ ∃ (x : Addr) (b o : Nat) (s : Option Nat), A = some x ∧ x.add (k * 7) = ⟨b, o, s⟩ ∧ W.cell? ⟨b, o, s⟩ = some (.int .i64 (ds k).k) ∧ W.cell? ⟨b, o + 1, none⟩ = some (.int .i64 (ds k).f) ∧ W.cell? ⟨b, o + 2, none⟩ = some (.int .i64 (ds k).m) ∧ W.cell? ⟨b, o + 3, none⟩ = some (.int .u64 (ds k).r) ∧ W.cell? ⟨b, o + 4, none⟩ = some (.int .i64 (ds k).p.f) ∧ W.cell? ⟨b, o + 5, none⟩ = some (.int .i64 (ds k).p.l) ∧ W.cell? ⟨b, o + 6, none⟩ = some (.int .i64 (ds k).p.m) := by
  obtain ⟨hok, x, b, o, s, e1, e2, _, r0, r1, r2, r3, r4, r5, r6⟩ := h k hk
  exact ⟨hok, x, b, o, s, e1, e2, ho.stays r0, ho.stays r1, ho.stays r2, ho.stays r3, ho.stays r4, ho.stays r5, ho.stays r6⟩
theorem QSnd.step {w0 wr : World} {b c : Nat} {S : Sq} {O P : List Nat} (h : QSnd w0 wr b c S O P) (a : Ax) (ha : a.ok) (hl : S.l.length < 1000) :
    Calls Try.prog 13 #[.pointer (some ⟨b, 0, none⟩), .pointer (some ⟨c, 0, none⟩), .agg #[.int .i64 a.k, .int .i64 a.f, .int .i64 a.m, .int .u64 a.r, .int .i64 a.p.f, .int .i64 a.p.l, .int .i64 a.p.m]] wr fun e w' => e = .returned (.bool true) ∧ ∃ O' P', QSnd w0 w' b c (a.act S) O' P' :=
  (sStep wr b c S O P h.duo a ha hl).mono fun e w' q => ⟨q.1, h.fin q.2⟩
theorem QSnd.looks {w0 wr : World} {b c : Nat} {S : Sq} {O P : List Nat} (h : QSnd w0 wr b c S O P) : Calls Try.prog 14 #[.pointer (some ⟨b, 0, none⟩), .pointer (some ⟨c, 0, none⟩)] wr fun e w' => e = .returned (.bool true) ∧ QSnd w0 w' b c S O P :=
  (sLooks wr b c S O P h.duo).mono fun e w' q => ⟨q.1, h.only0 q.2⟩
theorem QSnd.some {w0 wr : World} {b c : Nat} {O P : List Nat} (h : QSnd w0 wr b c Sq.new O P) : Calls Try.prog 12 #[.pointer (some ⟨b, 0, none⟩), .pointer (some ⟨c, 0, none⟩)] wr fun e w' => e = .returned (.tuple #[]) ∧ ∃ O' P', QSnd w0 w' b c someS O' P' :=
  (sSome wr b c O P h.duo).mono fun e w' q => ⟨q.1, h.fin q.2⟩
theorem someS_len : someS.l.length ≤ 4 := by have := someN_len Sq.new 4; have h0 : Sq.new.l.length = 0 := rfl; unfold someS; omega
/-- New beside the document's. -/
theorem qsnd_new {w w1 : World} (h : SqOf w1 w.heap.size Sq.new [w.heap.size]) (o : Only [] w w1) : QSnd w (w1.alloc (.cells #[.slice none 0 0, .int .u64 0, .int .u64 0] 29)) w.heap.size w1.heap.size Sq.new [w.heap.size] [w1.heap.size] := by
  have oA : Only [] w1 (w1.alloc (.cells #[.slice none 0 0, .int .u64 0, .int .u64 0] 29)) := (Only.refl [] w1).alloc _
  have hlt := h.lt w.heap.size (by simp)
  refine ⟨⟨h.only0 oA, ⟨.slice none 0 0, [], ⟨Sq.ok.new, heap_alloc_new w1 _, El.Row.nil _, ⟨by simp, List.Pairwise.nil, by simp⟩, rfl⟩, rfl⟩, ?_⟩, ?_, o.trans' oA⟩
  · intro k hk hk2
    simp at hk hk2
    omega
  · intro k hk
    simp at hk
    have := o.size
    omega
end Go.Proofs.Ytjmnklmomdfpfaa
