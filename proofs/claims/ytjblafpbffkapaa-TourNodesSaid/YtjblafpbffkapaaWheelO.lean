/-
  What a walk is told of slices that came in: of items, of deeds, of integers.
-/
import Derived.Test.YtjblafpbffkapaaWheelD
import Derived.ProofKit
import Derived.OpenShut
import Derived.ChangeOld
import Derived.Deep.Slices
namespace Go.Proofs.Ytjblafpbffkapaa
set_option maxRecDepth 100000
open Go.RowKit Go.ChangeShapes Go.WideShapes Go.ChangeAt Go.Deep
set_option linter.unusedVariables false
set_option linter.unusedSimpArgs false

instance : Inhabited Dd := ⟨⟨0, 0, 0⟩⟩
/-- A slice of items that came in. -/
def InItems (w : World) (A : Option Addr) (len : Nat) (xs : List It) : Prop :=
  xs.length = len ∧ (∀ x ∈ xs, x.ok) ∧ ∀ k, k < len → ∃ (x : Addr) (b o : Nat) (s : Option Nat), A = some x ∧ x.add (k * 2) = ⟨b, o, s⟩ ∧ b < w.heap.size ∧ w.cell? ⟨b, o, s⟩ = some (.int .u64 (gOf xs k).k) ∧ w.cell? ⟨b, o + 1, none⟩ = some (.int .i64 (gOf xs k).i)
/-- A slice of deeds that came in. -/
def InDeeds (w : World) (A : Option Addr) (len : Nat) (ds : Nat → Dd) : Prop :=
  ∀ k, k < len → (ds k).ok ∧ ∃ (x : Addr) (b o : Nat) (s : Option Nat), A = some x ∧ x.add (k * 3) = ⟨b, o, s⟩ ∧ b < w.heap.size ∧ w.cell? ⟨b, o, s⟩ = some (.int .i64 (ds k).a) ∧ w.cell? ⟨b, o + 1, none⟩ = some (.int .u64 (ds k).b) ∧ w.cell? ⟨b, o + 2, none⟩ = some (.int .i64 (ds k).c)
/-- A slice of integers that came in. -/
def InInts (q : IntKind) (w : World) (A : Option Addr) (len : Nat) (z : Nat → Int) : Prop :=
  ∀ k, k < len → (Lit.int q (z k)).wf = true ∧ ∃ x : Addr, A = some x ∧ (x.add k).block < w.heap.size ∧ w.cell? (x.add k) = some (.int q (z k))

theorem add_at (x : Addr) (n j : Nat) (hj : 0 < j) {b o : Nat} {s : Option Nat} (h : x.add n = ⟨b, o, s⟩) : x.add (n + j) = ⟨b, o + j, none⟩ := by
  unfold Addr.add at h ⊢
  rw [if_neg (by omega)]
  split at h
  · rename_i h0
    subst h0
    subst h
    simp
  · injection h with h1 h2 h3
    subst h1 h2
    simp [Nat.add_assoc]

section
variable {H : Type} {enc : TypeId × Value → H} {w : World} {sp : Nat → Bool} {held : Bool} {fuel : Nat}
theorem open_items {a : Option Addr} {len cap : Nat} {x : DataW H × List MemPlace} (h : DataW.trod enc Try.prog w 0 sp held fuel 30 [.slice a len cap] = some x) : ∃ xs, InItems w a len xs := by
  rcases open_slice Try.underlying30 h with ⟨e, _⟩ | ⟨ad, len', cap', m, n, D, Pl, e, _, hl, hm, hmm, _, hx⟩
  · injection e with e _
    injection e with e1 e2 e3
    subst e1 e2
    exact ⟨[], rfl, by simp, fun k hk => absurd hk (by omega)⟩
  · injection e with e _
    injection e with e1 e2 e3
    subst e1 e2 e3
    have hlm : len ≤ m := by rw [hmm]; split <;> omega
    have each : ∀ k, k < len → ∃ z : It, z.ok ∧ ∃ (b o : Nat) (s : Option Nat), ad.add (k * 2) = ⟨b, o, s⟩ ∧ b < w.heap.size ∧ w.cell? ⟨b, o, s⟩ = some (.int .u64 z.k) ∧ w.cell? ⟨b, o + 1, none⟩ = some (.int .i64 z.i) := by
      intro k hk
      obtain ⟨cs', g1, g2⟩ := hx k (by omega)
      have ce : Try.prog.cellsOf 43 = 2 := by kernel_rfl
      rw [ce] at g1
      obtain ⟨_, hcl, hcell⟩ := World.cells?_some g1
      obtain ⟨ys, n', _, _, _, hyl, hf⟩ := DataW.trod_struct Try.underlying43 g2
      match cs', hcl with
      | [v0, v1], _ =>
        have t0 := hf 0 _ rfl
        have t1 := hf 1 _ rfl
        have k0 : Try.prog.cellsOf 35 = 1 := by kernel_rfl
        have k1 : Try.prog.cellsOf 3 = 1 := by kernel_rfl
        simp [k0, k1] at t0 t1
        match ys, hyl with
        | [u0, u1], _ =>
          simp at t0 t1
          obtain ⟨z0, q0, _, w0⟩ := DataW.trod_int Try.underlying35 t0
          obtain ⟨z1, q1, _, w1⟩ := DataW.trod_int Try.underlying3 t1
          injection q0 with q0 _
          injection q1 with q1 _
          subst q0 q1
          have e0 := hcell 0 (by omega)
          have e1 := hcell 1 (by omega)
          rw [Go.Deep.add_add] at e0 e1
          simp at e0 e1
          obtain ⟨⟨b, o, s⟩, eA⟩ : ∃ A, ad.add (k * 2) = A := ⟨_, rfl⟩
          rw [eA] at e0
          rw [add_at ad (k * 2) 1 (by omega) eA] at e1
          exact ⟨⟨z0, z1⟩, ⟨w0, w1⟩, b, o, s, eA, World.block_lt_of_cell? w _ e0, e0, e1⟩
    obtain ⟨q, hq⟩ := choose_lt each
    refine ⟨(List.range len).map q, by simp, fun x hx => ?_, fun k hk => ?_⟩
    · obtain ⟨k, hk, rfl⟩ := List.mem_map.1 hx
      exact (hq k (List.mem_range.1 hk)).1
    · obtain ⟨b, o, s, r1, r2, r3, r4⟩ := (hq k hk).2
      have eg : gOf ((List.range len).map q) k = q k := by simp [gOf, hk]
      rw [eg]
      exact ⟨ad, b, o, s, rfl, r1, r2, r3, r4⟩
theorem open_deeds {a : Option Addr} {len cap : Nat} {x : DataW H × List MemPlace} (h : DataW.trod enc Try.prog w 0 sp held fuel 22 [.slice a len cap] = some x) : ∃ ds, InDeeds w a len ds := by
  rcases open_slice Try.underlying22 h with ⟨e, _⟩ | ⟨ad, len', cap', m, n, D, Pl, e, _, hl, hm, hmm, _, hx⟩
  · injection e with e _
    injection e with e1 e2 e3
    subst e1 e2
    exact ⟨fun _ => ⟨0, 0, 0⟩, fun k hk => absurd hk (by omega)⟩
  · injection e with e _
    injection e with e1 e2 e3
    subst e1 e2 e3
    have hlm : len ≤ m := by rw [hmm]; split <;> omega
    have each : ∀ k, k < len → ∃ z : Dd, z.ok ∧ ∃ (b o : Nat) (s : Option Nat), ad.add (k * 3) = ⟨b, o, s⟩ ∧ b < w.heap.size ∧ w.cell? ⟨b, o, s⟩ = some (.int .i64 z.a) ∧ w.cell? ⟨b, o + 1, none⟩ = some (.int .u64 z.b) ∧ w.cell? ⟨b, o + 2, none⟩ = some (.int .i64 z.c) := by
      intro k hk
      obtain ⟨cs', g1, g2⟩ := hx k (by omega)
      have ce : Try.prog.cellsOf 37 = 3 := by kernel_rfl
      rw [ce] at g1
      obtain ⟨_, hcl, hcell⟩ := World.cells?_some g1
      obtain ⟨ys, n', _, _, _, hyl, hf⟩ := DataW.trod_struct Try.underlying37 g2
      match cs', hcl with
      | [v0, v1, v2], _ =>
        have t0 := hf 0 _ rfl
        have t1 := hf 1 _ rfl
        have t2 := hf 2 _ rfl
        have k0 : Try.prog.cellsOf 35 = 1 := by kernel_rfl
        have k1 : Try.prog.cellsOf 3 = 1 := by kernel_rfl
        simp [k0, k1] at t0 t1 t2
        match ys, hyl with
        | [u0, u1, u2], _ =>
          simp at t0 t1 t2
          obtain ⟨z0, q0, _, w0⟩ := DataW.trod_int Try.underlying3 t0
          obtain ⟨z1, q1, _, w1⟩ := DataW.trod_int Try.underlying35 t1
          obtain ⟨z2, q2, _, w2⟩ := DataW.trod_int Try.underlying3 t2
          injection q0 with q0 _
          injection q1 with q1 _
          injection q2 with q2 _
          subst q0 q1 q2
          have e0 := hcell 0 (by omega)
          have e1 := hcell 1 (by omega)
          have e2 := hcell 2 (by omega)
          rw [Go.Deep.add_add] at e0 e1 e2
          simp at e0 e1 e2
          obtain ⟨⟨b, o, s⟩, eA⟩ : ∃ A, ad.add (k * 3) = A := ⟨_, rfl⟩
          rw [eA] at e0
          rw [add_at ad (k * 3) 1 (by omega) eA] at e1
          rw [add_at ad (k * 3) 2 (by omega) eA] at e2
          exact ⟨⟨z0, z1, z2⟩, ⟨w0, w1, w2⟩, b, o, s, eA, World.block_lt_of_cell? w _ e0, e0, e1, e2⟩
    obtain ⟨q, hq⟩ := choose_lt each
    refine ⟨q, fun k hk => ?_⟩
    obtain ⟨hok, b, o, s, r1, r2, r3, r4, r5⟩ := hq k hk
    exact ⟨hok, ad, b, o, s, rfl, r1, r2, r3, r4, r5⟩
theorem open_nums {q : IntKind} {t e : TypeId} (ht : Try.prog.underlying t = some (.slice e)) (he : Try.prog.underlying e = some (.int q)) (hc : Try.prog.cellsOf e = 1) {a : Option Addr} {len cap : Nat} {x : DataW H × List MemPlace}
    (h : DataW.trod enc Try.prog w 0 (fun _ => true) held fuel t [.slice a len cap] = some x) : ∃ z, InInts q w a len z := by
  rcases open_ints ht he hc h with ⟨hcs, _⟩ | ⟨ad, l, c, zs, hcs, _, hl, hm, hz, _, hcell, hwz⟩
  · injection hcs with e _
    injection e with e1 e2 e3
    subst e1 e2
    exact ⟨fun _ => 0, fun k hk => absurd hk (by omega)⟩
  · injection hcs with e _
    injection e with e1 e2 e3
    subst e1 e2 e3
    have hzl : zs.length = cap := by simpa using hz
    refine ⟨fun k => zs.getD k 0, fun k hk => ⟨?_, ad, rfl, ?_, hcell k (by omega)⟩⟩
    · have hkz : k < zs.length := by omega
      have : zs.getD k 0 = zs[k] := by simp [hkz]
      simp only [this]
      exact hwz _ (List.getElem_mem hkz)
    · exact World.block_lt_of_cell? w _ (hcell k (by omega))
end
end Go.Proofs.Ytjblafpbffkapaa
