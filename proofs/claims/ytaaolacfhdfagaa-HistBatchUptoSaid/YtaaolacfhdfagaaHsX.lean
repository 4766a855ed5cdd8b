/-
  What a law's frame wants of the program; calls as they come in.
-/
import Derived.Test.YtaaolacfhdfagaaRows
import Derived.Test.YtaaolacfhdfagaaHsP
import Derived.ProofKit
import Derived.OpenShut
import Derived.ChangeOld
import Derived.Deep.Slices
import Derived.Lib.SmallJoins
namespace Go.Proofs.Ytaaolacfhdfagaa
set_option maxRecDepth 100000
open Go.RowKit Go.ChangeShapes Go.WideShapes Go.ChangeAt Go.Joins Go.Deep
set_option linter.unusedVariables false
set_option linter.unusedSimpArgs false
set_option maxRecDepth 100000
theorem own : ownKnob Try.prog.godebug = none := by kernel_rfl
theorem laidOut : laidOutB Try.prog = true := by kernel_rfl
theorem cellsDn : Try.prog.cellsOf 30 = 12 := by kernel_rfl
theorem cellsCl : Try.prog.cellsOf 23 = 4 := by kernel_rfl
theorem cellsRt : Try.prog.cellsOf 28 = 4 := by kernel_rfl
theorem cellsPk : Try.prog.cellsOf 45 = 3 := by kernel_rfl
theorem cellsPs : Try.prog.cellsOf 25 = 1 := by kernel_rfl
theorem cellsEr : Try.prog.cellsOf 24 = 1 := by kernel_rfl
theorem cellsI : Try.prog.cellsOf 3 = 1 := by kernel_rfl
theorem cellsU : Try.prog.cellsOf 26 = 1 := by kernel_rfl
theorem Only.toBelow {w w' : World} (h : Only [] w w') : Below w.heap.size w w' := h.below (Nat.le_refl _) (by simp)
theorem bulk_part {H : Type} {d : DataW H} {l : List (DataW H)} (h : d ∈ l) : Rows.uptoBulk d ≤ Rows.uptoBulkAll l := by
  induction l with
  | nil => cases h
  | cons x r ih =>
    simp only [Rows.uptoBulkAll]
    cases List.mem_cons.1 h with
    | inl e => subst e; omega
    | inr e => have := ih e; omega
theorem bulk_one {H : Type} (d : DataW H) : 1 ≤ Rows.uptoBulk d := by
  cases d with
  | lit l => cases l <;> simp [Rows.uptoBulk]
  | nil => simp [Rows.uptoBulk]
  | ptr d => simp [Rows.uptoBulk]
  | slice elems spare => simp [Rows.uptoBulk]
  | agg parts => simp [Rows.uptoBulk]
  | iface t d => simp [Rows.uptoBulk]
  | map entries => simp [Rows.uptoBulk]
  | held h => simp [Rows.uptoBulk]
theorem bulk_length {H : Type} (l : List (DataW H)) : l.length ≤ Rows.uptoBulkAll l := by
  induction l with
  | nil => simp [Rows.uptoBulkAll]
  | cons x r ih => have := bulk_one x; simp only [Rows.uptoBulkAll, List.length_cons]; omega
theorem bulk_slice {H : Type} (elems spare : List (DataW H)) : elems.length + 1 ≤ Rows.uptoBulk (.slice elems spare) := by
  have h1 := bulk_length elems
  simp only [Rows.uptoBulk]
  omega
theorem bulk_elem {H : Type} {elems spare : List (DataW H)} {d : DataW H} (h : d ∈ elems) : Rows.uptoBulk d ≤ Rows.uptoBulk (.slice elems spare) := by
  have h1 := bulk_part h
  simp only [Rows.uptoBulk]
  omega
theorem bulk_agg {H : Type} {parts : List (DataW H)} {d : DataW H} (h : d ∈ parts) : Rows.uptoBulk d ≤ Rows.uptoBulk (.agg parts) := by
  have h1 := bulk_part h
  simp only [Rows.uptoBulk]
  omega
/-- A call's packets as they came in. -/
structure InPk (w : World) (d : Dn) (ps : List Pk) : Prop where
  len : d.m = ps.length
  src : pE.Src w d.A ps
  nil : d.A = none → d.m = 0
  cap : d.m ≤ d.c
theorem InPk.only0 {w w' : World} {d : Dn} {ps : List Pk} (h : InPk w d ps) (ho : Only [] w w') : InPk w' d ps := ⟨h.len, h.src.only0 ho, h.nil, h.cap⟩
section
variable {H : Type} {enc : TypeId × Value → H} {w : World} {sp : Nat → Bool} {held : Bool} {fuel : Nat}
theorem open_pks {v : Value} {x : DataW H × List MemPlace} (h : DataW.trod enc Try.prog w 0 sp held fuel 25 [v] = some x) :
    ∃ (A : Option Addr) (m c : Nat) (ps : List Pk), v = .slice A m c ∧ m = ps.length ∧ m ≤ c ∧ pE.Src w A ps ∧ (A = none → m = 0) ∧ m ≤ Rows.uptoBulk x.1 := by
  rcases open_slice Try.underlying25 h with ⟨e, _⟩ | ⟨ad, len, cap, m, n, D, Pl, e, _, hl, hm, hmm, ex, hx⟩
  · injection e with e _
    exact ⟨none, 0, 0, [], e, rfl, Nat.le_refl _, El.Src.nil _ _, fun _ => rfl, Nat.zero_le _⟩
  · injection e with e _
    have hlm : len ≤ m := by rw [hmm]; split <;> omega
    have each : ∀ k, k < len → ∃ p : Pk, ∀ j, j < 3 → w.cell? (ad.add (k * 3 + j)) = (pE.cs p)[j]? := by
      intro k hk
      obtain ⟨cs', g1, g2⟩ := hx k (by omega)
      rw [cellsPk] at g1
      obtain ⟨_, hcl, hcell⟩ := World.cells?_some g1
      obtain ⟨ys, n', _, _, _, hyl, hf⟩ := DataW.trod_struct Try.underlying45 g2
      match cs', hcl with
      | [v0, v1, v2], _ =>
        have t0 := hf 0 _ rfl
        have t1 := hf 1 _ rfl
        have t2 := hf 2 _ rfl
        simp [cellsI] at t0 t1 t2
        match ys, hyl with
        | [u0, u1, u2], _ =>
          simp at t0 t1 t2
          obtain ⟨z0, q0, _, w0⟩ := DataW.trod_int Try.underlying3 t0
          obtain ⟨z1, q1, _, w1⟩ := DataW.trod_int Try.underlying3 t1
          obtain ⟨z2, q2, _, w2⟩ := DataW.trod_int Try.underlying3 t2
          injection q0 with q0 _
          injection q1 with q1 _
          injection q2 with q2 _
          subst q0 q1 q2
          have e0 := hcell 0 (by omega)
          have e1 := hcell 1 (by omega)
          have e2 := hcell 2 (by omega)
          rw [Go.Deep.add_add] at e0 e1 e2
          refine ⟨⟨z0, z1, z2⟩, fun j hj => ?_⟩
          match j, hj with
          | 0, _ => simpa [pE] using e0
          | 1, _ => simpa [pE] using e1
          | 2, _ => simpa [pE] using e2
    obtain ⟨q, hq⟩ := choose_lt each
    refine ⟨some ad, len, cap, (List.range len).map q, e, by simp, hl, fun _ => ⟨ad, rfl, fun j u hu => ?_⟩, fun h => (by cases h), ?_⟩
    · have hj : j < len * 3 := by
        have := (List.getElem?_eq_some_iff.1 hu).1
        rw [pE.flat_length] at this
        simpa using this
      have h1 := pE.flat_at ((List.range len).map q) (j / 3) (q (j / 3)) (by rw [List.getElem?_map, List.getElem?_range (by omega)]; rfl) (j % 3) (by omega)
      rw [show j / 3 * 3 + j % 3 = j by omega, hu] at h1
      have h2 := hq (j / 3) (by omega) (j % 3) (by omega)
      rw [show j / 3 * 3 + j % 3 = j by omega] at h2
      rw [h2, h1]
    · rw [ex]
      have := bulk_slice ((List.range len).map D) ((List.range (m - len)).map fun j => D (len + j))
      simp only [List.length_map, List.length_range] at this
      show len ≤ Rows.uptoBulk (.slice _ _)
      omega
theorem open_done {cs : List Value} {x : DataW H × List MemPlace} (hcl : cs.length = 12) (h : DataW.trod enc Try.prog w 0 sp held fuel 30 cs = some x) :
    ∃ (d : Dn) (ps : List Pk), cs = d.cs ∧ InPk w d ps ∧ d.m ≤ Rows.uptoBulk x.1 := by
  obtain ⟨ys, n', _, hx, _, hyl, hf⟩ := DataW.trod_struct Try.underlying30 h
  match cs, hcl with
  | [v0, v1, v2, v3, v4, v5, v6, v7, v8, v9, v10, v11], _ =>
    have t0 := hf 0 _ rfl
    have t1 := hf 1 _ rfl
    have t2 := hf 2 _ rfl
    have t3 := hf 3 _ rfl
    have t4 := hf 4 _ rfl
    have t5 := hf 5 _ rfl
    simp [cellsI, cellsCl, cellsRt] at t0 t1 t2 t3 t4 t5
    match ys, hyl with
    | [u0, u1, u2, u3, u4, u5], _ =>
      simp at t0 t1 t2 t3 t4 t5
      obtain ⟨z0, q0, _, _⟩ := DataW.trod_int Try.underlying3 t0
      obtain ⟨z1, q1, _, _⟩ := DataW.trod_int Try.underlying3 t1
      obtain ⟨z10, q10, _, _⟩ := DataW.trod_int Try.underlying3 t4
      obtain ⟨z11, q11, _, _⟩ := DataW.trod_int Try.underlying3 t5
      obtain ⟨yc, nc, _, _, _, hyc, hfc⟩ := DataW.trod_struct Try.underlying23 t2
      have c0 := hfc 0 _ rfl
      have c1 := hfc 1 _ rfl
      have c2 := hfc 2 _ rfl
      have c3 := hfc 3 _ rfl
      simp [cellsI] at c0 c1 c2 c3
      obtain ⟨yr, nr, _, hxr, _, hyr, hfr⟩ := DataW.trod_struct Try.underlying28 t3
      have r0 := hfr 0 _ rfl
      have r1 := hfr 1 _ rfl
      have r2 := hfr 2 _ rfl
      have r3 := hfr 3 _ rfl
      simp [cellsI, cellsEr, cellsPs, cellsU] at r0 r1 r2 r3
      match yc, hyc with
      | [m0, m1, m2, m3], _ =>
        match yr, hyr with
        | [k0, k1, k2, k3], _ =>
          simp at c0 c1 c2 c3 r0 r1 r2 r3
          obtain ⟨z2, q2, _, _⟩ := DataW.trod_int Try.underlying3 c0
          obtain ⟨z3, q3, _, _⟩ := DataW.trod_int Try.underlying3 c1
          obtain ⟨z4, q4, _, _⟩ := DataW.trod_int Try.underlying3 c2
          obtain ⟨z5, q5, _, _⟩ := DataW.trod_int Try.underlying3 c3
          obtain ⟨z6, q6, _, _⟩ := DataW.trod_int Try.underlying24 r0
          obtain ⟨A, m, c, ps, q7, hm, hc, hs, hn, hb⟩ := open_pks r1
          obtain ⟨z8, q8, _, _⟩ := DataW.trod_int Try.underlying3 r2
          obtain ⟨z9, q9, _, _⟩ := DataW.trod_int Try.underlying26 r3
          injection q0 with q0 _
          injection q1 with q1 _
          injection q2 with q2 _
          injection q3 with q3 _
          injection q4 with q4 _
          injection q5 with q5 _
          injection q6 with q6 _
          injection q8 with q8 _
          injection q9 with q9 _
          injection q10 with q10 _
          injection q11 with q11 _
          subst q0 q1 q2 q3 q4 q5 q6 q7 q8 q9 q10 q11
          refine ⟨⟨z0, z1, z2, z3, z4, z5, z6, A, m, c, z8, z9, z10, z11⟩, ps, rfl, ⟨hm, hs, hn, hc⟩, ?_⟩
          have b1 : m ≤ Rows.uptoBulk u3.1 := by
            rw [hxr]
            refine Nat.le_trans hb (bulk_agg ?_)
            simp
          rw [hx]
          refine Nat.le_trans b1 (bulk_agg ?_)
          simp
theorem open_dones {a : Option Addr} {len cap : Nat} {x : DataW H × List MemPlace} (h : DataW.trod enc Try.prog w 0 sp held fuel 34 [.slice a len cap] = some x) :
    ∃ (ds : Nat → Dn) (pks : Nat → List Pk), InDns w a len ds ∧ (∀ k, k < len → InPk w (ds k) (pks k)) ∧ ∀ k, k < len → (ds k).m ≤ Rows.uptoBulk x.1 := by
  rcases open_slice Try.underlying34 h with ⟨e, _⟩ | ⟨ad, len', cap', m, n, D, Pl, e, _, hl, hm, hmm, ex, hx⟩
  · injection e with e _
    injection e with e1 e2 e3
    subst e1 e2
    exact ⟨fun _ => default, fun _ => [], fun k hk => absurd hk (by omega), fun k hk => absurd hk (by omega), fun k hk => absurd hk (by omega)⟩
  · injection e with e _
    injection e with e1 e2 e3
    subst e1 e2 e3
    have hlm : len ≤ m := by rw [hmm]; split <;> omega
    have each : ∀ k, k < len → ∃ z : Dn × List Pk, (∃ (b o : Nat) (s : Option Nat), ad.add (k * 12) = ⟨b, o, s⟩ ∧ InAt w b o s z.1) ∧ InPk w z.1 z.2 ∧ z.1.m ≤ Rows.uptoBulk x.1 := by
      intro k hk
      obtain ⟨cs', g1, g2⟩ := hx k (by omega)
      rw [cellsDn] at g1
      obtain ⟨_, hcl, hcell⟩ := World.cells?_some g1
      obtain ⟨d, ps, rfl, hp, hb⟩ := open_done hcl g2
      refine ⟨⟨d, ps⟩, ?_, hp, ?_⟩
      · obtain ⟨⟨b, o, s⟩, eA⟩ : ∃ A, ad.add (k * 12) = A := ⟨_, rfl⟩
        have e0 := hcell 0 (by omega)
        have e1 := hcell 1 (by omega)
        have e2 := hcell 2 (by omega)
        have e3 := hcell 3 (by omega)
        have e4 := hcell 4 (by omega)
        have e5 := hcell 5 (by omega)
        have e6 := hcell 6 (by omega)
        have e7 := hcell 7 (by omega)
        have e8 := hcell 8 (by omega)
        have e9 := hcell 9 (by omega)
        have e10 := hcell 10 (by omega)
        have e11 := hcell 11 (by omega)
        rw [Go.Deep.add_add] at e0 e1 e2 e3 e4 e5 e6 e7 e8 e9 e10 e11
        rw [Nat.add_zero, eA] at e0
        rw [add_atP ad (k * 12) 1 (by omega) eA] at e1
        rw [add_atP ad (k * 12) 2 (by omega) eA] at e2
        rw [add_atP ad (k * 12) 3 (by omega) eA] at e3
        rw [add_atP ad (k * 12) 4 (by omega) eA] at e4
        rw [add_atP ad (k * 12) 5 (by omega) eA] at e5
        rw [add_atP ad (k * 12) 6 (by omega) eA] at e6
        rw [add_atP ad (k * 12) 7 (by omega) eA] at e7
        rw [add_atP ad (k * 12) 8 (by omega) eA] at e8
        rw [add_atP ad (k * 12) 9 (by omega) eA] at e9
        rw [add_atP ad (k * 12) 10 (by omega) eA] at e10
        rw [add_atP ad (k * 12) 11 (by omega) eA] at e11
        exact ⟨b, o, s, eA, e0, e1, e2, e3, e4, e5, e6, e7, e8, e9, e10, e11⟩
      · rw [ex]
        refine Nat.le_trans hb (bulk_elem ?_)
        exact List.mem_map.2 ⟨k, List.mem_range.2 hk, rfl⟩
    obtain ⟨q, hq⟩ := choose_lt each
    refine ⟨fun k => (q k).1, fun k => (q k).2, fun k hk => ?_, fun k hk => (hq k hk).2.1, fun k hk => (hq k hk).2.2⟩
    obtain ⟨b, o, s, r1, r2⟩ := (hq k hk).1
    exact ⟨ad, b, o, s, rfl, r1, r2⟩
/-- A call by value. -/
theorem open_doneV {r : Reach} {b0 : Nat} {v : Value} {d : DataW H} {p : List MemPlace} (hv : Value.okWide Try.prog w r b0 30 v) (h : DataW.Trod enc Try.prog w 0 sp held 30 v d p) :
    ∃ (z : Dn) (ps : List Pk), v = .agg #[.int .i64 z.who, .int .i64 z.place, .int .i64 z.op, .int .i64 z.f, .int .i64 z.a, .int .i64 z.b, .int .i64 z.e, .slice z.A z.m z.c, .int .i64 z.n, .int .u64 z.v, .int .i64 z.fr, .int .i64 z.to] ∧ InPk w z ps ∧ z.m ≤ Rows.uptoBulk d := by
  obtain ⟨cs, rfl, hsz⟩ := okWide_struct Try.underlying30 hv
  obtain ⟨fuel, hf⟩ := h
  have hl : cs.toList.length = 12 := by rw [Array.length_toList]; exact hsz.trans cellsDn
  obtain ⟨z, ps, e, hp, hb⟩ := open_done hl (by simpa [Value.cells] using hf)
  refine ⟨z, ps, ?_, hp, hb⟩
  have : cs = z.cs.toArray := by rw [← e]
  rw [this]
  rfl
theorem open_ints2 {len cap : Nat} {a : Option Addr} {x : DataW H × List MemPlace} (h : DataW.trod enc Try.prog w 0 (fun _ => true) held fuel 78 [.slice a len cap] = some x) : ∃ z, InNums .i64 w a len z := by
  rcases open_ints Try.underlying78 Try.underlying3 (by kernel_rfl) h with ⟨hcs, _⟩ | ⟨ad, l, c, zs, hcs, _, hl, hm, hz, _, hcell, hwz⟩
  · injection hcs with e _
    injection e with e1 e2 e3
    subst e1 e2
    exact ⟨fun _ => 0, fun k hk => absurd hk (by omega)⟩
  · injection hcs with e _
    injection e with e1 e2 e3
    subst e1 e2 e3
    have hzl : zs.length = cap := by simpa using hz
    refine ⟨fun k => zs.getD k 0, fun k hk => ⟨?_, ad, rfl, ?_, hcell k (by omega)⟩⟩
    · have hkz : k < zs.length := by omega
      have : zs.getD k 0 = zs[k] := by simp [hkz]
      simp only [this]
      exact hwz _ (List.getElem_mem hkz)
    · exact World.block_lt_of_cell? w _ (hcell k (by omega))
end
end Go.Proofs.Ytaaolacfhdfagaa
