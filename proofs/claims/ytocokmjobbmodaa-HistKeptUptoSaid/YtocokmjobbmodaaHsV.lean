/-
  The document's Parts.
-/
import Derived.Test.YtocokmjobbmodaaHsR
namespace Go.Proofs.Ytocokmjobbmodaa
set_option maxRecDepth 100000
open Go.RowKit
set_option linter.unusedVariables false
set_option linter.unusedSimpArgs false
set_option maxRecDepth 100000

set_option maxHeartbeats 4000000
/-- An append beside boxes. -/
theorem wpList_appB {w wr : World} {ops : Array Oper} {o : Oper} {a : Act} {Q : Exit → Act → World → Prop} {rest : List Oper} (hgd : o.guard = none) (s x : Operand) (ho : o.op = .call { callee := .builtin .append, args := #[s, x], argTypes := #[22, 22] })
    (A : Option Addr) (p cap : Nat) (xs : List Dn) (qs : List Da) (v : Dn) (b : Da) (hs : a.eval s = .slice A p cap) (hx : a.eval x = .slice (some ⟨wr.heap.size, 0, none⟩) 1 1) (h : DR w wr A p cap xs qs) (hv : PR w.heap.size wr v b) (hb : p ≤ 90000000)
    (hK : ∀ A2 cap2 w2, DR w w2 A2 (p + 1) cap2 (xs ++ [v]) (qs ++ [b]) → (∀ bl, bl < wr.heap.size → (∀ g, (Value.slice A p cap).ownBlock = some g → g ≠ bl) → w2.heap[bl]? = wr.heap[bl]? ∧ ∀ g, (Value.slice A2 (p + 1) cap2).ownBlock = some g → g ≠ bl) → wpList Try.prog ops Q rest (a.put o.dst (.slice A2 (p + 1) cap2)) w2) :
    wpList Try.prog ops Q (o :: rest) a (wr.alloc (.cells #[.int .i64 v.who, .int .i64 v.place, .int .i64 v.op, .int .i64 v.f, .int .i64 v.a, .int .i64 v.b, .int .i64 v.e, .slice v.A v.m v.c, .int .i64 v.n, .int .u64 v.v, .int .i64 v.fr, .int .i64 v.to] 31)) := by
  have oB : Only [] wr (wr.alloc (.cells #[.int .i64 v.who, .int .i64 v.place, .int .i64 v.op, .int .i64 v.f, .int .i64 v.a, .int .i64 v.b, .int .i64 v.e, .slice v.A v.m v.c, .int .i64 v.n, .int .u64 v.v, .int .i64 v.fr, .int .i64 v.to] 31)) := (Only.refl [] wr).alloc _
  refine wpList_plain hgd fun _ hK' => El.wp_append (E := dE) Try.underlying22 s x ho (.slice A p cap) xs hs (h.fr.row.only0 oB) _ 1 1 [v] hx rfl (El.Src.box (E := dE) (x := v) (heap_alloc_new wr _)) (p + 1) (by rw [h.fr.len]) (by omega) ?_
  intro A2 cap2 w2 r2 g2 l2
  refine hK' _ _ (hK A2 cap2 w2 ((h.only0 oB).app (Rw.one (hv.only0 oB)) r2 g2 l2) fun bl hbl hn => ⟨?_, fun g hg => ?_⟩)
  · rw [g2.block bl (Nat.lt_of_lt_of_le hbl oB.size) (by intro e; first | exact hn bl e rfl | exact hn bl e.symm rfl)]
    exact oB.block bl hbl (by simp)
  · rcases l2 with l2 | l2
    · exact hn g (l2 ▸ hg)
    · rw [l2] at hg
      injection hg with hg
      rw [World.size_alloc] at hg
      have := oB.size
      omega
theorem PR.setBox {B : Nat} {w : World} {x : Dn} {a : Da} (h : PR B w x a) {g : Nat} {cs : Array Value} (hb : w.heap[g]? = some (.cells cs 31 (0, 0))) (k : Nat) (v : Value) : PR B (w.setCell ⟨g, k, none⟩ v) x a := by
  have o : Only [g] w (w.setCell ⟨g, k, none⟩ v) := (Only.refl [g] w).setCell (.inl (by simp)) v
  exact ⟨h.str, h.row.only o (fun b hb2 => by simpa using h.row.ne hb (by decide) b hb2), h.new⟩
theorem row_setBox {w : World} {v0 : Value} {ps : List Pk} (h : pE.Row w v0 ps) {g : Nat} {cs : Array Value} (hb : w.heap[g]? = some (.cells cs 31 (0, 0))) (k : Nat) (v : Value) : pE.Row (w.setCell ⟨g, k, none⟩ v) v0 ps :=
  h.only (S := [g]) ((Only.refl [g] w).setCell (.inl (by simp)) v) (fun b hb2 => by simpa using h.ne hb (by decide) b hb2)
theorem heap_set {w : World} {g b : Nat} (h : g ≠ b) (k : Nat) (v : Value) : (w.setCell ⟨g, k, none⟩ v).heap[b]? = w.heap[b]? := by
  simp [World.setCell, Array.getElem?_modify, h]
theorem heap_set_same {w : World} {g : Nat} {cs : Array Value} {t : TypeId} (h : w.heap[g]? = some (.cells cs t (0, 0))) (k : Nat) (v : Value) : (w.setCell ⟨g, k, none⟩ v).heap[g]? = some (.cells (cs.setIfInBounds k v) t (0, 0)) := by
  simp [World.setCell, Array.getElem?_modify, h]
theorem rParts (A : Option Addr) (n c : Nat) (L : List Dn) (qs : List Da) (u : World) (hL : L.length = n) (hb : n ≤ 64) (h : Dns u A L) (hq : AbsL u L qs) (hm : ∀ x ∈ L, x.m ≤ 1048576) :
    Calls Try.prog 25 #[.slice A n c] u fun e w' => ∃ A2 q c2, e = .returned (.slice A2 q c2) ∧ ∃ R, DR u w' A2 q c2 R (partsL qs) := by
  have H := Lib.hid (And.intro h (And.intro hL (And.intro hq hm)))
  clear h hL hq hm
  go_enter Try.func25, Try.ntmps25
  go_wp2_with fail
  go_loopg [3, 4] (n + 1) (fun gk sl si wr => ∃ (i q : Nat) (A1 : Option Addr) (cap1 : Nat) (R : List Dn), si = .int .i64 (i : Int) ∧ sl = .slice A1 q cap1 ∧ i ≤ n ∧ n + 1 ≤ gk + i ∧ Hid (q ≤ i * 1048577) ∧ Hid (DR u wr A1 q cap1 R (partsL (qs.take i))))
  case atStart => exact ⟨0, 0, none, 0, [], rfl, rfl, by omega, by omega, by show _ ≤ _; omega, by show DR _ _ _ _ _ _ _; simpa [partsL] using DR.nil (Only.refl [] u)⟩
  case round =>
    obtain ⟨i, q, A1, cap1, R, rfl, rfl, hi, hg2, hq, D⟩ := hrel
    by_cases hin : i < n
    · have h1 : (i : Int) < (n : Int) := by omega
      obtain ⟨x, a, hx, ha, hxa⟩ := H.out.2.2.1.get (k := i) (by have := H.out.2.2.1.len; have := H.out.2.1; omega)
      obtain ⟨ga, rfl, hc⟩ := (H.out.1.only0 D.out.fr.only) i x hx
      have XM : Hid (x.m ≤ 1048576) := H.out.2.2.2 x (List.mem_of_getElem? hx)
      have XA : Hid (Abs u x a) := hxa
      have QS : Hid (partsL (qs.take (i + 1)) = partsL (qs.take i) ++ partsD a) := by show _ = _; rw [take_succ_at ha, partsL_snoc]
      have QL : Hid (q + a.2.length + 1 ≤ (i + 1) * 1048577) := by show _ ≤ _; have := hq.out; have := hxa.len; have := XM.out; rw [Nat.add_mul]; omega
      have HB : Hid (i ≤ 64) := by show _ ≤ _; omega
      have wi : IntKind.i64.wrap ((i : Int) + 1) = (i : Int) + 1 := by rw [IntKind.wrap_i64]; omega
      have AL : Hid (x.strip = a.1 ∧ divB x = divB a.1) := ⟨hxa.str, by rw [← hxa.str]; rfl⟩
      have al := Only.alloc (Only.refl [] wr) (.cells #[.int .i64 x.who, .int .i64 x.place, .int .i64 x.op, .int .i64 x.f, .int .i64 x.a, .int .i64 x.b, .int .i64 x.e, .slice x.A x.m x.c, .int .i64 x.n, .int .u64 x.v, .int .i64 x.fr, .int .i64 x.to] 31)
      have HB1 : Hid ((wr.alloc (.cells #[.int .i64 x.who, .int .i64 x.place, .int .i64 x.op, .int .i64 x.f, .int .i64 x.a, .int .i64 x.b, .int .i64 x.e, .slice x.A x.m x.c, .int .i64 x.n, .int .u64 x.v, .int .i64 x.fr, .int .i64 x.to] 31)).heap[wr.heap.size]? = some (.cells #[.int .i64 x.who, .int .i64 x.place, .int .i64 x.op, .int .i64 x.f, .int .i64 x.a, .int .i64 x.b, .int .i64 x.e, .slice x.A x.m x.c, .int .i64 x.n, .int .u64 x.v, .int .i64 x.fr, .int .i64 x.to] 31 (0, 0))) := heap_alloc_new wr _
      have D1 : Hid (DR u (wr.alloc (.cells #[.int .i64 x.who, .int .i64 x.place, .int .i64 x.op, .int .i64 x.f, .int .i64 x.a, .int .i64 x.b, .int .i64 x.e, .slice x.A x.m x.c, .int .i64 x.n, .int .u64 x.v, .int .i64 x.fr, .int .i64 x.to] 31)) A1 q cap1 R (partsL (qs.take i))) := D.out.only0 al
      have NB1 : Hid (u.heap.size ≤ wr.heap.size ∧ ∀ g, (Value.slice A1 q cap1).ownBlock = some g → g ≠ wr.heap.size) := ⟨D.out.fr.only.size, fun g hg => by have := D.out.fr.row.lt hg; omega⟩
      obtain ⟨x0, x1, x2, x3, x4, x5, x6, x7, x8, x9, x10, x11⟩ := hc; (try simp only [Nat.zero_add] at x0 x1 x2 x3 x4 x5 x6 x7 x8 x9 x10 x11)
      clear hx ha hxa al
      go_upto_region 6 with fail
      clear x0 x1 x2 x3 x4 x5 x6 x7 x8 x9 x10 x11
      generalize wr.alloc (.cells #[.int .i64 x.who, .int .i64 x.place, .int .i64 x.op, .int .i64 x.f, .int .i64 x.a, .int .i64 x.b, .int .i64 x.e, .slice x.A x.m x.c, .int .i64 x.n, .int .u64 x.v, .int .i64 x.fr, .int .i64 x.to] 31) = W1 at *
      generalize wr.heap.size = g at *
      have EB : Hid (divB x = (!(x.op != 5) && !(x.to == -1) && (!(x.e != 0) || !(x.e != 10)))) := by
        show _ = _
        simp only [bne, Bool.not_not]
        rfl
      have src : Hid (pE.Src W1 x.A a.2) := XA.out.src.only0 D1.out.fr.only
      rcases p1 : (x.op != 5)
      · rcases p2 : (x.to == -1)
        · rcases p3 : (x.e != 0)
          · have hd : divB x = true := by rw [EB.out, p1, p2, p3]; rfl
            have PD : Hid (partsD a = partsA (x.strip, a.2)) := by show _ = _; unfold partsD; rw [← AL.out.2, hd, AL.out.1]; simp
            clear hd
            obtain ⟨x0, x1, x2, x3, x4, x5, x6, x7, x8, x9, x10, x11⟩ := DnAt.of_cells HB1.out; (try simp only [Nat.zero_add] at x0 x1 x2 x3 x4 x5 x6 x7 x8 x9 x10 x11)
            have GL : Hid (g < W1.heap.size) := (Array.getElem?_eq_some_iff.1 HB1.out).1
            have OA : Hid (Only [] W1 (W1.alloc (.cells #[.int .i64 x.who, .int .i64 x.place, .int .i64 x.op, .int .i64 x.f, .int .i64 x.a, .int .i64 x.b, .int .i64 x.e, .slice x.A x.m x.c, .int .i64 x.n, .int .u64 x.v, .int .i64 x.fr, .int .i64 x.to] 31))) := (Only.refl [] W1).alloc _
            have HX1 : Hid ((W1.alloc (.cells #[.int .i64 x.who, .int .i64 x.place, .int .i64 x.op, .int .i64 x.f, .int .i64 x.a, .int .i64 x.b, .int .i64 x.e, .slice x.A x.m x.c, .int .i64 x.n, .int .u64 x.v, .int .i64 x.fr, .int .i64 x.to] 31)).heap[W1.heap.size]? = some (.cells #[.int .i64 x.who, .int .i64 x.place, .int .i64 x.op, .int .i64 x.f, .int .i64 x.a, .int .i64 x.b, .int .i64 x.e, .slice x.A x.m x.c, .int .i64 x.n, .int .u64 x.v, .int .i64 x.fr, .int .i64 x.to] 31 (0, 0))) := heap_alloc_new W1 _
            have HB2 : Hid ((W1.alloc (.cells #[.int .i64 x.who, .int .i64 x.place, .int .i64 x.op, .int .i64 x.f, .int .i64 x.a, .int .i64 x.b, .int .i64 x.e, .slice x.A x.m x.c, .int .i64 x.n, .int .u64 x.v, .int .i64 x.fr, .int .i64 x.to] 31)).heap[g]? = some (.cells #[.int .i64 x.who, .int .i64 x.place, .int .i64 x.op, .int .i64 x.f, .int .i64 x.a, .int .i64 x.b, .int .i64 x.e, .slice x.A x.m x.c, .int .i64 x.n, .int .u64 x.v, .int .i64 x.fr, .int .i64 x.to] 31 (0, 0))) := OA.out.get HB1.out (by simp)
            have D2 : Hid (DR u (W1.alloc (.cells #[.int .i64 x.who, .int .i64 x.place, .int .i64 x.op, .int .i64 x.f, .int .i64 x.a, .int .i64 x.b, .int .i64 x.e, .slice x.A x.m x.c, .int .i64 x.n, .int .u64 x.v, .int .i64 x.fr, .int .i64 x.to] 31)) A1 q cap1 R (partsL (qs.take i))) := D1.out.only0 OA.out
            have NX1 : Hid ((u.heap.size ≤ W1.heap.size ∧ ∀ b, (Value.slice A1 q cap1).ownBlock = some b → b ≠ W1.heap.size) ∧ g ≠ W1.heap.size) := ⟨⟨D1.out.fr.only.size, fun b hb => by have := D1.out.fr.row.lt hb; omega⟩, by have := GL.out; omega⟩
            go_upto_region 10 with fail
            clear x0 x1 x2 x3 x4 x5 x6 x7 x8 x9 x10 x11
            generalize W1.alloc (.cells #[.int .i64 x.who, .int .i64 x.place, .int .i64 x.op, .int .i64 x.f, .int .i64 x.a, .int .i64 x.b, .int .i64 x.e, .slice x.A x.m x.c, .int .i64 x.n, .int .u64 x.v, .int .i64 x.fr, .int .i64 x.to] 31) = W2 at *
            generalize W1.heap.size = gx at *
            obtain ⟨X0, hX0⟩ : ∃ X : Dn, X = { x with op := 4, f := 0, a := 0, b := 0 } := ⟨_, rfl⟩
            have HX2 : Hid (((((W2.setCell ⟨gx, 2, none⟩ (.int .i64 4)).setCell ⟨gx, 3, none⟩ (.int .i64 0)).setCell ⟨gx, 4, none⟩ (.int .i64 0)).setCell ⟨gx, 5, none⟩ (.int .i64 0)).heap[gx]? = some (.cells #[.int .i64 X0.who, .int .i64 X0.place, .int .i64 X0.op, .int .i64 X0.f, .int .i64 X0.a, .int .i64 X0.b, .int .i64 X0.e, .slice X0.A X0.m X0.c, .int .i64 X0.n, .int .u64 X0.v, .int .i64 X0.fr, .int .i64 X0.to] 31 (0, 0))) := by
              show _ = _
              rw [heap_set_same (heap_set_same (heap_set_same (heap_set_same HX1.out 2 (.int .i64 4)) 3 (.int .i64 0)) 4 (.int .i64 0)) 5 (.int .i64 0), hX0]
              rfl
            have HB4 : Hid (((((W2.setCell ⟨gx, 2, none⟩ (.int .i64 4)).setCell ⟨gx, 3, none⟩ (.int .i64 0)).setCell ⟨gx, 4, none⟩ (.int .i64 0)).setCell ⟨gx, 5, none⟩ (.int .i64 0)).heap[g]? = some (.cells #[.int .i64 x.who, .int .i64 x.place, .int .i64 x.op, .int .i64 x.f, .int .i64 x.a, .int .i64 x.b, .int .i64 x.e, .slice x.A x.m x.c, .int .i64 x.n, .int .u64 x.v, .int .i64 x.fr, .int .i64 x.to] 31 (0, 0))) := by
              show _ = _
              rw [heap_set (Ne.symm NX1.out.2), heap_set (Ne.symm NX1.out.2), heap_set (Ne.symm NX1.out.2), heap_set (Ne.symm NX1.out.2)]
              exact HB2.out
            have D4 : Hid (DR u ((((W2.setCell ⟨gx, 2, none⟩ (.int .i64 4)).setCell ⟨gx, 3, none⟩ (.int .i64 0)).setCell ⟨gx, 4, none⟩ (.int .i64 0)).setCell ⟨gx, 5, none⟩ (.int .i64 0)) A1 q cap1 R (partsL (qs.take i))) :=
              (((D2.out.setBox HX1.out NX1.out.1.1 NX1.out.1.2 2 _).setBox (heap_set_same HX1.out 2 _) NX1.out.1.1 NX1.out.1.2 3 _).setBox (heap_set_same (heap_set_same HX1.out 2 _) 3 _) NX1.out.1.1 NX1.out.1.2 4 _).setBox (heap_set_same (heap_set_same (heap_set_same HX1.out 2 _) 3 _) 4 _) NX1.out.1.1 NX1.out.1.2 5 _
            obtain ⟨-, -, x2, x3, x4, x5, -, -, -, -, -, -⟩ := DnAt.of_cells HX1.out
            simp only [Nat.zero_add] at x2 x3 x4 x5
            have f2 := frozen_of HX1.out 2
            have f3 := frozen_of HX1.out 3
            have f4 := frozen_of HX1.out 4
            have f5 := frozen_of HX1.out 5
            go_upto_region 11 with fail
            clear x2 x3 x4 x5 f2 f3 f4 f5
            generalize (((W2.setCell ⟨gx, 2, none⟩ (.int .i64 4)).setCell ⟨gx, 3, none⟩ (.int .i64 0)).setCell ⟨gx, 4, none⟩ (.int .i64 0)).setCell ⟨gx, 5, none⟩ (.int .i64 0) = W4 at *
            have XO : Hid (∀ X : Dn, X = X0 ∨ (∃ (A9 : Option Addr) (m9 c9 : Nat), X = partD x 0 A9 m9 c9) → ∀ (e9 : Int) (A9 : Option Addr) (m9 c9 : Nat), ({ X with e := e9, A := A9, m := m9, c := c9, n := 0, v := 0 } : Dn) = partD x e9 A9 m9 c9) := fun X hX e9 A9 m9 c9 => by
              rcases hX with rfl | ⟨_, _, _, rfl⟩
              · rw [hX0]; rfl
              · rfl
            clear hX0
            go_wp2_with fail
            go_loopg [3, 7] (x.m + 1) (fun gk3 sl sj wr => ∃ (j : Nat) (A2 : Option Addr) (cap2 : Nat) (R2 : List Dn) (X : Dn), sj = .int .i64 (j : Int) ∧ sl = .slice A2 (q + j) cap2 ∧ j ≤ x.m ∧ x.m + 1 ≤ gk3 + j ∧ Hid (X = X0 ∨ ∃ (A9 : Option Addr) (m9 c9 : Nat), X = partD x 0 A9 m9 c9) ∧ Hid (DR u wr A2 (q + j) cap2 R2 (partsL (qs.take i) ++ (a.2.take j).map fun p => partA x.strip 0 [p])) ∧ Hid ((∀ b, (Value.slice A2 (q + j) cap2).ownBlock = some b → b ≠ g ∧ b ≠ gx) ∧ wr.heap[g]? = some (.cells #[.int .i64 x.who, .int .i64 x.place, .int .i64 x.op, .int .i64 x.f, .int .i64 x.a, .int .i64 x.b, .int .i64 x.e, .slice x.A x.m x.c, .int .i64 x.n, .int .u64 x.v, .int .i64 x.fr, .int .i64 x.to] 31 (0, 0)) ∧ wr.heap[gx]? = some (.cells #[.int .i64 X.who, .int .i64 X.place, .int .i64 X.op, .int .i64 X.f, .int .i64 X.a, .int .i64 X.b, .int .i64 X.e, .slice X.A X.m X.c, .int .i64 X.n, .int .u64 X.v, .int .i64 X.fr, .int .i64 X.to] 31 (0, 0))))
            case atStart => exact ⟨0, A1, cap1, R, X0, rfl, by simp, by omega, by omega, .inl rfl, by show DR _ _ _ _ _ _ _; simpa using D4.out, fun b hb => ⟨NB1.out.2 b hb, NX1.out.1.2 b hb⟩, HB4.out, HX2.out⟩
            case round =>
              obtain ⟨j, A2, cap2, R2, X, rfl, rfl, hj, hg3, HX, DD, BB⟩ := hrel
              have wj : IntKind.i64.wrap ((j : Int) + 1) = (j : Int) + 1 := by rw [IntKind.wrap_i64]; have := XM.out; omega
              have NX : Hid (g ≠ gx) := NX1.out.2
              by_cases hjm : j < x.m
              · have h3 : (j : Int) < (x.m : Int) := by omega
                have d3 : decide ((j : Int) < (x.m : Int)) = true := decide_eq_true h3
                obtain ⟨p, hp⟩ : ∃ p, a.2[j]? = some p := ⟨_, List.getElem?_eq_getElem (by have := XA.out.len; omega)⟩
                obtain ⟨ad, b, o, s, exA, e2, c0, c1, c2⟩ := src_at (XA.out.src.only0 DD.out.fr.only) hp
                have HP := Lib.hid hp
                clear hp
                obtain ⟨-, -, -, -, -, -, -, x7, -, -, -, -⟩ := DnAt.of_cells BB.out.2.1
                simp only [Nat.zero_add] at x7
                have x7' := x7
                rw [exA] at x7'
                have EXA := Lib.hid exA
                clear x7 exA
                have OP : Hid (Only [] wr (wr.alloc (.cells #[.int .i64 p.f, .int .i64 p.l, .int .i64 p.m] 49))) := (Only.refl [] wr).alloc _
                have RP : Hid (pE.Row (wr.alloc (.cells #[.int .i64 p.f, .int .i64 p.l, .int .i64 p.m] 49)) (.slice (some ⟨wr.heap.size, 0, none⟩) 1 1) [p]) := one_row wr p
                have SZ : Hid (u.heap.size ≤ wr.heap.size) := DD.out.fr.only.size
                have D6 : Hid (DR u (wr.alloc (.cells #[.int .i64 p.f, .int .i64 p.l, .int .i64 p.m] 49)) A2 (q + j) cap2 R2 (partsL (qs.take i) ++ (a.2.take j).map fun p => partA x.strip 0 [p])) := DD.out.only0 OP.out
                have B6 : Hid ((wr.alloc (.cells #[.int .i64 p.f, .int .i64 p.l, .int .i64 p.m] 49)).heap[g]? = some (.cells #[.int .i64 x.who, .int .i64 x.place, .int .i64 x.op, .int .i64 x.f, .int .i64 x.a, .int .i64 x.b, .int .i64 x.e, .slice x.A x.m x.c, .int .i64 x.n, .int .u64 x.v, .int .i64 x.fr, .int .i64 x.to] 31 (0, 0)) ∧ (wr.alloc (.cells #[.int .i64 p.f, .int .i64 p.l, .int .i64 p.m] 49)).heap[gx]? = some (.cells #[.int .i64 X.who, .int .i64 X.place, .int .i64 X.op, .int .i64 X.f, .int .i64 X.a, .int .i64 X.b, .int .i64 X.e, .slice X.A X.m X.c, .int .i64 X.n, .int .u64 X.v, .int .i64 X.fr, .int .i64 X.to] 31 (0, 0))) := ⟨OP.out.get BB.out.2.1 (by simp), OP.out.get BB.out.2.2 (by simp)⟩
                obtain ⟨-, -, -, -, -, -, y6, y7, y8, y9, -, -⟩ := DnAt.of_cells B6.out.2
                simp only [Nat.zero_add] at y6 y7 y8 y9
                have f6 := frozen_of B6.out.2 6
                have f7 := frozen_of B6.out.2 7
                have f8 := frozen_of B6.out.2 8
                have f9 := frozen_of B6.out.2 9
                obtain ⟨y, hy⟩ : ∃ y, partD x 0 (some ⟨wr.heap.size, 0, none⟩) 1 1 = y := ⟨_, rfl⟩
                have HY := Lib.hid hy
                have XN := Lib.hid (XO.out X HX.out 0 (some ⟨wr.heap.size, 0, none⟩) 1 1)
                rw [hy] at XN
                clear hy
                have D7 : Hid (DR u (((((wr.alloc (.cells #[.int .i64 p.f, .int .i64 p.l, .int .i64 p.m] 49)).setCell ⟨gx, 6, none⟩ (.int .i64 0)).setCell ⟨gx, 7, none⟩ (.slice (some ⟨wr.heap.size, 0, none⟩) 1 1)).setCell ⟨gx, 8, none⟩ (.int .i64 0)).setCell ⟨gx, 9, none⟩ (.int .u64 0)) A2 (q + j) cap2 R2 (partsL (qs.take i) ++ (a.2.take j).map fun p => partA x.strip 0 [p])) := ((((D6.out.setBox B6.out.2 NX1.out.1.1 (fun b hb => (BB.out.1 b hb).2) 6 _).setBox (heap_set_same B6.out.2 6 _) NX1.out.1.1 (fun b hb => (BB.out.1 b hb).2) 7 _).setBox (heap_set_same (heap_set_same B6.out.2 6 _) 7 _) NX1.out.1.1 (fun b hb => (BB.out.1 b hb).2) 8 _).setBox (heap_set_same (heap_set_same (heap_set_same B6.out.2 6 _) 7 _) 8 _) NX1.out.1.1 (fun b hb => (BB.out.1 b hb).2) 9 _)
                have B7 : Hid ((((((wr.alloc (.cells #[.int .i64 p.f, .int .i64 p.l, .int .i64 p.m] 49)).setCell ⟨gx, 6, none⟩ (.int .i64 0)).setCell ⟨gx, 7, none⟩ (.slice (some ⟨wr.heap.size, 0, none⟩) 1 1)).setCell ⟨gx, 8, none⟩ (.int .i64 0)).setCell ⟨gx, 9, none⟩ (.int .u64 0)).heap[g]? = some (.cells #[.int .i64 x.who, .int .i64 x.place, .int .i64 x.op, .int .i64 x.f, .int .i64 x.a, .int .i64 x.b, .int .i64 x.e, .slice x.A x.m x.c, .int .i64 x.n, .int .u64 x.v, .int .i64 x.fr, .int .i64 x.to] 31 (0, 0)) ∧ (((((wr.alloc (.cells #[.int .i64 p.f, .int .i64 p.l, .int .i64 p.m] 49)).setCell ⟨gx, 6, none⟩ (.int .i64 0)).setCell ⟨gx, 7, none⟩ (.slice (some ⟨wr.heap.size, 0, none⟩) 1 1)).setCell ⟨gx, 8, none⟩ (.int .i64 0)).setCell ⟨gx, 9, none⟩ (.int .u64 0)).heap[gx]? = some (.cells #[.int .i64 y.who, .int .i64 y.place, .int .i64 y.op, .int .i64 y.f, .int .i64 y.a, .int .i64 y.b, .int .i64 y.e, .slice y.A y.m y.c, .int .i64 y.n, .int .u64 y.v, .int .i64 y.fr, .int .i64 y.to] 31 (0, 0))) := by
                  refine ⟨?_, ?_⟩
                  · rw [heap_set (Ne.symm NX.out), heap_set (Ne.symm NX.out), heap_set (Ne.symm NX.out), heap_set (Ne.symm NX.out)]
                    exact B6.out.1
                  · rw [(heap_set_same (heap_set_same (heap_set_same (heap_set_same B6.out.2 6 (.int .i64 0)) 7 (.slice (some ⟨wr.heap.size, 0, none⟩) 1 1)) 8 (.int .i64 0)) 9 (.int .u64 0)), ← XN.out]
                    rfl
                have PY : Hid (PR u.heap.size (((((wr.alloc (.cells #[.int .i64 p.f, .int .i64 p.l, .int .i64 p.m] 49)).setCell ⟨gx, 6, none⟩ (.int .i64 0)).setCell ⟨gx, 7, none⟩ (.slice (some ⟨wr.heap.size, 0, none⟩) 1 1)).setCell ⟨gx, 8, none⟩ (.int .i64 0)).setCell ⟨gx, 9, none⟩ (.int .u64 0)) y (partA x.strip 0 [p])) := by
                  refine ⟨by rw [← HY.out]; rfl, ?_, fun b hb => ?_⟩
                  · rw [← HY.out]; exact (row_setBox (row_setBox (row_setBox (row_setBox RP.out B6.out.2 6 _) (heap_set_same B6.out.2 6 _) 7 _) (heap_set_same (heap_set_same B6.out.2 6 _) 7 _) 8 _) (heap_set_same (heap_set_same (heap_set_same B6.out.2 6 _) 7 _) 8 _) 9 _)
                  · rw [← HY.out] at hb
                    simp [partD, Value.ownBlock] at hb
                    have := SZ.out; omega
                go_upto_region 15 with fail
                clear y6 y7 y8 y9 f6 f7 f8 f9
                generalize (((((wr.alloc (.cells #[.int .i64 p.f, .int .i64 p.l, .int .i64 p.m] 49)).setCell ⟨gx, 6, none⟩ (.int .i64 0)).setCell ⟨gx, 7, none⟩ (.slice (some ⟨wr.heap.size, 0, none⟩) 1 1)).setCell ⟨gx, 8, none⟩ (.int .i64 0)).setCell ⟨gx, 9, none⟩ (.int .u64 0)) = W7 at *
                obtain ⟨z0, z1, z2, z3, z4, z5, z6, z7, z8, z9, z10, z11⟩ := DnAt.of_cells B7.out.2; (try simp only [Nat.zero_add] at z0 z1 z2 z3 z4 z5 z6 z7 z8 z9 z10 z11)
                clear c0 c1 c2 e2 x7'
                go_wp2_with (at_builtin; refine wpList_appB rfl (.tmp 69) (.tmp 71) rfl A2 (q + j) cap2 R2 _ y (partA x.strip 0 [p]) rfl rfl D7.out PY.out (by have := hq.out; have := HB.out; have := XM.out; omega) ?_)
                intro A5 c5 w5 h5 k5
                have D8 : Hid (DR u w5 A5 (q + (j + 1)) c5 (R2 ++ [y]) (partsL (qs.take i) ++ (a.2.take (j + 1)).map fun p => partA x.strip 0 [p])) := by
                  show DR _ _ _ _ _ _ _
                  rw [take_succ_at HP.out]
                  try simp only [List.map_append, List.map_cons, List.map_nil, List.map_take, List.append_assoc] at h5
                  try simp only [List.map_append, List.map_cons, List.map_nil, List.map_take, List.append_assoc]
                  exact h5
                have B8 : Hid ((∀ b, (Value.slice A5 (q + (j + 1)) c5).ownBlock = some b → b ≠ g ∧ b ≠ gx) ∧ w5.heap[g]? = some (.cells #[.int .i64 x.who, .int .i64 x.place, .int .i64 x.op, .int .i64 x.f, .int .i64 x.a, .int .i64 x.b, .int .i64 x.e, .slice x.A x.m x.c, .int .i64 x.n, .int .u64 x.v, .int .i64 x.fr, .int .i64 x.to] 31 (0, 0)) ∧ w5.heap[gx]? = some (.cells #[.int .i64 y.who, .int .i64 y.place, .int .i64 y.op, .int .i64 y.f, .int .i64 y.a, .int .i64 y.b, .int .i64 y.e, .slice y.A y.m y.c, .int .i64 y.n, .int .u64 y.v, .int .i64 y.fr, .int .i64 y.to] 31 (0, 0))) := by
                  obtain ⟨q1, q2⟩ := k5 g (Array.getElem?_eq_some_iff.1 B7.out.1).1 (fun b hb => (BB.out.1 b hb).1)
                  obtain ⟨q3, q4⟩ := k5 gx (Array.getElem?_eq_some_iff.1 B7.out.2).1 (fun b hb => (BB.out.1 b hb).2)
                  exact ⟨fun b hb => ⟨q2 b hb, q4 b hb⟩, q1.trans B7.out.1, q3.trans B7.out.2⟩
                clear h5 k5
                go_wp2_with fail
                go_roundg (x.m + 1 - (j + 1))
                case measure => omega
                case rel => exact ⟨j + 1, A5, c5, _, y, by simp, rfl, by omega, by omega, .inr ⟨_, _, _, HY.out.symm⟩, D8.out, B8.out⟩
              · obtain rfl : j = x.m := by omega
                have h3 : ¬ ((x.m : Int) < (x.m : Int)) := by omega
                have d3 : decide ((x.m : Int) < (x.m : Int)) = false := decide_eq_false h3
                have TK : Hid (a.2.take x.m = a.2) := List.take_of_length_le (by have := XA.out.len; omega)
                obtain ⟨-, -, -, -, -, -, x6, x7, -, -, -, -⟩ := DnAt.of_cells BB.out.2.1
                simp only [Nat.zero_add] at x6 x7
                rcases he : (x.e == 10)
                · have EP : Hid (partsA (x.strip, a.2) = a.2.map fun p => partA x.strip 0 [p]) := by
                    show _ = _
                    unfold partsA
                    rw [show (((x.strip, a.2) : Da).1.e == 10) = false from he]
                    simp
                  have D9 : Hid (DR u wr A2 (q + x.m) cap2 R2 (partsL (qs.take (i + 1)))) := by
                    show DR _ _ _ _ _ _ _
                    rw [QS.out, PD.out, EP.out]
                    have := DD.out
                    rwa [TK.out] at this
                  go_wp2_with fail
                  go_roundg (n + 1 - (i + 1))
                  case measure => omega
                  case rel => exact ⟨i + 1, q + x.m, A2, cap2, R2, by simp, rfl, by omega, by omega, by show _ ≤ _; have := QL.out; have := XA.out.len; omega, D9.out⟩
                · have EP : Hid (partsA (x.strip, a.2) = (a.2.map fun p => partA x.strip 0 [p]) ++ [partA x.strip 10 []]) := by
                    show _ = _
                    unfold partsA
                    rw [show (((x.strip, a.2) : Da).1.e == 10) = true from he]
                    simp
                  obtain ⟨-, -, -, -, -, -, y6, y7, y8, y9, -, -⟩ := DnAt.of_cells BB.out.2.2
                  simp only [Nat.zero_add] at y6 y7 y8 y9
                  have f6 := frozen_of BB.out.2.2 6
                  have f7 := frozen_of BB.out.2.2 7
                  have f8 := frozen_of BB.out.2.2 8
                  have f9 := frozen_of BB.out.2.2 9
                  obtain ⟨y, hy⟩ : ∃ y, partD x 10 none 0 0 = y := ⟨_, rfl⟩
                  have HY := Lib.hid hy
                  have XN := Lib.hid (XO.out X HX.out 10 none 0 0)
                  rw [hy] at XN
                  clear hy
                  have D7 : Hid (DR u ((((wr.setCell ⟨gx, 6, none⟩ (.int .i64 10)).setCell ⟨gx, 7, none⟩ (.slice none 0 0)).setCell ⟨gx, 8, none⟩ (.int .i64 0)).setCell ⟨gx, 9, none⟩ (.int .u64 0)) A2 (q + x.m) cap2 R2 (partsL (qs.take i) ++ (a.2.take x.m).map fun p => partA x.strip 0 [p])) := ((((DD.out.setBox BB.out.2.2 NX1.out.1.1 (fun b hb => (BB.out.1 b hb).2) 6 _).setBox (heap_set_same BB.out.2.2 6 _) NX1.out.1.1 (fun b hb => (BB.out.1 b hb).2) 7 _).setBox (heap_set_same (heap_set_same BB.out.2.2 6 _) 7 _) NX1.out.1.1 (fun b hb => (BB.out.1 b hb).2) 8 _).setBox (heap_set_same (heap_set_same (heap_set_same BB.out.2.2 6 _) 7 _) 8 _) NX1.out.1.1 (fun b hb => (BB.out.1 b hb).2) 9 _)
                  have B7 : Hid (((((wr.setCell ⟨gx, 6, none⟩ (.int .i64 10)).setCell ⟨gx, 7, none⟩ (.slice none 0 0)).setCell ⟨gx, 8, none⟩ (.int .i64 0)).setCell ⟨gx, 9, none⟩ (.int .u64 0)).heap[g]? = some (.cells #[.int .i64 x.who, .int .i64 x.place, .int .i64 x.op, .int .i64 x.f, .int .i64 x.a, .int .i64 x.b, .int .i64 x.e, .slice x.A x.m x.c, .int .i64 x.n, .int .u64 x.v, .int .i64 x.fr, .int .i64 x.to] 31 (0, 0)) ∧ ((((wr.setCell ⟨gx, 6, none⟩ (.int .i64 10)).setCell ⟨gx, 7, none⟩ (.slice none 0 0)).setCell ⟨gx, 8, none⟩ (.int .i64 0)).setCell ⟨gx, 9, none⟩ (.int .u64 0)).heap[gx]? = some (.cells #[.int .i64 y.who, .int .i64 y.place, .int .i64 y.op, .int .i64 y.f, .int .i64 y.a, .int .i64 y.b, .int .i64 y.e, .slice y.A y.m y.c, .int .i64 y.n, .int .u64 y.v, .int .i64 y.fr, .int .i64 y.to] 31 (0, 0))) := by
                    refine ⟨?_, ?_⟩
                    · rw [heap_set (Ne.symm NX.out), heap_set (Ne.symm NX.out), heap_set (Ne.symm NX.out), heap_set (Ne.symm NX.out)]
                      exact BB.out.2.1
                    · rw [(heap_set_same (heap_set_same (heap_set_same (heap_set_same BB.out.2.2 6 (.int .i64 10)) 7 (.slice none 0 0)) 8 (.int .i64 0)) 9 (.int .u64 0)), ← XN.out]
                      rfl
                  have PY : Hid (PR u.heap.size ((((wr.setCell ⟨gx, 6, none⟩ (.int .i64 10)).setCell ⟨gx, 7, none⟩ (.slice none 0 0)).setCell ⟨gx, 8, none⟩ (.int .i64 0)).setCell ⟨gx, 9, none⟩ (.int .u64 0)) y (partA x.strip 10 [])) := by
                    refine ⟨by rw [← HY.out]; rfl, ?_, fun b hb => ?_⟩
                    · rw [← HY.out]; exact El.Row.nil _
                    · rw [← HY.out] at hb
                      simp [partD, Value.ownBlock] at hb
                  go_upto_region 18 with fail
                  clear y6 y7 y8 y9 f6 f7 f8 f9
                  generalize ((((wr.setCell ⟨gx, 6, none⟩ (.int .i64 10)).setCell ⟨gx, 7, none⟩ (.slice none 0 0)).setCell ⟨gx, 8, none⟩ (.int .i64 0)).setCell ⟨gx, 9, none⟩ (.int .u64 0)) = W7 at *
                  obtain ⟨z0, z1, z2, z3, z4, z5, z6, z7, z8, z9, z10, z11⟩ := DnAt.of_cells B7.out.2; (try simp only [Nat.zero_add] at z0 z1 z2 z3 z4 z5 z6 z7 z8 z9 z10 z11)
                  clear x6 x7
                  go_wp2_with (at_builtin; refine wpList_appB rfl (.tmp 79) (.tmp 81) rfl A2 (q + x.m) cap2 R2 _ y (partA x.strip 10 []) rfl rfl D7.out PY.out (by have := hq.out; have := HB.out; have := XM.out; omega) ?_)
                  intro A5 c5 w5 h5 k5
                  have D9 : Hid (DR u w5 A5 (q + x.m + 1) c5 (R2 ++ [y]) (partsL (qs.take (i + 1)))) := by
                    show DR _ _ _ _ _ _ _
                    have TK2 : (a.2.map fun p => partA x.strip 0 [p]).take x.m = a.2.map fun p => partA x.strip 0 [p] := by rw [← List.map_take, TK.out]
                    rw [QS.out, PD.out, EP.out]
                    try simp only [List.map_take, List.append_assoc] at h5
                    try simp only [List.map_take, List.append_assoc]
                    rw [TK2] at h5
                    exact h5
                  clear h5 k5
                  go_wp2_with fail
                  go_roundg (n + 1 - (i + 1))
                  case measure => omega
                  case rel => exact ⟨i + 1, q + x.m + 1, A5, c5, _, by simp, rfl, by omega, by omega, by show _ ≤ _; have := QL.out; have := XA.out.len; omega, D9.out⟩
          · rcases p4 : (x.e != 10)
            · have hd : divB x = true := by rw [EB.out, p1, p2, p3, p4]; rfl
              have PD : Hid (partsD a = partsA (x.strip, a.2)) := by show _ = _; unfold partsD; rw [← AL.out.2, hd, AL.out.1]; simp
              clear hd
              obtain ⟨x0, x1, x2, x3, x4, x5, x6, x7, x8, x9, x10, x11⟩ := DnAt.of_cells HB1.out; (try simp only [Nat.zero_add] at x0 x1 x2 x3 x4 x5 x6 x7 x8 x9 x10 x11)
              have GL : Hid (g < W1.heap.size) := (Array.getElem?_eq_some_iff.1 HB1.out).1
              have OA : Hid (Only [] W1 (W1.alloc (.cells #[.int .i64 x.who, .int .i64 x.place, .int .i64 x.op, .int .i64 x.f, .int .i64 x.a, .int .i64 x.b, .int .i64 x.e, .slice x.A x.m x.c, .int .i64 x.n, .int .u64 x.v, .int .i64 x.fr, .int .i64 x.to] 31))) := (Only.refl [] W1).alloc _
              have HX1 : Hid ((W1.alloc (.cells #[.int .i64 x.who, .int .i64 x.place, .int .i64 x.op, .int .i64 x.f, .int .i64 x.a, .int .i64 x.b, .int .i64 x.e, .slice x.A x.m x.c, .int .i64 x.n, .int .u64 x.v, .int .i64 x.fr, .int .i64 x.to] 31)).heap[W1.heap.size]? = some (.cells #[.int .i64 x.who, .int .i64 x.place, .int .i64 x.op, .int .i64 x.f, .int .i64 x.a, .int .i64 x.b, .int .i64 x.e, .slice x.A x.m x.c, .int .i64 x.n, .int .u64 x.v, .int .i64 x.fr, .int .i64 x.to] 31 (0, 0))) := heap_alloc_new W1 _
              have HB2 : Hid ((W1.alloc (.cells #[.int .i64 x.who, .int .i64 x.place, .int .i64 x.op, .int .i64 x.f, .int .i64 x.a, .int .i64 x.b, .int .i64 x.e, .slice x.A x.m x.c, .int .i64 x.n, .int .u64 x.v, .int .i64 x.fr, .int .i64 x.to] 31)).heap[g]? = some (.cells #[.int .i64 x.who, .int .i64 x.place, .int .i64 x.op, .int .i64 x.f, .int .i64 x.a, .int .i64 x.b, .int .i64 x.e, .slice x.A x.m x.c, .int .i64 x.n, .int .u64 x.v, .int .i64 x.fr, .int .i64 x.to] 31 (0, 0))) := OA.out.get HB1.out (by simp)
              have D2 : Hid (DR u (W1.alloc (.cells #[.int .i64 x.who, .int .i64 x.place, .int .i64 x.op, .int .i64 x.f, .int .i64 x.a, .int .i64 x.b, .int .i64 x.e, .slice x.A x.m x.c, .int .i64 x.n, .int .u64 x.v, .int .i64 x.fr, .int .i64 x.to] 31)) A1 q cap1 R (partsL (qs.take i))) := D1.out.only0 OA.out
              have NX1 : Hid ((u.heap.size ≤ W1.heap.size ∧ ∀ b, (Value.slice A1 q cap1).ownBlock = some b → b ≠ W1.heap.size) ∧ g ≠ W1.heap.size) := ⟨⟨D1.out.fr.only.size, fun b hb => by have := D1.out.fr.row.lt hb; omega⟩, by have := GL.out; omega⟩
              go_upto_region 10 with fail
              clear x0 x1 x2 x3 x4 x5 x6 x7 x8 x9 x10 x11
              generalize W1.alloc (.cells #[.int .i64 x.who, .int .i64 x.place, .int .i64 x.op, .int .i64 x.f, .int .i64 x.a, .int .i64 x.b, .int .i64 x.e, .slice x.A x.m x.c, .int .i64 x.n, .int .u64 x.v, .int .i64 x.fr, .int .i64 x.to] 31) = W2 at *
              generalize W1.heap.size = gx at *
              obtain ⟨X0, hX0⟩ : ∃ X : Dn, X = { x with op := 4, f := 0, a := 0, b := 0 } := ⟨_, rfl⟩
              have HX2 : Hid (((((W2.setCell ⟨gx, 2, none⟩ (.int .i64 4)).setCell ⟨gx, 3, none⟩ (.int .i64 0)).setCell ⟨gx, 4, none⟩ (.int .i64 0)).setCell ⟨gx, 5, none⟩ (.int .i64 0)).heap[gx]? = some (.cells #[.int .i64 X0.who, .int .i64 X0.place, .int .i64 X0.op, .int .i64 X0.f, .int .i64 X0.a, .int .i64 X0.b, .int .i64 X0.e, .slice X0.A X0.m X0.c, .int .i64 X0.n, .int .u64 X0.v, .int .i64 X0.fr, .int .i64 X0.to] 31 (0, 0))) := by
                show _ = _
                rw [heap_set_same (heap_set_same (heap_set_same (heap_set_same HX1.out 2 (.int .i64 4)) 3 (.int .i64 0)) 4 (.int .i64 0)) 5 (.int .i64 0), hX0]
                rfl
              have HB4 : Hid (((((W2.setCell ⟨gx, 2, none⟩ (.int .i64 4)).setCell ⟨gx, 3, none⟩ (.int .i64 0)).setCell ⟨gx, 4, none⟩ (.int .i64 0)).setCell ⟨gx, 5, none⟩ (.int .i64 0)).heap[g]? = some (.cells #[.int .i64 x.who, .int .i64 x.place, .int .i64 x.op, .int .i64 x.f, .int .i64 x.a, .int .i64 x.b, .int .i64 x.e, .slice x.A x.m x.c, .int .i64 x.n, .int .u64 x.v, .int .i64 x.fr, .int .i64 x.to] 31 (0, 0))) := by
                show _ = _
                rw [heap_set (Ne.symm NX1.out.2), heap_set (Ne.symm NX1.out.2), heap_set (Ne.symm NX1.out.2), heap_set (Ne.symm NX1.out.2)]
                exact HB2.out
              have D4 : Hid (DR u ((((W2.setCell ⟨gx, 2, none⟩ (.int .i64 4)).setCell ⟨gx, 3, none⟩ (.int .i64 0)).setCell ⟨gx, 4, none⟩ (.int .i64 0)).setCell ⟨gx, 5, none⟩ (.int .i64 0)) A1 q cap1 R (partsL (qs.take i))) :=
                (((D2.out.setBox HX1.out NX1.out.1.1 NX1.out.1.2 2 _).setBox (heap_set_same HX1.out 2 _) NX1.out.1.1 NX1.out.1.2 3 _).setBox (heap_set_same (heap_set_same HX1.out 2 _) 3 _) NX1.out.1.1 NX1.out.1.2 4 _).setBox (heap_set_same (heap_set_same (heap_set_same HX1.out 2 _) 3 _) 4 _) NX1.out.1.1 NX1.out.1.2 5 _
              obtain ⟨-, -, x2, x3, x4, x5, -, -, -, -, -, -⟩ := DnAt.of_cells HX1.out
              simp only [Nat.zero_add] at x2 x3 x4 x5
              have f2 := frozen_of HX1.out 2
              have f3 := frozen_of HX1.out 3
              have f4 := frozen_of HX1.out 4
              have f5 := frozen_of HX1.out 5
              go_upto_region 11 with fail
              clear x2 x3 x4 x5 f2 f3 f4 f5
              generalize (((W2.setCell ⟨gx, 2, none⟩ (.int .i64 4)).setCell ⟨gx, 3, none⟩ (.int .i64 0)).setCell ⟨gx, 4, none⟩ (.int .i64 0)).setCell ⟨gx, 5, none⟩ (.int .i64 0) = W4 at *
              have XO : Hid (∀ X : Dn, X = X0 ∨ (∃ (A9 : Option Addr) (m9 c9 : Nat), X = partD x 0 A9 m9 c9) → ∀ (e9 : Int) (A9 : Option Addr) (m9 c9 : Nat), ({ X with e := e9, A := A9, m := m9, c := c9, n := 0, v := 0 } : Dn) = partD x e9 A9 m9 c9) := fun X hX e9 A9 m9 c9 => by
                rcases hX with rfl | ⟨_, _, _, rfl⟩
                · rw [hX0]; rfl
                · rfl
              clear hX0
              go_wp2_with fail
              go_loopg [3, 7] (x.m + 1) (fun gk3 sl sj wr => ∃ (j : Nat) (A2 : Option Addr) (cap2 : Nat) (R2 : List Dn) (X : Dn), sj = .int .i64 (j : Int) ∧ sl = .slice A2 (q + j) cap2 ∧ j ≤ x.m ∧ x.m + 1 ≤ gk3 + j ∧ Hid (X = X0 ∨ ∃ (A9 : Option Addr) (m9 c9 : Nat), X = partD x 0 A9 m9 c9) ∧ Hid (DR u wr A2 (q + j) cap2 R2 (partsL (qs.take i) ++ (a.2.take j).map fun p => partA x.strip 0 [p])) ∧ Hid ((∀ b, (Value.slice A2 (q + j) cap2).ownBlock = some b → b ≠ g ∧ b ≠ gx) ∧ wr.heap[g]? = some (.cells #[.int .i64 x.who, .int .i64 x.place, .int .i64 x.op, .int .i64 x.f, .int .i64 x.a, .int .i64 x.b, .int .i64 x.e, .slice x.A x.m x.c, .int .i64 x.n, .int .u64 x.v, .int .i64 x.fr, .int .i64 x.to] 31 (0, 0)) ∧ wr.heap[gx]? = some (.cells #[.int .i64 X.who, .int .i64 X.place, .int .i64 X.op, .int .i64 X.f, .int .i64 X.a, .int .i64 X.b, .int .i64 X.e, .slice X.A X.m X.c, .int .i64 X.n, .int .u64 X.v, .int .i64 X.fr, .int .i64 X.to] 31 (0, 0))))
              case atStart => exact ⟨0, A1, cap1, R, X0, rfl, by simp, by omega, by omega, .inl rfl, by show DR _ _ _ _ _ _ _; simpa using D4.out, fun b hb => ⟨NB1.out.2 b hb, NX1.out.1.2 b hb⟩, HB4.out, HX2.out⟩
              case round =>
                obtain ⟨j, A2, cap2, R2, X, rfl, rfl, hj, hg3, HX, DD, BB⟩ := hrel
                have wj : IntKind.i64.wrap ((j : Int) + 1) = (j : Int) + 1 := by rw [IntKind.wrap_i64]; have := XM.out; omega
                have NX : Hid (g ≠ gx) := NX1.out.2
                by_cases hjm : j < x.m
                · have h3 : (j : Int) < (x.m : Int) := by omega
                  have d3 : decide ((j : Int) < (x.m : Int)) = true := decide_eq_true h3
                  obtain ⟨p, hp⟩ : ∃ p, a.2[j]? = some p := ⟨_, List.getElem?_eq_getElem (by have := XA.out.len; omega)⟩
                  obtain ⟨ad, b, o, s, exA, e2, c0, c1, c2⟩ := src_at (XA.out.src.only0 DD.out.fr.only) hp
                  have HP := Lib.hid hp
                  clear hp
                  obtain ⟨-, -, -, -, -, -, -, x7, -, -, -, -⟩ := DnAt.of_cells BB.out.2.1
                  simp only [Nat.zero_add] at x7
                  have x7' := x7
                  rw [exA] at x7'
                  have EXA := Lib.hid exA
                  clear x7 exA
                  have OP : Hid (Only [] wr (wr.alloc (.cells #[.int .i64 p.f, .int .i64 p.l, .int .i64 p.m] 49))) := (Only.refl [] wr).alloc _
                  have RP : Hid (pE.Row (wr.alloc (.cells #[.int .i64 p.f, .int .i64 p.l, .int .i64 p.m] 49)) (.slice (some ⟨wr.heap.size, 0, none⟩) 1 1) [p]) := one_row wr p
                  have SZ : Hid (u.heap.size ≤ wr.heap.size) := DD.out.fr.only.size
                  have D6 : Hid (DR u (wr.alloc (.cells #[.int .i64 p.f, .int .i64 p.l, .int .i64 p.m] 49)) A2 (q + j) cap2 R2 (partsL (qs.take i) ++ (a.2.take j).map fun p => partA x.strip 0 [p])) := DD.out.only0 OP.out
                  have B6 : Hid ((wr.alloc (.cells #[.int .i64 p.f, .int .i64 p.l, .int .i64 p.m] 49)).heap[g]? = some (.cells #[.int .i64 x.who, .int .i64 x.place, .int .i64 x.op, .int .i64 x.f, .int .i64 x.a, .int .i64 x.b, .int .i64 x.e, .slice x.A x.m x.c, .int .i64 x.n, .int .u64 x.v, .int .i64 x.fr, .int .i64 x.to] 31 (0, 0)) ∧ (wr.alloc (.cells #[.int .i64 p.f, .int .i64 p.l, .int .i64 p.m] 49)).heap[gx]? = some (.cells #[.int .i64 X.who, .int .i64 X.place, .int .i64 X.op, .int .i64 X.f, .int .i64 X.a, .int .i64 X.b, .int .i64 X.e, .slice X.A X.m X.c, .int .i64 X.n, .int .u64 X.v, .int .i64 X.fr, .int .i64 X.to] 31 (0, 0))) := ⟨OP.out.get BB.out.2.1 (by simp), OP.out.get BB.out.2.2 (by simp)⟩
                  obtain ⟨-, -, -, -, -, -, y6, y7, y8, y9, -, -⟩ := DnAt.of_cells B6.out.2
                  simp only [Nat.zero_add] at y6 y7 y8 y9
                  have f6 := frozen_of B6.out.2 6
                  have f7 := frozen_of B6.out.2 7
                  have f8 := frozen_of B6.out.2 8
                  have f9 := frozen_of B6.out.2 9
                  obtain ⟨y, hy⟩ : ∃ y, partD x 0 (some ⟨wr.heap.size, 0, none⟩) 1 1 = y := ⟨_, rfl⟩
                  have HY := Lib.hid hy
                  have XN := Lib.hid (XO.out X HX.out 0 (some ⟨wr.heap.size, 0, none⟩) 1 1)
                  rw [hy] at XN
                  clear hy
                  have D7 : Hid (DR u (((((wr.alloc (.cells #[.int .i64 p.f, .int .i64 p.l, .int .i64 p.m] 49)).setCell ⟨gx, 6, none⟩ (.int .i64 0)).setCell ⟨gx, 7, none⟩ (.slice (some ⟨wr.heap.size, 0, none⟩) 1 1)).setCell ⟨gx, 8, none⟩ (.int .i64 0)).setCell ⟨gx, 9, none⟩ (.int .u64 0)) A2 (q + j) cap2 R2 (partsL (qs.take i) ++ (a.2.take j).map fun p => partA x.strip 0 [p])) := ((((D6.out.setBox B6.out.2 NX1.out.1.1 (fun b hb => (BB.out.1 b hb).2) 6 _).setBox (heap_set_same B6.out.2 6 _) NX1.out.1.1 (fun b hb => (BB.out.1 b hb).2) 7 _).setBox (heap_set_same (heap_set_same B6.out.2 6 _) 7 _) NX1.out.1.1 (fun b hb => (BB.out.1 b hb).2) 8 _).setBox (heap_set_same (heap_set_same (heap_set_same B6.out.2 6 _) 7 _) 8 _) NX1.out.1.1 (fun b hb => (BB.out.1 b hb).2) 9 _)
                  have B7 : Hid ((((((wr.alloc (.cells #[.int .i64 p.f, .int .i64 p.l, .int .i64 p.m] 49)).setCell ⟨gx, 6, none⟩ (.int .i64 0)).setCell ⟨gx, 7, none⟩ (.slice (some ⟨wr.heap.size, 0, none⟩) 1 1)).setCell ⟨gx, 8, none⟩ (.int .i64 0)).setCell ⟨gx, 9, none⟩ (.int .u64 0)).heap[g]? = some (.cells #[.int .i64 x.who, .int .i64 x.place, .int .i64 x.op, .int .i64 x.f, .int .i64 x.a, .int .i64 x.b, .int .i64 x.e, .slice x.A x.m x.c, .int .i64 x.n, .int .u64 x.v, .int .i64 x.fr, .int .i64 x.to] 31 (0, 0)) ∧ (((((wr.alloc (.cells #[.int .i64 p.f, .int .i64 p.l, .int .i64 p.m] 49)).setCell ⟨gx, 6, none⟩ (.int .i64 0)).setCell ⟨gx, 7, none⟩ (.slice (some ⟨wr.heap.size, 0, none⟩) 1 1)).setCell ⟨gx, 8, none⟩ (.int .i64 0)).setCell ⟨gx, 9, none⟩ (.int .u64 0)).heap[gx]? = some (.cells #[.int .i64 y.who, .int .i64 y.place, .int .i64 y.op, .int .i64 y.f, .int .i64 y.a, .int .i64 y.b, .int .i64 y.e, .slice y.A y.m y.c, .int .i64 y.n, .int .u64 y.v, .int .i64 y.fr, .int .i64 y.to] 31 (0, 0))) := by
                    refine ⟨?_, ?_⟩
                    · rw [heap_set (Ne.symm NX.out), heap_set (Ne.symm NX.out), heap_set (Ne.symm NX.out), heap_set (Ne.symm NX.out)]
                      exact B6.out.1
                    · rw [(heap_set_same (heap_set_same (heap_set_same (heap_set_same B6.out.2 6 (.int .i64 0)) 7 (.slice (some ⟨wr.heap.size, 0, none⟩) 1 1)) 8 (.int .i64 0)) 9 (.int .u64 0)), ← XN.out]
                      rfl
                  have PY : Hid (PR u.heap.size (((((wr.alloc (.cells #[.int .i64 p.f, .int .i64 p.l, .int .i64 p.m] 49)).setCell ⟨gx, 6, none⟩ (.int .i64 0)).setCell ⟨gx, 7, none⟩ (.slice (some ⟨wr.heap.size, 0, none⟩) 1 1)).setCell ⟨gx, 8, none⟩ (.int .i64 0)).setCell ⟨gx, 9, none⟩ (.int .u64 0)) y (partA x.strip 0 [p])) := by
                    refine ⟨by rw [← HY.out]; rfl, ?_, fun b hb => ?_⟩
                    · rw [← HY.out]; exact (row_setBox (row_setBox (row_setBox (row_setBox RP.out B6.out.2 6 _) (heap_set_same B6.out.2 6 _) 7 _) (heap_set_same (heap_set_same B6.out.2 6 _) 7 _) 8 _) (heap_set_same (heap_set_same (heap_set_same B6.out.2 6 _) 7 _) 8 _) 9 _)
                    · rw [← HY.out] at hb
                      simp [partD, Value.ownBlock] at hb
                      have := SZ.out; omega
                  go_upto_region 15 with fail
                  clear y6 y7 y8 y9 f6 f7 f8 f9
                  generalize (((((wr.alloc (.cells #[.int .i64 p.f, .int .i64 p.l, .int .i64 p.m] 49)).setCell ⟨gx, 6, none⟩ (.int .i64 0)).setCell ⟨gx, 7, none⟩ (.slice (some ⟨wr.heap.size, 0, none⟩) 1 1)).setCell ⟨gx, 8, none⟩ (.int .i64 0)).setCell ⟨gx, 9, none⟩ (.int .u64 0)) = W7 at *
                  obtain ⟨z0, z1, z2, z3, z4, z5, z6, z7, z8, z9, z10, z11⟩ := DnAt.of_cells B7.out.2; (try simp only [Nat.zero_add] at z0 z1 z2 z3 z4 z5 z6 z7 z8 z9 z10 z11)
                  clear c0 c1 c2 e2 x7'
                  go_wp2_with (at_builtin; refine wpList_appB rfl (.tmp 69) (.tmp 71) rfl A2 (q + j) cap2 R2 _ y (partA x.strip 0 [p]) rfl rfl D7.out PY.out (by have := hq.out; have := HB.out; have := XM.out; omega) ?_)
                  intro A5 c5 w5 h5 k5
                  have D8 : Hid (DR u w5 A5 (q + (j + 1)) c5 (R2 ++ [y]) (partsL (qs.take i) ++ (a.2.take (j + 1)).map fun p => partA x.strip 0 [p])) := by
                    show DR _ _ _ _ _ _ _
                    rw [take_succ_at HP.out]
                    try simp only [List.map_append, List.map_cons, List.map_nil, List.map_take, List.append_assoc] at h5
                    try simp only [List.map_append, List.map_cons, List.map_nil, List.map_take, List.append_assoc]
                    exact h5
                  have B8 : Hid ((∀ b, (Value.slice A5 (q + (j + 1)) c5).ownBlock = some b → b ≠ g ∧ b ≠ gx) ∧ w5.heap[g]? = some (.cells #[.int .i64 x.who, .int .i64 x.place, .int .i64 x.op, .int .i64 x.f, .int .i64 x.a, .int .i64 x.b, .int .i64 x.e, .slice x.A x.m x.c, .int .i64 x.n, .int .u64 x.v, .int .i64 x.fr, .int .i64 x.to] 31 (0, 0)) ∧ w5.heap[gx]? = some (.cells #[.int .i64 y.who, .int .i64 y.place, .int .i64 y.op, .int .i64 y.f, .int .i64 y.a, .int .i64 y.b, .int .i64 y.e, .slice y.A y.m y.c, .int .i64 y.n, .int .u64 y.v, .int .i64 y.fr, .int .i64 y.to] 31 (0, 0))) := by
                    obtain ⟨q1, q2⟩ := k5 g (Array.getElem?_eq_some_iff.1 B7.out.1).1 (fun b hb => (BB.out.1 b hb).1)
                    obtain ⟨q3, q4⟩ := k5 gx (Array.getElem?_eq_some_iff.1 B7.out.2).1 (fun b hb => (BB.out.1 b hb).2)
                    exact ⟨fun b hb => ⟨q2 b hb, q4 b hb⟩, q1.trans B7.out.1, q3.trans B7.out.2⟩
                  clear h5 k5
                  go_wp2_with fail
                  go_roundg (x.m + 1 - (j + 1))
                  case measure => omega
                  case rel => exact ⟨j + 1, A5, c5, _, y, by simp, rfl, by omega, by omega, .inr ⟨_, _, _, HY.out.symm⟩, D8.out, B8.out⟩
                · obtain rfl : j = x.m := by omega
                  have h3 : ¬ ((x.m : Int) < (x.m : Int)) := by omega
                  have d3 : decide ((x.m : Int) < (x.m : Int)) = false := decide_eq_false h3
                  have TK : Hid (a.2.take x.m = a.2) := List.take_of_length_le (by have := XA.out.len; omega)
                  obtain ⟨-, -, -, -, -, -, x6, x7, -, -, -, -⟩ := DnAt.of_cells BB.out.2.1
                  simp only [Nat.zero_add] at x6 x7
                  rcases he : (x.e == 10)
                  · have EP : Hid (partsA (x.strip, a.2) = a.2.map fun p => partA x.strip 0 [p]) := by
                      show _ = _
                      unfold partsA
                      rw [show (((x.strip, a.2) : Da).1.e == 10) = false from he]
                      simp
                    have D9 : Hid (DR u wr A2 (q + x.m) cap2 R2 (partsL (qs.take (i + 1)))) := by
                      show DR _ _ _ _ _ _ _
                      rw [QS.out, PD.out, EP.out]
                      have := DD.out
                      rwa [TK.out] at this
                    go_wp2_with fail
                    go_roundg (n + 1 - (i + 1))
                    case measure => omega
                    case rel => exact ⟨i + 1, q + x.m, A2, cap2, R2, by simp, rfl, by omega, by omega, by show _ ≤ _; have := QL.out; have := XA.out.len; omega, D9.out⟩
                  · have EP : Hid (partsA (x.strip, a.2) = (a.2.map fun p => partA x.strip 0 [p]) ++ [partA x.strip 10 []]) := by
                      show _ = _
                      unfold partsA
                      rw [show (((x.strip, a.2) : Da).1.e == 10) = true from he]
                      simp
                    obtain ⟨-, -, -, -, -, -, y6, y7, y8, y9, -, -⟩ := DnAt.of_cells BB.out.2.2
                    simp only [Nat.zero_add] at y6 y7 y8 y9
                    have f6 := frozen_of BB.out.2.2 6
                    have f7 := frozen_of BB.out.2.2 7
                    have f8 := frozen_of BB.out.2.2 8
                    have f9 := frozen_of BB.out.2.2 9
                    obtain ⟨y, hy⟩ : ∃ y, partD x 10 none 0 0 = y := ⟨_, rfl⟩
                    have HY := Lib.hid hy
                    have XN := Lib.hid (XO.out X HX.out 10 none 0 0)
                    rw [hy] at XN
                    clear hy
                    have D7 : Hid (DR u ((((wr.setCell ⟨gx, 6, none⟩ (.int .i64 10)).setCell ⟨gx, 7, none⟩ (.slice none 0 0)).setCell ⟨gx, 8, none⟩ (.int .i64 0)).setCell ⟨gx, 9, none⟩ (.int .u64 0)) A2 (q + x.m) cap2 R2 (partsL (qs.take i) ++ (a.2.take x.m).map fun p => partA x.strip 0 [p])) := ((((DD.out.setBox BB.out.2.2 NX1.out.1.1 (fun b hb => (BB.out.1 b hb).2) 6 _).setBox (heap_set_same BB.out.2.2 6 _) NX1.out.1.1 (fun b hb => (BB.out.1 b hb).2) 7 _).setBox (heap_set_same (heap_set_same BB.out.2.2 6 _) 7 _) NX1.out.1.1 (fun b hb => (BB.out.1 b hb).2) 8 _).setBox (heap_set_same (heap_set_same (heap_set_same BB.out.2.2 6 _) 7 _) 8 _) NX1.out.1.1 (fun b hb => (BB.out.1 b hb).2) 9 _)
                    have B7 : Hid (((((wr.setCell ⟨gx, 6, none⟩ (.int .i64 10)).setCell ⟨gx, 7, none⟩ (.slice none 0 0)).setCell ⟨gx, 8, none⟩ (.int .i64 0)).setCell ⟨gx, 9, none⟩ (.int .u64 0)).heap[g]? = some (.cells #[.int .i64 x.who, .int .i64 x.place, .int .i64 x.op, .int .i64 x.f, .int .i64 x.a, .int .i64 x.b, .int .i64 x.e, .slice x.A x.m x.c, .int .i64 x.n, .int .u64 x.v, .int .i64 x.fr, .int .i64 x.to] 31 (0, 0)) ∧ ((((wr.setCell ⟨gx, 6, none⟩ (.int .i64 10)).setCell ⟨gx, 7, none⟩ (.slice none 0 0)).setCell ⟨gx, 8, none⟩ (.int .i64 0)).setCell ⟨gx, 9, none⟩ (.int .u64 0)).heap[gx]? = some (.cells #[.int .i64 y.who, .int .i64 y.place, .int .i64 y.op, .int .i64 y.f, .int .i64 y.a, .int .i64 y.b, .int .i64 y.e, .slice y.A y.m y.c, .int .i64 y.n, .int .u64 y.v, .int .i64 y.fr, .int .i64 y.to] 31 (0, 0))) := by
                      refine ⟨?_, ?_⟩
                      · rw [heap_set (Ne.symm NX.out), heap_set (Ne.symm NX.out), heap_set (Ne.symm NX.out), heap_set (Ne.symm NX.out)]
                        exact BB.out.2.1
                      · rw [(heap_set_same (heap_set_same (heap_set_same (heap_set_same BB.out.2.2 6 (.int .i64 10)) 7 (.slice none 0 0)) 8 (.int .i64 0)) 9 (.int .u64 0)), ← XN.out]
                        rfl
                    have PY : Hid (PR u.heap.size ((((wr.setCell ⟨gx, 6, none⟩ (.int .i64 10)).setCell ⟨gx, 7, none⟩ (.slice none 0 0)).setCell ⟨gx, 8, none⟩ (.int .i64 0)).setCell ⟨gx, 9, none⟩ (.int .u64 0)) y (partA x.strip 10 [])) := by
                      refine ⟨by rw [← HY.out]; rfl, ?_, fun b hb => ?_⟩
                      · rw [← HY.out]; exact El.Row.nil _
                      · rw [← HY.out] at hb
                        simp [partD, Value.ownBlock] at hb
                    go_upto_region 18 with fail
                    clear y6 y7 y8 y9 f6 f7 f8 f9
                    generalize ((((wr.setCell ⟨gx, 6, none⟩ (.int .i64 10)).setCell ⟨gx, 7, none⟩ (.slice none 0 0)).setCell ⟨gx, 8, none⟩ (.int .i64 0)).setCell ⟨gx, 9, none⟩ (.int .u64 0)) = W7 at *
                    obtain ⟨z0, z1, z2, z3, z4, z5, z6, z7, z8, z9, z10, z11⟩ := DnAt.of_cells B7.out.2; (try simp only [Nat.zero_add] at z0 z1 z2 z3 z4 z5 z6 z7 z8 z9 z10 z11)
                    clear x6 x7
                    go_wp2_with (at_builtin; refine wpList_appB rfl (.tmp 79) (.tmp 81) rfl A2 (q + x.m) cap2 R2 _ y (partA x.strip 10 []) rfl rfl D7.out PY.out (by have := hq.out; have := HB.out; have := XM.out; omega) ?_)
                    intro A5 c5 w5 h5 k5
                    have D9 : Hid (DR u w5 A5 (q + x.m + 1) c5 (R2 ++ [y]) (partsL (qs.take (i + 1)))) := by
                      show DR _ _ _ _ _ _ _
                      have TK2 : (a.2.map fun p => partA x.strip 0 [p]).take x.m = a.2.map fun p => partA x.strip 0 [p] := by rw [← List.map_take, TK.out]
                      rw [QS.out, PD.out, EP.out]
                      try simp only [List.map_take, List.append_assoc] at h5
                      try simp only [List.map_take, List.append_assoc]
                      rw [TK2] at h5
                      exact h5
                    clear h5 k5
                    go_wp2_with fail
                    go_roundg (n + 1 - (i + 1))
                    case measure => omega
                    case rel => exact ⟨i + 1, q + x.m + 1, A5, c5, _, by simp, rfl, by omega, by omega, by show _ ≤ _; have := QL.out; have := XA.out.len; omega, D9.out⟩
            · have hd : divB x = false := by rw [EB.out, p1, p2, p3, p4]; rfl
              have PD : Hid (partsD a = [a]) := by show _ = _; unfold partsD; rw [← AL.out.2, hd]; simp
              clear hd
              obtain ⟨x0, x1, x2, x3, x4, x5, x6, x7, x8, x9, x10, x11⟩ := DnAt.of_cells HB1.out; (try simp only [Nat.zero_add] at x0 x1 x2 x3 x4 x5 x6 x7 x8 x9 x10 x11)
              go_upto_region 7 with fail
              go_wp2_with (at_builtin; refine El.wpList_append (E := pE) Try.underlying26 rfl (.const (.slice none 0 0)) (.tmp 41) rfl (.slice none 0 0) [] rfl (El.Row.nil _) x.A x.m x.c a.2 rfl XA.out.len.symm src.out x.m (by simp) (by have := XM.out; omega) ?_)
              intro A2 c2 w3 h3 g3 l3
              have OG : Hid (Only [] W1 w3) := (Only.refl [] W1).grown g3 (fun k hk => by cases hk)
              have R3 : Hid (pE.Row w3 (.slice A2 x.m c2) a.2 ∧ ∀ k, (Value.slice A2 x.m c2).ownBlock = some k → u.heap.size ≤ k) := ⟨by simpa using h3, fun k hk => by
                rcases l3 with l3 | l3
                · rw [hk] at l3; cases l3
                · rw [hk] at l3; injection l3 with l3; rw [l3]; exact D1.out.fr.only.size⟩
              have D3 : Hid (DR u w3 A1 q cap1 R (partsL (qs.take i))) := D1.out.only0 OG.out
              have HB3 : Hid (w3.heap[g]? = some (.cells #[.int .i64 x.who, .int .i64 x.place, .int .i64 x.op, .int .i64 x.f, .int .i64 x.a, .int .i64 x.b, .int .i64 x.e, .slice x.A x.m x.c, .int .i64 x.n, .int .u64 x.v, .int .i64 x.fr, .int .i64 x.to] 31 (0, 0))) := OG.out.get HB1.out (by simp)
              obtain ⟨y, hy⟩ : ∃ y : Dn, y = { x with A := A2, c := c2 } := ⟨_, rfl⟩
              have HB4 : Hid ((w3.setCell ⟨g, 7, none⟩ (.slice A2 x.m c2)).heap[g]? = some (.cells #[.int .i64 y.who, .int .i64 y.place, .int .i64 y.op, .int .i64 y.f, .int .i64 y.a, .int .i64 y.b, .int .i64 y.e, .slice y.A y.m y.c, .int .i64 y.n, .int .u64 y.v, .int .i64 y.fr, .int .i64 y.to] 31 (0, 0))) := by
                show _ = _
                rw [hy]
                simp [World.setCell, Array.getElem?_modify, HB3.out]
              have D4 : Hid (DR u (w3.setCell ⟨g, 7, none⟩ (.slice A2 x.m c2)) A1 q cap1 R (partsL (qs.take i))) := D3.out.setBox HB3.out NB1.out.1 NB1.out.2 7 _
              have PY : Hid (PR u.heap.size (w3.setCell ⟨g, 7, none⟩ (.slice A2 x.m c2)) y a) := by
                have o : Only [g] w3 (w3.setCell ⟨g, 7, none⟩ (.slice A2 x.m c2)) := (Only.refl [g] w3).setCell (.inl (by simp)) _
                refine ⟨by rw [hy]; exact AL.out.1, by rw [hy]; exact R3.out.1.only o (fun b hb2 => by simpa using R3.out.1.ne HB3.out (by decide) b hb2), by rw [hy]; exact R3.out.2⟩
              clear h3 g3 l3 hy x0 x1 x2 x3 x4 x5 x6 x7 x8 x9 x10 x11
              obtain ⟨-, -, -, -, -, -, -, x7, -, -, -, -⟩ := DnAt.of_cells HB3.out
              simp only [Nat.zero_add] at x7
              have f7 := frozen_of HB3.out 7
              go_upto_region 8 with fail
              clear x7 f7
              generalize w3.setCell ⟨g, 7, none⟩ (.slice A2 x.m c2) = W4 at *
              obtain ⟨y0, y1, y2, y3, y4, y5, y6, y7, y8, y9, y10, y11⟩ := DnAt.of_cells HB4.out; (try simp only [Nat.zero_add] at y0 y1 y2 y3 y4 y5 y6 y7 y8 y9 y10 y11)
              go_wp2_with (at_builtin; refine wpList_appR rfl (.tmp 45) (.tmp 47) rfl A1 q cap1 R _ y a rfl rfl D4.out PY.out (by have := hq.out; have := HB.out; omega) ?_)
              intro A5 c5 w5 h5
              have D5 := Lib.hid h5
              clear h5
              go_wp2_with fail
              go_roundg (n + 1 - (i + 1))
              case measure => omega
              case rel => exact ⟨i + 1, q + 1, A5, c5, _, by simp, rfl, by omega, by omega, by show _ ≤ _; have := QL.out; omega, by show DR _ _ _ _ _ _ _; rw [QS.out, PD.out]; exact D5.out⟩
        · have hd : divB x = false := by rw [EB.out, p1, p2]; rfl
          have PD : Hid (partsD a = [a]) := by show _ = _; unfold partsD; rw [← AL.out.2, hd]; simp
          clear hd
          obtain ⟨x0, x1, x2, x3, x4, x5, x6, x7, x8, x9, x10, x11⟩ := DnAt.of_cells HB1.out; (try simp only [Nat.zero_add] at x0 x1 x2 x3 x4 x5 x6 x7 x8 x9 x10 x11)
          go_upto_region 7 with fail
          go_wp2_with (at_builtin; refine El.wpList_append (E := pE) Try.underlying26 rfl (.const (.slice none 0 0)) (.tmp 41) rfl (.slice none 0 0) [] rfl (El.Row.nil _) x.A x.m x.c a.2 rfl XA.out.len.symm src.out x.m (by simp) (by have := XM.out; omega) ?_)
          intro A2 c2 w3 h3 g3 l3
          have OG : Hid (Only [] W1 w3) := (Only.refl [] W1).grown g3 (fun k hk => by cases hk)
          have R3 : Hid (pE.Row w3 (.slice A2 x.m c2) a.2 ∧ ∀ k, (Value.slice A2 x.m c2).ownBlock = some k → u.heap.size ≤ k) := ⟨by simpa using h3, fun k hk => by
            rcases l3 with l3 | l3
            · rw [hk] at l3; cases l3
            · rw [hk] at l3; injection l3 with l3; rw [l3]; exact D1.out.fr.only.size⟩
          have D3 : Hid (DR u w3 A1 q cap1 R (partsL (qs.take i))) := D1.out.only0 OG.out
          have HB3 : Hid (w3.heap[g]? = some (.cells #[.int .i64 x.who, .int .i64 x.place, .int .i64 x.op, .int .i64 x.f, .int .i64 x.a, .int .i64 x.b, .int .i64 x.e, .slice x.A x.m x.c, .int .i64 x.n, .int .u64 x.v, .int .i64 x.fr, .int .i64 x.to] 31 (0, 0))) := OG.out.get HB1.out (by simp)
          obtain ⟨y, hy⟩ : ∃ y : Dn, y = { x with A := A2, c := c2 } := ⟨_, rfl⟩
          have HB4 : Hid ((w3.setCell ⟨g, 7, none⟩ (.slice A2 x.m c2)).heap[g]? = some (.cells #[.int .i64 y.who, .int .i64 y.place, .int .i64 y.op, .int .i64 y.f, .int .i64 y.a, .int .i64 y.b, .int .i64 y.e, .slice y.A y.m y.c, .int .i64 y.n, .int .u64 y.v, .int .i64 y.fr, .int .i64 y.to] 31 (0, 0))) := by
            show _ = _
            rw [hy]
            simp [World.setCell, Array.getElem?_modify, HB3.out]
          have D4 : Hid (DR u (w3.setCell ⟨g, 7, none⟩ (.slice A2 x.m c2)) A1 q cap1 R (partsL (qs.take i))) := D3.out.setBox HB3.out NB1.out.1 NB1.out.2 7 _
          have PY : Hid (PR u.heap.size (w3.setCell ⟨g, 7, none⟩ (.slice A2 x.m c2)) y a) := by
            have o : Only [g] w3 (w3.setCell ⟨g, 7, none⟩ (.slice A2 x.m c2)) := (Only.refl [g] w3).setCell (.inl (by simp)) _
            refine ⟨by rw [hy]; exact AL.out.1, by rw [hy]; exact R3.out.1.only o (fun b hb2 => by simpa using R3.out.1.ne HB3.out (by decide) b hb2), by rw [hy]; exact R3.out.2⟩
          clear h3 g3 l3 hy x0 x1 x2 x3 x4 x5 x6 x7 x8 x9 x10 x11
          obtain ⟨-, -, -, -, -, -, -, x7, -, -, -, -⟩ := DnAt.of_cells HB3.out
          simp only [Nat.zero_add] at x7
          have f7 := frozen_of HB3.out 7
          go_upto_region 8 with fail
          clear x7 f7
          generalize w3.setCell ⟨g, 7, none⟩ (.slice A2 x.m c2) = W4 at *
          obtain ⟨y0, y1, y2, y3, y4, y5, y6, y7, y8, y9, y10, y11⟩ := DnAt.of_cells HB4.out; (try simp only [Nat.zero_add] at y0 y1 y2 y3 y4 y5 y6 y7 y8 y9 y10 y11)
          go_wp2_with (at_builtin; refine wpList_appR rfl (.tmp 45) (.tmp 47) rfl A1 q cap1 R _ y a rfl rfl D4.out PY.out (by have := hq.out; have := HB.out; omega) ?_)
          intro A5 c5 w5 h5
          have D5 := Lib.hid h5
          clear h5
          go_wp2_with fail
          go_roundg (n + 1 - (i + 1))
          case measure => omega
          case rel => exact ⟨i + 1, q + 1, A5, c5, _, by simp, rfl, by omega, by omega, by show _ ≤ _; have := QL.out; omega, by show DR _ _ _ _ _ _ _; rw [QS.out, PD.out]; exact D5.out⟩
      · have hd : divB x = false := by rw [EB.out, p1]; rfl
        have PD : Hid (partsD a = [a]) := by show _ = _; unfold partsD; rw [← AL.out.2, hd]; simp
        clear hd
        obtain ⟨x0, x1, x2, x3, x4, x5, x6, x7, x8, x9, x10, x11⟩ := DnAt.of_cells HB1.out; (try simp only [Nat.zero_add] at x0 x1 x2 x3 x4 x5 x6 x7 x8 x9 x10 x11)
        go_upto_region 7 with fail
        go_wp2_with (at_builtin; refine El.wpList_append (E := pE) Try.underlying26 rfl (.const (.slice none 0 0)) (.tmp 41) rfl (.slice none 0 0) [] rfl (El.Row.nil _) x.A x.m x.c a.2 rfl XA.out.len.symm src.out x.m (by simp) (by have := XM.out; omega) ?_)
        intro A2 c2 w3 h3 g3 l3
        have OG : Hid (Only [] W1 w3) := (Only.refl [] W1).grown g3 (fun k hk => by cases hk)
        have R3 : Hid (pE.Row w3 (.slice A2 x.m c2) a.2 ∧ ∀ k, (Value.slice A2 x.m c2).ownBlock = some k → u.heap.size ≤ k) := ⟨by simpa using h3, fun k hk => by
          rcases l3 with l3 | l3
          · rw [hk] at l3; cases l3
          · rw [hk] at l3; injection l3 with l3; rw [l3]; exact D1.out.fr.only.size⟩
        have D3 : Hid (DR u w3 A1 q cap1 R (partsL (qs.take i))) := D1.out.only0 OG.out
        have HB3 : Hid (w3.heap[g]? = some (.cells #[.int .i64 x.who, .int .i64 x.place, .int .i64 x.op, .int .i64 x.f, .int .i64 x.a, .int .i64 x.b, .int .i64 x.e, .slice x.A x.m x.c, .int .i64 x.n, .int .u64 x.v, .int .i64 x.fr, .int .i64 x.to] 31 (0, 0))) := OG.out.get HB1.out (by simp)
        obtain ⟨y, hy⟩ : ∃ y : Dn, y = { x with A := A2, c := c2 } := ⟨_, rfl⟩
        have HB4 : Hid ((w3.setCell ⟨g, 7, none⟩ (.slice A2 x.m c2)).heap[g]? = some (.cells #[.int .i64 y.who, .int .i64 y.place, .int .i64 y.op, .int .i64 y.f, .int .i64 y.a, .int .i64 y.b, .int .i64 y.e, .slice y.A y.m y.c, .int .i64 y.n, .int .u64 y.v, .int .i64 y.fr, .int .i64 y.to] 31 (0, 0))) := by
          show _ = _
          rw [hy]
          simp [World.setCell, Array.getElem?_modify, HB3.out]
        have D4 : Hid (DR u (w3.setCell ⟨g, 7, none⟩ (.slice A2 x.m c2)) A1 q cap1 R (partsL (qs.take i))) := D3.out.setBox HB3.out NB1.out.1 NB1.out.2 7 _
        have PY : Hid (PR u.heap.size (w3.setCell ⟨g, 7, none⟩ (.slice A2 x.m c2)) y a) := by
          have o : Only [g] w3 (w3.setCell ⟨g, 7, none⟩ (.slice A2 x.m c2)) := (Only.refl [g] w3).setCell (.inl (by simp)) _
          refine ⟨by rw [hy]; exact AL.out.1, by rw [hy]; exact R3.out.1.only o (fun b hb2 => by simpa using R3.out.1.ne HB3.out (by decide) b hb2), by rw [hy]; exact R3.out.2⟩
        clear h3 g3 l3 hy x0 x1 x2 x3 x4 x5 x6 x7 x8 x9 x10 x11
        obtain ⟨-, -, -, -, -, -, -, x7, -, -, -, -⟩ := DnAt.of_cells HB3.out
        simp only [Nat.zero_add] at x7
        have f7 := frozen_of HB3.out 7
        go_upto_region 8 with fail
        clear x7 f7
        generalize w3.setCell ⟨g, 7, none⟩ (.slice A2 x.m c2) = W4 at *
        obtain ⟨y0, y1, y2, y3, y4, y5, y6, y7, y8, y9, y10, y11⟩ := DnAt.of_cells HB4.out; (try simp only [Nat.zero_add] at y0 y1 y2 y3 y4 y5 y6 y7 y8 y9 y10 y11)
        go_wp2_with (at_builtin; refine wpList_appR rfl (.tmp 45) (.tmp 47) rfl A1 q cap1 R _ y a rfl rfl D4.out PY.out (by have := hq.out; have := HB.out; omega) ?_)
        intro A5 c5 w5 h5
        have D5 := Lib.hid h5
        clear h5
        go_wp2_with fail
        go_roundg (n + 1 - (i + 1))
        case measure => omega
        case rel => exact ⟨i + 1, q + 1, A5, c5, _, by simp, rfl, by omega, by omega, by show _ ≤ _; have := QL.out; omega, by show DR _ _ _ _ _ _ _; rw [QS.out, PD.out]; exact D5.out⟩
    · obtain rfl : i = n := by omega
      have h2 : ¬ ((i : Int) < (i : Int)) := by omega
      have h3 : decide ((i : Int) < (i : Int)) = false := decide_eq_false h2
      have TK : Hid (qs.take i = qs) := List.take_of_length_le (by have := H.out.2.2.1.len; have := H.out.2.1; omega)
      go_wp2_with fail
      go_ret
      exact ⟨A1, q, cap1, rfl, R, by have := D.out; rwa [TK.out] at this⟩
end Go.Proofs.Ytocokmjobbmodaa
