/-
  Ours: parts, Parts.
-/
import Derived.Test.YtaaolacfhdfagaaHsP
import Derived.Test.YtaaolacfhdfagaaHsM
import Derived.Deep.LoopGhost
namespace Go.Proofs.Ytaaolacfhdfagaa
set_option maxRecDepth 100000
open Go.RowKit
set_option linter.unusedVariables false
set_option linter.unusedSimpArgs false
set_option maxRecDepth 100000

set_option maxHeartbeats 2000000
/-- A call whose packets lie in a row of their own, in a block that is not below B. -/
structure PR (B : Nat) (w : World) (x : Dn) (a : Da) : Prop where
  str : x.strip = a.1
  row : pE.Row w (.slice x.A x.m x.c) a.2
  new : ∀ g, (Value.slice x.A x.m x.c).ownBlock = some g → B ≤ g
theorem PR.only0 {B : Nat} {w w' : World} {x : Dn} {a : Da} (h : PR B w x a) (ho : Only [] w w') : PR B w' x a := ⟨h.str, h.row.only0 ho, h.new⟩
theorem PR.mono {B B' : Nat} {w : World} {x : Dn} {a : Da} (h : PR B w x a) (hB : B' ≤ B) : PR B' w x a := ⟨h.str, h.row, fun g hg => Nat.le_trans hB (h.new g hg)⟩
theorem PR.abs {B : Nat} {w : World} {x : Dn} {a : Da} (h : PR B w x a) : Abs w x a := ⟨h.str, h.row.lenOf.symm, El.Src.of_row h.row, fun e => by
  have h9 := h.row
  rw [e] at h9
  have := (h9.nilOf rfl).2
  have := h9.lenOf
  simp_all⟩
theorem PR.wr {B : Nat} {w : World} {x : Dn} {a : Da} (h : PR B w x a) : Wr B w x.A x.m := Wr.of_row h.row h.new
/-- Beside a row of calls that grows. -/
theorem PR.grown {B : Nat} {w w' : World} {x : Dn} {a : Da} (h : PR B w x a) {A : Option Addr} {p c : Nat} {out : List Dn} (hr : dE.Row w (.slice A p c) out) (hg : w.grownBy w' (Value.slice A p c).ownBlock) : PR B w' x a := by
  refine ⟨h.str, h.row.keep fun g hg2 => ?_, h.new⟩
  refine hg.block g (h.row.lt hg2) ?_
  intro e
  have e' : (Value.slice A p c).ownBlock = some g := by first | exact e | exact e.symm
  obtain ⟨cur, hb⟩ := hr.typ e'
  exact h.row.ne hb (by decide) g hg2 rfl
structure Rw (B : Nat) (w : World) (xs : List Dn) (qs : List Da) : Prop where
  len : xs.length = qs.length
  at_ : ∀ (k : Nat) (x : Dn) (a : Da), xs[k]? = some x → qs[k]? = some a → PR B w x a
section
variable {B : Nat} {w w' : World} {xs ys : List Dn} {qs bs : List Da} {x : Dn} {a : Da}
theorem Rw.only0 (h : Rw B w xs qs) (ho : Only [] w w') : Rw B w' xs qs := ⟨h.len, fun k x a hx ha => (h.at_ k x a hx ha).only0 ho⟩
theorem Rw.mono (h : Rw B w xs qs) {B' : Nat} (hB : B' ≤ B) : Rw B' w xs qs := ⟨h.len, fun k x a hx ha => (h.at_ k x a hx ha).mono hB⟩
theorem Rw.grown (h : Rw B w xs qs) {A : Option Addr} {p c : Nat} {out : List Dn} (hr : dE.Row w (.slice A p c) out) (hg : w.grownBy w' (Value.slice A p c).ownBlock) : Rw B w' xs qs := ⟨h.len, fun k x a hx ha => (h.at_ k x a hx ha).grown hr hg⟩
theorem Rw.nil (B : Nat) (w : World) : Rw B w [] [] := ⟨rfl, fun k x a hx => by simp at hx⟩
theorem Rw.one (h : PR B w x a) : Rw B w [x] [a] := ⟨rfl, fun k y b hy hb => by
  rcases k with _ | k
  · simp at hy hb; subst hy hb; exact h
  · simp at hy⟩
theorem Rw.append (h : Rw B w xs qs) (h2 : Rw B w ys bs) : Rw B w (xs ++ ys) (qs ++ bs) := by
  refine ⟨by simp [h.len, h2.len], fun k x a hx ha => ?_⟩
  by_cases hk : k < xs.length
  · rw [List.getElem?_append_left hk] at hx
    rw [List.getElem?_append_left (by rw [← h.len]; exact hk)] at ha
    exact h.at_ k x a hx ha
  · rw [List.getElem?_append_right (by omega)] at hx
    rw [List.getElem?_append_right (by rw [← h.len]; omega), ← h.len] at ha
    exact h2.at_ _ x a hx ha
theorem Rw.abs (h : Rw B w xs qs) : AbsL w xs qs := ⟨h.len, fun k x a hx ha => (h.at_ k x a hx ha).abs⟩
end
/-- A row of calls under way, with what they told. -/
structure DR (w wr : World) (A : Option Addr) (p cap : Nat) (xs : List Dn) (qs : List Da) : Prop where
  fr : DFr w wr A p cap xs
  rw_ : Rw w.heap.size wr xs qs
section
variable {w wr w' : World} {A : Option Addr} {p cap : Nat} {xs ys : List Dn} {qs bs : List Da} {x : Dn} {a : Da}
theorem DR.nil (h : Only [] w wr) : DR w wr none 0 0 [] [] := ⟨DFr.nil h, Rw.nil _ _⟩
theorem DR.only0 (h : DR w wr A p cap xs qs) (ho : Only [] wr w') : DR w w' A p cap xs qs := ⟨h.fr.only0 ho, h.rw_.only0 ho⟩
theorem DR.app (h : DR w wr A p cap xs qs) {q : Nat} {A2 : Option Addr} {cap2 : Nat} {w2 : World} (h3 : Rw w.heap.size wr ys bs) (h2 : dE.Row w2 (.slice A2 q cap2) (xs ++ ys)) (hg : wr.grownBy w2 (Value.slice A p cap).ownBlock)
    (hl : (Value.slice A2 q cap2).ownBlock = (Value.slice A p cap).ownBlock ∨ (Value.slice A2 q cap2).ownBlock = some wr.heap.size) : DR w w2 A2 q cap2 (xs ++ ys) (qs ++ bs) :=
  ⟨h.fr.app (Only.refl [] wr) h2 hg hl, (h.rw_.grown h.fr.row hg).append (h3.grown h.fr.row hg)⟩
end
theorem DR.up {w w1 wr : World} {A : Option Addr} {p cap : Nat} {xs : List Dn} {qs : List Da} (h : DR w1 wr A p cap xs qs) (o : Only [] w w1) : DR w wr A p cap xs qs :=
  ⟨⟨h.fr.row, h.fr.len, fun k hk => Nat.le_trans o.size (h.fr.new k hk), o.trans' h.fr.only⟩, h.rw_.mono o.size⟩
section
variable {w wr : World} {ops : Array Oper} {o : Oper} {a : Act} {K : Act → World → Prop} {Q : Exit → Act → World → Prop}
theorem wpList_appR {rest : List Oper} (hgd : o.guard = none) (s x : Operand) (ho : o.op = .call { callee := .builtin .append, args := #[s, x], argTypes := #[34, 34] })
    (A : Option Addr) (p cap : Nat) (xs : List Dn) (qs : List Da) (v : Dn) (b : Da) (hs : a.eval s = .slice A p cap) (hx : a.eval x = .slice (some ⟨wr.heap.size, 0, none⟩) 1 1) (h : DR w wr A p cap xs qs) (hv : PR w.heap.size wr v b) (hb : p ≤ 90000000)
    (hK : ∀ A2 cap2 w2, DR w w2 A2 (p + 1) cap2 (xs ++ [v]) (qs ++ [b]) → wpList Try.prog ops Q rest (a.put o.dst (.slice A2 (p + 1) cap2)) w2) : wpList Try.prog ops Q (o :: rest) a (wr.alloc (.cells #[.int .i64 v.who, .int .i64 v.place, .int .i64 v.op, .int .i64 v.f, .int .i64 v.a, .int .i64 v.b, .int .i64 v.e, .slice v.A v.m v.c, .int .i64 v.n, .int .u64 v.v, .int .i64 v.fr, .int .i64 v.to] 30)) := by
  have oB : Only [] wr (wr.alloc (.cells #[.int .i64 v.who, .int .i64 v.place, .int .i64 v.op, .int .i64 v.f, .int .i64 v.a, .int .i64 v.b, .int .i64 v.e, .slice v.A v.m v.c, .int .i64 v.n, .int .u64 v.v, .int .i64 v.fr, .int .i64 v.to] 30)) := (Only.refl [] wr).alloc _
  refine wpList_plain hgd fun _ hK' => El.wp_append (E := dE) Try.underlying34 s x ho (.slice A p cap) xs hs (h.fr.row.only0 oB) _ 1 1 [v] hx rfl (El.Src.box (E := dE) (x := v) (heap_alloc_new wr _)) (p + 1) (by rw [h.fr.len]) (by omega) ?_
  intro A2 cap2 w2 r2 g2 l2
  exact hK' _ _ (hK A2 cap2 w2 ((h.only0 oB).app (Rw.one (hv.only0 oB)) r2 g2 l2))
theorem wpList_appRs {rest : List Oper} (hgd : o.guard = none) (s x : Operand) (ho : o.op = .call { callee := .builtin .append, args := #[s, x], argTypes := #[34, 34] })
    (A : Option Addr) (p cap : Nat) (xs : List Dn) (qs : List Da) (A3 : Option Addr) (q c3 : Nat) (ys : List Dn) (bs : List Da) (hs : a.eval s = .slice A p cap) (hx : a.eval x = .slice A3 q c3) (h : DR w wr A p cap xs qs) (hy : dE.Row wr (.slice A3 q c3) ys) (hv : Rw w.heap.size wr ys bs) (hb : p + q ≤ 100000000)
    (hK : ∀ A2 cap2 w2, DR w w2 A2 (p + q) cap2 (xs ++ ys) (qs ++ bs) → wpList Try.prog ops Q rest (a.put o.dst (.slice A2 (p + q) cap2)) w2) : wpList Try.prog ops Q (o :: rest) a wr := by
  refine wpList_plain hgd fun _ hK' => El.wp_append (E := dE) Try.underlying34 s x ho (.slice A p cap) xs hs h.fr.row A3 q c3 ys hx hy.lenOf (El.Src.of_row hy) (p + q) (by rw [h.fr.len]) (by omega) ?_
  intro A2 cap2 w2 r2 g2 l2
  exact hK' _ _ (hK A2 cap2 w2 (h.app hv r2 g2 l2))
end
theorem kPartH (x : Dn) (A0 : Option Addr) (m0 c0 : Nat) (e0 : Int) (A : Option Addr) (m c : Nat) (w : World) : Calls Try.prog 19 #[.agg #[.int .i64 x.who, .int .i64 x.place, .int .i64 x.op, .int .i64 x.f, .int .i64 x.a, .int .i64 x.b, .int .i64 x.e, .slice A0 m0 c0, .int .i64 x.n, .int .u64 x.v, .int .i64 x.fr, .int .i64 x.to], .agg #[.int .i64 e0, .slice A m c, .int .i64 0, .int .u64 0]] w fun e w' =>
    e = .returned (.agg #[.int .i64 (partD x e0 A m c).who, .int .i64 (partD x e0 A m c).place, .int .i64 (partD x e0 A m c).op, .int .i64 (partD x e0 A m c).f, .int .i64 (partD x e0 A m c).a, .int .i64 (partD x e0 A m c).b, .int .i64 (partD x e0 A m c).e, .slice (partD x e0 A m c).A (partD x e0 A m c).m (partD x e0 A m c).c, .int .i64 (partD x e0 A m c).n, .int .u64 (partD x e0 A m c).v, .int .i64 (partD x e0 A m c).fr, .int .i64 (partD x e0 A m c).to]) ∧ Only [] w w' := kPart { x with A := A0, m := m0, c := c0 } e0 A m c w
theorem boxH (w : World) (x : Dn) (A : Option Addr) (m c : Nat) (t : TypeId) : Hid (Only [] w (w.alloc (.cells #[.int .i64 x.who, .int .i64 x.place, .int .i64 x.op, .int .i64 x.f, .int .i64 x.a, .int .i64 x.b, .int .i64 x.e, .slice A m c, .int .i64 x.n, .int .u64 x.v, .int .i64 x.fr, .int .i64 x.to] t)) ∧ ∀ V, Only [] (w.alloc (.cells #[.int .i64 x.who, .int .i64 x.place, .int .i64 x.op, .int .i64 x.f, .int .i64 x.a, .int .i64 x.b, .int .i64 x.e, .slice A m c, .int .i64 x.n, .int .u64 x.v, .int .i64 x.fr, .int .i64 x.to] t)) V → DnAt V w.heap.size 0 { x with A := A, m := m, c := c }) :=
  box1 w { x with A := A, m := m, c := c } t
/-- One packet, in a row of its own. -/
theorem one_row (W : World) (p : Pk) : pE.Row (W.alloc (.cells #[.int .i64 p.f, .int .i64 p.l, .int .i64 p.m] 45)) (.slice (some ⟨W.heap.size, 0, none⟩) 1 1) [p] :=
  ⟨by rw [pE.flat_length], .inr ⟨W.heap.size, 1, _, rfl, Nat.zero_le _, heap_alloc_new W _, Nat.le_refl _, by unfold maxLen; omega, by simp, by simp [El.flat, pE]⟩⟩
theorem kParts (x : Dn) (A : Option Addr) (m c : Nat) (ps : List Pk) (u : World) (hl : ps.length = m) (hs : pE.Src u A ps) (hm : m ≤ 1048576) :
    Calls Try.prog 11 #[.agg #[.int .i64 x.who, .int .i64 x.place, .int .i64 x.op, .int .i64 x.f, .int .i64 x.a, .int .i64 x.b, .int .i64 x.e, .slice A m c, .int .i64 x.n, .int .u64 x.v, .int .i64 x.fr, .int .i64 x.to]] u fun e w' => ∃ A2 q c2, e = .returned (.slice A2 q c2) ∧ ∃ R, DR u w' A2 q c2 R (partsA (x.strip, ps)) := by
  have BX := boxH u x A m c 30
  have H := Lib.hid (And.intro hs hl)
  have kp := Lib.hid (fun (A0 : Option Addr) (e0 : Int) (A1 : Option Addr) (m1 c1 : Nat) (V : World) => kPartH x A0 m c e0 A1 m1 c1 V)
  clear hs hl
  obtain ⟨x0, x1, x2, x3, x4, x5, x6, x7, x8, x9, x10, x11⟩ := BX.out.2 _ (Only.refl _ _); (try simp only [Nat.zero_add] at x0 x1 x2 x3 x4 x5 x6 x7 x8 x9 x10 x11)
  go_enter Try.func11, Try.ntmps11
  go_upto_region 1 with fail
  have O0 : Hid (Only [] u (u.alloc (.cells #[.int .i64 x.who, .int .i64 x.place, .int .i64 x.op, .int .i64 x.f, .int .i64 x.a, .int .i64 x.b, .int .i64 x.e, .slice A m c, .int .i64 x.n, .int .u64 x.v, .int .i64 x.fr, .int .i64 x.to] 30))) := BX.out.1
  have BY : Hid (∀ V, Only [] (u.alloc (.cells #[.int .i64 x.who, .int .i64 x.place, .int .i64 x.op, .int .i64 x.f, .int .i64 x.a, .int .i64 x.b, .int .i64 x.e, .slice A m c, .int .i64 x.n, .int .u64 x.v, .int .i64 x.fr, .int .i64 x.to] 30)) V → DnAt V u.heap.size 0 { x with A := A, m := m, c := c }) := BX.out.2
  clear BX
  generalize u.alloc (.cells #[.int .i64 x.who, .int .i64 x.place, .int .i64 x.op, .int .i64 x.f, .int .i64 x.a, .int .i64 x.b, .int .i64 x.e, .slice A m c, .int .i64 x.n, .int .u64 x.v, .int .i64 x.fr, .int .i64 x.to] 30) = W0 at *
  obtain ⟨g, hg⟩ : ∃ g, u.heap.size = g := ⟨_, rfl⟩
  have HG := Lib.hid hg
  rw [hg] at BY x0 x1 x2 x3 x4 x5 x6 x7 x8 x9 x10 x11 ⊢
  clear hg
  try dsimp only at x0 x1 x2 x3 x4 x5 x6 x7 x8 x9 x10 x11
  go_wp2_with fail
  clear x0 x1 x2 x3 x4 x5 x6 x7 x8 x9 x10 x11
  go_loopg [3, 10] (m + 1) (fun gk sl si wr => ∃ (k : Nat) (A1 : Option Addr) (cap1 : Nat) (R : List Dn), si = .int .i64 (k : Int) ∧ sl = .slice A1 k cap1 ∧ k ≤ m ∧ m + 1 ≤ gk + k ∧ Hid (DR W0 wr A1 k cap1 R ((ps.take k).map fun p => partA x.strip 0 [p])))
  case atStart => exact ⟨0, none, 0, [], rfl, rfl, by omega, by omega, by show DR _ _ _ _ _ _ _; simpa using DR.nil (Only.refl [] W0)⟩
  case round =>
    obtain ⟨k, A1, cap1, R, rfl, rfl, hk, hg2, D⟩ := hrel
    have O : Hid (Only [] W0 wr) := D.out.fr.only
    by_cases hkm : k < m
    · have h1 : (k : Int) < (m : Int) := by omega
      obtain ⟨p, hp⟩ : ∃ p, ps[k]? = some p := ⟨_, List.getElem?_eq_getElem (by have := H.out.2; omega)⟩
      obtain ⟨ad, b, o, s, rfl, e2, c0, c1, c2⟩ := src_at (H.out.1.only0 (O0.out.trans' O.out)) hp
      have HP := Lib.hid hp
      have al := Only.alloc (Only.refl [] wr) (.cells #[.int .i64 p.f, .int .i64 p.l, .int .i64 p.m] 45)
      have hb := heap_alloc_new wr (.cells #[.int .i64 p.f, .int .i64 p.l, .int .i64 p.m] 45)
      have OA : Hid (Only [] wr (wr.alloc (.cells #[.int .i64 p.f, .int .i64 p.l, .int .i64 p.m] 45))) := al
      have HB : Hid ((wr.alloc (.cells #[.int .i64 p.f, .int .i64 p.l, .int .i64 p.m] 45)).heap[wr.heap.size]? = some (.cells #[.int .i64 p.f, .int .i64 p.l, .int .i64 p.m] 45 (0, 0))) := hb
      clear hp al hb
      go_upto_region 5 with fail
      clear c0 c1 c2
      generalize wr.alloc (.cells #[.int .i64 p.f, .int .i64 p.l, .int .i64 p.m] 45) = W1 at *
      generalize wr.heap.size = b1 at *
      have y0 : W1.cell? ⟨b1, 0, none⟩ = some (.int .i64 p.f) := by rw [cell_of_row _ _ _ _ _ (0, 0) HB.out]; rfl
      have y1 : W1.cell? ⟨b1, 1, none⟩ = some (.int .i64 p.l) := by rw [cell_of_row _ _ _ _ _ (0, 0) HB.out]; rfl
      have y2 : W1.cell? ⟨b1, 2, none⟩ = some (.int .i64 p.m) := by rw [cell_of_row _ _ _ _ _ (0, 0) HB.out]; rfl
      obtain ⟨x0, x1, x2, x3, x4, x5, x6, x7, x8, x9, x10, x11⟩ := BY.out W1 (O.out.trans' OA.out); (try simp only [Nat.zero_add] at x0 x1 x2 x3 x4 x5 x6 x7 x8 x9 x10 x11)
      try dsimp only at x0 x1 x2 x3 x4 x5 x6 x7 x8 x9 x10 x11
      have kq := Lib.hid (kp.out (some ad) 0 (some ⟨W1.heap.size, 0, none⟩) 1 1 (W1.alloc (.cells #[.int .i64 p.f, .int .i64 p.l, .int .i64 p.m] 45)))
      have RW : Hid (pE.Row (W1.alloc (.cells #[.int .i64 p.f, .int .i64 p.l, .int .i64 p.m] 45)) (.slice (some ⟨W1.heap.size, 0, none⟩) 1 1) [p]) := one_row W1 p
      have OB : Hid (Only [] W1 (W1.alloc (.cells #[.int .i64 p.f, .int .i64 p.l, .int .i64 p.m] 45))) := (Only.refl [] W1).alloc _
      have SZ : Hid (W0.heap.size ≤ W1.heap.size) := (O.out.trans' OA.out).size
      obtain ⟨y, hy⟩ : ∃ y, partD x 0 (some ⟨W1.heap.size, 0, none⟩) 1 1 = y := ⟨_, rfl⟩
      rw [hy] at kq
      have HY := Lib.hid hy
      clear hy
      go_wp2_with (first
        | (go_at_call 19
           refine kq.out.mono ?_
           rintro e w3 ⟨rfl, o3⟩
           have D2 : Hid (DR W0 w3 A1 k cap1 R ((ps.take k).map fun p => partA x.strip 0 [p])) := (D.out.only0 OA.out).only0 (OB.out.trans' o3)
           have PY : Hid (PR W0.heap.size w3 y (partA x.strip 0 [p])) := ⟨by rw [← HY.out]; rfl, by rw [← HY.out]; exact RW.out.only0 o3, fun g hg => by rw [← HY.out] at hg; simp [partD, Value.ownBlock] at hg; have := SZ.out; omega⟩
           clear o3)
        | (at_builtin
           refine wpList_appR rfl (.tmp 14) (.tmp 20) rfl A1 k cap1 R _ y (partA x.strip 0 [p]) rfl rfl D2.out PY.out (by omega) ?_
           intro A5 c5 w5 h5
           have D5 := Lib.hid h5
           clear h5))
      go_roundg (m + 1 - (k + 1))
      case measure => omega
      case rel => exact ⟨k + 1, A5, c5, _, by simp, rfl, by omega, by omega, by show DR _ _ _ _ _ _ _; rw [take_succ_at HP.out, List.map_append]; exact D5.out⟩
    · obtain rfl : k = m := by omega
      have h2 : ¬ ((k : Int) < (k : Int)) := by omega
      have h3 : decide ((k : Int) < (k : Int)) = false := decide_eq_false h2
      have TK : Hid (ps.take k = ps) := List.take_of_length_le (by have := H.out.2; omega)
      rcases he : (x.e == 10)
      · have EP : Hid (partsA (x.strip, ps) = ps.map fun p => partA x.strip 0 [p]) := by
          show _ = _
          unfold partsA
          rw [show (((x.strip, ps) : Da).1.e == 10) = false from he]
          simp
        obtain ⟨-, -, -, -, -, -, x6, -, -, -, -, -⟩ := BY.out wr O.out
        try dsimp only at x6
        simp only [Nat.zero_add] at x6
        go_wp2_with fail
        go_ret
        exact ⟨A1, k, cap1, rfl, R, by rw [EP.out]; have := D.out.up O0.out; rwa [TK.out] at this⟩
      · have EP : Hid (partsA (x.strip, ps) = (ps.map fun p => partA x.strip 0 [p]) ++ [partA x.strip 10 []]) := by
          show _ = _
          unfold partsA
          rw [show (((x.strip, ps) : Da).1.e == 10) = true from he]
          simp
        obtain ⟨x0, x1, x2, x3, x4, x5, x6, x7, x8, x9, x10, x11⟩ := BY.out wr O.out; (try simp only [Nat.zero_add] at x0 x1 x2 x3 x4 x5 x6 x7 x8 x9 x10 x11)
        try dsimp only at x0 x1 x2 x3 x4 x5 x6 x7 x8 x9 x10 x11
        have kq := Lib.hid (kp.out A 10 none 0 0 wr)
        obtain ⟨y, hy⟩ : ∃ y, partD x 10 none 0 0 = y := ⟨_, rfl⟩
        rw [hy] at kq
        have HY := Lib.hid hy
        clear hy
        go_wp2_with (first
          | (go_at_call 19
             refine kq.out.mono ?_
             rintro e w3 ⟨rfl, o3⟩
             have D2 : Hid (DR W0 w3 A1 k cap1 R ((ps.take k).map fun p => partA x.strip 0 [p])) := D.out.only0 o3
             have PY : Hid (PR W0.heap.size w3 y (partA x.strip 10 [])) := ⟨by rw [← HY.out]; rfl, by rw [← HY.out]; exact El.Row.nil _, fun g hg => by rw [← HY.out] at hg; simp [partD, Value.ownBlock] at hg⟩
             clear o3)
          | (at_builtin
             refine wpList_appR rfl (.tmp 27) (.tmp 31) rfl A1 k cap1 R _ y (partA x.strip 10 []) rfl rfl D2.out PY.out (by omega) ?_
             intro A5 c5 w5 h5
             have D5 := Lib.hid h5
             clear h5))
        go_ret
        exact ⟨A5, k + 1, c5, by simp, _, by rw [EP.out]; have := D5.out.up O0.out; rwa [TK.out] at this⟩
end Go.Proofs.Ytaaolacfhdfagaa
