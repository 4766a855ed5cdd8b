/-
  Packets; a call with its packets; Clone of packets; part, parts.
-/
import Derived.Test.YtaaolacfhdfagaaHsN
import Derived.Lib.SliceRun
import Derived.Deep.RegionWith
namespace Go.Proofs.Ytaaolacfhdfagaa
set_option maxRecDepth 100000
open Go.RowKit
set_option linter.unusedVariables false
set_option linter.unusedSimpArgs false
set_option maxRecDepth 100000

set_option maxHeartbeats 2000000
structure Pk where
  f : Int
  l : Int
  m : Int
deriving DecidableEq, Inhabited
def pE : El Pk 3 where
  T := 45
  cs := fun p => [.int .i64 p.f, .int .i64 p.l, .int .i64 p.m]
  z := .agg #[.int .i64 0, .int .i64 0, .int .i64 0]
  wide := 24
  len := fun _ => rfl
  one := fun x u hu => by
    simp at hu
    rcases hu with rfl | rfl | rfl <;> rfl
  pos := by decide
  info := by kernel_rfl
  zs := rfl
  small := by decide
theorem add_atP (x : Addr) (n j : Nat) (hj : 0 < j) {b o : Nat} {s : Option Nat} (h : x.add n = ⟨b, o, s⟩) : x.add (n + j) = ⟨b, o + j, none⟩ := by
  unfold Addr.add at h ⊢
  rw [if_neg (by omega)]
  split at h
  · rename_i h0
    subst h0
    subst h
    simp
  · injection h with h1 h2 h3
    subst h1 h2
    simp [Nat.add_assoc]
/-- A packet among those that a slice's address leads to. -/
theorem src_at {w : World} {A : Option Addr} {ps : List Pk} (h : pE.Src w A ps) {k : Nat} {x : Pk} (hk : ps[k]? = some x) :
    ∃ (ad : Addr) (b o : Nat) (s : Option Nat), A = some ad ∧ ad.add (k * 3) = ⟨b, o, s⟩ ∧ w.cell? ⟨b, o, s⟩ = some (.int .i64 x.f) ∧ w.cell? ⟨b, o + 1, none⟩ = some (.int .i64 x.l) ∧ w.cell? ⟨b, o + 2, none⟩ = some (.int .i64 x.m) := by
  obtain ⟨ad, e, hc⟩ := h (by rintro rfl; simp at hk)
  obtain ⟨⟨b, o, s⟩, eA⟩ : ∃ A, ad.add (k * 3) = A := ⟨_, rfl⟩
  have f := fun j (hj : j < 3) => pE.flat_at ps k x hk j hj
  have c0 := hc (k * 3 + 0) _ (f 0 (by omega))
  have c1 := hc (k * 3 + 1) _ (f 1 (by omega))
  have c2 := hc (k * 3 + 2) _ (f 2 (by omega))
  rw [Nat.add_zero, eA] at c0
  rw [add_atP ad (k * 3) 1 (by omega) eA] at c1
  rw [add_atP ad (k * 3) 2 (by omega) eA] at c2
  exact ⟨ad, b, o, s, e, eA, c0, c1, c2⟩
/-- A slice's places may be written, all in blocks not below B. -/
def Wr (B : Nat) (w : World) (A : Option Addr) (m : Nat) : Prop := 0 < m → ∃ g, A = some ⟨g, 0, none⟩ ∧ B ≤ g ∧ ∀ j, j < m * 3 → (w.cell? ⟨g, j, none⟩).isSome = true ∧ w.frozen? ⟨g, j, none⟩ = false
theorem Wr.only {B : Nat} {w w' : World} {A : Option Addr} {m : Nat} (h : Wr B w A m) {S : List Nat} (ho : Only S w w') (hS : ∀ k ∈ S, k < B) : Wr B w' A m := fun h0 => by
  obtain ⟨g, e, hB, hc⟩ := h h0
  have hg : g < w.heap.size := by
    obtain ⟨v, hv⟩ := Option.isSome_iff_exists.1 (hc 0 (by omega)).1
    exact World.block_lt_of_cell? _ _ hv
  have bl := ho.block g hg (fun hk => by have := hS g hk; omega)
  exact ⟨g, e, hB, fun j hj => ⟨by rw [World.cell?_of_block bl]; exact (hc j hj).1, by rw [World.frozen?_of_block bl]; exact (hc j hj).2⟩⟩
theorem Wr.only0 {B : Nat} {w w' : World} {A : Option Addr} {m : Nat} (h : Wr B w A m) (ho : Only [] w w') : Wr B w' A m := h.only ho (by simp)
theorem Wr.mono {B B' : Nat} {w : World} {A : Option Addr} {m : Nat} (h : Wr B w A m) (hB : B' ≤ B) : Wr B' w A m := fun h0 => by
  obtain ⟨g, e, h1, hc⟩ := h h0
  exact ⟨g, e, by omega, hc⟩
theorem Wr.of_row {B : Nat} {w : World} {A : Option Addr} {m c : Nat} {ps : List Pk} (h : pE.Row w (.slice A m c) ps) (hB : ∀ g, (Value.slice A m c).ownBlock = some g → B ≤ g) : Wr B w A m := fun h0 => by
  have hl := h.lenOf
  obtain ⟨g, c', cur, e, _, _, hg, hb, hsz, hcur⟩ := h.at_ (by omega)
  injection e with e1 e2 e3
  refine ⟨g, e1, hB g (by rw [e1]; rfl), fun j hj => ⟨?_, by simp [World.frozen?, hb]⟩⟩
  obtain ⟨g2, e', _, hc⟩ := h.cell (k := j / 3) (List.getElem?_eq_getElem (by omega))
  rw [e1] at e'
  injection e' with e'
  injection e' with e'
  subst e'
  have hjl : j % 3 < (pE.cs (ps[j / 3]'(by omega))).length := by rw [pE.len]; omega
  have h7 := (hc (j % 3) _ (List.getElem?_eq_getElem hjl)).1
  rw [show j / 3 * 3 + j % 3 = j by omega] at h7
  rw [h7]
  rfl

/-! ### calls with their packets -/
/-- A call without its packets' place. -/
def Dn.strip (x : Dn) : Dn := { x with A := none, m := 0, c := 0 }
/-- What a call is, and the packets it told. -/
abbrev Da := Dn × List Pk
structure Abs (w : World) (x : Dn) (a : Da) : Prop where
  str : x.strip = a.1
  len : x.m = a.2.length
  src : pE.Src w x.A a.2
  nil : x.A = none → x.m = 0
theorem Abs.only0 {w w' : World} {x : Dn} {a : Da} (h : Abs w x a) (ho : Only [] w w') : Abs w' x a := ⟨h.str, h.len, h.src.only0 ho, h.nil⟩
theorem Abs.keep {w w' : World} {x : Dn} {a : Da} (h : Abs w x a) {S : List Nat} (ho : Only S w w') (hS : ∀ ad, x.A = some ad → ad.block ∉ S) : Abs w' x a :=
  ⟨h.str, h.len, h.src.keep fun ad j e hs => by
    rcases hc : w.cell? (ad.add j) with _ | u
    · rw [hc] at hs; cases hs
    · have hb : (ad.add j).block = ad.block := by unfold Addr.add; split <;> rfl
      exact (ho.cell (World.block_lt_of_cell? w _ hc) (by rw [hb]; exact hS ad e)).trans hc, h.nil⟩
structure AbsL (w : World) (xs : List Dn) (qs : List Da) : Prop where
  len : xs.length = qs.length
  at_ : ∀ (k : Nat) (x : Dn) (a : Da), xs[k]? = some x → qs[k]? = some a → Abs w x a
section
variable {w w' : World} {xs ys : List Dn} {qs bs : List Da} {x : Dn} {a : Da}
theorem AbsL.only0 (h : AbsL w xs qs) (ho : Only [] w w') : AbsL w' xs qs := ⟨h.len, fun k x a hx ha => (h.at_ k x a hx ha).only0 ho⟩
theorem AbsL.nil (w : World) : AbsL w [] [] := ⟨rfl, fun k x a hx => by simp at hx⟩
theorem AbsL.one (h : Abs w x a) : AbsL w [x] [a] := ⟨rfl, fun k y b hy hb => by
  rcases k with _ | k
  · simp at hy hb; subst hy hb; exact h
  · simp at hy⟩
theorem AbsL.append (h : AbsL w xs qs) (h2 : AbsL w ys bs) : AbsL w (xs ++ ys) (qs ++ bs) := by
  refine ⟨by simp [h.len, h2.len], fun k x a hx ha => ?_⟩
  by_cases hk : k < xs.length
  · rw [List.getElem?_append_left hk] at hx
    rw [List.getElem?_append_left (by rw [← h.len]; exact hk)] at ha
    exact h.at_ k x a hx ha
  · rw [List.getElem?_append_right (by omega)] at hx
    rw [List.getElem?_append_right (by rw [← h.len]; omega), ← h.len] at ha
    exact h2.at_ _ x a hx ha
theorem AbsL.get (h : AbsL w xs qs) {k : Nat} (hk : k < qs.length) : ∃ x a, xs[k]? = some x ∧ qs[k]? = some a ∧ Abs w x a := by
  have hk' : k < xs.length := by rw [h.len]; exact hk
  exact ⟨xs[k], qs[k], List.getElem?_eq_getElem hk', List.getElem?_eq_getElem hk, h.at_ k _ _ (List.getElem?_eq_getElem hk') (List.getElem?_eq_getElem hk)⟩
end
/-- The part of a batch that tells these packets, this error. -/
def partA (s : Dn) (e : Int) (ps : List Pk) : Da := ({ s with op := 4, f := 0, a := 0, b := 0, e := e, A := none, m := 0, c := 0, n := 0, v := 0 }, ps)
def partsA (a : Da) : List Da := (a.2.map fun p => partA a.1 0 [p]) ++ if a.1.e == 10 then [partA a.1 10 []] else []
def partsD (a : Da) : List Da := if divB a.1 then partsA a else [a]
def partsL (qs : List Da) : List Da := qs.flatMap partsD
theorem partsL_snoc (qs : List Da) (a : Da) : partsL (qs ++ [a]) = partsL qs ++ partsD a := by simp [partsL]
theorem partsA_len (a : Da) : (partsA a).length ≤ a.2.length + 1 := by
  unfold partsA
  split <;> simp
theorem partsD_len (a : Da) : (partsD a).length ≤ a.2.length + 1 := by
  unfold partsD
  split
  · exact partsA_len a
  · simp

/-! ### Clone of packets -/
theorem pClone (u : World) (A : Option Addr) (n c : Nat) (L : List Pk) (hA : A = none → n = 0) (hL : L.length = n) (hb : n ≤ 1048576) (h : pE.Src u A L) :
    Calls Try.prog 12 #[.slice A n c] u fun e w' => ∃ A2 c2, e = .returned (.slice A2 n c2) ∧ pE.Row w' (.slice A2 n c2) L ∧ (∀ k, (Value.slice A2 n c2).ownBlock = some k → u.heap.size ≤ k) ∧ Only [] u w' := by
  rcases A with _ | a
  · obtain rfl := hA rfl
    have hL0 : L = [] := List.length_eq_zero_iff.1 hL
    subst hL0
    have hnil := fun (W : World) => Lib.run_eql_slice_nil (P := Try.prog) W 25 45 none 0 c 0 0 Try.underlying25
    clear h
    go_enter Try.func12, Try.ntmps12
    go_wp2
    go_ret
    exact ⟨none, 0, rfl, El.Row.nil _, fun k hk => by simp [Value.ownBlock] at hk, Only.refl _ _⟩
  · have hnil := fun (W : World) => Lib.run_eql_slice_nil (P := Try.prog) W 25 45 (some a) n c 0 0 Try.underlying25
    have hr0 : pE.Row (u.alloc (.cells #[] 45)) (.slice (some ⟨u.heap.size, 0, none⟩) 0 0) [] :=
      ⟨by simp [El.flat], .inr ⟨u.heap.size, 0, _, rfl, Nat.zero_le _, heap_alloc_new u _, Nat.le_refl _, by unfold maxLen; omega, by simp, by simp [El.flat]⟩⟩
    have OA := Lib.hid (Only.alloc (Only.refl [] u) (.cells #[] 45))
    have HS := Lib.hid (h.only0 OA.out)
    have HR := Lib.hid hr0
    have HL := Lib.hid hL
    clear h hr0 hL
    go_enter Try.func12, Try.ntmps12
    go_upto_region 3 with fail
    go_wp2_with (at_builtin; refine El.wpList_append (E := pE) Try.underlying25 rfl (.tmp 5) (.tmp 6) rfl (.slice (some ⟨u.heap.size, 0, none⟩) 0 0) [] rfl HR.out (some a) n c L rfl HL.out HS.out n (by simp) (by omega) ?_)
    intro A2 c2 w2 h2 g2 l2
    have H2 := Lib.hid (And.intro h2 (And.intro g2 l2))
    clear h2 g2 l2
    go_wp2_with fail
    go_ret
    refine ⟨A2, c2, rfl, by have := H2.out.1; simpa using this, fun k hk => ?_, OA.out.grown H2.out.2.1 (fun k hk => .inr (by simp [Value.ownBlock] at hk; omega))⟩
    have := H2.out.2.2
    rw [hk] at this
    simp [Value.ownBlock] at this
    omega

/-! ### part -/
/-- A call in a box, and a box for what will be told. -/
structure NC (w W : World) (g h : Nat) (x z : Dn) : Prop where
  only : Only [] w W
  ge : w.heap.size ≤ g ∧ w.heap.size ≤ h
  ne : g ≠ h
  at_ : ∀ (j : Nat) (u : Value), x.cs[j]? = some u → W.cell? ⟨g, j, none⟩ = some u
  fz : ∀ k, W.frozen? ⟨g, k, none⟩ = false
  zt : ∀ (j : Nat) (u : Value), z.cs[j]? = some u → W.cell? ⟨h, j, none⟩ = some u
  fz2 : ∀ k, W.frozen? ⟨h, k, none⟩ = false
section
variable {w W : World} {g h : Nat} {x z : Dn}
theorem NC.set (hh : NC w W g h x z) (k : Nat) (v : Value) (y : Dn) (hk : k < 12) (hy : y.cs = x.cs.set k v) : NC w (W.setCell ⟨g, k, none⟩ v) g h y z := by
  refine ⟨hh.only.setCell (.inr hh.ge.1) v, hh.ge, hh.ne, fun j u hu => ?_, fun k => by rw [World.frozen?_setCell]; exact hh.fz k, fun j u hu => ?_, fun k => by rw [World.frozen?_setCell]; exact hh.fz2 k⟩
  · rw [hy, List.getElem?_set] at hu
    by_cases e : k = j
    · subst e
      rw [if_pos rfl, if_pos (by exact hk)] at hu
      injection hu with hu
      subst hu
      have h0 := hh.at_ k _ (List.getElem?_eq_getElem (show k < x.cs.length from hk))
      exact World.cell?_setCell_same' _ _ _ (by rw [h0]; rfl)
    · rw [if_neg e] at hu
      rw [World.cell?_setCell_other _ _ _ _ (by intro h2; injection h2 with _ h2; exact e h2)]
      exact hh.at_ j u hu
  · rw [World.cell?_setCell_other _ _ _ _ (by intro h2; injection h2 with h2; exact hh.ne h2)]
    exact hh.zt j u hu
theorem NC.drew (hh : NC w W g h x z) : NC w W.drew g h x z := ⟨hh.only.drew, hh.ge, hh.ne, hh.at_, hh.fz, hh.zt, hh.fz2⟩
theorem NC.fin (hh : NC w W g h x z) (y : Dn) : Only [] w ((((((((((((W.setCell ⟨h, 0, none⟩ (.int .i64 y.who)).setCell ⟨h, 0 + 1, none⟩ (.int .i64 y.place)).setCell ⟨h, 0 + 2, none⟩ (.int .i64 y.op)).setCell ⟨h, 0 + 3, none⟩ (.int .i64 y.f)).setCell ⟨h, 0 + 4, none⟩ (.int .i64 y.a)).setCell ⟨h, 0 + 5, none⟩ (.int .i64 y.b)).setCell ⟨h, 0 + 6, none⟩ (.int .i64 y.e)).setCell ⟨h, 0 + 7, none⟩ (.slice y.A y.m y.c)).setCell ⟨h, 0 + 8, none⟩ (.int .i64 y.n)).setCell ⟨h, 0 + 9, none⟩ (.int .u64 y.v)).setCell ⟨h, 0 + 10, none⟩ (.int .i64 y.fr)).setCell ⟨h, 0 + 11, none⟩ (.int .i64 y.to)) := by
  rw [set12]
  exact hh.only.trans (Only.setCells h _ 0 W) (fun k hk => by simp at hk; subst hk; exact .inr hh.ge.2)
end
def partD (x : Dn) (e : Int) (A : Option Addr) (m c : Nat) : Dn := { x with op := 4, f := 0, a := 0, b := 0, e := e, A := A, m := m, c := c, n := 0, v := 0 }
theorem kPart (x : Dn) (e0 : Int) (A : Option Addr) (m c : Nat) (w : World) : Calls Try.prog 19 #[.agg #[.int .i64 x.who, .int .i64 x.place, .int .i64 x.op, .int .i64 x.f, .int .i64 x.a, .int .i64 x.b, .int .i64 x.e, .slice x.A x.m x.c, .int .i64 x.n, .int .u64 x.v, .int .i64 x.fr, .int .i64 x.to], .agg #[.int .i64 e0, .slice A m c, .int .i64 0, .int .u64 0]] w fun e w' =>
    e = .returned (.agg #[.int .i64 (partD x e0 A m c).who, .int .i64 (partD x e0 A m c).place, .int .i64 (partD x e0 A m c).op, .int .i64 (partD x e0 A m c).f, .int .i64 (partD x e0 A m c).a, .int .i64 (partD x e0 A m c).b, .int .i64 (partD x e0 A m c).e, .slice (partD x e0 A m c).A (partD x e0 A m c).m (partD x e0 A m c).c, .int .i64 (partD x e0 A m c).n, .int .u64 (partD x e0 A m c).v, .int .i64 (partD x e0 A m c).fr, .int .i64 (partD x e0 A m c).to]) ∧ Only [] w w' := by
  have h1 := heap_alloc_new w (.cells #[.int .i64 x.who, .int .i64 x.place, .int .i64 x.op, .int .i64 x.f, .int .i64 x.a, .int .i64 x.b, .int .i64 x.e, .slice x.A x.m x.c, .int .i64 x.n, .int .u64 x.v, .int .i64 x.fr, .int .i64 x.to] 30)
  have h2 := heap_alloc_new (w.alloc (.cells #[.int .i64 x.who, .int .i64 x.place, .int .i64 x.op, .int .i64 x.f, .int .i64 x.a, .int .i64 x.b, .int .i64 x.e, .slice x.A x.m x.c, .int .i64 x.n, .int .u64 x.v, .int .i64 x.fr, .int .i64 x.to] 30)) (.cells #[.int .i64 e0, .slice A m c, .int .i64 0, .int .u64 0] 28)
  have h3 := heap_alloc_new ((w.alloc (.cells #[.int .i64 x.who, .int .i64 x.place, .int .i64 x.op, .int .i64 x.f, .int .i64 x.a, .int .i64 x.b, .int .i64 x.e, .slice x.A x.m x.c, .int .i64 x.n, .int .u64 x.v, .int .i64 x.fr, .int .i64 x.to] 30)).alloc (.cells #[.int .i64 e0, .slice A m c, .int .i64 0, .int .u64 0] 28)) (.cells #[.int .i64 0, .int .i64 0, .int .i64 0, .int .i64 0, .int .i64 0, .int .i64 0, .int .i64 0, .slice none 0 0, .int .i64 0, .int .u64 0, .int .i64 0, .int .i64 0] 30)
  have a2 := Only.alloc (Only.refl [] (w.alloc (.cells #[.int .i64 x.who, .int .i64 x.place, .int .i64 x.op, .int .i64 x.f, .int .i64 x.a, .int .i64 x.b, .int .i64 x.e, .slice x.A x.m x.c, .int .i64 x.n, .int .u64 x.v, .int .i64 x.fr, .int .i64 x.to] 30))) (.cells #[.int .i64 e0, .slice A m c, .int .i64 0, .int .u64 0] 28)
  have a3 := Only.alloc (Only.refl [] ((w.alloc (.cells #[.int .i64 x.who, .int .i64 x.place, .int .i64 x.op, .int .i64 x.f, .int .i64 x.a, .int .i64 x.b, .int .i64 x.e, .slice x.A x.m x.c, .int .i64 x.n, .int .u64 x.v, .int .i64 x.fr, .int .i64 x.to] 30)).alloc (.cells #[.int .i64 e0, .slice A m c, .int .i64 0, .int .u64 0] 28))) (.cells #[.int .i64 0, .int .i64 0, .int .i64 0, .int .i64 0, .int .i64 0, .int .i64 0, .int .i64 0, .slice none 0 0, .int .i64 0, .int .u64 0, .int .i64 0, .int .i64 0] 30)
  have g1 := a3.get (a2.get h1 (by simp)) (by simp)
  have g2 := a3.get h2 (by simp)
  rw [World.size_alloc] at g2 h3
  rw [World.size_alloc] at h3
  have N : Hid (NC w (((w.alloc (.cells #[.int .i64 x.who, .int .i64 x.place, .int .i64 x.op, .int .i64 x.f, .int .i64 x.a, .int .i64 x.b, .int .i64 x.e, .slice x.A x.m x.c, .int .i64 x.n, .int .u64 x.v, .int .i64 x.fr, .int .i64 x.to] 30)).alloc (.cells #[.int .i64 e0, .slice A m c, .int .i64 0, .int .u64 0] 28)).alloc (.cells #[.int .i64 0, .int .i64 0, .int .i64 0, .int .i64 0, .int .i64 0, .int .i64 0, .int .i64 0, .slice none 0 0, .int .i64 0, .int .u64 0, .int .i64 0, .int .i64 0] 30)) w.heap.size (w.heap.size + 1 + 1) x zD) :=
    ⟨(((Only.refl [] w).alloc _).alloc _).alloc _, ⟨Nat.le_refl _, by omega⟩, by omega, fun j u hu => by rw [cell_of_row _ _ _ _ _ (0, 0) g1]; simpa [Dn.cs] using hu, frozen_of g1, fun j u hu => by rw [cell_of_row _ _ _ _ _ (0, 0) h3]; simpa [Dn.cs, zD] using hu, frozen_of h3⟩
  have r0 : (((w.alloc (.cells #[.int .i64 x.who, .int .i64 x.place, .int .i64 x.op, .int .i64 x.f, .int .i64 x.a, .int .i64 x.b, .int .i64 x.e, .slice x.A x.m x.c, .int .i64 x.n, .int .u64 x.v, .int .i64 x.fr, .int .i64 x.to] 30)).alloc (.cells #[.int .i64 e0, .slice A m c, .int .i64 0, .int .u64 0] 28)).alloc (.cells #[.int .i64 0, .int .i64 0, .int .i64 0, .int .i64 0, .int .i64 0, .int .i64 0, .int .i64 0, .slice none 0 0, .int .i64 0, .int .u64 0, .int .i64 0, .int .i64 0] 30)).cell? ⟨w.heap.size + 1, 0, none⟩ = some (.int .i64 e0) := by rw [cell_of_row _ _ _ _ _ (0, 0) g2]; rfl
  have r1 : (((w.alloc (.cells #[.int .i64 x.who, .int .i64 x.place, .int .i64 x.op, .int .i64 x.f, .int .i64 x.a, .int .i64 x.b, .int .i64 x.e, .slice x.A x.m x.c, .int .i64 x.n, .int .u64 x.v, .int .i64 x.fr, .int .i64 x.to] 30)).alloc (.cells #[.int .i64 e0, .slice A m c, .int .i64 0, .int .u64 0] 28)).alloc (.cells #[.int .i64 0, .int .i64 0, .int .i64 0, .int .i64 0, .int .i64 0, .int .i64 0, .int .i64 0, .slice none 0 0, .int .i64 0, .int .u64 0, .int .i64 0, .int .i64 0] 30)).cell? ⟨w.heap.size + 1, 1, none⟩ = some (.slice A m c) := by rw [cell_of_row _ _ _ _ _ (0, 0) g2]; rfl
  have r2 : (((w.alloc (.cells #[.int .i64 x.who, .int .i64 x.place, .int .i64 x.op, .int .i64 x.f, .int .i64 x.a, .int .i64 x.b, .int .i64 x.e, .slice x.A x.m x.c, .int .i64 x.n, .int .u64 x.v, .int .i64 x.fr, .int .i64 x.to] 30)).alloc (.cells #[.int .i64 e0, .slice A m c, .int .i64 0, .int .u64 0] 28)).alloc (.cells #[.int .i64 0, .int .i64 0, .int .i64 0, .int .i64 0, .int .i64 0, .int .i64 0, .int .i64 0, .slice none 0 0, .int .i64 0, .int .u64 0, .int .i64 0, .int .i64 0] 30)).cell? ⟨w.heap.size + 1, 2, none⟩ = some (.int .i64 0) := by rw [cell_of_row _ _ _ _ _ (0, 0) g2]; rfl
  have r3 : (((w.alloc (.cells #[.int .i64 x.who, .int .i64 x.place, .int .i64 x.op, .int .i64 x.f, .int .i64 x.a, .int .i64 x.b, .int .i64 x.e, .slice x.A x.m x.c, .int .i64 x.n, .int .u64 x.v, .int .i64 x.fr, .int .i64 x.to] 30)).alloc (.cells #[.int .i64 e0, .slice A m c, .int .i64 0, .int .u64 0] 28)).alloc (.cells #[.int .i64 0, .int .i64 0, .int .i64 0, .int .i64 0, .int .i64 0, .int .i64 0, .int .i64 0, .slice none 0 0, .int .i64 0, .int .u64 0, .int .i64 0, .int .i64 0] 30)).cell? ⟨w.heap.size + 1, 3, none⟩ = some (.int .u64 0) := by rw [cell_of_row _ _ _ _ _ (0, 0) g2]; rfl
  obtain ⟨y, hy⟩ : ∃ y, partD x e0 A m c = y := ⟨_, rfl⟩
  have EY : Hid (({ x with op := 4, f := 0, a := 0, b := 0, e := e0, A := A, m := m, c := c, n := 0, v := 0 } : Dn) = y) := hy
  rw [hy]
  clear h1 h2 h3 a2 a3 g1 g2 hy
  go_enter Try.func19, Try.ntmps19
  go_upto_region 1 with fail
  generalize ((w.alloc (.cells #[.int .i64 x.who, .int .i64 x.place, .int .i64 x.op, .int .i64 x.f, .int .i64 x.a, .int .i64 x.b, .int .i64 x.e, .slice x.A x.m x.c, .int .i64 x.n, .int .u64 x.v, .int .i64 x.fr, .int .i64 x.to] 30)).alloc (.cells #[.int .i64 e0, .slice A m c, .int .i64 0, .int .u64 0] 28)).alloc (.cells #[.int .i64 0, .int .i64 0, .int .i64 0, .int .i64 0, .int .i64 0, .int .i64 0, .int .i64 0, .slice none 0 0, .int .i64 0, .int .u64 0, .int .i64 0, .int .i64 0] 30) = W at *
  generalize w.heap.size + 1 + 1 = h at *
  have hgr : ¬ (w.heap.size = w.heap.size + 1) := by omega
  have hgr' : ¬ (w.heap.size + 1 = w.heap.size) := by omega
  generalize w.heap.size + 1 = gr at *
  obtain ⟨g, hg⟩ : ∃ g, w.heap.size = g := ⟨_, rfl⟩
  rw [hg] at N hgr hgr' ⊢
  clear hg
  generalize zD = z at *
  have x2 := N.out.at_ 2 _ rfl
  have x3 := N.out.at_ 3 _ rfl
  have x4 := N.out.at_ 4 _ rfl
  have x5 := N.out.at_ 5 _ rfl
  have x6 := N.out.at_ 6 _ rfl
  have x7 := N.out.at_ 7 _ rfl
  have x8 := N.out.at_ 8 _ rfl
  have x9 := N.out.at_ 9 _ rfl
  have f2 := N.out.fz 2
  have f3 := N.out.fz 3
  have f4 := N.out.fz 4
  have f5 := N.out.fz 5
  have f6 := N.out.fz 6
  have f7 := N.out.fz 7
  have f8 := N.out.fz 8
  have f9 := N.out.fz 9
  have N2 : Hid (NC w ((((((((W.setCell ⟨g, 2, none⟩ (.int .i64 4)).setCell ⟨g, 3, none⟩ (.int .i64 0)).setCell ⟨g, 4, none⟩ (.int .i64 0)).setCell ⟨g, 5, none⟩ (.int .i64 0)).setCell ⟨g, 6, none⟩ (.int .i64 e0)).setCell ⟨g, 7, none⟩ (.slice A m c)).setCell ⟨g, 8, none⟩ (.int .i64 0)).setCell ⟨g, 9, none⟩ (.int .u64 0)).drew g h { x with op := 4, f := 0, a := 0, b := 0, e := e0, A := A, m := m, c := c, n := 0, v := 0 } z) :=
    ((((((((N.out.set 2 (.int .i64 4) { x with op := 4 } (by decide) rfl).set 3 (.int .i64 0) { x with op := 4, f := 0 } (by decide) rfl).set 4 (.int .i64 0) { x with op := 4, f := 0, a := 0 } (by decide) rfl).set 5 (.int .i64 0) { x with op := 4, f := 0, a := 0, b := 0 } (by decide) rfl).set 6 (.int .i64 e0) { x with op := 4, f := 0, a := 0, b := 0, e := e0 } (by decide) rfl).set 7 (.slice A m c) { x with op := 4, f := 0, a := 0, b := 0, e := e0, A := A, m := m, c := c } (by decide) rfl).set 8 (.int .i64 0) { x with op := 4, f := 0, a := 0, b := 0, e := e0, A := A, m := m, c := c, n := 0 } (by decide) rfl).set 9 (.int .u64 0) { x with op := 4, f := 0, a := 0, b := 0, e := e0, A := A, m := m, c := c, n := 0, v := 0 } (by decide) rfl).drew
  rw [EY.out] at N2
  clear N
  refine (fun (main : (?G1 : Prop)) => ?body1) ?pf1
  case body1 =>
    go_region_with fail
    all_goals exact main
  case pf1 =>
    clear x2 x3 x4 x5 x6 x7 x8 x9 f2 f3 f4 f5 f6 f7 f8 f9 r0 r1 r2 r3 hgr hgr'
    generalize ((((((((W.setCell ⟨g, 2, none⟩ (.int .i64 4)).setCell ⟨g, 3, none⟩ (.int .i64 0)).setCell ⟨g, 4, none⟩ (.int .i64 0)).setCell ⟨g, 5, none⟩ (.int .i64 0)).setCell ⟨g, 6, none⟩ (.int .i64 e0)).setCell ⟨g, 7, none⟩ (.slice A m c)).setCell ⟨g, 8, none⟩ (.int .i64 0)).setCell ⟨g, 9, none⟩ (.int .u64 0)).drew = W1 at *
    have N := N2
    clear N2
    have x0 := N.out.at_ 0 _ rfl
    have x1 := N.out.at_ 1 _ rfl
    have x2 := N.out.at_ 2 _ rfl
    have x3 := N.out.at_ 3 _ rfl
    have x4 := N.out.at_ 4 _ rfl
    have x5 := N.out.at_ 5 _ rfl
    have x6 := N.out.at_ 6 _ rfl
    have x7 := N.out.at_ 7 _ rfl
    have x8 := N.out.at_ 8 _ rfl
    have x9 := N.out.at_ 9 _ rfl
    have x10 := N.out.at_ 10 _ rfl
    have x11 := N.out.at_ 11 _ rfl
    have z0 := N.out.zt 0 _ rfl
    have z1 := N.out.zt 1 _ rfl
    have z2 := N.out.zt 2 _ rfl
    have z3 := N.out.zt 3 _ rfl
    have z4 := N.out.zt 4 _ rfl
    have z5 := N.out.zt 5 _ rfl
    have z6 := N.out.zt 6 _ rfl
    have z7 := N.out.zt 7 _ rfl
    have z8 := N.out.zt 8 _ rfl
    have z9 := N.out.zt 9 _ rfl
    have z10 := N.out.zt 10 _ rfl
    have z11 := N.out.zt 11 _ rfl
    have q0 := N.out.fz2 0
    have q1 := N.out.fz2 1
    have q2 := N.out.fz2 2
    have q3 := N.out.fz2 3
    have q4 := N.out.fz2 4
    have q5 := N.out.fz2 5
    have q6 := N.out.fz2 6
    have q7 := N.out.fz2 7
    have q8 := N.out.fz2 8
    have q9 := N.out.fz2 9
    have q10 := N.out.fz2 10
    have q11 := N.out.fz2 11
    have OX := Lib.hid (N.out.fin y)
    go_wp2_with fail
    refine bodyPost_ret (v := .agg #[.int .i64 y.who, .int .i64 y.place, .int .i64 y.op, .int .i64 y.f, .int .i64 y.a, .int .i64 y.b, .int .i64 y.e, .slice y.A y.m y.c, .int .i64 y.n, .int .u64 y.v, .int .i64 y.fr, .int .i64 y.to]) ?_ rfl ?_
    · rw [results_cell1 rfl]; go_simp
    · exact ⟨rfl, OX.out⟩
end Go.Proofs.Ytaaolacfhdfagaa
