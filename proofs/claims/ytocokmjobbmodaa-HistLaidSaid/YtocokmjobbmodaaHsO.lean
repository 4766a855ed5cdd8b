/-
  Laid: of each worker calls one behind the other.
-/
import Derived.Test.YtocokmjobbmodaaHsS
namespace Go.Proofs.Ytocokmjobbmodaa
set_option maxRecDepth 100000
open Go.RowKit
set_option linter.unusedVariables false
set_option linter.unusedSimpArgs false
set_option maxRecDepth 100000

set_option maxHeartbeats 2000000
/-- A round under way: the row that is told, what stands for each worker, the call at hand. -/
structure LQ (w W : World) (A : Option Addr) (p c : Nat) (out : List Dn) (ba bn bo bd : Nat) (fa fn : Nat → Int) (fo : Nat → Bool) (X : Dn) : Prop where
  row : DFr w W A p c out
  na : ∀ g, (Value.slice A p c).ownBlock = some g → g ≠ ba ∧ g ≠ bn ∧ g ≠ bo ∧ g ≠ bd
  ge : w.heap.size ≤ ba ∧ w.heap.size ≤ bn ∧ w.heap.size ≤ bo ∧ w.heap.size ≤ bd
  ne : (ba ≠ bn ∧ ba ≠ bo ∧ bn ≠ bo) ∧ bd ≠ ba ∧ bd ≠ bn ∧ bd ≠ bo
  a : ∀ k, k < 4 → W.cell? ⟨ba, k, none⟩ = some (.int .i64 (fa k))
  n : ∀ k, k < 4 → W.cell? ⟨bn, k, none⟩ = some (.int .i64 (fn k))
  o : ∀ k, k < 4 → W.cell? ⟨bo, k, none⟩ = some (.bool (fo k))
  d : ∀ (j : Nat) (u : Value), X.cs[j]? = some u → W.cell? ⟨bd, j, none⟩ = some u
  fa : ∀ k, W.frozen? ⟨ba, k, none⟩ = false
  fn : ∀ k, W.frozen? ⟨bn, k, none⟩ = false
  fo : ∀ k, W.frozen? ⟨bo, k, none⟩ = false
  fd : ∀ k, W.frozen? ⟨bd, k, none⟩ = false
section
variable {w W V : World} {A : Option Addr} {p c : Nat} {out : List Dn} {ba bn bo bd : Nat} {fa fn : Nat → Int} {fo : Nat → Bool} {X : Dn}
theorem DFr.set (h : DFr w W A p c out) {b : Nat} (hb : w.heap.size ≤ b) (hn : ∀ g, (Value.slice A p c).ownBlock = some g → g ≠ b) (k : Nat) (v : Value) : DFr w (W.setCell ⟨b, k, none⟩ v) A p c out :=
  ⟨h.row.only (S := [b]) ((Only.refl [b] W).setCell (.inl (by simp)) v) (fun g hg => by simpa using hn g hg), h.len, h.new, h.only.setCell (.inr hb) v⟩
theorem ne_addr {b b' : Nat} (h : b ≠ b') (k j : Nat) : (⟨b, k, none⟩ : Addr) ≠ ⟨b', j, none⟩ := fun e => by injection e with e; exact h e
theorem LQ.setA (h : LQ w W A p c out ba bn bo bd fa fn fo X) (k : Nat) (hk : k < 4) (v : Int) : LQ w (W.setCell ⟨ba, k, none⟩ (.int .i64 v)) A p c out ba bn bo bd (updI fa k v) fn fo X := by
  obtain ⟨n1, n2, n3⟩ := h.ne.1
  refine ⟨h.row.set h.ge.1 (fun g hg => (h.na g hg).1) k _, h.na, h.ge, h.ne, fun j hj => ?_, fun j hj => ?_, fun j hj => ?_, fun j u hu => ?_, fun j => ?_, fun j => ?_, fun j => ?_, fun j => ?_⟩
  · by_cases e : j = k
    · subst e
      rw [World.cell?_setCell_same' _ _ _ (by rw [h.a j hj]; rfl)]
      simp [updI]
    · rw [World.cell?_setCell_other _ _ _ _ (by intro h2; injection h2 with _ h2; exact e h2.symm), h.a j hj]
      simp [updI, e]
  · rw [World.cell?_setCell_other _ _ _ _ (ne_addr n1 _ _)]; exact h.n j hj
  · rw [World.cell?_setCell_other _ _ _ _ (ne_addr n2 _ _)]; exact h.o j hj
  · rw [World.cell?_setCell_other _ _ _ _ (ne_addr (Ne.symm h.ne.2.1) _ _)]; exact h.d j u hu
  all_goals rw [World.frozen?_setCell]
  · exact h.fa j
  · exact h.fn j
  · exact h.fo j
  · exact h.fd j
theorem LQ.setN (h : LQ w W A p c out ba bn bo bd fa fn fo X) (k : Nat) (hk : k < 4) (v : Int) : LQ w (W.setCell ⟨bn, k, none⟩ (.int .i64 v)) A p c out ba bn bo bd fa (updI fn k v) fo X := by
  obtain ⟨n1, n2, n3⟩ := h.ne.1
  refine ⟨h.row.set h.ge.2.1 (fun g hg => (h.na g hg).2.1) k _, h.na, h.ge, h.ne, fun j hj => ?_, fun j hj => ?_, fun j hj => ?_, fun j u hu => ?_, fun j => ?_, fun j => ?_, fun j => ?_, fun j => ?_⟩
  · rw [World.cell?_setCell_other _ _ _ _ (ne_addr (Ne.symm n1) _ _)]; exact h.a j hj
  · by_cases e : j = k
    · subst e
      rw [World.cell?_setCell_same' _ _ _ (by rw [h.n j hj]; rfl)]
      simp [updI]
    · rw [World.cell?_setCell_other _ _ _ _ (by intro h2; injection h2 with _ h2; exact e h2.symm), h.n j hj]
      simp [updI, e]
  · rw [World.cell?_setCell_other _ _ _ _ (ne_addr n3 _ _)]; exact h.o j hj
  · rw [World.cell?_setCell_other _ _ _ _ (ne_addr (Ne.symm h.ne.2.2.1) _ _)]; exact h.d j u hu
  all_goals rw [World.frozen?_setCell]
  · exact h.fa j
  · exact h.fn j
  · exact h.fo j
  · exact h.fd j
theorem LQ.setO (h : LQ w W A p c out ba bn bo bd fa fn fo X) (k : Nat) (hk : k < 4) (v : Bool) : LQ w (W.setCell ⟨bo, k, none⟩ (.bool v)) A p c out ba bn bo bd fa fn (updB fo k v) X := by
  obtain ⟨n1, n2, n3⟩ := h.ne.1
  refine ⟨h.row.set h.ge.2.2.1 (fun g hg => (h.na g hg).2.2.1) k _, h.na, h.ge, h.ne, fun j hj => ?_, fun j hj => ?_, fun j hj => ?_, fun j u hu => ?_, fun j => ?_, fun j => ?_, fun j => ?_, fun j => ?_⟩
  · rw [World.cell?_setCell_other _ _ _ _ (ne_addr (Ne.symm n2) _ _)]; exact h.a j hj
  · rw [World.cell?_setCell_other _ _ _ _ (ne_addr (Ne.symm n3) _ _)]; exact h.n j hj
  · by_cases e : j = k
    · subst e
      rw [World.cell?_setCell_same' _ _ _ (by rw [h.o j hj]; rfl)]
      simp [updB]
    · rw [World.cell?_setCell_other _ _ _ _ (by intro h2; injection h2 with _ h2; exact e h2.symm), h.o j hj]
      simp [updB, e]
  · rw [World.cell?_setCell_other _ _ _ _ (ne_addr (Ne.symm h.ne.2.2.2) _ _)]; exact h.d j u hu
  all_goals rw [World.frozen?_setCell]
  · exact h.fa j
  · exact h.fn j
  · exact h.fo j
  · exact h.fd j
theorem LQ.setD (h : LQ w W A p c out ba bn bo bd fa fn fo X) (k : Nat) (v : Value) (Y : Dn) (hk : k < 12) (hy : Y.cs = X.cs.set k v) : LQ w (W.setCell ⟨bd, k, none⟩ v) A p c out ba bn bo bd fa fn fo Y := by
  refine ⟨h.row.set h.ge.2.2.2 (fun g hg => (h.na g hg).2.2.2) k _, h.na, h.ge, h.ne, fun j hj => ?_, fun j hj => ?_, fun j hj => ?_, fun j u hu => ?_, fun j => ?_, fun j => ?_, fun j => ?_, fun j => ?_⟩
  · rw [World.cell?_setCell_other _ _ _ _ (ne_addr h.ne.2.1 _ _)]; exact h.a j hj
  · rw [World.cell?_setCell_other _ _ _ _ (ne_addr h.ne.2.2.1 _ _)]; exact h.n j hj
  · rw [World.cell?_setCell_other _ _ _ _ (ne_addr h.ne.2.2.2 _ _)]; exact h.o j hj
  · rw [hy, List.getElem?_set] at hu
    by_cases e : k = j
    · subst e
      rw [if_pos rfl, if_pos (by exact hk)] at hu
      injection hu with hu
      subst hu
      have h0 := h.d k _ (List.getElem?_eq_getElem (show k < X.cs.length from hk))
      exact World.cell?_setCell_same' _ _ _ (by rw [h0]; rfl)
    · rw [if_neg e] at hu
      rw [World.cell?_setCell_other _ _ _ _ (by intro h2; injection h2 with _ h2; exact e h2)]
      exact h.d j u hu
  all_goals rw [World.frozen?_setCell]
  · exact h.fa j
  · exact h.fn j
  · exact h.fo j
  · exact h.fd j
theorem LQ.drew (h : LQ w W A p c out ba bn bo bd fa fn fo X) : LQ w W.drew A p c out ba bn bo bd fa fn fo X :=
  ⟨h.row.only0 ((Only.refl [] W).drew), h.na, h.ge, h.ne, h.a, h.n, h.o, h.d, h.fa, h.fn, h.fo, h.fd⟩
end
/-- Between rounds. -/
structure LA (w W : World) (A : Option Addr) (p c : Nat) (out : List Dn) (ba bn bo : Nat) (fa fn : Nat → Int) (fo : Nat → Bool) : Prop where
  row : DFr w W A p c out
  na : ∀ g, (Value.slice A p c).ownBlock = some g → g ≠ ba ∧ g ≠ bn ∧ g ≠ bo
  ge : w.heap.size ≤ ba ∧ w.heap.size ≤ bn ∧ w.heap.size ≤ bo
  ne : ba ≠ bn ∧ ba ≠ bo ∧ bn ≠ bo
  a : ∀ k, k < 4 → W.cell? ⟨ba, k, none⟩ = some (.int .i64 (fa k))
  n : ∀ k, k < 4 → W.cell? ⟨bn, k, none⟩ = some (.int .i64 (fn k))
  o : ∀ k, k < 4 → W.cell? ⟨bo, k, none⟩ = some (.bool (fo k))
  fa : ∀ k, W.frozen? ⟨ba, k, none⟩ = false
  fn : ∀ k, W.frozen? ⟨bn, k, none⟩ = false
  fo : ∀ k, W.frozen? ⟨bo, k, none⟩ = false
/-- Cells of a block that is the same. -/
theorem same_frozen {W V : World} {b : Nat} (h : V.heap[b]? = W.heap[b]?) (k : Nat) : V.frozen? ⟨b, k, none⟩ = W.frozen? ⟨b, k, none⟩ := World.frozen?_of_block h
section
variable {w W V : World} {A : Option Addr} {p c : Nat} {out : List Dn} {ba bn bo bd : Nat} {fa fn : Nat → Int} {fo : Nat → Bool} {X : Dn}
theorem LA.lt (h : LA w W A p c out ba bn bo fa fn fo) : ba < W.heap.size ∧ bn < W.heap.size ∧ bo < W.heap.size :=
  ⟨World.block_lt_of_cell? _ _ (h.a 0 (by omega)), World.block_lt_of_cell? _ _ (h.n 0 (by omega)), World.block_lt_of_cell? _ _ (h.o 0 (by omega))⟩
theorem LA.only0 (h : LA w W A p c out ba bn bo fa fn fo) (o : Only [] W V) : LA w V A p c out ba bn bo fa fn fo := by
  obtain ⟨l1, l2, l3⟩ := h.lt
  exact ⟨h.row.only0 o, h.na, h.ge, h.ne, fun k hk => o.kp (h.a k hk), fun k hk => o.kp (h.n k hk), fun k hk => o.kp (h.o k hk),
    fun k => (same_frozen (o.block ba l1 (by simp)) k).trans (h.fa k), fun k => (same_frozen (o.block bn l2 (by simp)) k).trans (h.fn k), fun k => (same_frozen (o.block bo l3 (by simp)) k).trans (h.fo k)⟩
/-- A call at hand. -/
theorem LA.take (h : LA w W A p c out ba bn bo fa fn fo) (X : Dn) : LQ w (W.alloc (.cells #[.int .i64 X.who, .int .i64 X.place, .int .i64 X.op, .int .i64 X.f, .int .i64 X.a, .int .i64 X.b, .int .i64 X.e, .slice X.A X.m X.c, .int .i64 X.n, .int .u64 X.v, .int .i64 X.fr, .int .i64 X.to] 31)) A p c out ba bn bo W.heap.size fa fn fo X := by
  obtain ⟨l1, l2, l3⟩ := h.lt
  have al := Only.alloc (Only.refl [] W) (.cells #[.int .i64 X.who, .int .i64 X.place, .int .i64 X.op, .int .i64 X.f, .int .i64 X.a, .int .i64 X.b, .int .i64 X.e, .slice X.A X.m X.c, .int .i64 X.n, .int .u64 X.v, .int .i64 X.fr, .int .i64 X.to] 31)
  have h2 := h.only0 al
  have hb := heap_alloc_new W (.cells #[.int .i64 X.who, .int .i64 X.place, .int .i64 X.op, .int .i64 X.f, .int .i64 X.a, .int .i64 X.b, .int .i64 X.e, .slice X.A X.m X.c, .int .i64 X.n, .int .u64 X.v, .int .i64 X.fr, .int .i64 X.to] 31)
  refine ⟨h2.row, fun g hg => ⟨(h.na g hg).1, (h.na g hg).2.1, (h.na g hg).2.2, ?_⟩, ⟨h.ge.1, h.ge.2.1, h.ge.2.2, h.row.only.size⟩, ⟨h.ne, by omega, by omega, by omega⟩, h2.a, h2.n, h2.o, fun j u hu => ?_, h2.fa, h2.fn, h2.fo, frozen_of hb⟩
  · have := h.row.row.lt hg
    omega
  · rw [cell_of_row _ _ _ _ _ (0, 0) hb]; simpa [Dn.cs] using hu
theorem LQ.back (h : LQ w W A p c out ba bn bo bd fa fn fo X) : LA w W A p c out ba bn bo fa fn fo :=
  ⟨h.row, fun g hg => ⟨(h.na g hg).1, (h.na g hg).2.1, (h.na g hg).2.2.1⟩, ⟨h.ge.1, h.ge.2.1, h.ge.2.2.1⟩, h.ne.1, h.a, h.n, h.o, h.fa, h.fn, h.fo⟩
/-- A row that grew. -/
theorem LA.grown (h : LA w W A p c out ba bn bo fa fn fo) {A2 : Option Addr} {p2 c2 : Nat} {ys : List Dn} {w2 : World} (h2 : dE.Row w2 (.slice A2 p2 c2) (out ++ ys)) (hg : W.grownBy w2 (Value.slice A p c).ownBlock)
    (hl : (Value.slice A2 p2 c2).ownBlock = (Value.slice A p c).ownBlock ∨ (Value.slice A2 p2 c2).ownBlock = some W.heap.size) : LA w w2 A2 p2 c2 (out ++ ys) ba bn bo fa fn fo := by
  obtain ⟨l1, l2, l3⟩ := h.lt
  have R := h.row.app (Only.refl [] W) h2 hg hl
  have bl : ∀ b, b < W.heap.size → (∀ g, (Value.slice A p c).ownBlock = some g → g ≠ b) → w2.heap[b]? = W.heap[b]? := fun b hb hn => hg.block b hb (by intro e; first | exact hn b e rfl | exact hn b e.symm rfl)
  have b1 := bl ba l1 (fun g hg => (h.na g hg).1)
  have b2 := bl bn l2 (fun g hg => (h.na g hg).2.1)
  have b3 := bl bo l3 (fun g hg => (h.na g hg).2.2)
  refine ⟨R, fun g hg2 => ?_, h.ge, h.ne, fun k hk => (World.cell?_of_block b1).trans (h.a k hk), fun k hk => (World.cell?_of_block b2).trans (h.n k hk), fun k hk => (World.cell?_of_block b3).trans (h.o k hk),
    fun k => (same_frozen b1 k).trans (h.fa k), fun k => (same_frozen b2 k).trans (h.fn k), fun k => (same_frozen b3 k).trans (h.fo k)⟩
  rcases hl with hl | hl
  · exact h.na g (hl ▸ hg2)
  · rw [hl] at hg2
    injection hg2 with hg2
    omega
end
section
variable {w wr : World} {ops : Array Oper} {o : Oper} {a : Act} {K : Act → World → Prop} {Q : Exit → Act → World → Prop}
theorem wpList_appL {rest : List Oper} (hgd : o.guard = none) (s x : Operand) (ho : o.op = .call { callee := .builtin .append, args := #[s, x], argTypes := #[22, 22] })
    (A : Option Addr) (p cap : Nat) (xs : List Dn) (v : Dn) {ba bn bo : Nat} {fa fn : Nat → Int} {fo : Nat → Bool} (hs : a.eval s = .slice A p cap) (hx : a.eval x = .slice (some ⟨wr.heap.size, 0, none⟩) 1 1) (h : LA w wr A p cap xs ba bn bo fa fn fo) (hb : p ≤ 90000000)
    (hK : ∀ A2 cap2 w2, LA w w2 A2 (p + 1) cap2 (xs ++ [v]) ba bn bo fa fn fo → wpList Try.prog ops Q rest (a.put o.dst (.slice A2 (p + 1) cap2)) w2) : wpList Try.prog ops Q (o :: rest) a (wr.alloc (.cells #[.int .i64 v.who, .int .i64 v.place, .int .i64 v.op, .int .i64 v.f, .int .i64 v.a, .int .i64 v.b, .int .i64 v.e, .slice v.A v.m v.c, .int .i64 v.n, .int .u64 v.v, .int .i64 v.fr, .int .i64 v.to] 31)) := by
  have oB : Only [] wr (wr.alloc (.cells #[.int .i64 v.who, .int .i64 v.place, .int .i64 v.op, .int .i64 v.f, .int .i64 v.a, .int .i64 v.b, .int .i64 v.e, .slice v.A v.m v.c, .int .i64 v.n, .int .u64 v.v, .int .i64 v.fr, .int .i64 v.to] 31)) := (Only.refl [] wr).alloc _
  refine wpList_plain hgd fun _ hK' => El.wp_append (E := dE) Try.underlying22 s x ho (.slice A p cap) xs hs (h.row.row.only0 oB) _ 1 1 [v] hx rfl (El.Src.box (E := dE) (x := v) (heap_alloc_new wr _)) (p + 1) (by rw [h.row.len]) (by omega) ?_
  intro A2 cap2 w2 r2 g2 l2
  exact hK' _ _ (hK A2 cap2 w2 ((h.only0 oB).grown r2 g2 l2))
end
theorem lLaid (w : World) (A : Option Addr) (n c : Nat) (ds : Nat → Dn) (h : InDns w A n ds) :
    Calls Try.prog 21 #[.slice A n c] w fun e w' => ∃ A2 p c2, e = .returned (.slice A2 p c2) ∧ ∃ L, DFr w w' A2 p c2 L ∧ LaidL L := by
  have H := Lib.hid h
  obtain ⟨N, hN⟩ : ∃ N, min n 40 = N := ⟨_, rfl⟩
  have hNn : N ≤ n := by omega
  have hNm : N ≤ 40 := by omega
  have HN := Lib.hid hN
  have nr := Lib.hid (fun (x : Dn) (W : World) => lNear x W)
  have md := Lib.hid (fun (v n : Int) (h : 0 < n) (hn : n ≤ 1000000) (w : World) => cMod v n h hn w)
  have S0 : Hid (LA w (((w.alloc (.cells #[.int .i64 0, .int .i64 0, .int .i64 0, .int .i64 0] 65)).alloc (.cells #[.int .i64 0, .int .i64 0, .int .i64 0, .int .i64 0] 65)).alloc (.cells #[.bool false, .bool false, .bool false, .bool false] 46)) none 0 0 [] w.heap.size (w.heap.size + 1) (w.heap.size + 1 + 1) (fun _ => 0) (fun _ => 0) (fun _ => false)) := by
    have h1 := heap_alloc_new w (.cells #[.int .i64 0, .int .i64 0, .int .i64 0, .int .i64 0] 65)
    have h2 := heap_alloc_new (w.alloc (.cells #[.int .i64 0, .int .i64 0, .int .i64 0, .int .i64 0] 65)) (.cells #[.int .i64 0, .int .i64 0, .int .i64 0, .int .i64 0] 65)
    have h3 := heap_alloc_new ((w.alloc (.cells #[.int .i64 0, .int .i64 0, .int .i64 0, .int .i64 0] 65)).alloc (.cells #[.int .i64 0, .int .i64 0, .int .i64 0, .int .i64 0] 65)) (.cells #[.bool false, .bool false, .bool false, .bool false] 46)
    have a2 := Only.alloc (Only.refl [] (w.alloc (.cells #[.int .i64 0, .int .i64 0, .int .i64 0, .int .i64 0] 65))) (.cells #[.int .i64 0, .int .i64 0, .int .i64 0, .int .i64 0] 65)
    have a3 := Only.alloc (Only.refl [] ((w.alloc (.cells #[.int .i64 0, .int .i64 0, .int .i64 0, .int .i64 0] 65)).alloc (.cells #[.int .i64 0, .int .i64 0, .int .i64 0, .int .i64 0] 65))) (.cells #[.bool false, .bool false, .bool false, .bool false] 46)
    have g1 := a3.get (a2.get h1 (by simp)) (by simp)
    have g2 := a3.get h2 (by simp)
    rw [World.size_alloc] at g2 h3
    rw [World.size_alloc] at h3
    refine ⟨DFr.nil ((((Only.refl [] w).alloc _).alloc _).alloc _), fun g hg => by simp [Value.ownBlock] at hg, ⟨Nat.le_refl _, by omega, by omega⟩, ⟨by omega, by omega, by omega⟩, fun k hk => ?_, fun k hk => ?_, fun k hk => ?_, frozen_of g1, frozen_of g2, frozen_of h3⟩
    · rw [cell_of_row _ _ _ _ _ (0, 0) g1]
      match k, hk with
      | 0, _ => rfl
      | 1, _ => rfl
      | 2, _ => rfl
      | 3, _ => rfl
    · rw [cell_of_row _ _ _ _ _ (0, 0) g2]
      match k, hk with
      | 0, _ => rfl
      | 1, _ => rfl
      | 2, _ => rfl
      | 3, _ => rfl
    · rw [cell_of_row _ _ _ _ _ (0, 0) h3]
      match k, hk with
      | 0, _ => rfl
      | 1, _ => rfl
      | 2, _ => rfl
      | 3, _ => rfl
  clear h hN
  go_enter Try.func21, Try.ntmps21
  go_wp2_with fail
  generalize ((w.alloc (.cells #[.int .i64 0, .int .i64 0, .int .i64 0, .int .i64 0] 65)).alloc (.cells #[.int .i64 0, .int .i64 0, .int .i64 0, .int .i64 0] 65)).alloc (.cells #[.bool false, .bool false, .bool false, .bool false] 46) = W0 at *
  generalize w.heap.size + 1 + 1 = bo at *
  generalize w.heap.size + 1 = bn at *
  obtain ⟨ba, hba⟩ : ∃ b, w.heap.size = b := ⟨_, rfl⟩
  rw [hba] at S0 ⊢
  clear hba
  go_loopg [3, 7] (N + 1) (fun gk sl si wr => ∃ (i p : Nat) (A1 : Option Addr) (cap1 : Nat) (out : List Dn) (fa fn : Nat → Int) (fo : Nat → Bool), si = .int .i64 (i : Int) ∧ sl = .slice A1 p cap1 ∧ i ≤ N ∧ N + 1 ≤ gk + i ∧ Hid (LA w wr A1 p cap1 out ba bn bo fa fn fo) ∧ Hid (LaidP fa fn fo out i))
  case atStart => exact ⟨0, 0, none, 0, [], _, _, _, rfl, rfl, by omega, by omega, S0.out, LaidP.start⟩
  case round =>
    obtain ⟨i, p, A1, cap1, out, fa, fn, fo, rfl, rfl, hi, hg, S, P⟩ := hrel
    clear S0
    by_cases hil : i < N
    · have h1 : (i : Int) < (n : Int) := by omega
      have h2 : (i : Int) < 40 := by omega
      have hpb : Hid (p ≤ 40) := by show _ ≤ _; have := P.out.len; have := S.out.row.len; omega
      have InF : Hid (∀ V, Only [] w V → ∃ ad b o s, A = some ad ∧ ad.add (i * 12) = ⟨b, o, s⟩ ∧ InAt V b o s (ds i)) := fun V ov => (H.out.only0 ov) i (by omega)
      generalize hdv : ds i = dv at *
      clear hdv
      obtain ⟨ad, b, o, s, rfl, e2, hb⟩ := InF.out wr S.out.row.only
      have IN : Hid (∀ V, Only [] w V → InAt V b o s dv) := fun V ov => by
        obtain ⟨ad', b', o', s', e1', e2', hb'⟩ := InF.out V ov
        injection e1' with e1'
        subst e1'
        rw [e2] at e2'
        injection e2' with q1 q2 q3
        subst q1 q2 q3
        exact hb'
      obtain ⟨x0, x1, x2, x3, x4, x5, x6, x7, x8, x9, x10, x11⟩ := hb
      have nz := Lib.hid (nr.out dv wr)
      generalize nearD dv = y at *
      go_upto_region 8 with (go_at_call 20; refine nz.out.mono ?_; rintro e w2 ⟨rfl, o2⟩; have S2 := Lib.hid (S.out.only0 o2); clear o2 nz x0 x1 x2 x3 x4 x5 x6 x7 x8 x9 x10 x11)
      have Q : Hid (LQ w (w2.alloc (.cells #[.int .i64 y.who, .int .i64 y.place, .int .i64 y.op, .int .i64 y.f, .int .i64 y.a, .int .i64 y.b, .int .i64 y.e, .slice y.A y.m y.c, .int .i64 y.n, .int .u64 y.v, .int .i64 y.fr, .int .i64 y.to] 31)) A1 p cap1 out ba bn bo w2.heap.size fa fn fo y) := S2.out.take y
      generalize w2.alloc (.cells #[.int .i64 y.who, .int .i64 y.place, .int .i64 y.op, .int .i64 y.f, .int .i64 y.a, .int .i64 y.b, .int .i64 y.e, .slice y.A y.m y.c, .int .i64 y.n, .int .u64 y.v, .int .i64 y.fr, .int .i64 y.to] 31) = W at *
      generalize w2.heap.size = bd at *
      clear S S2
      obtain ⟨k, hk, hk4⟩ : ∃ k : Nat, modI y.who 4 = (k : Int) ∧ k < 4 := ⟨(modI y.who 4).toNat, by have := modI_lt y.who (n := 4) (by decide); omega, by have := modI_lt y.who (n := 4) (by decide); omega⟩
      have mw := Lib.hid (fun V => md.out y.who 4 (by decide) (by decide) V)
      rw [hk] at mw
      clear hk
      have hk4' : (k : Int) < 4 := by omega
      have hk4d : decide ((k : Int) < 4) = true := decide_eq_true hk4'
      have d0 : W.cell? ⟨bd, 0, none⟩ = some (.int .i64 y.who) := Q.out.d 0 _ rfl
      have ok := Q.out.o k hk4
      rcases hfo : fo k
      rotate_left 1
      · rw [hfo] at ok
        clear hfo
        go_wp2_with (go_at_call 22; refine (mw.out _).mono ?_; rintro e w9 ⟨rfl, hv⟩; rw [hv]; clear hv)
        go_roundg (N + 1 - (i + 1))
        case measure => omega
        case rel => exact ⟨i + 1, p, A1, cap1, out, fa, fn, fo, by simp, rfl, by omega, by omega, Q.out.back, P.out.skip⟩
      · rw [hfo] at ok
        have HO := Lib.hid hfo
        clear hfo
        go_upto_region 10 with (go_at_call 22; refine (mw.out _).mono ?_; rintro e w9 ⟨rfl, hv⟩; rw [hv]; clear hv)
        clear mw ok
        have d1 : W.cell? ⟨bd, 1, none⟩ = some (.int .i64 y.place) := Q.out.d 1 _ rfl
        have nk := Q.out.n k hk4
        have f0 := Q.out.fd 0
        have f1 := Q.out.fd 1
        have nbd : ¬ (bd = bn) := Q.out.ne.2.2.1
        have nbd' : ¬ (bn = bd) := Ne.symm Q.out.ne.2.2.1
        have Q2 : Hid (LQ w (((W.setCell ⟨bd, 0, none⟩ (.int .i64 (k : Int))).setCell ⟨bd, 1, none⟩ (.int .i64 (fn k))).drew) A1 p cap1 out ba bn bo bd fa fn fo { y with who := (k : Int), place := fn k }) := ((Q.out.setD 0 (.int .i64 (k : Int)) { y with who := (k : Int) } (by decide) rfl).setD 1 (.int .i64 (fn k)) _ (by decide) rfl).drew
        clear Q
        refine (fun (main : (?G10 : Prop)) => ?body10) ?pf10
        case body10 =>
          go_region_with fail
          all_goals exact main
        case pf10 =>
          clear d0 d1 nk f0 f1 nbd nbd'
          generalize ((W.setCell ⟨bd, 0, none⟩ (.int .i64 (k : Int))).setCell ⟨bd, 1, none⟩ (.int .i64 (fn k))).drew = W1 at *
          have mf := Lib.hid (fun V => md.out dv.fr 4 (by decide) (by decide) V)
          have mt := Lib.hid (fun V => md.out dv.to 9 (by decide) (by decide) V)
          have mp := Lib.hid (fun V => md.out dv.place 13 (by decide) (by decide) V)
          have ab := modI_lt dv.fr (n := 4) (by decide)
          have bb := modI_lt dv.to (n := 9) (by decide)
          generalize modI dv.fr 4 = ma at *
          generalize modI dv.to 9 = mb at *
          generalize modI dv.place 13 = mc at *
          have BA := Lib.hid ab
          have BB := Lib.hid bb
          have BF := Lib.hid (P.out.fab k hk4)
          have BN := Lib.hid (P.out.fnb k hk4)
          clear ab bb
          obtain ⟨va, hva⟩ : ∃ v, fa k = v := ⟨_, rfl⟩
          obtain ⟨vn, hvn⟩ : ∃ v, fn k = v := ⟨_, rfl⟩
          have HVA := Lib.hid hva
          have HVN := Lib.hid hvn
          rw [hvn] at Q2 BN
          rw [hva] at BF
          have wf1 : IntKind.i64.wrap (va + ma) = va + ma := by rw [IntKind.wrap_i64]; have := BF.out; have := BA.out; omega
          have wf2 : IntKind.i64.wrap (va + ma + mb) = va + ma + mb := by rw [IntKind.wrap_i64]; have := BF.out; have := BA.out; have := BB.out; omega
          have wf3 : IntKind.i64.wrap (va + ma + mb + 1) = va + ma + mb + 1 := by rw [IntKind.wrap_i64]; have := BF.out; have := BA.out; have := BB.out; omega
          have wf4 : IntKind.i64.wrap (vn + 1) = vn + 1 := by rw [IntKind.wrap_i64]; have := BN.out; omega
          -- region 11: From
          have ak := Q2.out.a k hk4
          rw [hva] at ak
          have d10 : W1.cell? ⟨bd, 10, none⟩ = some (.int .i64 y.fr) := Q2.out.d 10 _ rfl
          have f10 := Q2.out.fd 10
          obtain ⟨-, -, -, -, -, -, -, -, -, -, i10, -⟩ := IN.out W1 Q2.out.row.only
          have Q3 : Hid (LQ w ((W1.setCell ⟨bd, 10, none⟩ (.int .i64 (va + ma))).drew) A1 p cap1 out ba bn bo bd fa fn fo { y with who := (k : Int), place := vn, fr := va + ma }) := (Q2.out.setD 10 (.int .i64 (va + ma)) _ (by decide) rfl).drew
          clear hva hvn
          go_upto_region 11 with fail
          refine (fun (main : (?G11 : Prop)) => ?body11) ?pf11
          case body11 =>
            go_region_with (first | (go_at_call 22; refine (mf.out _).mono ?_; rintro e w9 ⟨rfl, hv⟩; rw [hv]; clear hv))
            all_goals exact main
          case pf11 =>
            clear ak d10 f10 i10 Q2 mf
            generalize (W1.setCell ⟨bd, 10, none⟩ (.int .i64 (va + ma))).drew = W2 at *
            -- region 12: To
            have d10 : W2.cell? ⟨bd, 10, none⟩ = some (.int .i64 (va + ma)) := Q3.out.d 10 _ rfl
            have d11 : W2.cell? ⟨bd, 11, none⟩ = some (.int .i64 y.to) := Q3.out.d 11 _ rfl
            have f11 := Q3.out.fd 11
            obtain ⟨-, -, -, -, -, -, -, -, -, -, -, i11⟩ := IN.out W2 Q3.out.row.only
            have Q4 : Hid (LQ w ((W2.setCell ⟨bd, 11, none⟩ (.int .i64 (va + ma + mb))).drew) A1 p cap1 out ba bn bo bd fa fn fo { y with who := (k : Int), place := vn, fr := va + ma, to := va + ma + mb }) := (Q3.out.setD 11 (.int .i64 (va + ma + mb)) _ (by decide) rfl).drew
            go_upto_region 12 with fail
            refine (fun (main : (?G12 : Prop)) => ?body12) ?pf12
            case body12 =>
              go_region_with (first | (go_at_call 22; refine (mt.out _).mono ?_; rintro e w9 ⟨rfl, hv⟩; rw [hv]; clear hv))
              all_goals exact main
            case pf12 =>
              clear d10 d11 f11 i11 Q3 mt
              generalize (W2.setCell ⟨bd, 11, none⟩ (.int .i64 (va + ma + mb))).drew = W3 at *
              -- regions 13, 14: at[w], n[w]
              have d11 : W3.cell? ⟨bd, 11, none⟩ = some (.int .i64 (va + ma + mb)) := Q4.out.d 11 _ rfl
              have ak := Q4.out.a k hk4
              have fak := Q4.out.fa k
              have Q5 : Hid (LQ w (W3.setCell ⟨ba, k, none⟩ (.int .i64 (va + ma + mb + 1))) A1 p cap1 out ba bn bo bd (updI fa k (va + ma + mb + 1)) fn fo { y with who := (k : Int), place := vn, fr := va + ma, to := va + ma + mb }) := Q4.out.setA k hk4 _
              go_upto_region 14 with fail
              clear d11 ak fak Q4
              generalize W3.setCell ⟨ba, k, none⟩ (.int .i64 (va + ma + mb + 1)) = W4 at *
              have nk := Q5.out.n k hk4
              rw [HVN.out] at nk
              have fnk := Q5.out.fn k
              have Q6 : Hid (LQ w (W4.setCell ⟨bn, k, none⟩ (.int .i64 (vn + 1))) A1 p cap1 out ba bn bo bd (updI fa k (va + ma + mb + 1)) (updI fn k (vn + 1)) fo { y with who := (k : Int), place := vn, fr := va + ma, to := va + ma + mb }) := Q5.out.setN k hk4 _
              go_upto_region 15 with fail
              clear nk fnk Q5
              generalize W4.setCell ⟨bn, k, none⟩ (.int .i64 (vn + 1)) = W5 at *
              obtain ⟨-, i1, -, -, -, -, -, -, -, -, -, -⟩ := IN.out W5 Q6.out.row.only
              have PS : Hid (∀ (fo' : Nat → Bool) (X : Dn), X.who = (k : Int) → X.place = vn → X.fr = va + ma → ((X.to = -1 ∧ fo' = updB fo k true) ∨ (X.to = va + ma + mb ∧ fo' = fo)) → LaidP (updI fa k (va + ma + mb + 1)) (updI fn k (vn + 1)) fo' (out ++ [X]) (i + 1)) := fun fo' X e1 e2 e3 e4 => by
                have := P.out.snoc hk4 HO.out BA.out BB.out X e1 (by rw [HVN.out]; exact e2) (by rw [HVA.out]; exact e3) (by rw [HVA.out]; exact e4)
                rwa [HVA.out, HVN.out] at this
              rcases hmc : (mc == 12)
              · go_upto_region 17 with (go_at_call 22; refine (mp.out _).mono ?_; rintro e w9 ⟨rfl, hv⟩; rw [hv]; clear hv)
                clear i1 hmc
                obtain ⟨Z, hZ⟩ : ∃ Z : Dn, ({ y with who := (k : Int), place := vn, fr := va + ma, to := va + ma + mb } : Dn) = Z := ⟨_, rfl⟩
                rw [hZ] at Q6
                have PZ := Lib.hid (PS.out fo Z (by rw [← hZ]) (by rw [← hZ]) (by rw [← hZ]) (.inr ⟨by rw [← hZ], rfl⟩))
                have z0 := Q6.out.d 0 _ rfl
                have z1 := Q6.out.d 1 _ rfl
                have z2 := Q6.out.d 2 _ rfl
                have z3 := Q6.out.d 3 _ rfl
                have z4 := Q6.out.d 4 _ rfl
                have z5 := Q6.out.d 5 _ rfl
                have z6 := Q6.out.d 6 _ rfl
                have z7 := Q6.out.d 7 _ rfl
                have z8 := Q6.out.d 8 _ rfl
                have z9 := Q6.out.d 9 _ rfl
                have z10 := Q6.out.d 10 _ rfl
                have z11 := Q6.out.d 11 _ rfl
                have SB := Lib.hid Q6.out.back
                clear Q6 hZ
                go_wp2_with (first
                  | (at_builtin
                     refine wpList_appL rfl (.tmp 78) (.tmp 80) rfl A1 p cap1 out Z rfl rfl SB.out (by have := hpb.out; omega) ?_
                     intro A5 c5 w5 h5
                     have R5 := Lib.hid h5
                     clear h5))
                go_roundg (N + 1 - (i + 1))
                case measure => omega
                case rel => exact ⟨i + 1, p + 1, A5, c5, _, _, _, _, by simp, rfl, by omega, by omega, R5.out, PZ.out⟩
              · have f11 := Q6.out.fd 11
                have d11 : W5.cell? ⟨bd, 11, none⟩ = some (.int .i64 (va + ma + mb)) := Q6.out.d 11 _ rfl
                have fok := Q6.out.fo k
                have ok := Q6.out.o k hk4
                have nbo : ¬ (bd = bo) := Q6.out.ne.2.2.2
                have nbo' : ¬ (bo = bd) := Ne.symm Q6.out.ne.2.2.2
                have Q7 : Hid (LQ w ((W5.setCell ⟨bd, 11, none⟩ (.int .i64 (-1))).setCell ⟨bo, k, none⟩ (.bool true)) A1 p cap1 out ba bn bo bd (updI fa k (va + ma + mb + 1)) (updI fn k (vn + 1)) (updB fo k true) { y with who := (k : Int), place := vn, fr := va + ma, to := -1 }) := (Q6.out.setD 11 (.int .i64 (-1)) _ (by decide) rfl).setO k hk4 true
                go_upto_region 17 with (go_at_call 22; refine (mp.out _).mono ?_; rintro e w9 ⟨rfl, hv⟩; rw [hv]; clear hv)
                clear i1 hmc f11 d11 fok ok nbo nbo' Q6
                generalize (W5.setCell ⟨bd, 11, none⟩ (.int .i64 (-1))).setCell ⟨bo, k, none⟩ (.bool true) = W6 at *
                obtain ⟨Z, hZ⟩ : ∃ Z : Dn, ({ y with who := (k : Int), place := vn, fr := va + ma, to := -1 } : Dn) = Z := ⟨_, rfl⟩
                rw [hZ] at Q7
                have PZ := Lib.hid (PS.out (updB fo k true) Z (by rw [← hZ]) (by rw [← hZ]) (by rw [← hZ]) (.inl ⟨by rw [← hZ], rfl⟩))
                have z0 := Q7.out.d 0 _ rfl
                have z1 := Q7.out.d 1 _ rfl
                have z2 := Q7.out.d 2 _ rfl
                have z3 := Q7.out.d 3 _ rfl
                have z4 := Q7.out.d 4 _ rfl
                have z5 := Q7.out.d 5 _ rfl
                have z6 := Q7.out.d 6 _ rfl
                have z7 := Q7.out.d 7 _ rfl
                have z8 := Q7.out.d 8 _ rfl
                have z9 := Q7.out.d 9 _ rfl
                have z10 := Q7.out.d 10 _ rfl
                have z11 := Q7.out.d 11 _ rfl
                have SB := Lib.hid Q7.out.back
                clear Q7 hZ
                go_wp2_with (first
                  | (at_builtin
                     refine wpList_appL rfl (.tmp 78) (.tmp 80) rfl A1 p cap1 out Z rfl rfl SB.out (by have := hpb.out; omega) ?_
                     intro A5 c5 w5 h5
                     have R5 := Lib.hid h5
                     clear h5))
                go_roundg (N + 1 - (i + 1))
                case measure => omega
                case rel => exact ⟨i + 1, p + 1, A5, c5, _, _, _, _, by simp, rfl, by omega, by omega, R5.out, PZ.out⟩
    · obtain rfl : i = N := by omega
      have F := Lib.hid (P.out.laid hNm)
      by_cases h1 : i < n
      · have hpm : i = 40 := by have := HN.out; omega
        have h2 : (i : Int) < (n : Int) := by omega
        have h3 : ¬ ((i : Int) < 40) := by omega
        have h4 : decide ((i : Int) < 40) = false := decide_eq_false h3
        clear hpm
        go_wp2_with fail
        go_ret
        exact ⟨A1, p, cap1, rfl, out, S.out.row, F.out⟩
      · have h3 : ¬ ((i : Int) < (n : Int)) := by omega
        have h4 : decide ((i : Int) < (n : Int)) = false := decide_eq_false h3
        go_wp2_with fail
        go_ret
        exact ⟨A1, p, cap1, rfl, out, S.out.row, F.out⟩
end Go.Proofs.Ytocokmjobbmodaa
