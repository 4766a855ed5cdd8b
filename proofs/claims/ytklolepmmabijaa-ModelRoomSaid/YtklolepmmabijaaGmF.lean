/-
  Packets, rows of packets, append onto them, the packet that is removed in front.
  slices.Delete (the first packet) and slices.Clone, at packets.
  A flow in memory: its words (ours); Len, begin, Finish, first, add, take, ifAny.
  Contracts of take and ifAny; of Head, Start, New, Copy.
  Contracts of ifAny, Head, Start, Serve, on the struct's cells.
  Contracts of Serve, Arrive, New and Copy.
  A flow told as numbers (FlowOf): contracts of all of its methods, and of New and Copy.
-/
import Derived.Test.YtklolepmmabijaaGmH
import Derived.Deep.RegionLaw
import Derived.Test.YtklolepmmabijaaGmT
import Derived.Laws.OwnMore
import Derived.Laws.ResultCell
import Derived.BigQuiet
import Derived.Deep.QuietTactic
import Derived.StillTailTactics
import Derived.Deep.RegionHeld3
import Derived.Lib.SmallJoins
import Derived.Lib.SliceRun
namespace Go.Proofs.Ytklolepmmabijaa
set_option maxRecDepth 100000
open Go.RowKit
set_option linter.unusedVariables false
set_option linter.unusedSimpArgs false

/-- A packet: its flow, its length, its mark. -/
structure Pk where
  f : Int
  l : Int
  m : Int
deriving DecidableEq, Inhabited

def Pk.cs (x : Pk) : List Value := [.int .i64 x.f, .int .i64 x.l, .int .i64 x.m]
def pflat (xs : List Pk) : List Value := xs.flatMap Pk.cs
def Pk.ok (x : Pk) : Prop := i64ok x.f ∧ i64ok x.l ∧ i64ok x.m
def pOf (xs : List Pk) (k : Nat) : Pk := xs.getD k ⟨0, 0, 0⟩
theorem pflat_cons (x : Pk) (xs : List Pk) : pflat (x :: xs) = .int .i64 x.f :: .int .i64 x.l :: .int .i64 x.m :: pflat xs := by simp [pflat, Pk.cs]
theorem pflat_append (xs ys : List Pk) : pflat (xs ++ ys) = pflat xs ++ pflat ys := by simp [pflat]
@[simp] theorem pflat_length (xs : List Pk) : (pflat xs).length = xs.length * 3 := by
  induction xs with
  | nil => rfl
  | cons x xs ih => rw [pflat_cons]; simp [ih]; omega
theorem pflat_key : ∀ (xs : List Pk) (k : Nat), k < xs.length → (pflat xs)[k * 3]? = some (.int .i64 (pOf xs k).f) ∧ (pflat xs)[k * 3 + 1]? = some (.int .i64 (pOf xs k).l) ∧ (pflat xs)[k * 3 + 2]? = some (.int .i64 (pOf xs k).m)
  | [], k, h => by simp at h
  | x :: xs, 0, _ => by simp [pflat_cons, pOf]
  | x :: xs, k + 1, h => by
    have := pflat_key xs k (by simpa using h)
    have e1 : (k + 1) * 3 = k * 3 + 3 := by omega
    rw [pflat_cons, e1]
    simpa [pOf] using this
theorem pflat_drop : ∀ (xs : List Pk) (k : Nat), (pflat xs).drop (k * 3) = pflat (xs.drop k)
  | [], k => by simp [pflat]
  | x :: xs, 0 => by simp
  | x :: xs, k + 1 => by
    have e1 : (k + 1) * 3 = k * 3 + 3 := by omega
    rw [e1, List.drop_succ_cons, pflat_cons, ← pflat_drop xs k]
    simp
theorem pflat_one (xs : List Pk) : ∀ u ∈ pflat xs, u.oneCell' = true := by
  intro u hu
  simp only [pflat, List.mem_flatMap] at hu
  obtain ⟨x, _, hx⟩ := hu
  simp only [Pk.cs, List.mem_cons, List.not_mem_nil, or_false] at hx
  rcases hx with rfl | rfl | rfl <;> rfl

/-- A slice of packets: nil, or at the head of a block that holds nothing else. -/
def PRow (w : World) (v : Value) (xs : List Pk) : Prop := w.ownsRow 0 58 3 v xs.length (pflat xs)

theorem PRow.form {w : World} {v : Value} {xs : List Pk} (h : PRow w v xs) : ∃ A cap, v = .slice A xs.length cap := by
  rcases h.2 with ⟨rfl, e⟩ | ⟨g, cap, cur, rfl, _⟩
  · exact ⟨none, 0, by rw [e]⟩
  · exact ⟨_, _, rfl⟩
theorem PRow.nil (w : World) : PRow w (.slice none 0 0) [] := ⟨by simp [pflat], .inl ⟨rfl, rfl⟩⟩
/-- With a packet: where it lies. -/
theorem PRow.at_ {w : World} {v : Value} {xs : List Pk} (h : PRow w v xs) (h0 : 0 < xs.length) : ∃ g cap, v = .slice (some ⟨g, 0, none⟩) xs.length cap ∧ xs.length ≤ cap ∧ cap ≤ maxLen ∧ g < w.heap.size ∧
    (∃ cur, w.heap[g]? = some (.cells cur 58 (0, 0)) ∧ cur.size = cap * 3 ∧ cur.toList.take (xs.length * 3) = pflat xs) ∧
    ∀ k, k < xs.length → w.cell? ⟨g, k * 3, none⟩ = some (.int .i64 (pOf xs k).f) ∧ w.cell? ⟨g, k * 3 + 1, none⟩ = some (.int .i64 (pOf xs k).l) ∧ w.cell? ⟨g, k * 3 + 2, none⟩ = some (.int .i64 (pOf xs k).m) := by
  rcases h.2 with ⟨rfl, e⟩ | ⟨g, cap, cur, rfl, _, hg, hn, hcap, hsz, hcur⟩
  · omega
  · refine ⟨g, cap, rfl, hn, hcap, (Array.getElem?_eq_some_iff.1 hg).1, ⟨cur, hg, hsz, hcur⟩, fun k hk => ?_⟩
    have hk' := pflat_key xs k hk
    have cellOf : ∀ j u, j < xs.length * 3 → (pflat xs)[j]? = some u → w.cell? ⟨g, j, none⟩ = some u := fun j u hj hu => by
      rw [cell_of_row w g j cur _ (0, 0) hg]
      rw [← hcur, List.getElem?_take, if_pos hj] at hu
      simpa using hu
    exact ⟨cellOf _ _ (by omega) hk'.1, cellOf _ _ (by omega) hk'.2.1, cellOf _ _ (by omega) hk'.2.2⟩
theorem PRow.keep {w w' : World} {v : Value} {xs : List Pk} (h : PRow w v xs) (hk : ∀ g, v.ownBlock = some g → w'.heap[g]? = w.heap[g]?) : PRow w' v xs := by
  refine ⟨h.1, ?_⟩
  rcases h.2 with h2 | ⟨g, cap, cur, rfl, h0, hg, r⟩
  · exact .inl h2
  · exact .inr ⟨g, cap, cur, rfl, h0, (hk g rfl).trans hg, r⟩
theorem PRow.lt {w : World} {v : Value} {xs : List Pk} (h : PRow w v xs) {g : Nat} (hg : v.ownBlock = some g) : g < w.heap.size := by
  rcases h.2 with ⟨rfl, _⟩ | ⟨g', cap, cur, rfl, h0, hb, r⟩
  · cases hg
  · have : g' = g := by simpa [Value.ownBlock] using hg
    subst this
    exact (Array.getElem?_eq_some_iff.1 hb).1
theorem PRow.only {w w' : World} {v : Value} {xs : List Pk} {S : List Nat} (h : PRow w v xs) (ho : Only S w w') (hS : ∀ g, v.ownBlock = some g → g ∉ S) : PRow w' v xs :=
  h.keep fun g hg => ho.block g (h.lt hg) (hS g hg)

/-! ### append -/
theorem pk_info : (Try.prog.info? 58).map (fun i => (i.zero, i.size, i.bytes)) = some (some (.agg #[.int .i64 0, .int .i64 0, .int .i64 0]), 3, 24) := by kernel_rfl
/-- Where there is something to be read, A leads to it. -/
def PSrc (w : World) (A : Option Addr) (ys : List Pk) : Prop := ys ≠ [] → ∃ ad, A = some ad ∧ ∀ j u, (pflat ys)[j]? = some u → w.cell? (ad.add j) = some u
theorem PSrc.nil (w : World) (A : Option Addr) : PSrc w A [] := fun h => absurd rfl h
theorem addr_add0 (g j : Nat) : (⟨g, 0, none⟩ : Addr).add j = ⟨g, j, none⟩ := by
  unfold Addr.add
  split
  · rename_i h0; subst h0; rfl
  · simp
theorem addr_addn (g o j : Nat) : (⟨g, o, none⟩ : Addr).add j = ⟨g, o + j, none⟩ := by
  unfold Addr.add
  split
  · rename_i h0; subst h0; rfl
  · simp
/-- A slice from its k-th on. -/
theorem PSrc.drop {w : World} {g n cap : Nat} {xs : List Pk} (h : PRow w (.slice (some ⟨g, 0, none⟩) n cap) xs) (k : Nat) : PSrc w (some ⟨g, k * 3, none⟩) (xs.drop k) := fun hne => by
  have h0 : 0 < xs.length := by
    rcases xs with _ | ⟨x, xs⟩
    · simp at hne
    · simp
  obtain ⟨g', c, e, _, _, _, ⟨cur, hg, hsz, hcur⟩, _⟩ := h.at_ h0
  injection e with e1 e2 e3
  injection e1 with e1
  injection e1 with e1
  subst e1
  refine ⟨_, rfl, fun j u hu => ?_⟩
  rw [← pflat_drop, List.getElem?_drop] at hu
  have hj : k * 3 + j < xs.length * 3 := by
    have := (List.getElem?_eq_some_iff.1 hu).1
    simpa using this
  rw [addr_addn, cell_of_row w g _ cur _ (0, 0) hg]
  rw [← hcur, List.getElem?_take, if_pos hj] at hu
  simpa using hu
theorem PSrc.of_row {w : World} {A : Option Addr} {n cap : Nat} {xs : List Pk} (h : PRow w (.slice A n cap) xs) : PSrc w A xs := fun hne => by
  obtain ⟨g, c, e, _⟩ := h.at_ (List.length_pos_iff.2 hne)
  injection e with e1 e2 e3
  subst e1
  obtain ⟨ad, e9, r⟩ := PSrc.drop h 0 (by simpa using hne)
  simp only [Nat.zero_mul, List.drop_zero] at e9 r
  exact ⟨ad, e9, r⟩
theorem PSrc.keep {w w' : World} {A : Option Addr} {ys : List Pk} (h : PSrc w A ys) (hk : ∀ ad j, A = some ad → (w.cell? (ad.add j)).isSome = true → w'.cell? (ad.add j) = w.cell? (ad.add j)) : PSrc w' A ys := fun hne => by
  obtain ⟨ad, e, hc⟩ := h hne
  exact ⟨ad, e, fun j u hu => (hk ad j e (by rw [hc j u hu]; rfl)).trans (hc j u hu)⟩

section
variable {T : TypeId} (hT : Try.prog.underlying T = some (.slice 58))
include hT
theorem run_append_pk (w : World) (ty : TypeId) (v : Value) (xs : List Pk) (h : PRow w v xs) (A : Option Addr) (m c : Nat) (ys : List Pk) (hm : ys.length = m) (hs : PSrc w A ys) (hb : xs.length + m ≤ 2000000) :
    ∃ v' w', (Builtin.append_ #[T, T] ty #[v, .slice A m c]).run Try.prog w = .ok v' w' ∧ PRow w' v' (xs ++ ys) ∧ w.grownBy w' v.ownBlock ∧ (v'.ownBlock = v.ownBlock ∨ v'.ownBlock = some w.heap.size) := by
  obtain ⟨i0, hi0, hz0, hz1, hz2⟩ := info_parts pk_info
  cases A with
  | none =>
    have hy : ys = [] := by
      cases ys with
      | nil => rfl
      | cons y ys => obtain ⟨ad, e, _⟩ := hs (by simp); cases e
    subst hy
    have hm0 : m = 0 := by simpa using hm.symm
    subst hm0
    refine ⟨v, w, ?_, by simpa using h, World.grownBy.refl w _, .inl rfl⟩
    rcases h.2 with ⟨rfl, e⟩ | ⟨g, cap, cur, rfl, _, _, hnc, _⟩
    · simp [Builtin.append_, run_underlying hT, sizeOf, typeInfo, hi0, Builtin.lenOf, Builtin.firstCells]
    · simp [Builtin.append_, run_underlying hT, sizeOf, typeInfo, hi0, Builtin.lenOf, Builtin.firstCells, hnc, storeCells]
  | some ad =>
    have hcells : ∀ j u, (pflat ys)[j]? = some u → w.cell? (ad.add j) = some u := fun j u hu => by
      obtain ⟨ad', e, hc⟩ := hs (by rintro rfl; simp [pflat] at hu)
      injection e with e
      subst e
      exact hc j u hu
    obtain ⟨v', w', r1, r2, r3, _, r5⟩ := run_append_own_at (P := Try.prog) w 0 T ty 58 i0 _ 3 24 hT hi0 hz0 hz1 hz2 rfl (by decide) v xs.length (pflat xs) h ad m c (pflat ys)
      (by rw [pflat_length, hm]) hcells (pflat_one ys) (by unfold maxLen; omega) (by omega) (Nat.zero_le _)
    refine ⟨v', w', r1, ?_, r3, r5⟩
    unfold PRow
    rw [pflat_append, List.length_append, hm]
    exact r2

variable {w : World} {ops : Array Oper} {o : Oper} {a : Act} {K : Act → World → Prop} {Q : Exit → Act → World → Prop}
theorem wp_append_pk (s x : Operand) (ho : o.op = .call { callee := .builtin .append, args := #[s, x], argTypes := #[T, T] })
    (v : Value) (xs : List Pk) (hs : a.eval s = v) (h : PRow w v xs) (A : Option Addr) (m c : Nat) (ys : List Pk) (hx : a.eval x = .slice A m c) (hm : ys.length = m) (hr : PSrc w A ys) (N : Nat) (hN : xs.length + m = N) (hb : N ≤ 2000000)
    (hK : ∀ A' cap' w', PRow w' (.slice A' N cap') (xs ++ ys) → w.grownBy w' v.ownBlock → ((Value.slice A' N cap').ownBlock = v.ownBlock ∨ (Value.slice A' N cap').ownBlock = some w.heap.size) → K (a.put o.dst (.slice A' N cap')) w') : o.wp Try.prog a w K Q := by
  subst hN
  obtain ⟨v', w', r1, r2, r3, r4⟩ := run_append_pk hT w o.type v xs h A m c ys hm hr hb
  unfold Oper.wp execOp
  simp only [ho, resolve, invoke, builtin, Sem.run_bind, Sem.run_pure, Result.andThen_ok, List.map_toArray, List.map_cons, List.map_nil, hs, hx, r1]
  obtain ⟨A', cap', rfl⟩ := r2.form
  rw [List.length_append, hm] at r2 r4 ⊢
  exact hK A' cap' w' r2 r3 r4
theorem wpList_append_pk {rest : List Oper} (hgd : o.guard = none) (s x : Operand) (ho : o.op = .call { callee := .builtin .append, args := #[s, x], argTypes := #[T, T] })
    (v : Value) (xs : List Pk) (hs : a.eval s = v) (h : PRow w v xs) (A : Option Addr) (m c : Nat) (ys : List Pk) (hx : a.eval x = .slice A m c) (hm : ys.length = m) (hr : PSrc w A ys) (N : Nat) (hN : xs.length + m = N) (hb : N ≤ 2000000)
    (hK : ∀ A' cap' w', PRow w' (.slice A' N cap') (xs ++ ys) → w.grownBy w' v.ownBlock → ((Value.slice A' N cap').ownBlock = v.ownBlock ∨ (Value.slice A' N cap').ownBlock = some w.heap.size) → wpList Try.prog ops Q rest (a.put o.dst (.slice A' N cap')) w') :
    wpList Try.prog ops Q (o :: rest) a w :=
  wpList_plain hgd fun _ hK' => wp_append_pk hT s x ho v xs hs h A m c ys hx hm hr N hN hb fun A' cap' w' h2 h3 h4 => hK' _ _ (hK A' cap' w' h2 h3 h4)
theorem step_append_pk {E : Prop} (hgd : o.guard = none) (s x : Operand) (ho : o.op = .call { callee := .builtin .append, args := #[s, x], argTypes := #[T, T] })
    (v : Value) (xs : List Pk) (hs : a.eval s = v) (h : PRow w v xs) (A : Option Addr) (m c : Nat) (ys : List Pk) (hx : a.eval x = .slice A m c) (hm : ys.length = m) (hr : PSrc w A ys) (N : Nat) (hN : xs.length + m = N) (hb : N ≤ 2000000)
    (hK : ∀ A' cap' w', PRow w' (.slice A' N cap') (xs ++ ys) → w.grownBy w' v.ownBlock → ((Value.slice A' N cap').ownBlock = v.ownBlock ∨ (Value.slice A' N cap').ownBlock = some w.heap.size) → K (a.put o.dst (.slice A' N cap')) w') :
    if Region.wanted o (yielded ops a.tmps) = true then Oper.wp Try.prog o a w K Q else E := by
  have hw : Region.wanted o (yielded ops a.tmps) = true := by simp [Region.wanted, hgd]
  rw [if_pos hw]
  exact wp_append_pk hT s x ho v xs hs h A m c ys hx hm hr N hN hb hK
end

/-- A block that holds one packet. -/
def PBox (w : World) (b : Nat) (x : Pk) : Prop := w.heap[b]? = some (.cells #[.int .i64 x.f, .int .i64 x.l, .int .i64 x.m] 58 (0, 0))
theorem PBox.c {w : World} {b : Nat} {x : Pk} (h : PBox w b x) : w.cell? ⟨b, 0, none⟩ = some (.int .i64 x.f) ∧ w.cell? ⟨b, 1, none⟩ = some (.int .i64 x.l) ∧ w.cell? ⟨b, 2, none⟩ = some (.int .i64 x.m) :=
  ⟨by rw [cell_of_row w b 0 _ _ _ h]; rfl, by rw [cell_of_row w b 1 _ _ _ h]; rfl, by rw [cell_of_row w b 2 _ _ _ h]; rfl⟩
theorem PBox.only {w w' : World} {b : Nat} {x : Pk} {S : List Nat} (h : PBox w b x) (ho : Only S w w') (hS : b ∉ S) : PBox w' b x := ho.get h hS
theorem PBox.new (w : World) (x : Pk) : PBox (w.alloc (.cells #[.int .i64 x.f, .int .i64 x.l, .int .i64 x.m] 58)) w.heap.size x := heap_alloc_new w _
theorem PBox.lt {w : World} {b : Nat} {x : Pk} (h : PBox w b x) : b < w.heap.size := (Array.getElem?_eq_some_iff.1 h).1
theorem PSrc.box {w : World} {b : Nat} {x : Pk} (h : PBox w b x) : PSrc w (some ⟨b, 0, none⟩) [x] :=
  PSrc.of_row (n := 1) (cap := 1) ⟨rfl, .inr ⟨b, 1, _, rfl, Nat.zero_le _, h, Nat.le_refl _, by decide, rfl, by simp [pflat, Pk.cs]⟩⟩
end Go.Proofs.Ytklolepmmabijaa

namespace Go.Proofs.Ytklolepmmabijaa
set_option maxRecDepth 100000
open Go.RowKit
set_option linter.unusedVariables false
set_option linter.unusedSimpArgs false

/-- What comes of a row that was turned. -/
def PPut (w : World) (v : Value) (zs : List Pk) (e : Ending) (w' : World) : Prop :=
  ∃ v', e = .returned v' ∧ PRow w' v' zs ∧ Only v.ownBlock.toList w w' ∧ (v'.ownBlock = v.ownBlock ∨ ∃ g, v'.ownBlock = some g ∧ w.heap.size ≤ g)

def layC (cur : Array Value) (o : Nat) (cs : List Value) : Array Value := (cur.toList.take o ++ cs ++ cur.toList.drop (o + cs.length)).toArray
theorem layC_size {cur : Array Value} {o : Nat} {cs : List Value} (h : o + cs.length ≤ cur.size) : (layC cur o cs).size = cur.size := by simp [layC]; omega
theorem Only.setRowC (w : World) (g : Nat) (cs : Array Value) : Only [g] w (w.setRow g cs) := ⟨rfl, rfl, rfl, by simp [World.setRow], fun k _ hk => setRow_other w g k cs (by simpa using hk)⟩
theorem setCells_rowC (w : World) (g o : Nat) (cur : Array Value) (vs : List Value) (hg : w.heap[g]? = some (.cells cur 58 (0, 0))) (hfit : o + vs.length ≤ cur.size) (h1 : ∀ v ∈ vs, v.oneCell' = true) : w.setCells g o vs = w.setRow g (layC cur o vs) := by
  have a := run_storeCells_cells (P := Try.prog) g o vs 0 w (fun j hj => by rw [cell_of_row w g _ cur _ (0, 0) hg, Array.getElem?_eq_getElem (by omega)]; rfl) (fun j hj => by simp [World.frozen?, hg]) h1
  have b := run_storeCells_at Try.prog g o 58 vs 0 cur w hg (by simpa using hfit) h1
  rw [a] at b
  injection b with _ b
theorem pk_zero : (Builtin.zeroCells (Value.agg #[.int .i64 0, .int .i64 0, .int .i64 0]).cells 1).toList = [.int .i64 0, .int .i64 0, .int .i64 0] := by kernel_rfl
theorem zero_pk (w : World) : (zeroValue 58).run Try.prog w = .ok (.agg #[.int .i64 0, .int .i64 0, .int .i64 0]) w := by kernel_rfl
def zero3 : List Value := [.int .i64 0, .int .i64 0, .int .i64 0]
theorem zero3_one : ∀ v ∈ zero3, v.oneCell' = true := by
  intro v hv
  simp [zero3] at hv
  subst hv
  rfl
section
variable {T : TypeId} (hT : Try.prog.underlying T = some (.slice 58))
include hT
theorem run_clear3 (w : World) (ty : TypeId) (g o c : Nat) (cur : Array Value) (hg : w.heap[g]? = some (.cells cur 58 (0, 0))) (hfit : o + 3 ≤ cur.size) :
    (Builtin.clear_ #[T] ty #[.slice (some ⟨g, o, none⟩) 1 c]).run Try.prog w = .ok (.tuple #[]) (w.setRow g (layC cur o zero3)) := by
  have b := run_storeCells_at Try.prog g o 58 zero3 0 cur w hg (by simpa [zero3] using hfit) zero3_one
  simp only [Nat.add_zero] at b
  unfold layC
  unfold zero3 at b ⊢
  simp [Builtin.clear_, run_underlying hT, zero_pk, pk_zero, b]

variable {w : World} {ops : Array Oper} {o : Oper} {a : Act} {K : Act → World → Prop} {Q : Exit → Act → World → Prop}
theorem wpList_clear3 {rest : List Oper} (hgd : o.guard = none) (d : Operand) (ho : o.op = .call { callee := .builtin .clear, args := #[d], argTypes := #[T] })
    (g off k c : Nat) (hk : k = 1) (hd : a.eval d = .slice (some ⟨g, off, none⟩) k c) (cur : Array Value) (hg : w.heap[g]? = some (.cells cur 58 (0, 0))) (hfit : off + 3 ≤ cur.size)
    (hK : ∀ w', w'.heap[g]? = some (.cells (layC cur off zero3) 58 (0, 0)) → Only [g] w w' → wpList Try.prog ops Q rest (a.put o.dst (.tuple #[])) w') : wpList Try.prog ops Q (o :: rest) a w := by
  subst hk
  refine wpList_plain hgd fun K hK' => ?_
  have r1 := run_clear3 hT w o.type g off c cur hg hfit
  unfold Oper.wp execOp
  simp only [ho, resolve, invoke, builtin, Sem.run_bind, Sem.run_pure, Result.andThen_ok, List.map_toArray, List.map_cons, List.map_nil, hd, r1]
  exact hK' _ _ (hK _ (setRow_heap w g _ _ _ _ hg) (Only.setRowC w g _))
theorem step_append3 {E : Prop} (hgd : o.guard = none) (s x : Operand) (ho : o.op = .call { callee := .builtin .append, args := #[s, x], argTypes := #[T, T] })
    (g n cap : Nat) (hs : a.eval s = .slice (some ⟨g, 0, none⟩) n cap) (ad : Addr) (m c : Nat) (hx : a.eval x = .slice (some ad) m c) (cur : Array Value) (hg : w.heap[g]? = some (.cells cur 58 (0, 0)))
    (cs : List Value) (hl : cs.length = m * 3) (hsrc : ∀ j v, cs[j]? = some v → w.cell? (ad.add j) = some v) (h1 : ∀ v ∈ cs, v.oneCell' = true) (N : Nat) (hN : n + m = N) (hroom : N ≤ cap) (hsz : cur.size = cap * 3)
    (hK : ∀ w', w'.heap[g]? = some (.cells (layC cur (n * 3) cs) 58 (0, 0)) → Only [g] w w' → K (a.put o.dst (.slice (some ⟨g, 0, none⟩) N cap)) w') :
    if Region.wanted o (yielded ops a.tmps) = true then Oper.wp Try.prog o a w K Q else E := by
  subst hN
  obtain ⟨i0, hi0, hz0, hz1, hz2⟩ := info_parts pk_info
  refine step_append_room hgd s x T ho 58 i0 3 hT hi0 hz1 g 0 n cap hs ad m c cs hx hl hsrc h1 hroom (fun j hj => ⟨?_, ?_⟩) ?_
  · rw [cell_of_row w g _ cur _ (0, 0) hg, Array.getElem?_eq_getElem (by omega)]; rfl
  · simp [World.frozen?, hg]
  · rw [Nat.zero_add, setCells_rowC w g (n * 3) cur cs hg (by omega) h1]
    exact hK _ (setRow_heap w g _ _ _ _ hg) (Only.setRowC w g _)
end
/-- The cells of the packets behind the first one, laid in front, and one packet's cells behind them put to nought. -/
theorem row_shorter {cur : Array Value} {x : Pk} {xs : List Pk} {cap : Nat} (hs : cur.size = cap * 3) (hc : cur.toList.take ((x :: xs).length * 3) = pflat (x :: xs)) (hr : xs.length + 1 ≤ cap) :
    (layC (layC cur 0 (pflat xs)) (xs.length * 3) zero3).size = cap * 3 ∧ (layC (layC cur 0 (pflat xs)) (xs.length * 3) zero3).toList.take (xs.length * 3) = pflat xs := by
  have hl1 : (pflat xs).length = xs.length * 3 := by simp
  have hsz : (layC cur 0 (pflat xs)).size = cur.size := layC_size (by rw [hl1]; omega)
  refine ⟨by rw [layC_size (by simp [zero3]; omega), hsz, hs], ?_⟩
  have e0 : (layC (layC cur 0 (pflat xs)) (xs.length * 3) zero3).toList.take (xs.length * 3) = (layC cur 0 (pflat xs)).toList.take (xs.length * 3) := by
    generalize hL : layC cur 0 (pflat xs) = L at *
    unfold layC
    rw [List.toList_toArray, List.append_assoc, List.take_append_of_le_length (by simp; omega), List.take_take, Nat.min_self]
  rw [e0]
  unfold layC
  rw [List.toList_toArray, List.take_zero, List.nil_append, List.take_append_of_le_length (by omega), List.take_of_length_le (by omega)]

set_option maxRecDepth 100000 in
set_option maxHeartbeats 4000000 in
theorem pdelete (w : World) (v : Value) (x : Pk) (xs : List Pk) (h : PRow w v (x :: xs)) (hl : xs.length ≤ 1000000) :
    Calls Try.prog 99 #[v, .int .i64 0, .int .i64 1] w (PPut w v xs) := by
  rcases h.2 with ⟨rfl, e⟩ | ⟨g, cap, cur, rfl, h0, hg, hn, hcm, hs, hc⟩
  · simp at e
  have hn1 : xs.length + 1 ≤ cap := by simpa using hn
  have hRow := Lib.hid (row_shorter hs hc hn1)
  have hfl : Hid ((pflat xs).length = xs.length * 3) := by show _ = _; simp
  obtain ⟨ad, hA, hsrc⟩ : ∃ ad : Addr, (if cap = 1 then (⟨g, 0, none⟩ : Addr) else ⟨g, 3, none⟩) = ad ∧ Hid (∀ j v, (pflat xs)[j]? = some v → w.drew.cell? (ad.add j) = some v) := by
    refine ⟨_, rfl, fun j v hj => ?_⟩
    have hne : xs ≠ [] := by rintro rfl; simp [pflat] at hj
    have hlt : 0 < xs.length := List.length_pos_iff.2 hne
    rw [if_neg (by omega)]
    obtain ⟨ad, e, h8⟩ := PSrc.drop h 1 (by simpa using hne)
    injection e with e
    subst e
    exact h8 j v (by simpa using hj)
  have HG := Lib.hid hg
  have HS := Lib.hid hs
  have i6 : cap ≤ 9223372036854775807 := by unfold maxLen at hcm; omega
  have HN : Hid ((x :: xs).length = xs.length + 1) := by show _ = _; simp
  rw [HN.out]
  clear hg hs hc h hn
  generalize hn' : xs.length = n at *
  have i3 : ¬ (cap = 0) := by omega
  have i7 : ¬ (cap = n) := by omega
  have i8 : 1 ≤ cap := by omega
  have i2 : (1 : Int) ≤ (n : Int) + 1 := by omega
  rcases Decidable.em (cap = 1) with rfl | hca
  · rw [if_pos rfl] at hA
    subst hA
    go_enter Try.func99, Try.ntmps99
    go_wp2_with fail
    go_region_law (refine step_append3 Try.underlying130 rfl (.tmp 22) (.tmp 25) rfl g 0 1 (by simp [Act.eval, Act.put]) _ 0 0 (by simp [Act.eval, Act.put]) cur HG.out (pflat xs) (by rw [hfl.out]; omega) hsrc.out (pflat_one _) n (by omega) (by omega) HS.out ?_; intro w2 h2 o2; have R2 := Lib.hid (And.intro h2 o2); clear h2 o2)
    go_wp2_with (refine wpList_clear3 Try.underlying130 rfl (.tmp 31) rfl g (n * 3) _ _ (by omega) rfl _ R2.out.1 (by rw [layC_size (by rw [hfl.out, HS.out]; omega), HS.out]; omega) ?_; intro w3 h3 o3; have R3 := Lib.hid (And.intro h3 o3); clear h3 o3)
    go_ret
    obtain ⟨h3, o3⟩ := R3.out
    have o9 : Only [g] w w3 := ((Only.refl [g] w).drew.trans' R2.out.2).trans' o3
    exact ⟨_, rfl, ⟨pflat_length _, .inr ⟨g, 1, _, congrArg (fun m => Value.slice _ m _) hn'.symm, Nat.zero_le _, h3, by omega, hcm, hRow.out.1, by rw [hn']; exact hRow.out.2⟩⟩, o9, .inl rfl⟩
  · rw [if_neg hca] at hA
    subst hA
    go_enter Try.func99, Try.ntmps99
    go_wp2_with fail
    go_region_law (refine step_append3 Try.underlying130 rfl (.tmp 22) (.tmp 25) rfl g 0 cap (by simp [Act.eval, Act.put]) _ n (cap - 1) (by simp [Act.eval, Act.put]) cur HG.out (pflat xs) hfl.out hsrc.out (pflat_one _) n (by omega) (by omega) HS.out ?_; intro w2 h2 o2; have R2 := Lib.hid (And.intro h2 o2); clear h2 o2)
    go_wp2_with (refine wpList_clear3 Try.underlying130 rfl (.tmp 31) rfl g (n * 3) _ _ (by omega) rfl _ R2.out.1 (by rw [layC_size (by rw [hfl.out, HS.out]; omega), HS.out]; omega) ?_; intro w3 h3 o3; have R3 := Lib.hid (And.intro h3 o3); clear h3 o3)
    go_ret
    obtain ⟨h3, o3⟩ := R3.out
    have o9 : Only [g] w w3 := ((Only.refl [g] w).drew.trans' R2.out.2).trans' o3
    exact ⟨_, rfl, ⟨pflat_length _, .inr ⟨g, cap, _, congrArg (fun m => Value.slice _ m _) hn'.symm, Nat.zero_le _, h3, by omega, hcm, hRow.out.1, by rw [hn']; exact hRow.out.2⟩⟩, o9, .inl rfl⟩
end Go.Proofs.Ytklolepmmabijaa

namespace Go.Proofs.Ytklolepmmabijaa
set_option maxRecDepth 100000
open Go.RowKit
set_option linter.unusedVariables false
set_option linter.unusedSimpArgs false

def U64 (a : Int) : Prop := 0 ≤ a ∧ a ≤ 18446744073709551615
/-- What a thing owns may have turned, and there may be new blocks: from O to O'. -/
def Went (w : World) (O : List Nat) (w' : World) (O' : List Nat) : Prop := Only O w w' ∧ ∀ k ∈ O', k ∈ O ∨ w.heap.size ≤ k
theorem Went.trans {a b c : World} {O O' O'' : List Nat} (h : Went a O b O') (h2 : Went b O' c O'') : Went a O c O'' :=
  ⟨h.1.trans h2.1 h.2, fun k hk => (h2.2 k hk).elim (h.2 k) (fun h3 => .inr (Nat.le_trans h.1.size h3))⟩
theorem Went.still {w w' : World} (h : Only [] w w') (O : List Nat) : Went w O w' O := ⟨h.mono (by simp), fun k hk => .inl hk⟩
theorem Went.refl (w : World) (O : List Nat) : Went w O w O := Went.still (Only.refl [] w) O

/-- A flow, as numbers: what a unit costs, how many it holds, start, finish, packets. -/
structure Fl where
  r : Int
  n : Nat
  s : Int
  e : Int
  l : List Pk
structure Fl.ok (F : Fl) : Prop where
  r : U64 F.r
  n1 : 1 ≤ F.n
  n8 : F.n ≤ 8
  s : U64 F.s
  e : U64 F.e
  l : ∀ x ∈ F.l, x.ok
  len : F.l.length ≤ F.n

/-! ### the struct -/
def FBlk (w : World) (b : Nat) (r n s e : Int) (v : Value) : Prop := w.heap[b]? = some (.cells #[.int .u64 r, .int .i64 n, .int .u64 s, .int .u64 e, v] 132 (0, 0))
section
variable {w w' : World} {b : Nat} {r n s e : Int} {v : Value}
theorem FBlk.lt (h : FBlk w b r n s e v) : b < w.heap.size := (Array.getElem?_eq_some_iff.1 h).1
theorem FBlk.c (h : FBlk w b r n s e v) : w.cell? ⟨b, 0, none⟩ = some (.int .u64 r) ∧ w.cell? ⟨b, 1, none⟩ = some (.int .i64 n) ∧ w.cell? ⟨b, 2, none⟩ = some (.int .u64 s) ∧ w.cell? ⟨b, 3, none⟩ = some (.int .u64 e) ∧ w.cell? ⟨b, 4, none⟩ = some v :=
  ⟨by rw [cell_of_row w b 0 _ _ _ h]; rfl, by rw [cell_of_row w b 1 _ _ _ h]; rfl, by rw [cell_of_row w b 2 _ _ _ h]; rfl, by rw [cell_of_row w b 3 _ _ _ h]; rfl, by rw [cell_of_row w b 4 _ _ _ h]; rfl⟩
theorem FBlk.fr (h : FBlk w b r n s e v) (j : Nat) : w.frozen? ⟨b, j, none⟩ = false := frozen_of_row w b j _ _ h
theorem FBlk.only {S : List Nat} (h : FBlk w b r n s e v) (ho : Only S w w') (hS : b ∉ S) : FBlk w' b r n s e v := ho.get h hS
theorem FBlk.only0 (h : FBlk w b r n s e v) (ho : Only [] w w') : FBlk w' b r n s e v := h.only ho (by simp)
theorem FBlk.set2 (h : FBlk w b r n s e v) (u : Int) : FBlk (w.setCell ⟨b, 2, none⟩ (.int .u64 u)) b r n u e v := by
  have := heap_setCell_same w b 2 _ _ (.int .u64 u) h
  simpa [FBlk] using this
theorem FBlk.set3 (h : FBlk w b r n s e v) (u : Int) : FBlk (w.setCell ⟨b, 3, none⟩ (.int .u64 u)) b r n s u v := by
  have := heap_setCell_same w b 3 _ _ (.int .u64 u) h
  simpa [FBlk] using this
theorem FBlk.set4 (h : FBlk w b r n s e v) (u : Value) : FBlk (w.setCell ⟨b, 4, none⟩ u) b r n s e u := by
  have := heap_setCell_same w b 4 _ _ u h
  simpa [FBlk] using this
theorem FBlk.ne (h : FBlk w b r n s e v) {u : Value} {xs : List Pk} (hu : PRow w u xs) : ∀ g, u.ownBlock = some g → g ≠ b := by
  intro g hg
  rintro rfl
  rcases hu.2 with ⟨rfl, _⟩ | ⟨g', cap, cur, rfl, h0, hb, _⟩
  · cases hg
  · have : g' = g := by simpa [Value.ownBlock] using hg
    subst this
    unfold FBlk at h
    rw [hb] at h
    injection h with h
    injection h with _ h
    exact absurd h (by decide)
end
/-- The packets turned to zs. -/
def Turn (w : World) (b : Nat) (r n s e : Int) (v : Value) (zs : List Pk) (w' : World) : Prop :=
  ∃ v', FBlk w' b r n s e v' ∧ PRow w' v' zs ∧ Only (b :: v.ownBlock.toList) w w' ∧ (v'.ownBlock = v.ownBlock ∨ ∃ g, v'.ownBlock = some g ∧ w.heap.size ≤ g)
section
variable {w W w2 : World} {b : Nat} {r n s e : Int} {v v2 : Value} {xs zs : List Pk}
/-- A slice that came of the flow's own is stored into it. -/
theorem turn_store (h : FBlk w b r n s e v) (hx : PRow w v xs) (ho : Only v.ownBlock.toList w w2) (h2 : PRow w2 v2 zs) (hv : v2.ownBlock = v.ownBlock ∨ ∃ g, v2.ownBlock = some g ∧ w.heap.size ≤ g) :
    FBlk w2 b r n s e v ∧ Turn w b r n s e v zs (w2.setCell ⟨b, 4, none⟩ v2) := by
  have hb2 : FBlk w2 b r n s e v := h.only ho (fun hk => h.ne hx b (Option.mem_toList.1 hk) rfl)
  refine ⟨hb2, v2, hb2.set4 v2, h2.only ((Only.refl [b] w2).setCell (by simp) _) (fun g hg => by simpa using hb2.ne h2 g hg), ?_, hv⟩
  exact (ho.mono (T := b :: v.ownBlock.toList) (fun k hk => .inl (List.mem_cons_of_mem _ hk))).setCell (by simp) _
theorem turn_grown (h : FBlk w b r n s e v) (hx : PRow w v xs) (o1 : Only [] w W) (hg : W.grownBy w2 v.ownBlock) (h2 : PRow w2 v2 zs) (hv : v2.ownBlock = v.ownBlock ∨ v2.ownBlock = some W.heap.size) :
    (w2.cell? ⟨b, 4, none⟩ = some v ∧ w2.frozen? ⟨b, 4, none⟩ = false) ∧ Turn w b r n s e v zs (w2.setCell ⟨b, 4, none⟩ v2) := by
  obtain ⟨q1, q2⟩ := turn_store h hx ((o1.mono (T := v.ownBlock.toList) (by simp)).grown hg (fun k hk => .inl (Option.mem_toList.2 hk))) h2 (hv.imp id fun e => ⟨_, e, o1.size⟩)
  exact ⟨⟨q1.c.2.2.2.2, q1.fr 4⟩, q2⟩
/-- With new blocks ahead of it, and behind it. -/
theorem Turn.ahead (o : Only [] w W) (h : Turn W b r n s e v zs w2) : Turn w b r n s e v zs w2 := by
  obtain ⟨v', h1, h2, h3, h4⟩ := h
  exact ⟨v', h1, h2, (o.mono (T := b :: v.ownBlock.toList) (by simp)).trans' h3, h4.imp id fun ⟨g, e, hg⟩ => ⟨g, e, Nat.le_trans o.size hg⟩⟩
end

/-! ### results in cells -/

theorem results_cell_tmp2 {fn : Func} {p u u2 : Tmp} {ty : TypeId} (h : fn.results = #[.cell p ty, .tmp u, .tmp u2]) (tmps : Array Value) (P : Program) (w : World) :
    (results fn tmps).run P w =
      ((asAddr (tmps.getD p undef)).run P w).andThen fun a w₁ => ((loadVar ty a).run P w₁).andThen fun v w₂ => .ok (.tuple #[v, tmps.getD u undef, tmps.getD u2 undef]) w₂ := by
  simp only [results, h]
  simp [Sem.run_bind, Result.andThen]

/-! ### the small ones -/
set_option maxRecDepth 100000
theorem fLen (w : World) (b : Nat) (r n s e : Int) (A : Option Addr) (m cap : Nat) (h : FBlk w b r n s e (.slice A m cap)) :
    Calls Try.prog 61 #[.pointer (some ⟨b, 0, none⟩)] w fun e w' => e = .returned (.int .i64 (m : Int)) ∧ w' = w := by
  obtain ⟨_, _, _, _, c4⟩ := h.c
  clear h
  go_enter Try.func61, Try.ntmps61
  go_wp2
  go_ret
  exact ⟨rfl, rfl⟩
theorem fBegin (w : World) (b : Nat) (r n s e : Int) (v : Value) (h : FBlk w b r n s e v) :
    Calls Try.prog 67 #[.pointer (some ⟨b, 0, none⟩)] w fun e w' => e = .returned (.int .u64 s) ∧ w' = w := by
  obtain ⟨_, _, c2, _, _⟩ := h.c
  clear h
  go_enter Try.func67, Try.ntmps67
  go_wp2
  go_ret
  exact ⟨rfl, rfl⟩
theorem fFirst (w : World) (v : Value) (x : Pk) (xs : List Pk) (h : PRow w v (x :: xs)) :
    Calls Try.prog 98 #[v] w fun e w' => e = .returned (.agg #[.int .i64 x.f, .int .i64 x.l, .int .i64 x.m]) ∧ Only [] w w' := by
  obtain ⟨g, cap, rfl, hn, hcap, hg, _, hc⟩ := h.at_ (by simp)
  obtain ⟨c0, c1, c2⟩ := hc 0 (by simp)
  simp only [pOf, List.getD_cons_zero, Nat.zero_mul, Nat.zero_add] at c0 c1 c2
  have hl : ((x :: xs).length : Int) = (xs.length : Int) + 1 := by simp
  have hp : (0 : Int) < (xs.length : Int) + 1 := by omega
  have hp2 : (0 : Int) < ((x :: xs).length : Int) := by omega
  clear hc h
  go_enter Try.func98, Try.ntmps98
  go_wp2
  refine bodyPost_ret (v := .agg #[.int .i64 x.f, .int .i64 x.l, .int .i64 x.m]) ?_ rfl ?_
  · rw [results_cell1 rfl]; go_simp
  · exact ⟨rfl, (Only.refl [] w).alloc _⟩
set_option maxHeartbeats 1000000 in
theorem fAdd (w : World) (b : Nat) (r n s e : Int) (v : Value) (xs : List Pk) (h : FBlk w b r n s e v) (hx : PRow w v xs) (x : Pk) (hl : xs.length ≤ 1000) :
    Calls Try.prog 84 #[.pointer (some ⟨b, 4, none⟩), .agg #[.int .i64 x.f, .int .i64 x.l, .int .i64 x.m]] w fun e' w' => e' = .returned (.tuple #[]) ∧ Turn w b r n s e v (xs ++ [x]) w' := by
  obtain ⟨A, cap, rfl⟩ := hx.form
  have o0 : Only [] w (w.alloc (.cells #[.int .i64 x.f, .int .i64 x.l, .int .i64 x.m] 58)) := (Only.refl [] w).alloc _
  have bx := PBox.new w x
  have hb := h.lt
  go_enter Try.func84, Try.ntmps84
  go_wp2_with fail
  generalize w.alloc (.cells #[.int .i64 x.f, .int .i64 x.l, .int .i64 x.m] 58) = W at *
  obtain ⟨_, _, _, _, c4⟩ := (h.only0 o0).c
  obtain ⟨x0, x1, x2⟩ := bx.c
  have H := Lib.hid (And.intro h (And.intro hx o0))
  have hbW : b < W.heap.size := (h.only0 o0).lt
  have fr := (h.only0 o0).fr 4
  clear h hx o0 bx
  go_region_law
    (refine step_append_pk Try.underlying130 rfl (.tmp 7) (.tmp 9) rfl (.slice A xs.length cap) xs (by simp [Act.eval, Act.put]) (by first | exact H.out.2.1.only ((H.out.2.2.drew).alloc _) (by simp) | exact H.out.2.1.only ((H.out.2.2.alloc _).drew) (by simp)) (some ⟨W.heap.size, 0, none⟩) 1 1 [x] (by simp [Act.eval, Act.put]) rfl (by exact PSrc.box (PBox.new W x)) (xs.length + 1) rfl (by omega) ?_
     intro A' cap' w2 hr2 hg2 hl2
     obtain ⟨⟨c4', fr'⟩, R2⟩ := turn_grown H.out.1 H.out.2.1 (by first | exact (H.out.2.2.drew).alloc _ | exact (H.out.2.2.alloc _).drew) hg2 hr2 hl2
     have R := Lib.hid R2
     clear R2 hr2 hg2 hl2)
  all_goals
    go_wp2_with fail
    go_end0
    exact ⟨rfl, R.out⟩
end Go.Proofs.Ytklolepmmabijaa

namespace Go.Proofs.Ytklolepmmabijaa
set_option maxRecDepth 100000
open Go.RowKit
set_option linter.unusedVariables false
set_option linter.unusedSimpArgs false
set_option maxRecDepth 100000

section
variable {w W w2 w3 : World} {b : Nat} {r n s e : Int} {v : Value} {zs : List Pk}
/-- New blocks behind it. -/
theorem Turn.behind (h : Turn w b r n s e v zs w2) (o : Only [] w2 w3) : Turn w b r n s e v zs w3 := by
  obtain ⟨v', h1, h2, h3, h4⟩ := h
  exact ⟨v', h1.only0 o, h2.only o (by simp), h3.trans o (by simp), h4⟩
/-- Blocks that were made between w and W may turn behind it. -/
theorem Turn.box (o : Only [] w W) (h : Turn W b r n s e v zs w2) {S : List Nat} (hS : ∀ k ∈ S, w.heap.size ≤ k ∧ k < W.heap.size) (hb : b < w.heap.size) (hv : ∀ g, v.ownBlock = some g → g < w.heap.size) (ho : Only S w2 w3) : Turn w b r n s e v zs w3 := by
  obtain ⟨v', h1, h2, h3, h4⟩ := h
  refine ⟨v', h1.only ho (fun hk => by have := hS b hk; omega), h2.only ho (fun g hg hk => ?_), ?_, h4.imp id fun ⟨g, e, hg⟩ => ⟨g, e, Nat.le_trans o.size hg⟩⟩
  · have q := hS g hk
    rcases h4 with e | ⟨g', e, hg'⟩
    · have := hv g (by rw [← e]; exact hg); omega
    · rw [e] at hg; injection hg with hg; omega
  · exact ((o.mono (T := b :: v.ownBlock.toList) (by simp)).trans' h3).trans ho (fun k hk => .inr (hS k hk).1)
end
set_option maxHeartbeats 1000000 in
theorem fTake (w : World) (b : Nat) (r n s e : Int) (v : Value) (x : Pk) (xs : List Pk) (h : FBlk w b r n s e v) (hx : PRow w v (x :: xs)) (hl : xs.length ≤ 1000) :
    Calls Try.prog 86 #[.pointer (some ⟨b, 4, none⟩)] w fun e' w' => e' = .returned (.agg #[.int .i64 x.f, .int .i64 x.l, .int .i64 x.m]) ∧ Turn w b r n s e v xs w' := by
  have o0 : Only [] w (w.alloc (.cells #[.int .i64 0, .int .i64 0, .int .i64 0] 58)) := (Only.refl [] w).alloc _
  have hz := PBox.new w ⟨0, 0, 0⟩
  obtain ⟨_, _, _, _, c4⟩ := (h.only0 o0).c
  have hb := h.lt
  have hf := fFirst _ v x xs (hx.only o0 (by simp))
  have hvl : ∀ g, v.ownBlock = some g → g < w.heap.size := fun g hg => hx.lt hg
  go_enter Try.func86, Try.ntmps86
  go_wp2_with fail
  refine hf.mono ?_
  rintro e' w1 ⟨rfl, o1⟩
  have o1' := o0.trans' o1
  have hz1 := hz.only o1 (by simp)
  have o2 : Only [] w (w1.alloc (.cells #[.int .i64 x.f, .int .i64 x.l, .int .i64 x.m] 58)) := o1'.alloc _
  have bx := PBox.new w1 x
  have hz2 := hz1.only (w' := w1.alloc (.cells #[.int .i64 x.f, .int .i64 x.l, .int .i64 x.m] 58)) ((Only.refl [] w1).alloc _) (by simp)
  obtain ⟨_, _, _, _, c4a⟩ := (h.only0 o1').c
  obtain ⟨_, _, _, _, c4b⟩ := (h.only0 o2).c
  have hd := pdelete _ v x xs (hx.only o2 (by simp)) (by omega)
  have hs1 : w.heap.size < w1.heap.size := by have := o1.size; simp at this; omega
  have H := Lib.hid (And.intro h (And.intro hx o2))
  have HZ := Lib.hid (And.intro bx hz2)
  clear h hx o2 o1 o0 o1' hz hz1 hz2 bx hf c4
  go_wp2_with fail
  generalize eW : w1.alloc (.cells #[.int .i64 x.f, .int .i64 x.l, .int .i64 x.m] 58) = W at *
  have hsW : W.heap.size = w1.heap.size + 1 := by rw [← eW]; simp
  clear eW c4a
  refine hd.mono ?_
  rintro e' w3 ⟨v3, rfl, hr3, o3, hv3⟩
  obtain ⟨A3, cap3, rfl⟩ := hr3.form
  obtain ⟨hb3, ht⟩ := turn_store (H.out.1.only0 H.out.2.2) (H.out.2.1.only H.out.2.2 (by simp)) o3 hr3 hv3
  have hnk : ∀ k, w.heap.size ≤ k → k ∉ v.ownBlock.toList := fun k hk hk2 => by have := hvl k (Option.mem_toList.1 hk2); omega
  obtain ⟨_, _, _, _, c43⟩ := hb3.c
  have fr3 := hb3.fr 4
  have bx3 := HZ.out.1.only o3 (hnk _ (by omega))
  have bz3 := HZ.out.2.only o3 (hnk _ (by omega))
  obtain ⟨x0, x1, x2⟩ := bx3.c
  obtain ⟨z0, z1, z2⟩ := bz3.c
  have fz0 : w3.frozen? ⟨w.heap.size, 0, none⟩ = false := frozen_of_row _ _ _ _ _ bz3
  have fz1 : w3.frozen? ⟨w.heap.size, 1, none⟩ = false := frozen_of_row _ _ _ _ _ bz3
  have fz2 : w3.frozen? ⟨w.heap.size, 2, none⟩ = false := frozen_of_row _ _ _ _ _ bz3
  have T3 := Lib.hid ht
  have hne1 : ¬ (w.heap.size = b) := by omega
  have hne2 : ¬ (w1.heap.size = b) := by omega
  have hne3 : ¬ (w.heap.size = w1.heap.size) := by omega
  clear ht hb3 hr3 o3 hv3 bx3 bz3 hd c4b
  go_wp2_with fail
  refine bodyPost_ret (v := .agg #[.int .i64 x.f, .int .i64 x.l, .int .i64 x.m]) ?_ rfl ?_
  · rw [results_cell1 rfl]; go_simp
  · refine ⟨rfl, T3.out.box H.out.2.2 (S := [w.heap.size]) (by simp; omega) hb hvl ?_⟩
    exact (((Only.refl _ _).setCell (by simp) _).setCell (by simp) _).setCell (by simp) _
end Go.Proofs.Ytklolepmmabijaa

namespace Go.Proofs.Ytklolepmmabijaa
set_option maxRecDepth 100000
open Go.RowKit
set_option linter.unusedVariables false
set_option linter.unusedSimpArgs false
set_option maxRecDepth 100000

theorem makes (fn : Fn) (first cap : Array Value) (w : World) : (Instr.makeFunc fn first cap).run Try.prog w = .ok (.func fn first cap) w := rfl
theorem PBox.fr {w : World} {b : Nat} {x : Pk} (h : PBox w b x) (j : Nat) : w.frozen? ⟨b, j, none⟩ = false := frozen_of_row _ _ _ _ _ h
theorem pos_len (m : Nat) : ((((m + 1 : Nat) : Int) == 0) = false) ∧ ¬ (((m + 1 : Nat) : Int) = 0) ∧ (((m : Int) + 1 == 0) = false) ∧ ¬ ((m : Int) + 1 = 0) := by
  refine ⟨by simp; omega, by omega, by simp; omega, by omega⟩
set_option maxHeartbeats 1000000 in
theorem fIfNone (w : World) (b : Nat) (r n s e : Int) (A : Option Addr) (cap : Nat) (h : FBlk w b r n s e (.slice A 0 cap)) (f : Value) :
    Calls Try.prog 85 #[.pointer (some ⟨b, 0, none⟩), f] w fun e' w' => e' = .returned (.tuple #[.agg #[.int .i64 0, .int .i64 0, .int .i64 0], .bool false]) ∧ Only [] w w' := by
  have o0 : Only [] w (w.alloc (.cells #[.int .i64 0, .int .i64 0, .int .i64 0] 58)) := (Only.refl [] w).alloc _
  have hl := fLen _ b r n s e A 0 cap (h.only0 o0)
  go_enter Try.func85, Try.ntmps85
  go_wp2_with fail
  refine hl.mono ?_
  rintro e' w1 ⟨rfl, rfl⟩
  clear hl
  go_wp2_with fail
  refine bodyPost_ret (v := .tuple #[.agg #[.int .i64 0, .int .i64 0, .int .i64 0], .bool false]) ?_ rfl ?_
  · rw [results_cell_tmp rfl]; go_simp
  · exact ⟨rfl, o0.alloc _⟩
set_option maxHeartbeats 1000000 in
theorem fIfFirst (w : World) (b : Nat) (r n s e : Int) (v : Value) (x : Pk) (xs : List Pk) (h : FBlk w b r n s e v) (hx : PRow w v (x :: xs)) :
    Calls Try.prog 85 #[.pointer (some ⟨b, 0, none⟩), .func (.func 98) #[v] #[]] w fun e' w' => e' = .returned (.tuple #[.agg #[.int .i64 x.f, .int .i64 x.l, .int .i64 x.m], .bool true]) ∧ Only [] w w' := by
  have o0 : Only [] w (w.alloc (.cells #[.int .i64 0, .int .i64 0, .int .i64 0] 58)) := (Only.refl [] w).alloc _
  have bz := PBox.new w ⟨0, 0, 0⟩
  have hf := fFirst _ v x xs (hx.only o0 (by simp))
  obtain ⟨A, cap, rfl⟩ := hx.form
  have hl := fLen _ b r n s e A _ cap (h.only0 o0)
  obtain ⟨p1, p2, p3, p4⟩ := pos_len xs.length
  simp only [List.length_cons] at hf hl ⊢
  clear h hx
  go_enter Try.func85, Try.ntmps85
  go_wp2_with fail
  refine hl.mono ?_
  rintro e' w1 ⟨rfl, rfl⟩
  clear hl
  go_wp2_with fail
  refine hf.mono ?_
  rintro e' w2 ⟨rfl, o2⟩
  have b2 := bz.only o2 (by simp)
  obtain ⟨z0, z1, z2⟩ := b2.c
  have f0 := b2.fr 0
  have f1 := b2.fr 1
  have f2 := b2.fr 2
  have O := Lib.hid (o0.trans' o2)
  clear hf o0 bz b2 o2
  go_wp2_with fail
  refine bodyPost_ret (v := .tuple #[.agg #[.int .i64 x.f, .int .i64 x.l, .int .i64 x.m], .bool true]) ?_ rfl ?_
  · rw [results_cell_tmp rfl]; go_simp
  · exact ⟨rfl, ((O.out.setCell (.inr (Nat.le_refl _)) _).setCell (.inr (Nat.le_refl _)) _).setCell (.inr (Nat.le_refl _)) _⟩
set_option maxHeartbeats 1000000 in
theorem fIfTake (w : World) (b : Nat) (r n s e : Int) (v : Value) (x : Pk) (xs : List Pk) (h : FBlk w b r n s e v) (hx : PRow w v (x :: xs)) (hxl : xs.length ≤ 1000) :
    Calls Try.prog 85 #[.pointer (some ⟨b, 0, none⟩), .func (.func 86) #[.pointer (some ⟨b, 4, none⟩)] #[]] w fun e' w' => e' = .returned (.tuple #[.agg #[.int .i64 x.f, .int .i64 x.l, .int .i64 x.m], .bool true]) ∧ Turn w b r n s e v xs w' := by
  have o0 : Only [] w (w.alloc (.cells #[.int .i64 0, .int .i64 0, .int .i64 0] 58)) := (Only.refl [] w).alloc _
  have bz := PBox.new w ⟨0, 0, 0⟩
  have hb := h.lt
  have hvl : ∀ g, v.ownBlock = some g → g < w.heap.size := fun g hg => hx.lt hg
  have hs0 : (w.alloc (.cells #[.int .i64 0, .int .i64 0, .int .i64 0] 58)).heap.size = w.heap.size + 1 := by simp
  have hf := fTake _ b r n s e v x xs (h.only0 o0) (hx.only o0 (by simp)) hxl
  obtain ⟨A, cap, rfl⟩ := hx.form
  have hl := fLen _ b r n s e A _ cap (h.only0 o0)
  obtain ⟨p1, p2, p3, p4⟩ := pos_len xs.length
  simp only [List.length_cons] at hf hl hvl ⊢
  clear h hx
  go_enter Try.func85, Try.ntmps85
  go_wp2_with fail
  refine hl.mono ?_
  rintro e' w1 ⟨rfl, rfl⟩
  clear hl
  go_wp2_with fail
  refine hf.mono ?_
  rintro e' w2 ⟨rfl, ht⟩
  have b2 : PBox w2 w.heap.size ⟨0, 0, 0⟩ := by
    obtain ⟨_, _, _, o2, _⟩ := ht
    refine bz.only o2 (fun hk => ?_)
    rcases List.mem_cons.1 hk with e | hk
    · omega
    · have := hvl _ (Option.mem_toList.1 hk); omega
  obtain ⟨z0, z1, z2⟩ := b2.c
  have f0 := b2.fr 0
  have f1 := b2.fr 1
  have f2 := b2.fr 2
  have T := Lib.hid (And.intro ht o0)
  clear hf o0 bz b2 ht
  go_wp2_with fail
  refine bodyPost_ret (v := .tuple #[.agg #[.int .i64 x.f, .int .i64 x.l, .int .i64 x.m], .bool true]) ?_ rfl ?_
  · rw [results_cell_tmp rfl]; go_simp
  · refine ⟨rfl, T.out.1.box T.out.2 (S := [w.heap.size]) (by simp) hb hvl ?_⟩
    exact (((Only.refl _ _).setCell (by simp) _).setCell (by simp) _).setCell (by simp) _
set_option maxHeartbeats 1000000 in
theorem fIfBegin (w : World) (b : Nat) (r n s e : Int) (A : Option Addr) (m cap : Nat) (h : FBlk w b r n s e (.slice A m cap)) :
    Calls Try.prog 66 #[.pointer (some ⟨b, 0, none⟩), .func (.func 67) #[.pointer (some ⟨b, 0, none⟩)] #[]] w fun e' w' => e' = .returned (.tuple #[.int .u64 (if m = 0 then 0 else s), .bool (decide (0 < m))]) ∧ w' = w := by
  have hl := fLen _ b r n s e A _ cap h
  have hf := fBegin _ b r n s e _ h
  clear h
  rcases m with _ | m
  · go_enter Try.func66, Try.ntmps66
    go_wp2_with fail
    refine hl.mono ?_
    rintro e' w ⟨rfl, rfl⟩
    clear hl
    go_wp2_with fail
    go_ret2
    exact ⟨rfl, rfl⟩
  · obtain ⟨p1, p2, p3, p4⟩ := pos_len m
    go_enter Try.func66, Try.ntmps66
    go_wp2_with fail
    refine hl.mono ?_
    rintro e' w ⟨rfl, rfl⟩
    clear hl
    go_wp2_with fail
    refine hf.mono ?_
    rintro e' w ⟨rfl, rfl⟩
    clear hf
    go_wp2_with fail
    go_ret2
    exact ⟨by simp, rfl⟩
theorem fStart (w : World) (b : Nat) (r n s e : Int) (A : Option Addr) (m cap : Nat) (h : FBlk w b r n s e (.slice A m cap)) :
    Calls Try.prog 48 #[.pointer (some ⟨b, 0, none⟩)] w fun e' w' => e' = .returned (.tuple #[.int .u64 (if m = 0 then 0 else s), .bool (decide (0 < m))]) ∧ w' = w := by
  have hmf := makes
  have hl := fIfBegin _ b r n s e A _ cap h
  clear h
  go_enter Try.func48, Try.ntmps48
  go_wp2_with fail
  refine hl.mono ?_
  rintro e' w ⟨rfl, rfl⟩
  clear hl
  go_wp2_with fail
  all_goals
    go_ret2
    exact ⟨rfl, rfl⟩
end Go.Proofs.Ytklolepmmabijaa

namespace Go.Proofs.Ytklolepmmabijaa
set_option maxRecDepth 100000
open Go.RowKit
set_option linter.unusedVariables false
set_option linter.unusedSimpArgs false
set_option maxRecDepth 100000

theorem i64_to {a : Int} (h : i64ok a) : -9223372036854775808 ≤ a ∧ a ≤ 9223372036854775807 := by
  simp [i64ok, Lit.wf, IntKind.min, IntKind.max, IntKind.signed, IntKind.bits] at h
  omega
theorem cost_word (s r : Int) (hr : U64 r) : U64 (costM s r) := mul_word (size_nn s) hr.1
theorem fin_word {s : Int} (hs : U64 s) (c r : Int) (hr : U64 r) : U64 (addM s (costM c r)) := add_word hs.1 (cost_word c r hr).1

section
variable {w w2 : World} {b : Nat} {r n s e : Int} {v : Value} {zs : List Pk}
theorem Turn.set3 (h : Turn w b r n s e v zs w2) (u : Int) : Turn w b r n s u v zs (w2.setCell ⟨b, 3, none⟩ (.int .u64 u)) := by
  obtain ⟨v', h1, h2, h3, h4⟩ := h
  exact ⟨v', h1.set3 u, h2.only ((Only.refl [b] w2).setCell (by simp) _) (fun g hg => by simpa using h1.ne h2 g hg), h3.setCell (by simp) _, h4⟩
theorem Turn.set2 (h : Turn w b r n s e v zs w2) (u : Int) : Turn w b r n u e v zs (w2.setCell ⟨b, 2, none⟩ (.int .u64 u)) := by
  obtain ⟨v', h1, h2, h3, h4⟩ := h
  exact ⟨v', h1.set2 u, h2.only ((Only.refl [b] w2).setCell (by simp) _) (fun g hg => by simpa using h1.ne h2 g hg), h3.setCell (by simp) _, h4⟩
theorem Turn.from {W : World} (o : Only (b :: v.ownBlock.toList) w W) (h : Turn W b r n s e v zs w2) : Turn w b r n s e v zs w2 := by
  obtain ⟨v', h1, h2, h3, h4⟩ := h
  exact ⟨v', h1, h2, o.trans' h3, h4.imp id fun ⟨g, e, hg⟩ => ⟨g, e, Nat.le_trans o.size hg⟩⟩
/-- The flow's own slice, as it stands. -/
theorem Turn.blk (h : Turn w b r n s e v zs w2) : ∃ A cap, FBlk w2 b r n s e (.slice A zs.length cap) := by
  obtain ⟨v', h1, h2, h3, h4⟩ := h
  obtain ⟨A, cap, rfl⟩ := h2.form
  exact ⟨A, cap, h1⟩
theorem Turn.keep (h : Turn w b r n s e v zs w2) {k : Nat} {x : Pk} (hx : PBox w k x) (hk : k ≠ b) (hv : v.ownBlock ≠ some k) : PBox w2 k x := by
  obtain ⟨v', h1, h2, h3, h4⟩ := h
  refine hx.only h3 (fun hm => ?_)
  rcases List.mem_cons.1 hm with e | hm
  · exact hk e
  · exact hv (Option.mem_toList.1 hm)
end
set_option maxHeartbeats 1000000 in
theorem fServe0 (w : World) (b : Nat) (r n s e : Int) (A : Option Addr) (cap : Nat) (h : FBlk w b r n s e (.slice A 0 cap)) :
    Calls Try.prog 65 #[.pointer (some ⟨b, 0, none⟩)] w fun e' w' => e' = .returned (.tuple #[.agg #[.int .i64 0, .int .i64 0, .int .i64 0], .int .u64 0, .bool false]) ∧ Only [] w w' := by
  have hmf := makes
  have o0 : Only [] w (w.alloc (.cells #[.int .i64 0, .int .i64 0, .int .i64 0] 58)) := (Only.refl [] w).alloc _
  have bz := PBox.new w ⟨0, 0, 0⟩
  have hi := fIfNone _ b r n s e A cap (h.only0 o0)
  clear h
  go_enter Try.func65, Try.ntmps65
  go_wp2_with fail
  refine (hi _).mono ?_
  rintro e' w2 ⟨rfl, o2⟩
  have b2 := (bz.only o2 (by simp)).only (w' := w2.alloc (.cells #[.int .i64 0, .int .i64 0, .int .i64 0] 58)) ((Only.refl [] w2).alloc _) (by simp)
  have b1 := bz.only o2 (by simp)
  obtain ⟨z0, z1, z2⟩ := b1.c
  have f0 := b1.fr 0
  have f1 := b1.fr 1
  have f2 := b1.fr 2
  have O := Lib.hid (o0.trans' o2)
  have hsz : w.heap.size < w2.heap.size := b1.lt
  clear hi o0 bz b2 b1 o2
  go_wp2_with fail
  refine bodyPost_ret (v := .tuple #[.agg #[.int .i64 0, .int .i64 0, .int .i64 0], .int .u64 0, .bool false]) ?_ rfl ?_
  · rw [results_cell_tmp2 rfl]; go_simp
  · refine ⟨rfl, ?_⟩
    first
      | exact (((O.out.alloc _).setCell (.inr (Nat.le_refl _)) _).setCell (.inr (Nat.le_refl _)) _).setCell (.inr (Nat.le_refl _)) _
      | exact (((O.out.setCell (.inr (Nat.le_refl _)) _).setCell (.inr (Nat.le_refl _)) _).setCell (.inr (Nat.le_refl _)) _).alloc _

set_option maxHeartbeats 2000000 in
theorem fServe1 (w : World) (b : Nat) (r n s e : Int) (v : Value) (x : Pk) (xs : List Pk) (h : FBlk w b r n s e v) (hx : PRow w v (x :: xs)) (hxl : xs.length ≤ 1000) (hr : U64 r) (hs : U64 s) (hok : x.ok) (fin : Int) (hfin : addM s (costM x.l r) = fin) :
    Calls Try.prog 65 #[.pointer (some ⟨b, 0, none⟩)] w fun e' w' => e' = .returned (.tuple #[.agg #[.int .i64 x.f, .int .i64 x.l, .int .i64 x.m], .int .u64 fin, .bool true]) ∧ ∃ s', (xs ≠ [] → s' = fin) ∧ U64 s' ∧ Turn w b r n s' fin v xs w' := by
  have hmf := makes
  have o0 : Only [] w (w.alloc (.cells #[.int .i64 0, .int .i64 0, .int .i64 0] 58)) := (Only.refl [] w).alloc _
  have bz := PBox.new w ⟨0, 0, 0⟩
  have hb := h.lt
  have hvl : ∀ g, v.ownBlock = some g → g < w.heap.size := fun g hg => hx.lt hg
  have hi := fIfTake _ b r n s e v x xs (h.only0 o0) (hx.only o0 (by simp)) hxl
  have hc := cost_any x.l r (w := w)
  have hs0 : (w.alloc (.cells #[.int .i64 0, .int .i64 0, .int .i64 0] 58)).heap.size = w.heap.size + 1 := by simp
  clear h hx hc
  go_enter Try.func65, Try.ntmps65
  go_wp2_with fail
  generalize w.alloc (.cells #[.int .i64 0, .int .i64 0, .int .i64 0] 58) = W0 at *
  refine hi.mono ?_
  rintro e' w2 ⟨rfl, ht⟩
  have bz2 := ht.keep bz (by omega) (fun hk => by have := hvl _ hk; omega)
  have hzl : w.heap.size < w2.heap.size := bz2.lt
  have hbl : b < w2.heap.size := by omega
  have o3 : Only [] w2 (w2.alloc (.cells #[.int .i64 x.f, .int .i64 x.l, .int .i64 x.m] 58)) := (Only.refl [] w2).alloc _
  have ht3 := ht.behind o3
  have bx3 := PBox.new w2 x
  have bz3 := bz2.only o3 (by simp)
  clear ht bz2 o3 hi bz
  go_wp2_with fail
  generalize w2.alloc (.cells #[.int .i64 x.f, .int .i64 x.l, .int .i64 x.m] 58) = W3 at *
  obtain ⟨A, cap, hb3⟩ := ht3.blk
  obtain ⟨c0, _, c2, c3, _⟩ := hb3.c
  have x1 := bx3.c.2.1
  have fr3 := hb3.fr 3
  have hl := fLen _ b r n s fin A xs.length cap ((hb3.set3 fin).only0 (Only.refl [] _).drew)
  have ht4 := (ht3.set3 fin).behind (Only.refl [] _).drew
  have hne1 : ¬ (w.heap.size = b) := by omega
  have hne2 : ¬ (w2.heap.size = b) := by omega
  have bx4 : PBox (W3.setCell ⟨b, 3, none⟩ (.int .u64 fin)).drew w2.heap.size x := bx3.only (((Only.refl [b] W3).setCell (by simp) _).drew) (by simpa using hne2)
  have bz4 : PBox (W3.setCell ⟨b, 3, none⟩ (.int .u64 fin)).drew w.heap.size ⟨0, 0, 0⟩ := bz3.only (((Only.refl [b] W3).setCell (by simp) _).drew) (by simpa using hne1)
  have T4 := Lib.hid (And.intro ht4 (And.intro bx4 (And.intro bz4 o0)))
  have hcst := cost_any x.l r W3.drew (i64_to hok.2.1).1 (i64_to hok.2.1).2 hr.1 hr.2
  have hadd := add_any s (costM x.l r) W3.drew hs.1 (cost_word x.l r hr).1 hs.2 (cost_word x.l r hr).2
  have hfw := fin_word hs x.l r hr
  rw [hfin] at hadd hfw
  have hq4 := ((hb3.set3 fin).only0 (Only.refl [] _).drew).c
  have HS4 := Lib.hid (And.intro hq4.1 (And.intro hq4.2.2.1 bx4.c.2.1))
  clear ht3 bx3 bz3 hb3 ht4 bx4 bz4 o0 hq4
  go_region_held3 (fun w' => w'.cell? ⟨b, 0, none⟩ = some (.int .u64 r) ∧ w'.cell? ⟨b, 2, none⟩ = some (.int .u64 s) ∧ w'.cell? ⟨w2.heap.size, 1, none⟩ = some (.int .i64 x.l))
    (first | (exact HS4.out) | go_keep)
    (first | (go_at_call 88; refine hcst.mono ?_; rintro e' w' ⟨rfl, rfl⟩) | (go_at_call 87; refine hadd.mono ?_; rintro e' w' ⟨rfl, rfl⟩))
  clear hcst hadd
  go_wp2_with fail
  generalize (W3.setCell ⟨b, 3, none⟩ (.int .u64 fin)).drew = W4 at *
  refine hl.mono ?_
  rintro e' w' ⟨rfl, rfl⟩
  obtain ⟨A4, cap4, hb4⟩ := T4.out.1.blk
  obtain ⟨_, _, d2, d3, _⟩ := hb4.c
  have fr2 := hb4.fr 2
  obtain ⟨y0, y1, y2⟩ := T4.out.2.1.c
  obtain ⟨z0, z1, z2⟩ := T4.out.2.2.1.c
  have g0 := T4.out.2.2.1.fr 0
  have g1 := T4.out.2.2.1.fr 1
  have g2 := T4.out.2.2.1.fr 2
  have hne3 : ¬ (w.heap.size = w2.heap.size) := by omega
  clear hl c0 c2 c3 x1 fr3 hb4 hfin
  have hbox : Hid (∀ (s' : Int) (zs : List Pk) (V : World), Turn W0 b r n s' fin v zs V → Turn w b r n s' fin v zs (((V.setCell ⟨w.heap.size, 0, none⟩ (.int .i64 x.f)).setCell ⟨w.heap.size, 1, none⟩ (.int .i64 x.l)).setCell ⟨w.heap.size, 2, none⟩ (.int .i64 x.m)).drew) := fun s' zs V hV =>
    hV.box T4.out.2.2.2 (S := [w.heap.size]) (by simp; omega) hb hvl (((((Only.refl _ _).setCell (by simp) _).setCell (by simp) _).setCell (by simp) _).drew)
  rcases xs with _ | ⟨y, ys⟩
  · go_wp2_with fail
    go_region
    go_wp2_with fail
    refine bodyPost_ret (v := .tuple #[.agg #[.int .i64 x.f, .int .i64 x.l, .int .i64 x.m], .int .u64 fin, .bool true]) ?_ rfl ?_
    · rw [results_cell_tmp2 rfl]; go_simp
    · exact ⟨rfl, s, fun h => absurd rfl h, hs, hbox.out _ _ _ T4.out.1⟩
  · obtain ⟨p1, p2, p3, p4⟩ := pos_len ys.length
    have p5 : (0 : Int) < ((y :: ys).length : Int) := by simp
    have p6 : (0 : Int) < (ys.length : Int) + 1 := by omega
    have ht5 := T4.out.1.set2 fin
    have T5 := Lib.hid ht5
    obtain ⟨A5, cap5, hb5⟩ := ht5.blk
    obtain ⟨_, _, _, e3, _⟩ := hb5.c
    clear ht5 hb5
    go_wp2_with fail
    go_region
    go_wp2_with fail
    refine bodyPost_ret (v := .tuple #[.agg #[.int .i64 x.f, .int .i64 x.l, .int .i64 x.m], .int .u64 fin, .bool true]) ?_ rfl ?_
    · rw [results_cell_tmp2 rfl]; go_simp
    · exact ⟨rfl, fin, fun _ => rfl, hfw, hbox.out _ _ _ T5.out⟩

set_option maxHeartbeats 1000000 in
theorem fArriveFull (w : World) (b : Nat) (r s e : Int) (A : Option Addr) (m cap : Nat) (h : FBlk w b r (m : Int) s e (.slice A m cap)) (vt : Int) (x : Pk) :
    Calls Try.prog 63 #[.pointer (some ⟨b, 0, none⟩), .int .u64 vt, .agg #[.int .i64 x.f, .int .i64 x.l, .int .i64 x.m]] w fun e' w' => e' = .returned (.bool false) ∧ Only [] w w' := by
  have o0 : Only [] w (w.alloc (.cells #[.int .i64 x.f, .int .i64 x.l, .int .i64 x.m] 58)) := (Only.refl [] w).alloc _
  have hl := fun q => fLen _ b r m s e A m cap (h.only0 (o0.drewN q))
  go_enter Try.func63, Try.ntmps63
  go_wp2_with fail
  generalize w.alloc (.cells #[.int .i64 x.f, .int .i64 x.l, .int .i64 x.m] 58) = W at *
  obtain ⟨_, c1, _, _, _⟩ := (h.only0 o0).c
  clear h
  go_quiet (first | (go_at_call 61; exact Calls.quiet_of_same (hl _)))
  go_wp2_with fail
  go_ret
  exact ⟨rfl, o0.drewN _⟩

set_option maxHeartbeats 2000000 in
theorem fArrive (w : World) (b : Nat) (r n s e : Int) (v : Value) (xs : List Pk) (h : FBlk w b r n s e v) (hx : PRow w v xs) (hxl : xs.length ≤ 1000) (hn : (xs.length : Int) ≠ n) (vt : Int) (x : Pk) (s' : Int) (hs' : s' = if xs = [] then max vt e else s) :
    Calls Try.prog 63 #[.pointer (some ⟨b, 0, none⟩), .int .u64 vt, .agg #[.int .i64 x.f, .int .i64 x.l, .int .i64 x.m]] w fun e' w' => e' = .returned (.bool true) ∧ Turn w b r n s' e v (xs ++ [x]) w' := by
  have o0 : Only [] w (w.alloc (.cells #[.int .i64 x.f, .int .i64 x.l, .int .i64 x.m] 58)) := (Only.refl [] w).alloc _
  have bx := PBox.new w x
  have hb := h.lt
  have hvl : ∀ g, v.ownBlock = some g → g < w.heap.size := fun g hg => hx.lt hg
  obtain ⟨A, cap, rfl⟩ := hx.form
  have hn1 : ((xs.length : Int) == n) = false := by simpa using hn
  have hl := fun W' (q : Only [] w W') => fLen _ b r n s e A xs.length cap (h.only0 q)
  go_enter Try.func63, Try.ntmps63
  go_wp2_with fail
  generalize w.alloc (.cells #[.int .i64 x.f, .int .i64 x.l, .int .i64 x.m] 58) = W at *
  obtain ⟨_, c1, _, _, _⟩ := (h.only0 o0).c
  have H := Lib.hid (And.intro h hx)
  have HL := Lib.hid hl
  clear h hx hl
  go_quiet (first | (go_at_call 61; exact Calls.quiet_of_same (HL.out _ (o0.drewN _))))
  have o1 : Only [] w (W.drewN nq) := o0.drewN nq
  have bx1 : PBox (W.drewN nq) w.heap.size x := bx
  generalize W.drewN nq = W1 at *
  clear c1 bx o0
  go_wp2_with fail
  refine (HL.out _ o1).mono ?_
  rintro e' W1 ⟨rfl, rfl⟩
  have hne1 : ¬ (w.heap.size = b) := by omega
  have hne2 : ¬ (b = w.heap.size) := by omega
  rcases xs with _ | ⟨y, ys⟩
  · rw [if_pos rfl] at hs'
    have m1 : max vt e = s' := hs'.symm
    have m2 : (if vt < e then e else vt) = s' := by rw [hs']; split <;> omega
    have m3 : (if e < vt then vt else e) = s' := by rw [hs']; split <;> omega
    have hW := H.out.1.only0 o1
    obtain ⟨_, _, c2, c3, _⟩ := hW.c
    have fr2 := hW.fr 2
    have o2 : Hid (Only (b :: (Value.slice A ([] : List Pk).length cap).ownBlock.toList) w (W1.setCell ⟨b, 2, none⟩ (.int .u64 s'))) := (o1.mono (T := b :: (Value.slice A ([] : List Pk).length cap).ownBlock.toList) (by simp)).setCell (by simp) _
    have hb2 := hW.set2 s'
    have hx2 := (H.out.2.only o1 (by simp)).only (w' := W1.setCell ⟨b, 2, none⟩ (.int .u64 s')) ((Only.refl [b] W1).setCell (by simp) _) (fun g hg => by simpa using hW.ne (H.out.2.only o1 (by simp)) g hg)
    have bx2 := bx1.only (w' := W1.setCell ⟨b, 2, none⟩ (.int .u64 s')) ((Only.refl [b] W1).setCell (by simp) _) (by simpa using hne1)
    have H2 := Lib.hid (And.intro hb2 hx2)
    clear hs' hW hb2 hx2 o1 bx1
    go_wp2_with fail
    generalize W1.setCell ⟨b, 2, none⟩ (.int .u64 s') = W2 at *
    obtain ⟨x0, x1, x2⟩ := bx2.c
    have hadd := fAdd W2.drew b r n s' e _ [] (H2.out.1.only0 (Only.refl [] W2).drew) (H2.out.2.only (Only.refl [] W2).drew (by simp)) x (by simp)
    clear c2 c3 fr2 bx2 m1 m2 m3
    go_still_tail 4, (by kernel_rfl)
    change wpList _ _ _ _ _ W2.drew
    go_wp2_with fail
    refine hadd.mono ?_
    rintro e' w3 ⟨rfl, ht⟩
    have T := Lib.hid (Turn.from o2.out.drew ht)
    clear ht hadd
    go_wp2_with fail
    go_ret
    exact ⟨rfl, T.out⟩
  · rw [if_neg (by simp)] at hs'
    subst hs'
    obtain ⟨p1, p2, p3, p4⟩ := pos_len ys.length
    obtain ⟨x0, x1, x2⟩ := bx1.c
    have o2 : Hid (Only (b :: (Value.slice A (y :: ys).length cap).ownBlock.toList) w W1) := o1.mono (by simp)
    have hadd := fAdd W1.drew b r n s' e _ _ ((H.out.1.only0 o1).only0 (Only.refl [] W1).drew) ((H.out.2.only o1 (by simp)).only (Only.refl [] W1).drew (by simp)) x hxl
    clear bx1 o1
    go_wp2_with fail
    go_still_tail 4, (by kernel_rfl)
    change wpList _ _ _ _ _ W1.drew
    go_wp2_with fail
    refine hadd.mono ?_
    rintro e' w3 ⟨rfl, ht⟩
    have T := Lib.hid (Turn.from o2.out.drew ht)
    clear ht hadd
    go_wp2_with fail
    go_ret
    exact ⟨rfl, T.out⟩
end Go.Proofs.Ytklolepmmabijaa

namespace Go.Proofs.Ytklolepmmabijaa
set_option maxRecDepth 100000
open Go.RowKit
set_option linter.unusedVariables false
set_option linter.unusedSimpArgs false
set_option maxRecDepth 100000

def Pk.none : Pk := ⟨0, 0, 0⟩
def Fl.hd (F : Fl) : Pk := F.l.headD Pk.none
def Fl.any (F : Fl) : Bool := !F.l.isEmpty
def Fl.fin (F : Fl) : Int := addM F.s (costM F.hd.l F.r)
/-- What Start and Serve tell as tags. -/
def Fl.st (F : Fl) : Int := if F.l = [] then 0 else F.s
def Fl.out (F : Fl) : Int := if F.l = [] then 0 else F.fin
def Fl.takes (F : Fl) : Bool := decide (F.l.length ≠ F.n)
def Fl.arr (F : Fl) (v : Int) (x : Pk) : Fl := if F.l.length = F.n then F else ⟨F.r, F.n, if F.l = [] then max v F.e else F.s, F.e, F.l ++ [x]⟩
def Fl.srv (F : Fl) : Fl := if F.l = [] then F else ⟨F.r, F.n, F.fin, F.fin, F.l.tail⟩
theorem Fl.ok.fin {F : Fl} (h : F.ok) : U64 F.fin := fin_word h.s _ _ h.r
theorem Fl.ok.arr {F : Fl} (h : F.ok) {v : Int} (hv : U64 v) {x : Pk} (hx : x.ok) : (F.arr v x).ok := by
  unfold Fl.arr
  split
  · exact h
  · rename_i hne
    have hl := h.len
    refine ⟨h.r, h.n1, h.n8, ?_, h.e, ?_, ?_⟩
    · show U64 (if F.l = [] then max v F.e else F.s)
      split
      · have h1 := h.e
        unfold U64 at *
        omega
      · exact h.s
    · intro y hy
      simp only [List.mem_append, List.mem_singleton] at hy
      rcases hy with hy | rfl
      · exact h.l y hy
      · exact hx
    · show (F.l ++ [x]).length ≤ F.n
      simp
      omega
theorem Fl.ok.srv {F : Fl} (h : F.ok) : F.srv.ok := by
  unfold Fl.srv
  split
  · exact h
  · refine ⟨h.r, h.n1, h.n8, h.fin, h.fin, fun y hy => h.l y (List.mem_of_mem_tail hy), ?_⟩
    show F.l.tail.length ≤ F.n
    have := h.len
    simp
    omega
theorem Pk.none_ok : Pk.none.ok := by unfold Pk.ok i64ok Pk.none; exact ⟨by kernel_rfl, by kernel_rfl, by kernel_rfl⟩
theorem U64.zero : U64 0 := by unfold U64; decide
theorem Fl.ok.hd {F : Fl} (h : F.ok) : F.hd.ok := by
  unfold Fl.hd
  rcases hl : F.l with _ | ⟨x, t⟩
  · exact Pk.none_ok
  · exact h.l x (by rw [hl]; simp)

/-- Block b is a flow that is F as numbers; O: the blocks that it owns. -/
def FlowOf (w : World) (b : Nat) (F : Fl) (O : List Nat) : Prop :=
  F.ok ∧ ∃ s v, FBlk w b F.r F.n s F.e v ∧ (F.l ≠ [] → s = F.s) ∧ U64 s ∧ PRow w v F.l ∧ O = b :: v.ownBlock.toList
section
variable {w w' : World} {b : Nat} {F : Fl} {O : List Nat}
theorem FlowOf.only {S : List Nat} (h : FlowOf w b F O) (ho : Only S w w') (hS : ∀ k ∈ O, k ∉ S) : FlowOf w' b F O := by
  obtain ⟨hk, s, v, h1, h2, h3, h4, rfl⟩ := h
  exact ⟨hk, s, v, h1.only ho (hS b (by simp)), h2, h3, h4.only ho (fun g hg => hS g (by simp [hg])), rfl⟩
theorem FlowOf.only0 (h : FlowOf w b F O) (ho : Only [] w w') : FlowOf w' b F O := h.only ho (by simp)
theorem FlowOf.lt (h : FlowOf w b F O) : ∀ k ∈ O, k < w.heap.size := by
  obtain ⟨hk, s, v, h1, h2, h3, h4, rfl⟩ := h
  intro k hk
  rcases List.mem_cons.1 hk with rfl | hk
  · exact h1.lt
  · exact h4.lt (Option.mem_toList.1 hk)
theorem FlowOf.mem (h : FlowOf w b F O) : b ∈ O := by
  obtain ⟨hk, s, v, h1, h2, h3, h4, rfl⟩ := h
  simp
theorem FlowOf.of_turn {r n s e : Int} {v : Value} (h : Turn w b r n s e v F.l w') (hk : F.ok) (hr : F.r = r) (hn : (F.n : Int) = n) (he : F.e = e) (hs : F.l ≠ [] → s = F.s) (hu : U64 s) :
    ∃ O', FlowOf w' b F O' ∧ Went w (b :: v.ownBlock.toList) w' O' := by
  obtain ⟨v', h1, h2, h3, h4⟩ := h
  subst hr hn he
  refine ⟨_, ⟨hk, s, v', h1, hs, hu, h2, rfl⟩, h3, fun k hk => ?_⟩
  rcases List.mem_cons.1 hk with rfl | hk
  · exact .inl (by simp)
  · rcases h4 with e | ⟨g, e, hg⟩
    · exact .inl (List.mem_cons_of_mem _ (by rw [← e]; exact hk))
    · rw [e] at hk
      simp at hk
      subst hk
      exact .inr hg
end
/-- What comes of a flow that is turned to F. -/
def FTo (w : World) (b : Nat) (O : List Nat) (F : Fl) (w' : World) : Prop := ∃ O', FlowOf w' b F O' ∧ Went w O w' O'
theorem FTo.still {w w' : World} {b : Nat} {F : Fl} {O : List Nat} (h : FlowOf w b F O) (ho : Only [] w w') : FTo w b O F w' := ⟨O, h.only0 ho, Went.still ho O⟩

section
variable (w : World) (b : Nat) (F : Fl) (O : List Nat) (h : FlowOf w b F O)
include h
theorem flLen : Calls Try.prog 61 #[.pointer (some ⟨b, 0, none⟩)] w fun e w' => e = .returned (.int .i64 (F.l.length : Int)) ∧ w' = w := by
  obtain ⟨hk, s, v, h1, h2, h3, h4, rfl⟩ := h
  obtain ⟨A, cap, rfl⟩ := h4.form
  exact fLen w b _ _ _ _ A _ cap h1
theorem flStart : Calls Try.prog 48 #[.pointer (some ⟨b, 0, none⟩)] w fun e w' => e = .returned (.tuple #[.int .u64 F.st, .bool F.any]) ∧ w' = w := by
  obtain ⟨hk, s, v, h1, h2, h3, h4, rfl⟩ := h
  obtain ⟨A, cap, rfl⟩ := h4.form
  refine (fStart w b _ _ _ _ A _ cap h1).mono ?_
  rintro e w' ⟨rfl, rfl⟩
  refine ⟨?_, rfl⟩
  unfold Fl.st Fl.any
  rcases hl : F.l with _ | ⟨x, t⟩
  · simp
  · simp [h2 (by rw [hl]; simp)]
theorem flServe : Calls Try.prog 65 #[.pointer (some ⟨b, 0, none⟩)] w fun e w' => e = .returned (.tuple #[.agg #[.int .i64 F.hd.f, .int .i64 F.hd.l, .int .i64 F.hd.m], .int .u64 F.out, .bool F.any]) ∧ FTo w b O F.srv w' := by
  obtain ⟨hk, s, v, h1, h2, h3, h4, rfl⟩ := h
  rcases hl : F.l with _ | ⟨x, t⟩
  · have e1 : F.hd = Pk.none := by unfold Fl.hd; rw [hl]; rfl
    have e2 : F.out = 0 := by unfold Fl.out; rw [if_pos hl]
    have e3 : F.any = false := by unfold Fl.any; rw [hl]; rfl
    have e4 : F.srv = F := by unfold Fl.srv; rw [if_pos hl]
    rw [e1, e2, e3, e4]
    have hF : FlowOf w b F (b :: v.ownBlock.toList) := ⟨hk, s, v, h1, h2, h3, h4, rfl⟩
    obtain ⟨A, cap, rfl⟩ := h4.form
    rw [hl] at h1
    refine (fServe0 w b _ _ _ _ A cap h1).mono ?_
    rintro e w' ⟨rfl, ho⟩
    exact ⟨rfl, FTo.still hF ho⟩
  · have hne : F.l ≠ [] := by rw [hl]; simp
    have e1 : F.hd = x := by unfold Fl.hd; rw [hl]; rfl
    have e2 : F.out = F.fin := by unfold Fl.out; rw [if_neg hne]
    have e3 : F.any = true := by unfold Fl.any; rw [hl]; rfl
    have e4 : F.srv = ⟨F.r, F.n, F.fin, F.fin, t⟩ := by unfold Fl.srv; rw [if_neg hne, hl]; rfl
    have hok := hk.srv
    have es := h2 hne
    subst es
    have hlen := hk.len
    have hn8 := hk.n8
    rw [hl] at h4 hlen
    simp only [List.length_cons] at hlen
    refine (fServe1 w b _ _ _ _ v x t h1 h4 (by omega) hk.r h3 (hk.l x (by rw [hl]; simp)) F.fin (by unfold Fl.fin; rw [e1])).mono ?_
    rintro e w' ⟨rfl, s', hs1, hs2, ht⟩
    refine ⟨by rw [e1, e2, e3], ?_⟩
    rw [e4] at hok ⊢
    exact FlowOf.of_turn (F := ⟨F.r, F.n, F.fin, F.fin, t⟩) ht hok rfl rfl rfl hs1 hs2
theorem flArrive (vt : Int) (hvt : U64 vt) (x : Pk) (hx : x.ok) : Calls Try.prog 63 #[.pointer (some ⟨b, 0, none⟩), .int .u64 vt, .agg #[.int .i64 x.f, .int .i64 x.l, .int .i64 x.m]] w fun e w' => e = .returned (.bool F.takes) ∧ FTo w b O (F.arr vt x) w' := by
  have hF := h
  obtain ⟨hk, s, v, h1, h2, h3, h4, rfl⟩ := h
  have hok := hk.arr hvt hx
  have hlen := hk.len
  have hn8 := hk.n8
  by_cases hl : F.l.length = F.n
  · have e1 : F.takes = false := by unfold Fl.takes; simp [hl]
    have e2 : F.arr vt x = F := by unfold Fl.arr; rw [if_pos hl]
    rw [e1, e2]
    obtain ⟨A, cap, rfl⟩ := h4.form
    rw [← hl] at h1
    refine (fArriveFull w b _ _ _ A _ cap h1 vt x).mono ?_
    rintro e w' ⟨rfl, ho⟩
    exact ⟨rfl, FTo.still hF ho⟩
  · have e1 : F.takes = true := by unfold Fl.takes; simp [hl]
    have e2 : F.arr vt x = ⟨F.r, F.n, if F.l = [] then max vt F.e else F.s, F.e, F.l ++ [x]⟩ := by unfold Fl.arr; rw [if_neg hl]
    rw [e1]
    rw [e2] at hok ⊢
    have es : (if F.l = [] then max vt F.e else F.s) = if F.l = [] then max vt F.e else s := by
      split
      · rfl
      · rename_i hne; exact (h2 hne).symm
    refine (fArrive w b _ _ _ _ v F.l h1 h4 (by omega) (by omega) vt x _ es).mono ?_
    rintro e w' ⟨rfl, ht⟩
    exact ⟨rfl, FlowOf.of_turn (F := ⟨F.r, F.n, if F.l = [] then max vt F.e else F.s, F.e, F.l ++ [x]⟩) ht hok rfl rfl rfl (fun _ => rfl) hok.s⟩
end
/-- How many it holds. -/
def room (most : Int) : Nat := (min (max most 1) 8).toNat
theorem room_is (most : Int) : min (max most 1) 8 = (room most : Int) := by unfold room; omega
theorem room_le (most : Int) : 1 ≤ room most ∧ room most ≤ 8 := by unfold room; omega
def Fl.new (r : Int) (n : Nat) : Fl := ⟨r, n, 0, 0, []⟩
theorem Fl.new_ok {r : Int} (hr : U64 r) (most : Int) : (Fl.new r (room most)).ok :=
  ⟨hr, (room_le most).1, (room_le most).2, U64.zero, U64.zero, by simp [Fl.new], by simp [Fl.new]⟩
set_option maxHeartbeats 1000000 in
theorem flNew (w : World) (r most : Int) (hr : U64 r) :
    Calls Try.prog 60 #[.int .u64 r, .int .i64 most] w fun e w' => e = .returned (.pointer (some ⟨w.heap.size, 0, none⟩)) ∧ FlowOf w' w.heap.size (Fl.new r (room most)) [w.heap.size] ∧ Only [] w w' := by
  have hm := room_is most
  have hok := Fl.new_ok hr most
  generalize hn : room most = n at *
  have m1 : (if (8 : Int) < max most 1 then 8 else max most 1) = (n : Int) := by rw [← hm]; split <;> omega
  have m2 : (if (8 : Int) < (if most < 1 then 1 else most) then 8 else (if most < 1 then 1 else most)) = (n : Int) := by rw [← hm]; split <;> split <;> omega
  clear hn
  go_enter Try.func60, Try.ntmps60
  go_wp2_with fail
  all_goals
    go_ret
    exact ⟨rfl, ⟨hok, 0, .slice none 0 0, heap_alloc_new w _, fun h => absurd rfl h, U64.zero, PRow.nil _, rfl⟩, (Only.refl [] w).alloc _⟩
end Go.Proofs.Ytklolepmmabijaa
