/-
  Packets, rows of packets, append onto them, the packet that is removed in front.
-/
import Derived.Test.YtjmnklmomdfpfaaHeapW
import Derived.Deep.RegionLaw
namespace Go.Proofs.Ytjmnklmomdfpfaa
set_option maxRecDepth 100000
open Go.RowKit
set_option linter.unusedVariables false
set_option linter.unusedSimpArgs false

/-- A packet: its flow, its length, its mark. -/
structure Pk where
  f : Int
  l : Int
  m : Int
deriving DecidableEq, Inhabited

def Pk.cs (x : Pk) : List Value := [.int .i64 x.f, .int .i64 x.l, .int .i64 x.m]
def pflat (xs : List Pk) : List Value := xs.flatMap Pk.cs
def Pk.ok (x : Pk) : Prop := i64ok x.f ∧ i64ok x.l ∧ i64ok x.m
def pOf (xs : List Pk) (k : Nat) : Pk := xs.getD k ⟨0, 0, 0⟩
theorem pflat_cons (x : Pk) (xs : List Pk) : pflat (x :: xs) = .int .i64 x.f :: .int .i64 x.l :: .int .i64 x.m :: pflat xs := by simp [pflat, Pk.cs]
theorem pflat_append (xs ys : List Pk) : pflat (xs ++ ys) = pflat xs ++ pflat ys := by simp [pflat]
@[simp] theorem pflat_length (xs : List Pk) : (pflat xs).length = xs.length * 3 := by
  induction xs with
  | nil => rfl
  | cons x xs ih => rw [pflat_cons]; simp [ih]; omega
theorem pflat_key : ∀ (xs : List Pk) (k : Nat), k < xs.length → (pflat xs)[k * 3]? = some (.int .i64 (pOf xs k).f) ∧ (pflat xs)[k * 3 + 1]? = some (.int .i64 (pOf xs k).l) ∧ (pflat xs)[k * 3 + 2]? = some (.int .i64 (pOf xs k).m)
  | [], k, h => by simp at h
  | x :: xs, 0, _ => by simp [pflat_cons, pOf]
  | x :: xs, k + 1, h => by
    have := pflat_key xs k (by simpa using h)
    have e1 : (k + 1) * 3 = k * 3 + 3 := by omega
    rw [pflat_cons, e1]
    simpa [pOf] using this
theorem pflat_drop : ∀ (xs : List Pk) (k : Nat), (pflat xs).drop (k * 3) = pflat (xs.drop k)
  | [], k => by simp [pflat]
  | x :: xs, 0 => by simp
  | x :: xs, k + 1 => by
    have e1 : (k + 1) * 3 = k * 3 + 3 := by omega
    rw [e1, List.drop_succ_cons, pflat_cons, ← pflat_drop xs k]
    simp
theorem pflat_one (xs : List Pk) : ∀ u ∈ pflat xs, u.oneCell' = true := by
  intro u hu
  simp only [pflat, List.mem_flatMap] at hu
  obtain ⟨x, _, hx⟩ := hu
  simp only [Pk.cs, List.mem_cons, List.not_mem_nil, or_false] at hx
  rcases hx with rfl | rfl | rfl <;> rfl

/-- A slice of packets: nil, or at the head of a block that holds nothing else. -/
def PRow (w : World) (v : Value) (xs : List Pk) : Prop := w.ownsRow 0 34 3 v xs.length (pflat xs)

theorem PRow.form {w : World} {v : Value} {xs : List Pk} (h : PRow w v xs) : ∃ A cap, v = .slice A xs.length cap := by
  rcases h.2 with ⟨rfl, e⟩ | ⟨g, cap, cur, rfl, _⟩
  · exact ⟨none, 0, by rw [e]⟩
  · exact ⟨_, _, rfl⟩
theorem PRow.nil (w : World) : PRow w (.slice none 0 0) [] := ⟨by simp [pflat], .inl ⟨rfl, rfl⟩⟩
/-- With a packet: where it lies. -/
theorem PRow.at_ {w : World} {v : Value} {xs : List Pk} (h : PRow w v xs) (h0 : 0 < xs.length) : ∃ g cap, v = .slice (some ⟨g, 0, none⟩) xs.length cap ∧ xs.length ≤ cap ∧ cap ≤ maxLen ∧ g < w.heap.size ∧
    (∃ cur, w.heap[g]? = some (.cells cur 34 (0, 0)) ∧ cur.size = cap * 3 ∧ cur.toList.take (xs.length * 3) = pflat xs) ∧
    ∀ k, k < xs.length → w.cell? ⟨g, k * 3, none⟩ = some (.int .i64 (pOf xs k).f) ∧ w.cell? ⟨g, k * 3 + 1, none⟩ = some (.int .i64 (pOf xs k).l) ∧ w.cell? ⟨g, k * 3 + 2, none⟩ = some (.int .i64 (pOf xs k).m) := by
  rcases h.2 with ⟨rfl, e⟩ | ⟨g, cap, cur, rfl, _, hg, hn, hcap, hsz, hcur⟩
  · omega
  · refine ⟨g, cap, rfl, hn, hcap, (Array.getElem?_eq_some_iff.1 hg).1, ⟨cur, hg, hsz, hcur⟩, fun k hk => ?_⟩
    have hk' := pflat_key xs k hk
    have cellOf : ∀ j u, j < xs.length * 3 → (pflat xs)[j]? = some u → w.cell? ⟨g, j, none⟩ = some u := fun j u hj hu => by
      rw [cell_of_row w g j cur _ (0, 0) hg]
      rw [← hcur, List.getElem?_take, if_pos hj] at hu
      simpa using hu
    exact ⟨cellOf _ _ (by omega) hk'.1, cellOf _ _ (by omega) hk'.2.1, cellOf _ _ (by omega) hk'.2.2⟩
theorem PRow.keep {w w' : World} {v : Value} {xs : List Pk} (h : PRow w v xs) (hk : ∀ g, v.ownBlock = some g → w'.heap[g]? = w.heap[g]?) : PRow w' v xs := by
  refine ⟨h.1, ?_⟩
  rcases h.2 with h2 | ⟨g, cap, cur, rfl, h0, hg, r⟩
  · exact .inl h2
  · exact .inr ⟨g, cap, cur, rfl, h0, (hk g rfl).trans hg, r⟩
theorem PRow.lt {w : World} {v : Value} {xs : List Pk} (h : PRow w v xs) {g : Nat} (hg : v.ownBlock = some g) : g < w.heap.size := by
  rcases h.2 with ⟨rfl, _⟩ | ⟨g', cap, cur, rfl, h0, hb, r⟩
  · cases hg
  · have : g' = g := by simpa [Value.ownBlock] using hg
    subst this
    exact (Array.getElem?_eq_some_iff.1 hb).1
theorem PRow.only {w w' : World} {v : Value} {xs : List Pk} {S : List Nat} (h : PRow w v xs) (ho : Only S w w') (hS : ∀ g, v.ownBlock = some g → g ∉ S) : PRow w' v xs :=
  h.keep fun g hg => ho.block g (h.lt hg) (hS g hg)

/-! ### append -/
theorem pk_info : (Try.prog.info? 34).map (fun i => (i.zero, i.size, i.bytes)) = some (some (.agg #[.int .i64 0, .int .i64 0, .int .i64 0]), 3, 24) := by kernel_rfl
/-- Where there is something to be read, A leads to it. -/
def PSrc (w : World) (A : Option Addr) (ys : List Pk) : Prop := ys ≠ [] → ∃ ad, A = some ad ∧ ∀ j u, (pflat ys)[j]? = some u → w.cell? (ad.add j) = some u
theorem PSrc.nil (w : World) (A : Option Addr) : PSrc w A [] := fun h => absurd rfl h
theorem addr_add0 (g j : Nat) : (⟨g, 0, none⟩ : Addr).add j = ⟨g, j, none⟩ := by
  unfold Addr.add
  split
  · rename_i h0; subst h0; rfl
  · simp
theorem addr_addn (g o j : Nat) : (⟨g, o, none⟩ : Addr).add j = ⟨g, o + j, none⟩ := by
  unfold Addr.add
  split
  · rename_i h0; subst h0; rfl
  · simp
/-- A slice from its k-th on. -/
theorem PSrc.drop {w : World} {g n cap : Nat} {xs : List Pk} (h : PRow w (.slice (some ⟨g, 0, none⟩) n cap) xs) (k : Nat) : PSrc w (some ⟨g, k * 3, none⟩) (xs.drop k) := fun hne => by
  have h0 : 0 < xs.length := by
    rcases xs with _ | ⟨x, xs⟩
    · simp at hne
    · simp
  obtain ⟨g', c, e, _, _, _, ⟨cur, hg, hsz, hcur⟩, _⟩ := h.at_ h0
  injection e with e1 e2 e3
  injection e1 with e1
  injection e1 with e1
  subst e1
  refine ⟨_, rfl, fun j u hu => ?_⟩
  rw [← pflat_drop, List.getElem?_drop] at hu
  have hj : k * 3 + j < xs.length * 3 := by
    have := (List.getElem?_eq_some_iff.1 hu).1
    simpa using this
  rw [addr_addn, cell_of_row w g _ cur _ (0, 0) hg]
  rw [← hcur, List.getElem?_take, if_pos hj] at hu
  simpa using hu
theorem PSrc.of_row {w : World} {A : Option Addr} {n cap : Nat} {xs : List Pk} (h : PRow w (.slice A n cap) xs) : PSrc w A xs := fun hne => by
  obtain ⟨g, c, e, _⟩ := h.at_ (List.length_pos_iff.2 hne)
  injection e with e1 e2 e3
  subst e1
  obtain ⟨ad, e9, r⟩ := PSrc.drop h 0 (by simpa using hne)
  simp only [Nat.zero_mul, List.drop_zero] at e9 r
  exact ⟨ad, e9, r⟩
theorem PSrc.keep {w w' : World} {A : Option Addr} {ys : List Pk} (h : PSrc w A ys) (hk : ∀ ad j, A = some ad → (w.cell? (ad.add j)).isSome = true → w'.cell? (ad.add j) = w.cell? (ad.add j)) : PSrc w' A ys := fun hne => by
  obtain ⟨ad, e, hc⟩ := h hne
  exact ⟨ad, e, fun j u hu => (hk ad j e (by rw [hc j u hu]; rfl)).trans (hc j u hu)⟩

section
variable {T : TypeId} (hT : Try.prog.underlying T = some (.slice 34))
include hT
theorem run_append_pk (w : World) (ty : TypeId) (v : Value) (xs : List Pk) (h : PRow w v xs) (A : Option Addr) (m c : Nat) (ys : List Pk) (hm : ys.length = m) (hs : PSrc w A ys) (hb : xs.length + m ≤ 2000000) :
    ∃ v' w', (Builtin.append_ #[T, T] ty #[v, .slice A m c]).run Try.prog w = .ok v' w' ∧ PRow w' v' (xs ++ ys) ∧ w.grownBy w' v.ownBlock ∧ (v'.ownBlock = v.ownBlock ∨ v'.ownBlock = some w.heap.size) := by
  obtain ⟨i0, hi0, hz0, hz1, hz2⟩ := info_parts pk_info
  cases A with
  | none =>
    have hy : ys = [] := by
      cases ys with
      | nil => rfl
      | cons y ys => obtain ⟨ad, e, _⟩ := hs (by simp); cases e
    subst hy
    have hm0 : m = 0 := by simpa using hm.symm
    subst hm0
    refine ⟨v, w, ?_, by simpa using h, World.grownBy.refl w _, .inl rfl⟩
    rcases h.2 with ⟨rfl, e⟩ | ⟨g, cap, cur, rfl, _, _, hnc, _⟩
    · simp [Builtin.append_, run_underlying hT, sizeOf, typeInfo, hi0, Builtin.lenOf, Builtin.firstCells]
    · simp [Builtin.append_, run_underlying hT, sizeOf, typeInfo, hi0, Builtin.lenOf, Builtin.firstCells, hnc, storeCells]
  | some ad =>
    have hcells : ∀ j u, (pflat ys)[j]? = some u → w.cell? (ad.add j) = some u := fun j u hu => by
      obtain ⟨ad', e, hc⟩ := hs (by rintro rfl; simp [pflat] at hu)
      injection e with e
      subst e
      exact hc j u hu
    obtain ⟨v', w', r1, r2, r3, _, r5⟩ := run_append_own_at (P := Try.prog) w 0 T ty 34 i0 _ 3 24 hT hi0 hz0 hz1 hz2 rfl (by decide) v xs.length (pflat xs) h ad m c (pflat ys)
      (by rw [pflat_length, hm]) hcells (pflat_one ys) (by unfold maxLen; omega) (by omega) (Nat.zero_le _)
    refine ⟨v', w', r1, ?_, r3, r5⟩
    unfold PRow
    rw [pflat_append, List.length_append, hm]
    exact r2

variable {w : World} {ops : Array Oper} {o : Oper} {a : Act} {K : Act → World → Prop} {Q : Exit → Act → World → Prop}
theorem wp_append_pk (s x : Operand) (ho : o.op = .call { callee := .builtin .append, args := #[s, x], argTypes := #[T, T] })
    (v : Value) (xs : List Pk) (hs : a.eval s = v) (h : PRow w v xs) (A : Option Addr) (m c : Nat) (ys : List Pk) (hx : a.eval x = .slice A m c) (hm : ys.length = m) (hr : PSrc w A ys) (N : Nat) (hN : xs.length + m = N) (hb : N ≤ 2000000)
    (hK : ∀ A' cap' w', PRow w' (.slice A' N cap') (xs ++ ys) → w.grownBy w' v.ownBlock → ((Value.slice A' N cap').ownBlock = v.ownBlock ∨ (Value.slice A' N cap').ownBlock = some w.heap.size) → K (a.put o.dst (.slice A' N cap')) w') : o.wp Try.prog a w K Q := by
  subst hN
  obtain ⟨v', w', r1, r2, r3, r4⟩ := run_append_pk hT w o.type v xs h A m c ys hm hr hb
  unfold Oper.wp execOp
  simp only [ho, resolve, invoke, builtin, Sem.run_bind, Sem.run_pure, Result.andThen_ok, List.map_toArray, List.map_cons, List.map_nil, hs, hx, r1]
  obtain ⟨A', cap', rfl⟩ := r2.form
  rw [List.length_append, hm] at r2 r4 ⊢
  exact hK A' cap' w' r2 r3 r4
theorem wpList_append_pk {rest : List Oper} (hgd : o.guard = none) (s x : Operand) (ho : o.op = .call { callee := .builtin .append, args := #[s, x], argTypes := #[T, T] })
    (v : Value) (xs : List Pk) (hs : a.eval s = v) (h : PRow w v xs) (A : Option Addr) (m c : Nat) (ys : List Pk) (hx : a.eval x = .slice A m c) (hm : ys.length = m) (hr : PSrc w A ys) (N : Nat) (hN : xs.length + m = N) (hb : N ≤ 2000000)
    (hK : ∀ A' cap' w', PRow w' (.slice A' N cap') (xs ++ ys) → w.grownBy w' v.ownBlock → ((Value.slice A' N cap').ownBlock = v.ownBlock ∨ (Value.slice A' N cap').ownBlock = some w.heap.size) → wpList Try.prog ops Q rest (a.put o.dst (.slice A' N cap')) w') :
    wpList Try.prog ops Q (o :: rest) a w :=
  wpList_plain hgd fun _ hK' => wp_append_pk hT s x ho v xs hs h A m c ys hx hm hr N hN hb fun A' cap' w' h2 h3 h4 => hK' _ _ (hK A' cap' w' h2 h3 h4)
theorem step_append_pk {E : Prop} (hgd : o.guard = none) (s x : Operand) (ho : o.op = .call { callee := .builtin .append, args := #[s, x], argTypes := #[T, T] })
    (v : Value) (xs : List Pk) (hs : a.eval s = v) (h : PRow w v xs) (A : Option Addr) (m c : Nat) (ys : List Pk) (hx : a.eval x = .slice A m c) (hm : ys.length = m) (hr : PSrc w A ys) (N : Nat) (hN : xs.length + m = N) (hb : N ≤ 2000000)
    (hK : ∀ A' cap' w', PRow w' (.slice A' N cap') (xs ++ ys) → w.grownBy w' v.ownBlock → ((Value.slice A' N cap').ownBlock = v.ownBlock ∨ (Value.slice A' N cap').ownBlock = some w.heap.size) → K (a.put o.dst (.slice A' N cap')) w') :
    if Region.wanted o (yielded ops a.tmps) = true then Oper.wp Try.prog o a w K Q else E := by
  have hw : Region.wanted o (yielded ops a.tmps) = true := by simp [Region.wanted, hgd]
  rw [if_pos hw]
  exact wp_append_pk hT s x ho v xs hs h A m c ys hx hm hr N hN hb hK
end

/-- A block that holds one packet. -/
def PBox (w : World) (b : Nat) (x : Pk) : Prop := w.heap[b]? = some (.cells #[.int .i64 x.f, .int .i64 x.l, .int .i64 x.m] 34 (0, 0))
theorem PBox.c {w : World} {b : Nat} {x : Pk} (h : PBox w b x) : w.cell? ⟨b, 0, none⟩ = some (.int .i64 x.f) ∧ w.cell? ⟨b, 1, none⟩ = some (.int .i64 x.l) ∧ w.cell? ⟨b, 2, none⟩ = some (.int .i64 x.m) :=
  ⟨by rw [cell_of_row w b 0 _ _ _ h]; rfl, by rw [cell_of_row w b 1 _ _ _ h]; rfl, by rw [cell_of_row w b 2 _ _ _ h]; rfl⟩
theorem PBox.only {w w' : World} {b : Nat} {x : Pk} {S : List Nat} (h : PBox w b x) (ho : Only S w w') (hS : b ∉ S) : PBox w' b x := ho.get h hS
theorem PBox.new (w : World) (x : Pk) : PBox (w.alloc (.cells #[.int .i64 x.f, .int .i64 x.l, .int .i64 x.m] 34)) w.heap.size x := heap_alloc_new w _
theorem PBox.lt {w : World} {b : Nat} {x : Pk} (h : PBox w b x) : b < w.heap.size := (Array.getElem?_eq_some_iff.1 h).1
theorem PSrc.box {w : World} {b : Nat} {x : Pk} (h : PBox w b x) : PSrc w (some ⟨b, 0, none⟩) [x] :=
  PSrc.of_row (n := 1) (cap := 1) ⟨rfl, .inr ⟨b, 1, _, rfl, Nat.zero_le _, h, Nat.le_refl _, by decide, rfl, by simp [pflat, Pk.cs]⟩⟩
end Go.Proofs.Ytjmnklmomdfpfaa
