/-
  A shard beside the document's and beside the row that All told of it, while it is popped.
-/
import Derived.Test.YtfgffgicfieieaaGreatDoorShardT3
namespace Go.Proofs.YtfgffgicfieieaaGreatDoor
set_option maxRecDepth 100000
open Go.RowKit Go.ChangeMaps Go.MapKept
set_option linter.unusedVariables false
set_option linter.unusedSimpArgs false

theorem item_neq (x y : It) (w : World) : (binOp .neq 41 (.agg #[.int .u64 x.k, .int .i64 x.i]) (.agg #[.int .u64 y.k, .int .i64 y.i])).run Tryz.prog w = .ok (.bool (!decide (x = y))) w := by
  have u1 := Tryz.underlying3
  have a1 := Tryz.isAgg3
  have z1 := Tryz.sizeOf3
  have u2 := Tryz.underlying29
  have a2 := Tryz.isAgg29
  have z2 := Tryz.sizeOf29
  rw [run_neq_struct, show (10000 : Nat) = 9999 + 1 from rfl, run_equalIn_agg w 9999 41 _ _ item_struct item_held]
  simp only [Program.fieldsOf, Tryz.underlying41]
  go_simp
  obtain ⟨k, i⟩ := x
  obtain ⟨k', i'⟩ := y
  by_cases h1 : k = k' <;> by_cases h2 : i = i' <;> simp [h1, h2]

/-- A shard made within the walk that began in w, which holds l; the document's, which holds L; a row that tells L. -/
structure Drain (w wr : World) (sb : Nat) (S : List Nat) (xb : Nat) (T : List Nat) (wd : Nat) (base b0 : Int) (l L : List It) (v : Value) : Prop where
  ours : ShardOf wr sb S wd base l
  ref : RefOf wr xb T wd b0 L
  row : RowIs wr v L
  newS : ∀ b ∈ S, w.heap.size ≤ b
  newT : ∀ b ∈ T, w.heap.size ≤ b
  only : Only [] w wr
  dis : ∀ b ∈ S, b ∉ T
  off : ∀ k, v.ownBlock = some k → k ∉ S
section
variable {w wr : World} {sb xb wd : Nat} {S T : List Nat} {base b0 : Int} {l L : List It} {v : Value}
theorem Drain.only0 {w2 : World} (h : Drain w wr sb S xb T wd base b0 l L v) (ho : Only [] wr w2) : Drain w w2 sb S xb T wd base b0 l L v :=
  ⟨h.ours.only0 ho, h.ref.only0 ho, h.row.keep (fun g hg => ho.block g (h.row.lt hg) (by simp)), h.newS, h.newT, h.only.trans' ho, h.dis, h.off⟩
theorem Sound.drain {u1 : World} (h : Sound w wr sb S xb T wd base l) (o : Only [] wr u1) (hr : RowIs u1 v l) (hv : ∀ k, v.ownBlock = some k → wr.heap.size ≤ k) : Drain w u1 sb S xb T wd base base l l v :=
  ⟨h.pair.ours.only0 o, h.pair.ref.only0 o, hr, h.newS, h.newT, h.only.trans' o, h.pair.dis, fun k hk hc => by
    have h1 := hv k hk
    have h2 := h.pair.ours.lt k hc
    omega⟩
theorem Drain.tab (h : Drain w wr sb S xb T wd base b0 l L v) (hT : Tab w) : Tab wr ∧ 0 ∉ S := by
  refine ⟨hT.only0 h.only, fun hc => ?_⟩
  have h1 := h.newS _ hc
  have h2 := World.block_lt_of_cell? w _ (hT 0 (by omega))
  simp only at h2
  omega
theorem Drain.moved {w2 : World} {S2 : List Nat} {b2 : Int} {l2 : List It} (h : Drain w wr sb S xb T wd base b0 l L v) (h2 : ShardOf w2 sb S2 wd b2 l2) (hm : Moved wr S w2 S2) : Drain w w2 sb S2 xb T wd b2 b0 l2 L v := by
  refine ⟨h2, h.ref.only hm.1 (fun b hb hc => h.dis b hc hb), ?_, fun b hb => ?_, h.newT, ?_, fun b hb hc => ?_, fun k hk hc => ?_⟩
  · exact h.row.keep fun g hg => hm.1.block g (h.row.lt hg) (h.off g hg)
  · rcases hm.2 b hb with h9 | h9
    · exact h.newS b h9
    · exact Nat.le_trans h.only.size h9
  · exact h.only.trans hm.1 fun k hk => .inr (h.newS k hk)
  · rcases hm.2 b hb with h9 | h9
    · exact h.dis b h9 hc
    · have := h.ref.lt b hc; omega
  · rcases hm.2 k hc with h9 | h9
    · exact h.off k hk h9
    · have := h.row.lt hk; omega
theorem Drain.pop (h : Drain w wr sb S xb T wd base b0 l L v) (hT : Tab w) :
    Calls Tryz.prog 16 #[.pointer (some ⟨sb, 0, none⟩)] wr fun e w' => e = .returned (.tuple #[.agg #[.int .u64 (first l).k, .int .i64 (first l).i], .bool (!l.isEmpty)]) ∧ ∃ S', Drain w w' sb S' xb T wd (if l.isEmpty then base else (first l).k) b0 l.tail L v := by
  obtain ⟨t1, t2⟩ := h.tab hT
  refine (sPop wr sb S wd base l h.ours t1 t2).mono ?_
  rintro e w2 ⟨rfl, S2, h2, hm⟩
  exact ⟨rfl, S2, h.moved h2 hm⟩
theorem Drain.at_ (h : Drain w wr sb S xb T wd base b0 l L v) : ∃ A cap, v = .slice A L.length cap ∧ ∀ k, k < L.length → ∃ g, A = some ⟨g, 0, none⟩ ∧ wr.cell? ⟨g, k * 2, none⟩ = some (.int .u64 (gOf L k).k) ∧ wr.cell? ⟨g, k * 2 + 1, none⟩ = some (.int .i64 (gOf L k).i) ∧ L.length ≤ cap := by
  obtain ⟨A, cap, ev⟩ := h.row.form
  refine ⟨A, cap, ev, fun k hk => ?_⟩
  obtain ⟨g, cap', e, h3, -, -, -, hc⟩ := h.row.at_ (by omega)
  rw [ev] at e
  injection e with e1 e2 e3
  exact ⟨g, e1, (hc k hk).1, (hc k hk).2.1, by omega⟩
theorem Drain.len (h : Drain w wr sb S xb T wd base b0 l L v) : ∃ A cap, wr.cell? ⟨xb, 0, none⟩ = some (.slice A L.length cap) := by
  obtain ⟨v', -, h1, -⟩ := h.ref
  obtain ⟨A, cap, ev⟩ := h1.row.form
  have c0 := h1.c0
  rw [ev] at c0
  exact ⟨A, cap, c0⟩
end
theorem drop_cons {L : List It} {p : Nat} (hp : p < L.length) : L.drop p = gOf L p :: L.drop (p + 1) := by rw [gOf_get hp]; exact List.drop_eq_getElem_cons hp
end Go.Proofs.YtfgffgicfieieaaGreatDoor
