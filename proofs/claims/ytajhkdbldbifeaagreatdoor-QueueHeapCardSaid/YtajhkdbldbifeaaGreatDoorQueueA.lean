/-
  What the queue's All keeps while it lays the shards' lists together; contracts of min and enter over such a list.
-/
import Derived.Test.YtajhkdbldbifeaaGreatDoorQueueL
import Derived.Test.YtajhkdbldbifeaaGreatDoorQueueP
import Derived.Test.YtajhkdbldbifeaaGreatDoorShardA
namespace Go.Proofs.YtajhkdbldbifeaaGreatDoor
set_option maxRecDepth 100000
open Go.RowKit Go.ChangeMaps Go.MapKept
set_option linter.unusedVariables false
set_option linter.unusedSimpArgs false

/-- A list that is read from its head on: its slice leads to its items, in a block that is none of F. -/
def Run (w : World) (u : Value) (l : List It) (F : List Nat) : Prop :=
  ∃ A cap, u = .slice A l.length cap ∧ l.length ≤ cap ∧ cap ≤ maxLen ∧ (l ≠ [] → ∃ g o, A = some ⟨g, o, none⟩ ∧ g < w.heap.size ∧ g ∉ F ∧ ∀ k, k < l.length → w.cell? ⟨g, o + k * 2, none⟩ = some (.int .u64 (gOf l k).k) ∧ w.cell? ⟨g, o + (k * 2 + 1), none⟩ = some (.int .i64 (gOf l k).i))
theorem Run.nil (w : World) (F : List Nat) : Run w (.slice none 0 0) [] F := ⟨none, 0, rfl, by simp, by unfold maxLen; omega, fun h => absurd rfl h⟩
theorem Run.only {w w' : World} {u : Value} {l : List It} {F S : List Nat} (h : Run w u l F) (ho : Only S w w') (hS : ∀ b ∈ S, b ∈ F ∨ w.heap.size ≤ b) : Run w' u l F := by
  obtain ⟨A, cap, e, h1, h2, h3⟩ := h
  refine ⟨A, cap, e, h1, h2, fun hne => ?_⟩
  obtain ⟨g, o, e2, hg, hF, hc⟩ := h3 hne
  have hgS : g ∉ S := fun hc => by
    rcases hS g hc with h9 | h9
    · exact hF h9
    · omega
  exact ⟨g, o, e2, Nat.lt_of_lt_of_le hg ho.size, hF, fun k hk => ⟨(ho.cell hg hgS).trans (hc k hk).1, (ho.cell hg hgS).trans (hc k hk).2⟩⟩
theorem Run.of_row {w : World} {A : Option Addr} {cap : Nat} {l : List It} {F : List Nat} (h : RowIs w (.slice A l.length cap) l) (hF : ∀ g, (Value.slice A l.length cap).ownBlock = some g → g ∉ F) : Run w (.slice A l.length cap) l F := by
  rcases Nat.eq_zero_or_pos l.length with h0 | h0
  · have e : l = [] := List.length_eq_zero_iff.1 h0
    subst e
    rcases h.2 with ⟨e, _⟩ | ⟨g, cap', cur, e, _, _, _, hc, _⟩
    · injection e with e1 e2 e3
      subst e3
      exact ⟨A, 0, rfl, by simp, by unfold maxLen; omega, fun h => absurd rfl h⟩
    · injection e with e1 e2 e3
      subst e3
      exact ⟨A, cap, rfl, by simp, hc, fun h => absurd rfl h⟩
  · obtain ⟨g, cap', e, h1, h2, h3, -, hc⟩ := h.at_ h0
    injection e with e1 e2 e3
    subst e1 e3
    refine ⟨some ⟨g, 0, none⟩, cap, rfl, h1, h2, fun _ => ⟨g, 0, rfl, h3, hF g rfl, fun k hk => ?_⟩⟩
    have := hc k hk
    simp only [Nat.zero_add]
    exact ⟨this.1, this.2.1⟩
/-- With an item: the head's cells. -/
theorem Run.head {w : World} {u : Value} {l : List It} {F : List Nat} (h : Run w u l F) (hne : l ≠ []) : ∃ g o cap, u = .slice (some ⟨g, o, none⟩) l.length cap ∧ l.length ≤ cap ∧ cap ≤ maxLen ∧ w.cell? ⟨g, o, none⟩ = some (.int .u64 (first l).k) ∧ w.cell? ⟨g, o + 1, none⟩ = some (.int .i64 (first l).i) := by
  obtain ⟨A, cap, e, h1, h2, h3⟩ := h
  obtain ⟨g, o, rfl, hg, hF, hc⟩ := h3 hne
  have := hc 0 (List.length_pos_iff.2 hne)
  have ef : gOf l 0 = first l := by cases l with | nil => exact absurd rfl hne | cons x t => rfl
  rw [ef] at this
  exact ⟨g, o, cap, e, h1, h2, by simpa using this.1, by simpa using this.2⟩
/-- Without its head. -/
theorem Run.tail {w : World} {g o cap : Nat} {l : List It} {F : List Nat} (h : Run w (.slice (some ⟨g, o, none⟩) l.length cap) l F) (hne : l ≠ []) (A' : Option Addr) (hA : 1 < l.length → A' = some ⟨g, o + 2, none⟩) : Run w (.slice A' (l.length - 1) (cap - 1)) l.tail F := by
  obtain ⟨A, cap', e, h1, h2, h3⟩ := h
  injection e with e1 e2 e3
  subst e3
  have hl : l.tail.length = l.length - 1 := by simp
  refine ⟨A', cap - 1, by rw [hl], by omega, by omega, fun hne2 => ?_⟩
  obtain ⟨g', o', e4, hg, hF, hc⟩ := h3 hne
  rw [← e1] at e4
  injection e4 with e4
  injection e4 with e5 e6
  subst e5 e6
  have h1l : 1 < l.length := by
    have := List.length_pos_iff.2 hne2
    omega
  refine ⟨g, o + 2, hA h1l, hg, hF, fun k hk => ?_⟩
  have := hc (k + 1) (by omega)
  have eg : gOf l.tail k = gOf l (k + 1) := by
    unfold gOf
    simp [List.getD_eq_getElem?_getD]
  rw [eg]
  refine ⟨?_, ?_⟩
  · rw [← this.1]; congr 2; omega
  · rw [← this.2]; congr 2; omega

set_option maxHeartbeats 1000000 in
/-- min of such a list. -/
theorem rMinRun (w : World) (u : Value) (l : List It) (F : List Nat) (h : Run w u l F) :
    Calls Tryz.prog 50 #[u] w fun e w' => e = .returned (.tuple #[.agg #[.int .u64 (first l).k, .int .i64 (first l).i], .bool (!l.isEmpty)]) ∧ Only [] w w' := by
  have oA : Only [] w (w.alloc (.cells #[.int .u64 0, .int .i64 0] 40)) := (Only.refl [] w).alloc _
  have bR : Box _ w.heap.size ⟨0, 0⟩ := Box.new w ⟨0, 0⟩
  have y0 := bR.c0
  have y1 := bR.c1
  have f0 := bR.fr 0
  have f1 := bR.fr 1
  by_cases hne : l = []
  · subst hne
    obtain ⟨A, cap, rfl, h1, h2, -⟩ := h
    simp only [List.isEmpty_nil, Bool.not_true]
    have ef : first ([] : List It) = ⟨0, 0⟩ := rfl
    rw [ef]
    simp only [List.length_nil]
    obtain ⟨V, eV⟩ : ∃ V, w.alloc (.cells #[.int .u64 0, .int .i64 0] 40) = V := ⟨_, rfl⟩
    rw [eV] at oA y0 y1 f0 f1
    have O := Lib.hid oA
    clear oA bR
    generalize hN : w.heap.size = N at *
    go_enter Tryz.func50, Tryz.ntmps50
    go_wp2_with (simp only [eV, hN])
    (try simp only [Exit.inBlock, Exit.then])
    refine bodyPost_ret (v := .tuple #[.agg #[.int .u64 0, .int .i64 0], .bool false]) (by rw [results_cell_tmp rfl]; go_simp) rfl ?_
    have o6 : Only [N] V ((V.setCell ⟨N, 0, none⟩ (.int .u64 0)).setCell ⟨N, 1, none⟩ (.int .i64 0)) := ((Only.refl _ _).setCell (by simp) _).setCell (by simp) _
    exact ⟨rfl, O.out.trans o6 (by simp; omega)⟩
  · obtain ⟨g, o, cap, rfl, h1, h2, k0, k1⟩ := (h.only oA (by simp)).head hne
    have hl : 0 < l.length := List.length_pos_iff.2 hne
    have hem : (!l.isEmpty) = true := by simp [hne]
    rw [hem]
    generalize first l = x at *
    have hl' : ((l.length : Int) == 0) = false := by simp; omega
    have hl2 : (0 : Int) < (l.length : Int) := by omega
    generalize l.length = m at *
    obtain ⟨V, eV⟩ : ∃ V, w.alloc (.cells #[.int .u64 0, .int .i64 0] 40) = V := ⟨_, rfl⟩
    rw [eV] at oA y0 y1 f0 f1 k0 k1
    have O := Lib.hid oA
    clear oA bR h hem hne
    generalize hN : w.heap.size = N at *
    go_enter Tryz.func50, Tryz.ntmps50
    go_wp2_with (simp only [eV, hN])
    (try simp only [Exit.inBlock, Exit.then])
    refine bodyPost_ret (v := .tuple #[.agg #[.int .u64 x.k, .int .i64 x.i], .bool true]) (by rw [results_cell_tmp rfl]; go_simp) rfl ?_
    have o6 : Only [N] V ((V.setCell ⟨N, 0, none⟩ (.int .u64 x.k)).setCell ⟨N, 1, none⟩ (.int .i64 x.i)) := ((Only.refl _ _).setCell (by simp) _).setCell (by simp) _
    exact ⟨rfl, O.out.trans o6 (by simp; omega)⟩

set_option maxHeartbeats 1000000 in
/-- enter, of such a list's min. -/
theorem qEnterR (w : World) (tb ib nb n : Nat) (hs : Nat → Bool) (g : Nat → It) (ht : TourOf w tb ib nb n hs g) (u : Value) (l : List It) (F : List Nat) (h : Run w u l F) (i : Nat) (hi : i < n) :
    Calls Tryz.prog 49 #[.pointer (some ⟨tb, 0, none⟩), .int .i64 (i : Int), .func (.func 50) #[u] #[]] w fun e w' => e = .returned (.tuple #[]) ∧ TourOf w' tb ib nb n (fup hs i (!l.isEmpty)) (fup g i (first l)) ∧ Only [ib, nb] w w' := by
  have hm := rMinRun w u l F h
  have hI : (0 : Int) ≤ (i : Int) ∧ (i : Int) < (n : Int) := by omega
  rcases hem : l.isEmpty with _ | _
  · rw [hem] at hm
    simp only [Bool.not_false] at hm ⊢
    generalize first l = x at *
    clear hem h
    have HT := Lib.hid ht
    clear ht
    go_enter Tryz.func49, Tryz.ntmps49
    go_wp2_with fail
    refine hm.mono ?_
    rintro e w1 ⟨rfl, o1⟩
    have o2 : Only [] w (w1.alloc (.cells #[.int .u64 x.k, .int .i64 x.i] 40)) := o1.alloc _
    have hset := tSet _ tb ib nb n hs g (HT.out.only0 o2) (i : Int) x
    have O2 := Lib.hid o2
    have bX := Box.new w1 x
    have x0 := bX.c0
    have x1 := bX.c1
    clear o2 o1 hm bX
    go_wp2_with fail
    refine hset.mono ?_
    rintro e w3 ⟨h3, -⟩
    obtain ⟨rfl, q1, q2⟩ := h3 hI
    rw [Int.toNat_natCast] at q1
    have Q := Lib.hid (And.intro q1 q2)
    clear q1 q2 h3 hset
    go_wp2_with fail
    go_end0
    exact ⟨rfl, Q.out.1, (O2.out.mono (by simp)).trans' Q.out.2⟩
  · rw [hem] at hm
    simp only [Bool.not_true] at hm ⊢
    generalize first l = x at *
    clear hem h
    have HT := Lib.hid ht
    clear ht
    go_enter Tryz.func49, Tryz.ntmps49
    go_wp2_with fail
    refine hm.mono ?_
    rintro e w1 ⟨rfl, o1⟩
    have o2 : Only [] w (w1.alloc (.cells #[.int .u64 x.k, .int .i64 x.i] 40)) := o1.alloc _
    have hset := tUnset _ tb ib nb n hs g (HT.out.only0 o2) (i : Int)
    have O2 := Lib.hid o2
    clear o2 o1 hm
    go_wp2_with fail
    refine hset.mono ?_
    rintro e w3 ⟨h3, -⟩
    obtain ⟨rfl, q1, q2⟩ := h3 hI
    rw [Int.toNat_natCast] at q1
    have Q := Lib.hid (And.intro q1 q2)
    clear q1 q2 h3 hset
    go_wp2_with fail
    go_end0
    refine ⟨rfl, Q.out.1.regard rfl (fun k hk hb => ?_), (O2.out.mono (by simp)).trans' Q.out.2⟩
    by_cases e : k = i
    · subst e; rw [fup_same] at hb; cases hb
    · rw [fup_other _ _ e]

/-! ### what All keeps -/
/-- The lists laid together so far (D, in the slice v), what is left of each (R), its tournament. -/
structure Mrg (w wr : World) (rb tb ib nb n : Nat) (v : Value) (D : List It) (R : Nat → List It) : Prop where
  all : RowIs wr v D
  arr : ∃ vs, Arr wr rb 79 vs ∧ vs.length = n ∧ ∀ i, i < n → ∃ u, vs[i]? = some u ∧ Run wr u (R i) (v.ownBlock.toList ++ [rb, tb, ib, nb])
  tr : TourOf wr tb ib nb n (hasL R) (firL R)
  ne : ∀ b ∈ [tb, ib, nb], b ≠ rb
  own : ∀ g, v.ownBlock = some g → g ∉ [rb, tb, ib, nb]
  newv : ∀ g, v.ownBlock = some g → w.heap.size ≤ g
  new4 : ∀ b ∈ [rb, tb, ib, nb], w.heap.size ≤ b
  only : Only [] w wr
section
variable {w wr w' : World} {rb tb ib nb n : Nat} {v : Value} {D : List It} {R : Nat → List It}
theorem Mrg.only0 (h : Mrg w wr rb tb ib nb n v D R) (ho : Only [] wr w') : Mrg w w' rb tb ib nb n v D R := by
  obtain ⟨vs, a1, a2, a3⟩ := h.arr
  refine ⟨h.all.keep fun g hg => ho.block g (h.all.lt hg) (by simp), ⟨vs, a1.only0 ho, a2, fun i hi => ?_⟩, h.tr.only0 ho, h.ne, h.own, h.newv, h.new4, h.only.trans' ho⟩
  obtain ⟨u, e, r⟩ := a3 i hi
  exact ⟨u, e, r.only ho (by simp)⟩
theorem Mrg.at_ (h : Mrg w wr rb tb ib nb n v D R) {i : Nat} (hi : i < n) : ∃ u, wr.cell? ⟨rb, i, none⟩ = some u ∧ wr.frozen? ⟨rb, i, none⟩ = false ∧ Run wr u (R i) (v.ownBlock.toList ++ [rb, tb, ib, nb]) := by
  obtain ⟨vs, a1, a2, a3⟩ := h.arr
  obtain ⟨u, e, r⟩ := a3 i hi
  exact ⟨u, by rw [a1.cell]; exact e, a1.fr i, r⟩
theorem Mrg.n1 (h : Mrg w wr rb tb ib nb n v D R) : 1 ≤ n ∧ n ≤ 16 := h.tr.n1
/-- A list stored at i: what enter needs. -/
theorem Mrg.store (h : Mrg w wr rb tb ib nb n v D R) {i : Nat} {u : Value} {l : List It} (hu : Run wr u l (v.ownBlock.toList ++ [rb, tb, ib, nb])) : TourOf (wr.setCell ⟨rb, i, none⟩ u) tb ib nb n (hasL R) (firL R) ∧ Run (wr.setCell ⟨rb, i, none⟩ u) u l (v.ownBlock.toList ++ [rb, tb, ib, nb]) := by
  have o1 : Only [rb] wr (wr.setCell ⟨rb, i, none⟩ u) := (Only.refl _ _).setCell (by simp) _
  exact ⟨h.tr.only o1 fun b hb hc => h.ne b hb (by simpa using hc), hu.only o1 (by simp)⟩
/-- A list stored at i and entered. -/
theorem Mrg.put (h : Mrg w wr rb tb ib nb n v D R) {i : Nat} (hi : i < n) {u : Value} {l : List It} (hu : Run wr u l (v.ownBlock.toList ++ [rb, tb, ib, nb])) {w3 : World} (ht : TourOf w3 tb ib nb n (fup (hasL R) i (!l.isEmpty)) (fup (firL R) i (first l))) (ho : Only [ib, nb] (wr.setCell ⟨rb, i, none⟩ u) w3) :
    Mrg w w3 rb tb ib nb n v D (fup R i l) := by
  obtain ⟨vs, a1, a2, a3⟩ := h.arr
  have o1 : Only [rb] wr (wr.setCell ⟨rb, i, none⟩ u) := (Only.refl _ _).setCell (by simp) _
  have hin : ∀ b ∈ [ib, nb], b ∈ v.ownBlock.toList ++ [rb, tb, ib, nb] := fun b hb => List.mem_append.2 (.inr (by simp at hb ⊢; rcases hb with rfl | rfl <;> simp))
  have hni : rb ∉ [ib, nb] := fun hc => by
    simp at hc
    rcases hc with e | e
    · exact h.ne ib (by simp) e.symm
    · exact h.ne nb (by simp) e.symm
  refine ⟨(h.all.keep fun g hg => o1.block g (h.all.lt hg) (fun hc => h.own g hg (by simp at hc; simp [hc]))).keep fun g hg => ho.block g (Nat.lt_of_lt_of_le (h.all.lt hg) o1.size) (fun hc => h.own g hg (by simp at hc ⊢; rcases hc with rfl | rfl <;> simp)), ⟨_, (a1.store i u).only ho hni, by simpa using a2, fun k hk => ?_⟩, ?_, h.ne, h.own, h.newv, h.new4, (h.only.trans o1 (by simp; exact h.new4 rb (by simp))).trans ho fun b hb => .inr (h.new4 b (by simp at hb ⊢; rcases hb with rfl | rfl <;> simp))⟩
  · by_cases e : k = i
    · subst e
      refine ⟨u, by simp [a2, hi], ?_⟩
      rw [fup_same]
      exact (hu.only o1 (by simp)).only ho fun b hb => .inl (hin b hb)
    · obtain ⟨u', e', r⟩ := a3 k hk
      refine ⟨u', by rw [List.getElem?_set_ne (by omega)]; exact e', ?_⟩
      rw [fup_other _ _ e]
      exact (r.only o1 (by simp)).only ho fun b hb => .inl (hin b hb)
  · rw [hasL_fup, firL_fup]; exact ht
/-- An item behind the others. -/
theorem Mrg.app (h : Mrg w wr rb tb ib nb n v D R) {W : World} (hW : Only [] wr W) {w2 : World} {v' : Value} {x : It} (r2 : RowIs w2 v' (D ++ [x])) (g2 : W.grownBy w2 v.ownBlock) (l2 : v'.ownBlock = v.ownBlock ∨ v'.ownBlock = some W.heap.size) : Mrg w w2 rb tb ib nb n v' (D ++ [x]) R ∧ Only v.ownBlock.toList wr w2 := by
  obtain ⟨vs, a1, a2, a3⟩ := h.arr
  have o2 : Only v.ownBlock.toList W w2 := (Only.refl _ _).grown g2 (fun k hk => .inl (by simp [hk]))
  have o3 : Only v.ownBlock.toList wr w2 := (hW.mono (by simp)).trans' o2
  have hs := hW.size
  have hnv : ∀ b ∈ [rb, tb, ib, nb], b ∉ v.ownBlock.toList := fun b hb hc => h.own b (Option.mem_toList.1 hc) hb
  have hlt4 : ∀ b ∈ [rb, tb, ib, nb], b < wr.heap.size := fun b hb => by
    simp only [List.mem_cons, List.not_mem_nil, or_false] at hb
    rcases hb with rfl | hb
    · exact a1.lt
    · exact h.tr.lt b (by simp; exact hb)
  have ho2 : Only [] w w2 := h.only.trans o3 fun k hk => .inr (h.newv k (Option.mem_toList.1 hk))
  have hF : ∀ b ∈ v'.ownBlock.toList ++ [rb, tb, ib, nb], b ∈ v.ownBlock.toList ++ [rb, tb, ib, nb] ∨ wr.heap.size ≤ b := fun b hb => by
    rcases List.mem_append.1 hb with h9 | h9
    · rcases l2 with e | e
      · rw [e] at h9; exact .inl (List.mem_append.2 (.inl h9))
      · rw [e] at h9
        have : b = W.heap.size := by simpa using h9
        exact .inr (by omega)
    · exact .inl (List.mem_append.2 (.inr h9))
  refine ⟨⟨r2, ⟨vs, a1.only o3 (hnv rb (by simp)), a2, fun i hi => ?_⟩, h.tr.only o3 (fun b hb => hnv b (List.mem_cons_of_mem _ hb)), h.ne, fun g hg hc => ?_, fun g hg => ?_, h.new4, ho2⟩, o3⟩
  · obtain ⟨u, e, r⟩ := a3 i hi
    have r1 := r.only o3 fun b hb => .inl (List.mem_append.2 (.inl hb))
    obtain ⟨A, cap, e1, e2, e3, e4⟩ := r
    refine ⟨u, e, ?_⟩
    obtain ⟨A', cap', k1, k2, k3, k4⟩ := r1
    refine ⟨A', cap', k1, k2, k3, fun hne => ?_⟩
    obtain ⟨g, o, q1, q2, q3, q4⟩ := k4 hne
    obtain ⟨g', o', p1, p2, p3, p4⟩ := e4 hne
    refine ⟨g, o, q1, q2, fun hc => ?_, q4⟩
    have eg : g' = g := by
      rw [k1] at e1
      injection e1 with e1
      rw [p1, q1] at e1
      injection e1 with e1
      injection e1 with e1
      exact e1.symm
    rcases hF g hc with h9 | h9
    · exact q3 h9
    · omega
  · rcases l2 with e | e
    · exact h.own g (e.symm.trans hg) hc
    · rw [hg] at e
      injection e with e
      have := hlt4 g hc
      omega
  · rcases l2 with e | e
    · exact h.newv g (e.symm.trans hg)
    · rw [hg] at e
      injection e with e
      have := h.only.size
      omega
end
end Go.Proofs.YtajhkdbldbifeaaGreatDoor
