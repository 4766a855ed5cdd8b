/-
  append of one cell onto a row; Plain and Spoil over uint64s; the document's queue: NewQueue, Bases.
-/
import Derived.Test.YtajhkdbldbifeaaGreatDoorQueueC
import Derived.Test.YtajhkdbldbifeaaGreatDoorQueueL
namespace Go.Proofs.YtajhkdbldbifeaaGreatDoor
set_option maxRecDepth 100000
open Go.RowKit Go.ChangeMaps Go.MapKept
set_option linter.unusedVariables false
set_option linter.unusedSimpArgs false

/-- A slice of one-cell elements: nil, or at the head of a block that holds nothing else. -/
def RowV (w : World) (e : TypeId) (v : Value) (vs : List Value) : Prop := w.ownsRow 0 e 1 v vs.length vs
theorem RowV.nil (w : World) (e : TypeId) : RowV w e (.slice none 0 0) [] := ⟨by simp, .inl ⟨rfl, rfl⟩⟩
theorem RowV.form {w : World} {e : TypeId} {v : Value} {vs : List Value} (h : RowV w e v vs) : ∃ A cap, v = .slice A vs.length cap := by
  rcases h.2 with ⟨rfl, e⟩ | ⟨g, cap, cur, rfl, _⟩
  · exact ⟨none, 0, by rw [e]⟩
  · exact ⟨_, _, rfl⟩
theorem RowV.at_ {w : World} {e : TypeId} {v : Value} {vs : List Value} (h : RowV w e v vs) (h0 : 0 < vs.length) : ∃ g cap cur, v = .slice (some ⟨g, 0, none⟩) vs.length cap ∧ v.ownBlock = some g ∧ w.heap[g]? = some (.cells cur e (0, 0)) ∧ ∀ k, k < vs.length → cur[k]? = vs[k]? := by
  rcases h.2 with ⟨rfl, e⟩ | ⟨g, cap, cur, rfl, _, hg, hn, hcap, hsz, hcur⟩
  · omega
  · refine ⟨g, cap, cur, rfl, rfl, hg, fun k hk => ?_⟩
    rw [Nat.mul_one] at hcur
    have : cur.toList[k]? = vs[k]? := by
      rw [← hcur, List.getElem?_take, if_pos hk]
    simpa using this
theorem RowV.keep {w w' : World} {e : TypeId} {v : Value} {vs : List Value} (h : RowV w e v vs) (hk : ∀ g, v.ownBlock = some g → w'.heap[g]? = w.heap[g]?) : RowV w' e v vs := by
  refine ⟨h.1, ?_⟩
  rcases h.2 with h2 | ⟨g, cap, cur, rfl, h0, hg, r⟩
  · exact .inl h2
  · exact .inr ⟨g, cap, cur, rfl, h0, (hk g rfl).trans hg, r⟩
theorem RowV.lt {w : World} {e : TypeId} {v : Value} {vs : List Value} (h : RowV w e v vs) {g : Nat} (hg : v.ownBlock = some g) : g < w.heap.size := by
  rcases h.2 with ⟨rfl, _⟩ | ⟨g', cap, cur, rfl, h0, hb, r⟩
  · cases hg
  · have : g' = g := by simpa [Value.ownBlock] using hg
    subst this
    exact (Array.getElem?_eq_some_iff.1 hb).1
theorem run_append_one {T e : TypeId} {z : Value} {bb : Nat} (hT : Tryz.prog.underlying T = some (.slice e)) (hinfo : (Tryz.prog.info? e).map (fun i => (i.zero, i.size, i.bytes)) = some (some z, 1, bb)) (hz : z.cells = #[z]) (hb0 : bb ≤ 8) (w : World) (ty : TypeId) (v : Value) (vs : List Value) (h : RowV w e v vs) (ad : Addr) (c : Nat) (u : Value) (hu : w.cell? ad = some u) (h1 : u.oneCell' = true) (hb : vs.length + 1 ≤ 2000000) :
    ∃ v' w', (Builtin.append_ #[T, T] ty #[v, .slice (some ad) 1 c]).run Tryz.prog w = .ok v' w' ∧ RowV w' e v' (vs ++ [u]) ∧ w.grownBy w' v.ownBlock ∧ (v'.ownBlock = v.ownBlock ∨ v'.ownBlock = some w.heap.size) := by
  obtain ⟨i0, hi0, hz0, hz1, hz2⟩ := info_parts hinfo
  obtain ⟨v', w', r1, r2, r3, _, r5⟩ := run_append_own_at (P := Tryz.prog) w 0 T ty e i0 z 1 bb hT hi0 hz0 hz1 hz2 (by rw [hz]; rfl) (by omega) v vs.length vs h ad 1 c [u]
    (by simp) (fun j u' hj => by
      match j, hj with
      | 0, hj => simp at hj; subst hj; simpa [Addr.add] using hu) (fun u' hu' => by simp at hu'; subst hu'; exact h1) (by unfold maxLen; omega) (Nat.le_trans (Nat.mul_le_mul hb hb0) (by decide)) (Nat.zero_le _)
  refine ⟨v', w', r1, ?_, r3, r5⟩
  unfold RowV
  rw [List.length_append]
  exact r2
section
variable {w : World} {ops : Array Oper} {o : Oper} {a : Act} {K : Act → World → Prop} {Q : Exit → Act → World → Prop} {T e : TypeId} {z : Value} {bb : Nat}
theorem wp_append_one (hT : Tryz.prog.underlying T = some (.slice e)) (hinfo : (Tryz.prog.info? e).map (fun i => (i.zero, i.size, i.bytes)) = some (some z, 1, bb)) (hz : z.cells = #[z]) (hb0 : bb ≤ 8) (s x : Operand) (ho : o.op = .call { callee := .builtin .append, args := #[s, x], argTypes := #[T, T] })
    (v : Value) (vs : List Value) (hs : a.eval s = v) (h : RowV w e v vs) (ad : Addr) (c : Nat) (u : Value) (hx : a.eval x = .slice (some ad) 1 c) (hu : w.cell? ad = some u) (h1 : u.oneCell' = true) (N : Nat) (hN : vs.length + 1 = N) (hb : N ≤ 2000000)
    (hK : ∀ A' cap' w', RowV w' e (.slice A' N cap') (vs ++ [u]) → w.grownBy w' v.ownBlock → ((Value.slice A' N cap').ownBlock = v.ownBlock ∨ (Value.slice A' N cap').ownBlock = some w.heap.size) → K (a.put o.dst (.slice A' N cap')) w') : o.wp Tryz.prog a w K Q := by
  subst hN
  obtain ⟨v', w', r1, r2, r3, r4⟩ := run_append_one hT hinfo hz hb0 w o.type v vs h ad c u hu h1 hb
  unfold Oper.wp execOp
  simp only [ho, resolve, invoke, builtin, Sem.run_bind, Sem.run_pure, Result.andThen_ok, List.map_toArray, List.map_cons, List.map_nil, hs, hx, r1]
  obtain ⟨A', cap', rfl⟩ := r2.form
  rw [List.length_append] at r2 r4 ⊢
  exact hK A' cap' w' r2 r3 r4
theorem wpList_append_one {rest : List Oper} (hgd : o.guard = none) (hT : Tryz.prog.underlying T = some (.slice e)) (hinfo : (Tryz.prog.info? e).map (fun i => (i.zero, i.size, i.bytes)) = some (some z, 1, bb)) (hz : z.cells = #[z]) (hb0 : bb ≤ 8) (s x : Operand) (ho : o.op = .call { callee := .builtin .append, args := #[s, x], argTypes := #[T, T] })
    (v : Value) (vs : List Value) (hs : a.eval s = v) (h : RowV w e v vs) (ad : Addr) (c : Nat) (u : Value) (hx : a.eval x = .slice (some ad) 1 c) (hu : w.cell? ad = some u) (h1 : u.oneCell' = true) (N : Nat) (hN : vs.length + 1 = N) (hb : N ≤ 2000000)
    (hK : ∀ A' cap' w', RowV w' e (.slice A' N cap') (vs ++ [u]) → w.grownBy w' v.ownBlock → ((Value.slice A' N cap').ownBlock = v.ownBlock ∨ (Value.slice A' N cap').ownBlock = some w.heap.size) → wpList Tryz.prog ops Q rest (a.put o.dst (.slice A' N cap')) w') :
    wpList Tryz.prog ops Q (o :: rest) a w :=
  wpList_plain hgd fun _ hK' => wp_append_one hT hinfo hz hb0 s x ho v vs hs h ad c u hx hu h1 N hN hb fun A' cap' w' h2 h3 h4 => hK' _ _ (hK A' cap' w' h2 h3 h4)
theorem step_append_one {E : Prop} (hgd : o.guard = none) (hT : Tryz.prog.underlying T = some (.slice e)) (hinfo : (Tryz.prog.info? e).map (fun i => (i.zero, i.size, i.bytes)) = some (some z, 1, bb)) (hz : z.cells = #[z]) (hb0 : bb ≤ 8) (s x : Operand) (ho : o.op = .call { callee := .builtin .append, args := #[s, x], argTypes := #[T, T] })
    (v : Value) (vs : List Value) (hs : a.eval s = v) (h : RowV w e v vs) (ad : Addr) (c : Nat) (u : Value) (hx : a.eval x = .slice (some ad) 1 c) (hu : w.cell? ad = some u) (h1 : u.oneCell' = true) (N : Nat) (hN : vs.length + 1 = N) (hb : N ≤ 2000000)
    (hK : ∀ A' cap' w', RowV w' e (.slice A' N cap') (vs ++ [u]) → w.grownBy w' v.ownBlock → ((Value.slice A' N cap').ownBlock = v.ownBlock ∨ (Value.slice A' N cap').ownBlock = some w.heap.size) → K (a.put o.dst (.slice A' N cap')) w') :
    if Region.wanted o (yielded ops a.tmps) = true then Oper.wp Tryz.prog o a w K Q else E := by
  have hw : Region.wanted o (yielded ops a.tmps) = true := by simp [Region.wanted, hgd]
  rw [if_pos hw]
  exact wp_append_one hT hinfo hz hb0 s x ho v vs hs h ad c u hx hu h1 N hN hb hK
end

/-! ### the document's Bases -/
set_option maxHeartbeats 2000000 in
theorem rqBases (w : World) (xb : Nat) (T : List Nat) (n wd : Nat) (B : Nat → Int) (L : Nat → List It) (h : RQOf w xb T n wd B L) :
    Calls Tryz.prog 15 #[.pointer (some ⟨xb, 0, none⟩)] w fun e w' => ∃ A cap, e = .returned (.slice A n cap) ∧ UAt w' A (basesL B n) ∧ Only [] w w' := by
  obtain ⟨ab, cap, P, TT, rfl, h⟩ := h
  have n16 := h.n16
  have n1 := h.n1
  have H := Lib.hid h
  clear h
  go_enter Tryz.func15, Tryz.ntmps15
  go_wp2_with fail
  go_loopg [3, 4] (n + 1) (fun gk sv si wr => ∃ (p : Nat) (A : Option Addr) (c : Nat), sv = .slice A p c ∧ si = .int .i64 (p : Int) ∧ p ≤ n ∧ n + 1 ≤ gk + p ∧ Hid (RowV wr 29 (.slice A p c) (u64s (basesL B p)) ∧ (∀ g, (Value.slice A p c).ownBlock = some g → w.heap.size ≤ g) ∧ Only [] w wr))
  case atStart => exact ⟨0, none, 0, rfl, rfl, by omega, by omega, RowV.nil _ _, (fun g hg => by cases hg), Only.refl [] w⟩
  case round =>
    obtain ⟨p, A, c, rfl, rfl, hp, hg, R⟩ := hrel
    have hQ := H.out.only0 R.out.2.2
    have c0 := hQ.c0
    by_cases hpl : p < n
    · have hpl' : (p : Int) < (n : Int) := by omega
      have di := hQ.at_ hpl
      obtain ⟨cb, -, -, -⟩ := (hQ.sh p hpl).cells
      have eb : Hid (u64s (basesL B p) ++ [.int .u64 (B p)] = u64s (basesL B (p + 1))) := by
        show _ = _
        unfold u64s basesL
        rw [List.range_succ, List.map_append, List.map_append]
        rfl
      have hab : ab < wr.heap.size := World.block_lt_of_cell? wr ⟨ab, p, none⟩ di
      clear hQ
      generalize B p = z at *
      go_wp2_with (at_builtin
                   refine wpList_append_one rfl Tryz.underlying36 info_u64 rfl (by decide) (.tmp 14) (.tmp 25) rfl _ (u64s (basesL B p)) rfl (R.out.1.keep (w' := wr.alloc (.cells #[.int .u64 z] 29)) fun g hg => Below.heap_alloc _ _ _ (R.out.1.lt hg)) ⟨wr.heap.size, 0, none⟩ 1 (.int .u64 z) rfl (by rw [cell_of_row _ wr.heap.size 0 _ _ _ (heap_alloc_new wr _)]; rfl) rfl (p + 1) (by simp [u64s]) (by omega) ?_
                   intro A2 c2 w2 r2 g2 l2
                   have o2 : Only [] w w2 := (R.out.2.2.alloc (.cells #[.int .u64 z] 29)).grown g2 (fun k hk => .inr (R.out.2.1 k hk))
                   have v2 : ∀ g, (Value.slice A2 (p + 1) c2).ownBlock = some g → w.heap.size ≤ g := fun g hg => by
                     rcases l2 with h9 | h9
                     · exact R.out.2.1 g (h9.symm.trans hg)
                     · rw [hg] at h9
                       injection h9 with h9
                       have := R.out.2.2.size
                       rw [h9]
                       simp
                       omega
                   rw [eb.out] at r2
                   have R2 := Lib.hid (And.intro r2 (And.intro v2 o2))
                   clear r2 g2 l2 o2 v2)
      go_roundg (n + 1 - (p + 1))
      case measure => omega
      case rel => exact ⟨p + 1, A2, c2, rfl, by simp, by omega, by omega, R2⟩
    · have hpe : p = n := by omega
      subst hpe
      have hpl' : ¬ ((p : Int) < (p : Int)) := by omega
      go_wp2_with fail
      go_ret
      refine ⟨A, ⟨c, rfl⟩, fun hne => ?_, R.out.2.2⟩
      obtain ⟨g, cap', cur, e1, e2, e3, e4⟩ := R.out.1.at_ (by simp [u64s]; omega)
      injection e1 with e1
      refine ⟨g, e1, (Array.getElem?_eq_some_iff.1 e3).1, fun k hk => ?_⟩
      rw [cell_of_row _ g k _ _ _ e3, e4 k (by simpa [u64s] using hk)]
      exact u64s_at hk

/-! ### Plain and Spoil over uint64s -/
theorem ueq_any (x y : Int) (w : World) : Calls Tryz.prog 43 #[.int .u64 x, .int .u64 y] w fun e w' => e = .returned (.bool (x == y)) ∧ w' = w := by
  go_enter Tryz.func43, Tryz.ntmps43
  go_wp2
  go_ret
  exact ⟨rfl, rfl⟩
set_option maxHeartbeats 1000000 in
theorem uSame (g g' n c c' : Nat) (l : List Int) (w : World) (hn : l.length = n) (hm : n ≤ 64) (h : ∀ k, k < n → w.cell? ⟨g, k, none⟩ = some (.int .u64 (l.getD k 0))) (h' : ∀ k, k < n → w.cell? ⟨g', k, none⟩ = some (.int .u64 (l.getD k 0))) :
    Calls Tryz.prog 42 #[.slice (some ⟨g, 0, none⟩) n c, .slice (some ⟨g', 0, none⟩) n c', .func (.func 43) #[] #[]] w fun e w' => e = .returned (.bool true) ∧ Only [] w w' := by
  clear hn
  go_enter Tryz.func42, Tryz.ntmps42
  go_wp2_with fail
  go_loopg [7] (n + 1) (fun gk si wr => ∃ k : Nat, si = .int .i64 (k : Int) ∧ k ≤ n ∧ n + 1 ≤ gk + k ∧ Hid (Only [] w wr))
  case atStart => exact ⟨0, rfl, by omega, by omega, Only.refl [] w⟩
  case round =>
    obtain ⟨k, rfl, hk, hg, O⟩ := hrel
    by_cases hlt : k < n
    · have hlt' : (k : Int) < (n : Int) := by omega
      have c1 := O.out.stay (h k hlt)
      have c2 := O.out.stay (h' k hlt)
      clear h h'
      generalize l.getD k 0 = x at *
      go_wp2_with fail
      go_quiet (first | (go_at_call 43; exact Calls.quiet_of_same (ueq_any _ _ _)))
      have O5 : Hid (Only [] w (wr.drewN nq)) := O.out.drewN nq
      generalize wr.drewN nq = w5 at *
      go_wp2_with fail
      go_roundg (n + 1 - (k + 1))
      case measure => omega
      case rel => exact ⟨k + 1, by simp, by omega, by omega, O5⟩
    · have hpl' : decide ((k : Int) < (n : Int)) = false := decide_eq_false (by omega)
      have hpl'' : ¬ ((k : Int) < (n : Int)) := by omega
      go_wp2_with fail
      go_ret
      exact ⟨rfl, O.out⟩
/-- Plain, over two rows of uint64s that are alike. -/
theorem uPlain (a a' : Option Addr) (n c c' : Nat) (l : List Int) (w : World) (hn : l.length = n) (h1 : 1 ≤ n) (hm : n ≤ 64) (h : UAt w a l) (h' : UAt w a' l) :
    Calls Tryz.prog 13 #[.slice a n c, .slice a' n c'] w fun e w' => e = .returned (.bool true) ∧ Only [] w w' := by
  have hne : l ≠ [] := by rintro rfl; simp at hn; omega
  obtain ⟨g, rfl, _, hc⟩ := h hne
  obtain ⟨g', rfl, _, hc'⟩ := h' hne
  rw [hn] at hc hc'
  have hs := uSame g g' n c c' l w hn hm hc hc'
  clear hc hc' h h'
  go_enter Tryz.func13, Tryz.ntmps13
  go_wp2_with fail
  refine hs.mono ?_
  rintro e w2 ⟨rfl, o2⟩
  go_wp2_with fail
  go_ret
  exact ⟨rfl, o2⟩
set_option maxHeartbeats 1000000 in
/-- Spoil: the row alone turns. -/
theorem uSpoil (w : World) (g n c : Nat) (l : List Int) (hn : l.length = n) (hm : n ≤ 64) (h : Arr w g 29 (u64s l)) :
    Calls Tryz.prog 30 #[.slice (some ⟨g, 0, none⟩) n c] w fun e w' => e = .returned (.tuple #[]) ∧ Only [g] w w' := by
  have H := Lib.hid (And.intro h hn)
  clear h hn
  go_enter Tryz.func30, Tryz.ntmps30
  go_wp2_with fail
  go_loopg [3] (n + 1) (fun gk si wr => ∃ (p : Nat) (bs : List Int), si = .int .i64 (p : Int) ∧ p ≤ n ∧ n + 1 ≤ gk + p ∧ Hid (Arr wr g 29 (u64s bs) ∧ bs.length = n ∧ Only [g] w wr))
  case atStart => exact ⟨0, l, rfl, by omega, by omega, H.out.1, H.out.2, Only.refl [g] w⟩
  case round =>
    obtain ⟨p, bs, rfl, hp, hg, R⟩ := hrel
    by_cases hpl : p < n
    · have hpl' : (p : Int) < (n : Int) := by omega
      have fr := R.out.1.fr p
      have cp : wr.cell? ⟨g, p, none⟩ = some (.int .u64 (bs.getD p 0)) := by rw [R.out.1.cell]; exact u64s_at (by rw [R.out.2.1]; exact hpl)
      go_wp2_with fail
      go_roundg (n + 1 - (p + 1))
      case measure => omega
      case rel =>
        obtain ⟨r1, r2, r4⟩ := R.out
        have r5 := r1.store p (.int .u64 0)
        rw [u64s_set] at r5
        exact ⟨p + 1, bs.set p 0, by simp, by omega, by omega, r5, by simpa using r2, r4.setCell (.inl (by simp)) _⟩
    · have hpl' : decide ((p : Int) < (n : Int)) = false := decide_eq_false (by omega)
      have hpl'' : ¬ ((p : Int) < (n : Int)) := by omega
      go_wp2_with fail
      go_end0
      exact ⟨rfl, R.out.2.2⟩
end Go.Proofs.YtajhkdbldbifeaaGreatDoor
