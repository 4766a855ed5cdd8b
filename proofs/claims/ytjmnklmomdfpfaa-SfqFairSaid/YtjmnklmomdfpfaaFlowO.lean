/-
  A flow in memory: its words (ours); Len, begin, Finish, first, add, take, ifAny.
-/
import Derived.Test.YtjmnklmomdfpfaaFlowV
import Derived.Test.YtjmnklmomdfpfaaWheelA
import Derived.Test.YtjmnklmomdfpfaaTagC
import Derived.Laws.OwnMore
import Derived.Laws.ResultCell
import Derived.BigQuiet
import Derived.Deep.QuietTactic
import Derived.StillTailTactics
import Derived.Deep.RegionHeld3
import Derived.Lib.SmallJoins
namespace Go.Proofs.Ytjmnklmomdfpfaa
set_option maxRecDepth 100000
open Go.RowKit
set_option linter.unusedVariables false
set_option linter.unusedSimpArgs false

def U64 (a : Int) : Prop := 0 ≤ a ∧ a ≤ 18446744073709551615
/-- What a thing owns may have turned, and there may be new blocks: from O to O'. -/
def Went (w : World) (O : List Nat) (w' : World) (O' : List Nat) : Prop := Only O w w' ∧ ∀ k ∈ O', k ∈ O ∨ w.heap.size ≤ k
theorem Went.trans {a b c : World} {O O' O'' : List Nat} (h : Went a O b O') (h2 : Went b O' c O'') : Went a O c O'' :=
  ⟨h.1.trans h2.1 h.2, fun k hk => (h2.2 k hk).elim (h.2 k) (fun h3 => .inr (Nat.le_trans h.1.size h3))⟩
theorem Went.still {w w' : World} (h : Only [] w w') (O : List Nat) : Went w O w' O := ⟨h.mono (by simp), fun k hk => .inl hk⟩
theorem Went.refl (w : World) (O : List Nat) : Went w O w O := Went.still (Only.refl [] w) O

/-- A flow, as numbers: what a unit costs, how many it holds, start, finish, packets. -/
structure Fl where
  r : Int
  n : Nat
  s : Int
  e : Int
  l : List Pk
structure Fl.ok (F : Fl) : Prop where
  r : U64 F.r
  n1 : 1 ≤ F.n
  n8 : F.n ≤ 8
  s : U64 F.s
  e : U64 F.e
  l : ∀ x ∈ F.l, x.ok
  len : F.l.length ≤ F.n

/-! ### the struct -/
def FBlk (w : World) (b : Nat) (r n s e : Int) (v : Value) : Prop := w.heap[b]? = some (.cells #[.int .u64 r, .int .i64 n, .int .u64 s, .int .u64 e, v] 117 (0, 0))
section
variable {w w' : World} {b : Nat} {r n s e : Int} {v : Value}
theorem FBlk.lt (h : FBlk w b r n s e v) : b < w.heap.size := (Array.getElem?_eq_some_iff.1 h).1
theorem FBlk.c (h : FBlk w b r n s e v) : w.cell? ⟨b, 0, none⟩ = some (.int .u64 r) ∧ w.cell? ⟨b, 1, none⟩ = some (.int .i64 n) ∧ w.cell? ⟨b, 2, none⟩ = some (.int .u64 s) ∧ w.cell? ⟨b, 3, none⟩ = some (.int .u64 e) ∧ w.cell? ⟨b, 4, none⟩ = some v :=
  ⟨by rw [cell_of_row w b 0 _ _ _ h]; rfl, by rw [cell_of_row w b 1 _ _ _ h]; rfl, by rw [cell_of_row w b 2 _ _ _ h]; rfl, by rw [cell_of_row w b 3 _ _ _ h]; rfl, by rw [cell_of_row w b 4 _ _ _ h]; rfl⟩
theorem FBlk.fr (h : FBlk w b r n s e v) (j : Nat) : w.frozen? ⟨b, j, none⟩ = false := frozen_of_row w b j _ _ h
theorem FBlk.only {S : List Nat} (h : FBlk w b r n s e v) (ho : Only S w w') (hS : b ∉ S) : FBlk w' b r n s e v := ho.get h hS
theorem FBlk.only0 (h : FBlk w b r n s e v) (ho : Only [] w w') : FBlk w' b r n s e v := h.only ho (by simp)
theorem FBlk.set2 (h : FBlk w b r n s e v) (u : Int) : FBlk (w.setCell ⟨b, 2, none⟩ (.int .u64 u)) b r n u e v := by
  have := heap_setCell_same w b 2 _ _ (.int .u64 u) h
  simpa [FBlk] using this
theorem FBlk.set3 (h : FBlk w b r n s e v) (u : Int) : FBlk (w.setCell ⟨b, 3, none⟩ (.int .u64 u)) b r n s u v := by
  have := heap_setCell_same w b 3 _ _ (.int .u64 u) h
  simpa [FBlk] using this
theorem FBlk.set4 (h : FBlk w b r n s e v) (u : Value) : FBlk (w.setCell ⟨b, 4, none⟩ u) b r n s e u := by
  have := heap_setCell_same w b 4 _ _ u h
  simpa [FBlk] using this
theorem FBlk.ne (h : FBlk w b r n s e v) {u : Value} {xs : List Pk} (hu : PRow w u xs) : ∀ g, u.ownBlock = some g → g ≠ b := by
  intro g hg
  rintro rfl
  rcases hu.2 with ⟨rfl, _⟩ | ⟨g', cap, cur, rfl, h0, hb, _⟩
  · cases hg
  · have : g' = g := by simpa [Value.ownBlock] using hg
    subst this
    unfold FBlk at h
    rw [hb] at h
    injection h with h
    injection h with _ h
    exact absurd h (by decide)
end
/-- The packets turned to zs. -/
def Turn (w : World) (b : Nat) (r n s e : Int) (v : Value) (zs : List Pk) (w' : World) : Prop :=
  ∃ v', FBlk w' b r n s e v' ∧ PRow w' v' zs ∧ Only (b :: v.ownBlock.toList) w w' ∧ (v'.ownBlock = v.ownBlock ∨ ∃ g, v'.ownBlock = some g ∧ w.heap.size ≤ g)
section
variable {w W w2 : World} {b : Nat} {r n s e : Int} {v v2 : Value} {xs zs : List Pk}
/-- A slice that came of the flow's own is stored into it. -/
theorem turn_store (h : FBlk w b r n s e v) (hx : PRow w v xs) (ho : Only v.ownBlock.toList w w2) (h2 : PRow w2 v2 zs) (hv : v2.ownBlock = v.ownBlock ∨ ∃ g, v2.ownBlock = some g ∧ w.heap.size ≤ g) :
    FBlk w2 b r n s e v ∧ Turn w b r n s e v zs (w2.setCell ⟨b, 4, none⟩ v2) := by
  have hb2 : FBlk w2 b r n s e v := h.only ho (fun hk => h.ne hx b (Option.mem_toList.1 hk) rfl)
  refine ⟨hb2, v2, hb2.set4 v2, h2.only ((Only.refl [b] w2).setCell (by simp) _) (fun g hg => by simpa using hb2.ne h2 g hg), ?_, hv⟩
  exact (ho.mono (T := b :: v.ownBlock.toList) (fun k hk => .inl (List.mem_cons_of_mem _ hk))).setCell (by simp) _
theorem turn_grown (h : FBlk w b r n s e v) (hx : PRow w v xs) (o1 : Only [] w W) (hg : W.grownBy w2 v.ownBlock) (h2 : PRow w2 v2 zs) (hv : v2.ownBlock = v.ownBlock ∨ v2.ownBlock = some W.heap.size) :
    (w2.cell? ⟨b, 4, none⟩ = some v ∧ w2.frozen? ⟨b, 4, none⟩ = false) ∧ Turn w b r n s e v zs (w2.setCell ⟨b, 4, none⟩ v2) := by
  obtain ⟨q1, q2⟩ := turn_store h hx ((o1.mono (T := v.ownBlock.toList) (by simp)).grown hg (fun k hk => .inl (Option.mem_toList.2 hk))) h2 (hv.imp id fun e => ⟨_, e, o1.size⟩)
  exact ⟨⟨q1.c.2.2.2.2, q1.fr 4⟩, q2⟩
/-- With new blocks ahead of it, and behind it. -/
theorem Turn.ahead (o : Only [] w W) (h : Turn W b r n s e v zs w2) : Turn w b r n s e v zs w2 := by
  obtain ⟨v', h1, h2, h3, h4⟩ := h
  exact ⟨v', h1, h2, (o.mono (T := b :: v.ownBlock.toList) (by simp)).trans' h3, h4.imp id fun ⟨g, e, hg⟩ => ⟨g, e, Nat.le_trans o.size hg⟩⟩
end

/-! ### results in cells -/

theorem results_cell_tmp2 {fn : Func} {p u u2 : Tmp} {ty : TypeId} (h : fn.results = #[.cell p ty, .tmp u, .tmp u2]) (tmps : Array Value) (P : Program) (w : World) :
    (results fn tmps).run P w =
      ((asAddr (tmps.getD p undef)).run P w).andThen fun a w₁ => ((loadVar ty a).run P w₁).andThen fun v w₂ => .ok (.tuple #[v, tmps.getD u undef, tmps.getD u2 undef]) w₂ := by
  simp only [results, h]
  simp [Sem.run_bind, Result.andThen]

/-! ### the small ones -/
set_option maxRecDepth 100000
theorem fLen (w : World) (b : Nat) (r n s e : Int) (A : Option Addr) (m cap : Nat) (h : FBlk w b r n s e (.slice A m cap)) :
    Calls Try.prog 52 #[.pointer (some ⟨b, 0, none⟩)] w fun e w' => e = .returned (.int .i64 (m : Int)) ∧ w' = w := by
  obtain ⟨_, _, _, _, c4⟩ := h.c
  clear h
  go_enter Try.func52, Try.ntmps52
  go_wp2
  go_ret
  exact ⟨rfl, rfl⟩
theorem fBegin (w : World) (b : Nat) (r n s e : Int) (v : Value) (h : FBlk w b r n s e v) :
    Calls Try.prog 82 #[.pointer (some ⟨b, 0, none⟩)] w fun e w' => e = .returned (.int .u64 s) ∧ w' = w := by
  obtain ⟨_, _, c2, _, _⟩ := h.c
  clear h
  go_enter Try.func82, Try.ntmps82
  go_wp2
  go_ret
  exact ⟨rfl, rfl⟩
theorem fFirst (w : World) (v : Value) (x : Pk) (xs : List Pk) (h : PRow w v (x :: xs)) :
    Calls Try.prog 93 #[v] w fun e w' => e = .returned (.agg #[.int .i64 x.f, .int .i64 x.l, .int .i64 x.m]) ∧ Only [] w w' := by
  obtain ⟨g, cap, rfl, hn, hcap, hg, _, hc⟩ := h.at_ (by simp)
  obtain ⟨c0, c1, c2⟩ := hc 0 (by simp)
  simp only [pOf, List.getD_cons_zero, Nat.zero_mul, Nat.zero_add] at c0 c1 c2
  have hl : ((x :: xs).length : Int) = (xs.length : Int) + 1 := by simp
  have hp : (0 : Int) < (xs.length : Int) + 1 := by omega
  have hp2 : (0 : Int) < ((x :: xs).length : Int) := by omega
  clear hc h
  go_enter Try.func93, Try.ntmps93
  go_wp2
  refine bodyPost_ret (v := .agg #[.int .i64 x.f, .int .i64 x.l, .int .i64 x.m]) ?_ rfl ?_
  · rw [results_cell1 rfl]; go_simp
  · exact ⟨rfl, (Only.refl [] w).alloc _⟩
set_option maxHeartbeats 1000000 in
theorem fAdd (w : World) (b : Nat) (r n s e : Int) (v : Value) (xs : List Pk) (h : FBlk w b r n s e v) (hx : PRow w v xs) (x : Pk) (hl : xs.length ≤ 1000) :
    Calls Try.prog 75 #[.pointer (some ⟨b, 4, none⟩), .agg #[.int .i64 x.f, .int .i64 x.l, .int .i64 x.m]] w fun e' w' => e' = .returned (.tuple #[]) ∧ Turn w b r n s e v (xs ++ [x]) w' := by
  obtain ⟨A, cap, rfl⟩ := hx.form
  have o0 : Only [] w (w.alloc (.cells #[.int .i64 x.f, .int .i64 x.l, .int .i64 x.m] 34)) := (Only.refl [] w).alloc _
  have bx := PBox.new w x
  have hb := h.lt
  go_enter Try.func75, Try.ntmps75
  go_wp2_with fail
  generalize w.alloc (.cells #[.int .i64 x.f, .int .i64 x.l, .int .i64 x.m] 34) = W at *
  obtain ⟨_, _, _, _, c4⟩ := (h.only0 o0).c
  obtain ⟨x0, x1, x2⟩ := bx.c
  have H := Lib.hid (And.intro h (And.intro hx o0))
  have hbW : b < W.heap.size := (h.only0 o0).lt
  have fr := (h.only0 o0).fr 4
  clear h hx o0 bx
  go_region_law
    (refine step_append_pk Try.underlying115 rfl (.tmp 7) (.tmp 9) rfl (.slice A xs.length cap) xs (by simp [Act.eval, Act.put]) (by first | exact H.out.2.1.only ((H.out.2.2.drew).alloc _) (by simp) | exact H.out.2.1.only ((H.out.2.2.alloc _).drew) (by simp)) (some ⟨W.heap.size, 0, none⟩) 1 1 [x] (by simp [Act.eval, Act.put]) rfl (by exact PSrc.box (PBox.new W x)) (xs.length + 1) rfl (by omega) ?_
     intro A' cap' w2 hr2 hg2 hl2
     obtain ⟨⟨c4', fr'⟩, R2⟩ := turn_grown H.out.1 H.out.2.1 (by first | exact (H.out.2.2.drew).alloc _ | exact (H.out.2.2.alloc _).drew) hg2 hr2 hl2
     have R := Lib.hid R2
     clear R2 hr2 hg2 hl2)
  all_goals
    go_wp2_with fail
    go_end0
    exact ⟨rfl, R.out⟩
end Go.Proofs.Ytjmnklmomdfpfaa
