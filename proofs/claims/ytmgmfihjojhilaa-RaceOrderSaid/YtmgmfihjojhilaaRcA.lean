/-
  Events in memory; what their kinds say; Right of both; Conflict of both.
-/
import Derived.Test.YtmgmfihjojhilaaRcM
import Derived.Test.YtmgmfihjojhilaaClkB
import Derived.Laws.StructEq
import Derived.Deep.Cut
namespace Go.Proofs.Ytmgmfihjojhilaa
set_option maxRecDepth 100000
open Go.RowKit
set_option linter.unusedVariables false
set_option linter.unusedSimpArgs false
set_option maxRecDepth 100000

def Ev.cs (e : Ev) : List Value := [.int .i64 e.who, .int .i64 e.kind, .int .i64 e.lc.k, .int .i64 e.lc.a, .int .i64 e.lc.b]
def Ev.val (e : Ev) : Value := .agg #[.int .i64 e.who, .int .i64 e.kind, .int .i64 e.lc.k, .int .i64 e.lc.a, .int .i64 e.lc.b]
def Lc.val (e : Lc) : Value := .agg #[.int .i64 e.k, .int .i64 e.a, .int .i64 e.b]
def eE : El Ev 5 where
  T := 36
  cs := Ev.cs
  z := .agg #[.int .i64 0, .int .i64 0, .int .i64 0, .int .i64 0, .int .i64 0]
  wide := 40
  len := fun _ => rfl
  one := fun x u hu => by
    simp [Ev.cs] at hu
    rcases hu with rfl | rfl | rfl | rfl | rfl <;> rfl
  pos := by decide
  info := by kernel_rfl
  zs := rfl
  small := by decide
/-- The five cells of an event. -/
def EvAt (w : World) (g o : Nat) (x : Ev) : Prop := w.cell? ⟨g, o, none⟩ = some (.int .i64 x.who) ∧ w.cell? ⟨g, o + 1, none⟩ = some (.int .i64 x.kind) ∧ w.cell? ⟨g, o + 2, none⟩ = some (.int .i64 x.lc.k) ∧
  w.cell? ⟨g, o + 3, none⟩ = some (.int .i64 x.lc.a) ∧ w.cell? ⟨g, o + 4, none⟩ = some (.int .i64 x.lc.b)
theorem EvAt.lt {w : World} {g o : Nat} {x : Ev} (h : EvAt w g o x) : g < w.heap.size := World.block_lt_of_cell? w _ h.1
theorem EvAt.only {w w' : World} {S : List Nat} {g o : Nat} {x : Ev} (h : EvAt w g o x) (ho : Only S w w') (hS : g ∉ S) : EvAt w' g o x := by
  have hl := h.lt
  obtain ⟨h0, h1, h2, h3, h4⟩ := h
  exact ⟨(ho.cell hl hS).trans h0, (ho.cell hl hS).trans h1, (ho.cell hl hS).trans h2, (ho.cell hl hS).trans h3, (ho.cell hl hS).trans h4⟩
/-- A slice's address leads to these events. -/
def Evs (w : World) (A : Option Addr) (xs : List Ev) : Prop := ∀ k x, xs[k]? = some x → ∃ g, A = some ⟨g, 0, none⟩ ∧ EvAt w g (k * 5) x
section
variable {w w' : World} {A : Option Addr} {xs : List Ev}
theorem Evs.nil (w : World) (A : Option Addr) : Evs w A [] := fun k x h => by simp at h
theorem Evs.only (h : Evs w A xs) {S : List Nat} (ho : Only S w w') (hS : ∀ g, A = some ⟨g, 0, none⟩ → g ∉ S) : Evs w' A xs := fun k x hx => by
  obtain ⟨g, e, hc⟩ := h k x hx
  exact ⟨g, e, hc.only ho (hS g e)⟩
theorem Evs.only0 (h : Evs w A xs) (ho : Only [] w w') : Evs w' A xs := h.only ho (by simp)
theorem Evs.of_row {m cap : Nat} (h : eE.Row w (.slice A m cap) xs) : Evs w A xs := fun k x hx => by
  obtain ⟨g, e, hg, hc⟩ := h.cell hx
  have c0 := (hc 0 _ rfl).1
  have c1 := (hc 1 _ rfl).1
  have c2 := (hc 2 _ rfl).1
  have c3 := (hc 3 _ rfl).1
  have c4 := (hc 4 _ rfl).1
  exact ⟨g, e, c0, c1, c2, c3, c4⟩
theorem Evs.head {ys : List Ev} (h : Evs w A (xs ++ ys)) : Evs w A xs := fun k x hx =>
  h k x (by rw [List.getElem?_append_left (List.getElem?_eq_some_iff.1 hx).1]; exact hx)
theorem Evs.take (h : Evs w A xs) (n : Nat) : Evs w A (xs.take n) := fun k x hx => by
  rw [List.getElem?_take] at hx
  split at hx
  · exact h k x hx
  · cases hx
theorem Evs.at_ (h : Evs w A xs) {k : Nat} (hk : k < xs.length) : ∃ g, A = some ⟨g, 0, none⟩ ∧ EvAt w g (k * 5) (evs xs k) := h k _ (evs_get hk)
end

/-! ### kinds -/
set_option maxHeartbeats 400000
theorem kPlain (k : Int) (w : World) : Calls Try.prog 38 #[.int .i64 k] w fun e w' => e = .returned (.bool (plainK k)) ∧ w' = w := by
  rcases h1 : (k == 5) <;> rcases h2 : (k == 6)
  all_goals
    simp only [plainK, h1, h2, Bool.or_true, Bool.or_false, Bool.true_or, Bool.false_or]
    go_enter Try.func38, Try.ntmps38
    go_wp2
    go_ret
    exact ⟨rfl, rfl⟩
theorem kWrites (k : Int) (w : World) : Calls Try.prog 48 #[.int .i64 k] w fun e w' => e = .returned (.bool (writesK k)) ∧ w' = w := by
  rcases h1 : (k == 2) <;> rcases h2 : (k == 3) <;> rcases h3 : (k == 6)
  all_goals
    simp only [writesK, h1, h2, h3, Bool.or_true, Bool.or_false, Bool.true_or, Bool.false_or]
    go_enter Try.func48, Try.ntmps48
    go_wp2
    go_ret
    exact ⟨rfl, rfl⟩
theorem kHears (k : Int) (w : World) : Calls Try.prog 40 #[.int .i64 k] w fun e w' => e = .returned (.bool (hearsK k)) ∧ w' = w := by
  rcases h1 : (k == 1) <;> rcases h2 : (k == 3) <;> rcases h3 : (k == 4)
  all_goals
    simp only [hearsK, h1, h2, h3, Bool.or_true, Bool.or_false, Bool.true_or, Bool.false_or]
    go_enter Try.func40, Try.ntmps40
    go_wp2
    go_ret
    exact ⟨rfl, rfl⟩
theorem kTells (k : Int) (w : World) : Calls Try.prog 43 #[.int .i64 k] w fun e w' => e = .returned (.bool (tellsK k)) ∧ w' = w := by
  rcases h1 : (k == 2) <;> rcases h2 : (k == 3)
  all_goals
    simp only [tellsK, h1, h2, Bool.or_true, Bool.or_false, Bool.true_or, Bool.false_or]
    go_enter Try.func43, Try.ntmps43
    go_wp2
    go_ret
    exact ⟨rfl, rfl⟩
theorem kAtomic (k : Int) (w : World) : Calls Try.prog 37 #[.int .i64 k] w fun e w' => e = .returned (.bool (atomK k)) ∧ w' = w := by
  rcases h1 : (k == 1) <;> rcases h2 : (k == 2) <;> rcases h3 : (k == 3) <;> rcases h4 : (k == 4)
  all_goals
    simp only [atomK, h1, h2, h3, h4, Bool.or_true, Bool.or_false, Bool.true_or, Bool.false_or]
    go_enter Try.func37, Try.ntmps37
    go_wp2
    go_ret
    exact ⟨rfl, rfl⟩

/-! ### two locations, two events -/
theorem lc_held : Try.prog.stoodInHeld 34 = false := by kernel_rfl
theorem lc_struct : Try.prog.underlying 34 = some (.struct (Try.prog.fieldsOf 34)) := by kernel_rfl
theorem lc_eql (x y : Lc) (w : World) : (binOp .eql 34 (.agg #[.int .i64 x.k, .int .i64 x.a, .int .i64 x.b]) (.agg #[.int .i64 y.k, .int .i64 y.a, .int .i64 y.b])).run Try.prog w = .ok (.bool (decide (x = y))) w := by
  have u1 := Try.underlying3
  have a1 := Try.isAgg3
  have z1 := Try.sizeOf3
  rw [run_eql_struct, show (10000 : Nat) = 9999 + 1 from rfl, run_equalIn_agg w 9999 34 _ _ lc_struct lc_held]
  simp only [Program.fieldsOf, Try.underlying34]
  go_simp
  obtain ⟨k, i, j⟩ := x
  obtain ⟨k', i', j'⟩ := y
  by_cases h1 : k = k' <;> by_cases h2 : i = i' <;> by_cases h3 : j = j' <;> simp [h1, h2, h3]

/-! ### Conflict -/
set_option maxHeartbeats 1000000
/-- Two events in boxes of their own. -/
theorem EvAt.boxes (w : World) (a b : Ev) : EvAt ((w.alloc (.cells #[.int .i64 a.who, .int .i64 a.kind, .int .i64 a.lc.k, .int .i64 a.lc.a, .int .i64 a.lc.b] 36)).alloc (.cells #[.int .i64 b.who, .int .i64 b.kind, .int .i64 b.lc.k, .int .i64 b.lc.a, .int .i64 b.lc.b] 36)) w.heap.size 0 a ∧
    EvAt ((w.alloc (.cells #[.int .i64 a.who, .int .i64 a.kind, .int .i64 a.lc.k, .int .i64 a.lc.a, .int .i64 a.lc.b] 36)).alloc (.cells #[.int .i64 b.who, .int .i64 b.kind, .int .i64 b.lc.k, .int .i64 b.lc.a, .int .i64 b.lc.b] 36)) (w.heap.size + 1) 0 b := by
  have box : ∀ (w : World) (x : Ev), EvAt (w.alloc (.cells #[.int .i64 x.who, .int .i64 x.kind, .int .i64 x.lc.k, .int .i64 x.lc.a, .int .i64 x.lc.b] 36)) w.heap.size 0 x := fun w x => by
    have hb := heap_alloc_new w (.cells #[.int .i64 x.who, .int .i64 x.kind, .int .i64 x.lc.k, .int .i64 x.lc.a, .int .i64 x.lc.b] 36)
    generalize w.alloc _ = W at *
    exact ⟨by rw [cell_of_row W _ _ _ _ (0, 0) hb]; rfl, by rw [cell_of_row W _ _ _ _ (0, 0) hb]; rfl, by rw [cell_of_row W _ _ _ _ (0, 0) hb]; rfl, by rw [cell_of_row W _ _ _ _ (0, 0) hb]; rfl, by rw [cell_of_row W _ _ _ _ (0, 0) hb]; rfl⟩
  refine ⟨(box w a).only ((Only.refl [] _).alloc _) (by simp), ?_⟩
  have := box (w.alloc (.cells #[.int .i64 a.who, .int .i64 a.kind, .int .i64 a.lc.k, .int .i64 a.lc.a, .int .i64 a.lc.b] 36)) b
  rwa [World.size_alloc] at this
theorem cConf (a b : Ev) (w : World) : Calls Try.prog 22 #[.agg #[.int .i64 a.who, .int .i64 a.kind, .int .i64 a.lc.k, .int .i64 a.lc.a, .int .i64 a.lc.b], .agg #[.int .i64 b.who, .int .i64 b.kind, .int .i64 b.lc.k, .int .i64 b.lc.a, .int .i64 b.lc.b]] w
    fun e w' => e = .returned (.bool (confB a b)) ∧ Only [] w w' := by
  have q := lc_eql a.lc b.lc
  have O0 : Only [] w ((w.alloc (.cells #[.int .i64 a.who, .int .i64 a.kind, .int .i64 a.lc.k, .int .i64 a.lc.a, .int .i64 a.lc.b] 36)).alloc (.cells #[.int .i64 b.who, .int .i64 b.kind, .int .i64 b.lc.k, .int .i64 b.lc.a, .int .i64 b.lc.b] 36)) := ((Only.refl [] w).alloc _).alloc _
  obtain ⟨⟨a0, a1, a2, a3, a4⟩, ⟨b0, b1, b2, b3, b4⟩⟩ := EvAt.boxes w a b
  simp only [Nat.zero_add] at a0 a1 a2 a3 a4 b0 b1 b2 b3 b4
  have HO := Lib.hid O0
  have pa := fun w => kPlain a.kind w
  have pb := fun w => kPlain b.kind w
  have wa := fun w => kWrites a.kind w
  have wb := fun w => kWrites b.kind w
  have E : Hid (confB a b = (a.who != b.who && decide (a.lc = b.lc) && (plainK a.kind || plainK b.kind) && (writesK a.kind || writesK b.kind))) := rfl
  clear O0
  go_enter Try.func22, Try.ntmps22
  go_upto_region 1 with fail
  generalize (w.alloc (.cells #[.int .i64 a.who, .int .i64 a.kind, .int .i64 a.lc.k, .int .i64 a.lc.a, .int .i64 a.lc.b] 36)).alloc (.cells #[.int .i64 b.who, .int .i64 b.kind, .int .i64 b.lc.k, .int .i64 b.lc.a, .int .i64 b.lc.b] 36) = W at *
  generalize decide (a.lc = b.lc) = dl at *
  rcases h1 : (a.who != b.who)
  · have E1 := Lib.hid h1
    clear pa pb wa wb q
    go_wp2
    go_ret
    exact ⟨by rw [E.out, E1.out]; rfl, HO.out⟩
  have E1 := Lib.hid h1
  rcases dl
  · clear pa pb wa wb
    go_wp2
    go_ret
    exact ⟨by rw [E.out, E1.out]; rfl, HO.out⟩
  generalize plainK a.kind = ea at *
  generalize plainK b.kind = eb at *
  generalize writesK a.kind = fa at *
  generalize writesK b.kind = fb at *
  rcases ea <;> rcases eb <;> rcases fa <;> rcases fb
  all_goals
    go_wp2_with (first
      | (go_at_call 38; first | (with_reducible refine (pa _).mono ?_; rintro e w1 ⟨rfl, rfl⟩) | (with_reducible refine (pb _).mono ?_; rintro e w1 ⟨rfl, rfl⟩))
      | (go_at_call 48; first | (with_reducible refine (wa _).mono ?_; rintro e w1 ⟨rfl, rfl⟩) | (with_reducible refine (wb _).mono ?_; rintro e w1 ⟨rfl, rfl⟩)))
    go_ret
    exact ⟨by rw [E.out, E1.out]; rfl, HO.out⟩
end Go.Proofs.Ytmgmfihjojhilaa
