/-
  A range over a method value ('for x, y := range p.both'): what a loop over a function whose receiver is bound to it owes, at the wide fence.
-/
import Derived.Test.YtmgmfihjojhilaaClkA
import Derived.RangeFuncBox
import Derived.RangeFuncLeaves
import Derived.RangeFuncNested
import Derived.Shelf.Abstract
import Derived.OwnWalkIn
import Derived.TacticsInMore
import Derived.LoopNIn
import Derived.LoopIn
import Derived.Sort.LoopGhostIn
import Derived.Stop.RegionWithIn
namespace Go.Proofs.Ytmgmfihjojhilaa
set_option maxRecDepth 100000
open Go.RowKit
set_option linter.unusedVariables false
set_option linter.unusedSimpArgs false
set_option maxRecDepth 100000

theorem Only.putObj (w : World) (r : Nat) (o : Obj) : Only [r] w (w.putObj r o) :=
  ⟨rfl, rfl, rfl, by simp, fun k _ hk => World.putObj_heap_other (by simpa using hk)⟩
/-- How a round's body may be left: at its end, or by a return; of what was there at most the blocks of T have turned. -/
def endsP (T : List Nat) (Go Stop : World → Prop) (W : World) : Exit → Act → World → Prop
  | .normal, _, W' => Only T W W' ∧ Go W'
  | .ret, _, W' => Only T W W' ∧ Stop W'
  | .exit _, _, _ => False
  | .goto _, _, _ => False
  | .panic _, _, _ => False
  | .outgrown, _, _ => False

/-- A loop over a bound method that yields the N groups of values encs 0, encs 1, ..: what holds between rounds (I), or once a round has returned (Ix). -/
theorem range_meth {n : Nat} {P : Program} {g : Operand} {ps : Array Tmp} {assign body : Code} {Q : Exit → Act → World → Prop} {a : Act} {w : World} {gf : FuncId} {fs : Array Value}
    (hg : a.eval g = .func (.func gf) fs #[]) (eg : ∀ args w, (callFunc gf args).run P w = .ok (.enter gf args) w)
    (N : Nat) (encs : Nat → Array Value) (hps : ∀ k, (encs k).size = ps.size) (T : List Nat) (hT : ∀ k ∈ T, k < w.heap.size)
    (I : Nat → World → Prop) (Ix : World → Prop)
    (hI : ∀ k W W', I k W → Only [w.heap.size, w.heap.size + 1] W W' → I k W') (hIx : ∀ W W', Ix W → Only [w.heap.size, w.heap.size + 1] W W' → Ix W') (h0 : I 0 w) (a₁ : Nat → Act)
    (hit : ∀ (l : Nat) (J : Nat → World → Prop) (Jx : World → Prop) (W : World), Only [] w W → W.heap.size = w.heap.size + 2 → l < W.heap.size → w.heap.size ≤ l →
      (∀ k U U', J k U → Only [] U U' → J k U') →
      (∀ k U, J k U → k < N → YieldAt Fence.wide (n - 1 - 1) P l (encs k) U fun e U' => ∃ b : Bool, e = .returned (.bool b) ∧ Only (l :: T) U U' ∧ (b = true → J (k + 1) U') ∧ (b = false → Jx U')) →
      J 0 W → CallsIn Fence.wide (n - 1) P gf (fs ++ #[.func (.yield l) #[] #[]]) W fun e U => (∃ v, e = .returned v) ∧ (J N U ∨ Jx U))
    (hassign : ∀ (l k : Nat) (W : World) (K : Act → World → Prop), K (a₁ k) W →
      assign.wpIn (Fence.wide.inRound l) (n - 1 - 1) P (Exit.then K (fun _ _ _ => False)) { tmps := (ps.zip (encs k)).foldl (fun t (p, v) => t.setIfInBounds p v) a.tmps, defers := [] } W)
    (hbody : ∀ (l k : Nat) (W : World), I k W → k < N → body.wpIn (Fence.wide.inRound l) (n - 1 - 1) P (endsP T (I (k + 1)) Ix W) (a₁ k) W)
    (hdone : ∀ (D : Nat) (W : World), w.heap.size ≤ D → I N W → W.heap[D]? = some (.deferred (some [])) → Q .normal { a with defers := { target := .collected D, args := #[] } :: a.defers } W)
    (hstop : ∀ (D : Nat) (W : World), w.heap.size ≤ D → Ix W → W.heap[D]? = some (.deferred (some [])) → Code.ret.wpIn Fence.wide n P Q { a with defers := { target := .collected D, args := #[] } :: a.defers } W) :
    (Code.rangeFunc g ps assign body).wpIn Fence.wide n P Q a w := by
  refine wpIn_rangeFunc fun fn hfn => ?_
  -- the two blocks of the loop: D for what is deferred, l for the loop's record
  obtain ⟨D, hD⟩ : ∃ D, w.heap.size = D := ⟨_, rfl⟩
  rw [hD] at hT hI hIx hdone hstop
  let rc : LoopState → Option Code → Loop := fun s j => { state := s, pending := j, fn := fn, tmps := a.tmps, params := ps, assign := assign, body := body, defers := D }
  have sub : ∀ {W W' : World}, Only [D + 1] W W' → Only [D, D + 1] W W' := fun h => h.mono fun k hk => .inl (by simp at hk ⊢; omega)
  have sub0 : ∀ {W W' : World}, Only [] W W' → Only [D, D + 1] W W' := fun h => h.mono (by simp)
  have hl0 : ((w.alloc (.deferred (some []))).alloc (.loop (rc .ready none))).heap[D + 1]? = some (.loop (rc .ready none)) := by
    have h := heap_alloc_new (w.alloc (.deferred (some []))) (.loop (rc .ready none))
    rwa [World.size_alloc, hD] at h
  have hd0 : ((w.alloc (.deferred (some []))).alloc (.loop (rc .ready none))).heap[D]? = some (.deferred (some [])) := by
    have h := heap_alloc_new w (.deferred (some []))
    rw [hD] at h
    exact (Below.heap_alloc _ _ _ (by simp; omega)).trans h
  have ho : Only [] w ((w.alloc (.deferred (some []))).alloc (.loop (rc .ready none))) := ((Only.refl [] w).alloc _).alloc _
  have hsz : ((w.alloc (.deferred (some []))).alloc (.loop (rc .ready none))).heap.size = D + 2 := by simp; omega
  have hr := run_enterLoop_outer (P := P) (w := w) fn a.tmps ps assign body
  rw [hD] at hr
  change _ = Result.ok (D + 1, [({ target := Target.collected D, args := #[] } : Deferred)]) ((w.alloc (.deferred (some []))).alloc (.loop (rc .ready none))) at hr
  generalize (w.alloc (.deferred (some []))).alloc (.loop (rc .ready none)) = V at *
  refine ⟨D + 1, [{ target := .collected D, args := #[] }], V, { target := .fn (.func gf) #[], args := fs ++ #[.func (.yield (D + 1)) #[] #[]] }, V, gf, fs ++ #[.func (.yield (D + 1)) #[] #[]], V, hr, ?_, fun _ _ => trivial, ?_, fun h => by simp [Fence.wide] at h, ?_⟩
  · simp only [resolve, hg]
    simp [go_sem]
  · simp [invoke, go_sem, eg]
  refine (hit (D + 1) (fun k U => I k U ∧ U.heap[D + 1]? = some (.loop (rc .ready none)) ∧ U.heap[D]? = some (.deferred (some [])))
    (fun U => Ix U ∧ U.heap[D + 1]? = some (.loop (rc .done (some .ret))) ∧ U.heap[D]? = some (.deferred (some [])))
    V ho (by rw [hsz, hD]) (by omega) (by omega) (fun k U U' h h2 => ⟨hI k U U' h.1 (sub0 h2), h2.get h.2.1 (by simp), h2.get h.2.2 (by simp)⟩) ?_ ⟨hI 0 w V h0 (sub0 ho), hl0, hd0⟩).mono ?_
  · -- one round
    rintro k U ⟨hi, hl, hd⟩ hk
    have hlt : D + 1 < U.heap.size := (Array.getElem?_eq_some_iff.1 hl).1
    refine ⟨fn, _, assign, body, run_yield (P := P) (args := encs k) hl (hps k), roundIn_of_wpIn hfn (hassign _ k U _ ⟨_, run_beginRound hl rfl, ?_⟩)⟩
    have o1 := Only.putObj U (D + 1) (.loop { rc .ready none with state := .busy })
    have hl1 : (U.putObj (D + 1) (.loop { rc .ready none with state := .busy })).heap[D + 1]? = some (.loop { rc .ready none with state := .busy }) := World.putObj_heap_same hlt
    have hd1 := o1.get hd (by simp)
    refine wpIn_mono (hbody _ k _ (hI k _ _ hi (sub o1)) hk) ?_
    have away : ∀ {U3 : World}, Only T (U.putObj (D + 1) (.loop { rc .ready none with state := .busy })) U3 → U3.heap[D + 1]? = some (.loop { rc .ready none with state := .busy }) ∧ U3.heap[D]? = some (.deferred (some [])) := fun o2 =>
      ⟨o2.get hl1 (fun h => by have := hT _ h; omega), o2.get hd1 (fun h => by have := hT _ h; omega)⟩
    have all : ∀ {U3 : World} (o : Obj), Only T (U.putObj (D + 1) (.loop { rc .ready none with state := .busy })) U3 → Only ((D + 1) :: T) U (U3.putObj (D + 1) o) := fun o o2 =>
      ((o1.mono (T := (D + 1) :: T) (fun j hj => .inl (by simp at hj; simp [hj]))).trans o2 (fun j hj => .inl (by simp [hj]))).trans (Only.putObj _ (D + 1) o) (fun j hj => .inl (by simp at hj; simp [hj]))
    rintro e a3 U3 hp
    cases e with
    | normal =>
      obtain ⟨o2, hi3⟩ := hp
      obtain ⟨hl3, hd3⟩ := away o2
      refine ⟨_, _, run_endRound (P := P) none hl3, true, rfl, all _ o2, fun _ => ⟨hI _ _ _ hi3 (sub (Only.putObj _ _ _)), World.putObj_heap_same (Array.getElem?_eq_some_iff.1 hl3).1, (Only.putObj U3 (D + 1) _).get hd3 (by simp)⟩, fun h => by cases h⟩
    | ret =>
      obtain ⟨o2, hi3⟩ := hp
      obtain ⟨hl3, hd3⟩ := away o2
      refine ⟨_, _, run_endRound (P := P) (some .ret) hl3, false, rfl, all _ o2, (fun h => by cases h), fun _ => ⟨hIx _ _ hi3 (sub (Only.putObj _ _ _)), World.putObj_heap_same (Array.getElem?_eq_some_iff.1 hl3).1, (Only.putObj U3 (D + 1) _).get hd3 (by simp)⟩⟩
    | exit id => exact hp.elim
    | goto t => exact hp.elim
    | panic ch => exact hp.elim
    | outgrown => exact hp.elim
  · -- behind the method
    rintro e U ⟨⟨v, rfl⟩, (⟨hi, hl, hd⟩ | ⟨hi, hl, hd⟩)⟩
    · exact ⟨none, _, run_endLoop (P := P) hl (by simp [rc]), hdone D _ (Nat.le_refl _) (hI _ _ _ hi (sub (Only.putObj _ _ _))) ((Only.putObj U (D + 1) _).get hd (by simp))⟩
    · exact ⟨some .ret, _, run_endLoop (P := P) hl (by simp [rc]), hstop D _ (Nat.le_refl _) (hIx _ _ hi (sub (Only.putObj _ _ _))) ((Only.putObj U (D + 1) _).get hd (by simp))⟩
end Go.Proofs.Ytmgmfihjojhilaa
