/-
  Ahead; where an ID stands; what moved; boxes; the item with an ID.
-/
import Derived.Test.YtjmnklmomdfpfaaWheelU
import Derived.Test.YtjmnklmomdfpfaaHeapR
import Derived.BigRegion
import Derived.BigQuiet
import Derived.StillTailTactics
import Derived.Deep.QuietTactic
import Derived.Laws.ResultCell
import Derived.Deep.LoopGhost
import Derived.Deep.RegionLaw
namespace Go.Proofs.Ytjmnklmomdfpfaa
set_option maxRecDepth 100000
open Go.RowKit Go.ChangeMaps Go.MapKept
set_option linter.unusedVariables false
set_option linter.unusedSimpArgs false

/-- A cell that was there stays. -/
theorem Only.stay {w w' : World} (h : Only [] w w') {p : Addr} {v : Value} (hc : w.cell? p = some v) : w'.cell? p = some v := by
  rw [h.cell (World.block_lt_of_cell? w p hc) (by simp)]; exact hc
set_option maxHeartbeats 400000 in
/-- tag.Ahead: only new blocks behind it. -/
theorem ahead_only (x y : It) (w : World) :
    Calls Try.prog 67 #[.agg #[.int .u64 x.k, .int .i64 x.i], .agg #[.int .u64 y.k, .int .i64 y.i]] w fun e w' => e = .returned (.bool (x.lt y)) ∧ Only [] w w' := by
  unfold It.lt
  by_cases h : x.k = y.k
  · rw [h, ahead_same]
    go_enter Try.func67, Try.ntmps67
    go_wp2
    go_ret
    exact ⟨rfl, ((Only.refl _ _).alloc _).alloc _⟩
  · rw [ahead_not _ _ h]
    have t : (x.k != y.k) = true := by simp; omega
    go_enter Try.func67, Try.ntmps67
    go_wp2
    go_ret
    exact ⟨rfl, ((Only.refl _ _).alloc _).alloc _⟩
set_option maxHeartbeats 400000 in
theorem rahead_only (x y : It) (w : World) :
    Calls Try.prog 80 #[.agg #[.int .u64 x.k, .int .i64 x.i], .agg #[.int .u64 y.k, .int .i64 y.i]] w fun e w' => e = .returned (.bool (x.lt y)) ∧ Only [] w w' := by
  unfold It.lt
  by_cases h : x.k = y.k
  · rw [h, ahead_same]
    go_enter Try.func80, Try.ntmps80
    go_wp2
    go_ret
    exact ⟨rfl, ((Only.refl _ _).alloc _).alloc _⟩
  · rw [ahead_not _ _ h]
    have t : (x.k == y.k) = false := by simp; omega
    by_cases hl : x.k < y.k
    all_goals
      go_enter Try.func80, Try.ntmps80
      go_wp2
      go_ret
      exact ⟨by simp [hl], ((Only.refl _ _).alloc _).alloc _⟩
/-- Where an ID stands. -/
def fOf (xs : List It) (id : Int) : Option Int := (xs.findIdx? (fun x => x.i == id)).map Int.ofNat
theorem fOf_iff {xs : List It} (h : Ids xs) (id v : Int) : fOf xs id = some v ↔ ∃ k : Nat, k < xs.length ∧ (gOf xs k).i = id ∧ v = k := by
  unfold fOf
  rw [Option.map_eq_some_iff]
  constructor
  · rintro ⟨k, hk, rfl⟩
    obtain ⟨hl, hp, _⟩ := List.findIdx?_eq_some_iff_getElem.1 hk
    exact ⟨k, hl, by rw [gOf_get hl]; simpa using hp, rfl⟩
  · rintro ⟨k, hl, he, rfl⟩
    refine ⟨k, List.findIdx?_eq_some_iff_getElem.2 ⟨hl, by rw [gOf_get hl] at he; simpa using he, fun j hj => ?_⟩, rfl⟩
    intro hc
    have := h.place (a := j) (b := k) (by omega) hl (by rw [gOf_get (by omega : j < xs.length)]; rw [he]; simpa using hc)
    omega
theorem fOf_none {xs : List It} (id : Int) : fOf xs id = none ↔ ∀ x ∈ xs, x.i ≠ id := by
  unfold fOf
  simp
theorem opt_ext {a b : Option Int} (h : ∀ v, a = some v ↔ b = some v) : a = b := by
  rcases a with _ | a
  · rcases b with _ | b
    · rfl
    · exact absurd ((h b).2 rfl) (by simp)
  · exact ((h a).1 rfl).symm
/-- From w to w': of what was there only S has turned; S' is S, or new. -/
def Moved (w : World) (S : List Nat) (w' : World) (S' : List Nat) : Prop := Only S w w' ∧ ∀ b ∈ S', b ∈ S ∨ w.heap.size ≤ b
theorem Moved.refl (w : World) (S : List Nat) : Moved w S w S := ⟨Only.refl _ _, fun _ h => .inl h⟩
theorem Moved.trans {w w1 w2 : World} {S S1 S2 : List Nat} (h : Moved w S w1 S1) (h2 : Moved w1 S1 w2 S2) : Moved w S w2 S2 :=
  ⟨h.1.trans h2.1 h.2, fun b hb => by
    rcases h2.2 b hb with h3 | h3
    · exact h.2 b h3
    · exact .inr (Nat.le_trans h.1.size h3)⟩
theorem Moved.still {w w1 w2 : World} {S S1 : List Nat} (h : Moved w S w1 S1) (h2 : Only [] w1 w2) : Moved w S w2 S1 := ⟨h.1.trans h2 (by simp), h.2⟩
theorem Moved.of_only {w w1 : World} {S : List Nat} (h : Only [] w w1) : Moved w S w1 S := (Moved.refl w S).still h
/-- Is there an item with that ID? -/
def hasId (id : Int) (l : List It) : Bool := l.any (fun x => x.i == id)
theorem hasId_iff (id : Int) (l : List It) : hasId id l = true ↔ ∃ x ∈ l, x.i = id := by simp [hasId]
theorem hasId_not (id : Int) (l : List It) : hasId id l = false ↔ ∀ x ∈ l, x.i ≠ id := by simp [hasId]
theorem hasId_perm {l m : List It} (id : Int) (h : l.Perm m) : hasId id l = hasId id m := by
  rw [Bool.eq_iff_iff, hasId_iff, hasId_iff]
  exact ⟨fun ⟨x, hx, e⟩ => ⟨x, h.subset hx, e⟩, fun ⟨x, hx, e⟩ => ⟨x, h.symm.subset hx, e⟩⟩
theorem fOf_has (xs : List It) (id : Int) : (fOf xs id).isSome = hasId id xs := by
  rcases h : hasId id xs with _ | _
  · rw [(fOf_none id).2 ((hasId_not _ _).1 h)]; rfl
  · rcases h2 : fOf xs id with _ | q
    · obtain ⟨x, hx, e⟩ := (hasId_iff _ _).1 h
      exact absurd e ((fOf_none id).1 h2 x hx)
    · rfl
/-- The first one; an item of noughts if there is none. -/
def first (l : List It) : It := l.headD ⟨0, 0⟩
theorem first_gOf {l : List It} (h : 0 < l.length) : first l = gOf l 0 := by
  cases l with
  | nil => simp at h
  | cons x l => rfl
theorem own_item_blk {W : World} {v : Value} {xs : List It} (h : RowIs W v xs) {g : Nat} (hg : v.ownBlock = some g) : ∃ cur, W.heap[g]? = some (.cells cur 43 (0, 0)) := by
  rcases h.2 with ⟨rfl, _⟩ | ⟨g', cap, cur, rfl, h0, hb, r⟩
  · cases hg
  · have : g' = g := by simpa [Value.ownBlock] using hg
    subst this
    exact ⟨cur, hb⟩
theorem results_cell1 {fn : Func} {p : Tmp} {ty : TypeId} (h : fn.results = #[.cell p ty]) (tmps : Array Value) (P : Program) (w : World) :
    (results fn tmps).run P w = ((asAddr (tmps.getD p undef)).run P w).andThen fun a w₁ => ((loadVar ty a).run P w₁).andThen fun v w₂ => .ok v w₂ := by
  simp only [results, h]
  simp [Sem.run_bind, Result.andThen]
  split
  · split <;> assumption
  · rfl
/-- A block that holds one item. -/
def Box (w : World) (b : Nat) (x : It) : Prop := w.heap[b]? = some (.cells #[.int .u64 x.k, .int .i64 x.i] 43 (0, 0))
theorem Box.c0 {w : World} {b : Nat} {x : It} (h : Box w b x) : w.cell? ⟨b, 0, none⟩ = some (.int .u64 x.k) := by rw [cell_of_row w b 0 _ _ _ h]; rfl
theorem Box.c1 {w : World} {b : Nat} {x : It} (h : Box w b x) : w.cell? ⟨b, 1, none⟩ = some (.int .i64 x.i) := by rw [cell_of_row w b 1 _ _ _ h]; rfl
theorem Box.fr {w : World} {b : Nat} {x : It} (h : Box w b x) (i : Nat) : w.frozen? ⟨b, i, none⟩ = false := by unfold Box at h; simp [World.frozen?, h]
theorem Box.lt {w : World} {b : Nat} {x : It} (h : Box w b x) : b < w.heap.size := (Array.getElem?_eq_some_iff.1 h).1
theorem Box.only {w w' : World} {b : Nat} {x : It} {S : List Nat} (h : Box w b x) (ho : Only S w w') (hS : b ∉ S) : Box w' b x := ho.get h hS
theorem Box.new (w : World) (x : It) : Box (w.alloc (.cells #[.int .u64 x.k, .int .i64 x.i] 43)) w.heap.size x := heap_alloc_new w _
theorem eraseIdx_perm {xs : List It} {i : Nat} (hi : i < xs.length) : xs.Perm (gOf xs i :: xs.eraseIdx i) := by
  rw [gOf_get hi]
  have e := List.take_append_drop i xs
  have e2 : xs.eraseIdx i = xs.take i ++ xs.drop (i + 1) := List.eraseIdx_eq_take_drop_succ xs i
  rw [e2]
  have e3 : xs.drop i = xs[i] :: xs.drop (i + 1) := List.drop_eq_getElem_cons hi
  conv => lhs; rw [← e, e3]
  exact List.perm_middle
/-- The item with that ID. -/
def findId (id : Int) (l : List It) : Option It := l.find? (fun x => x.i == id)
def dropId (id : Int) (l : List It) : List It := l.eraseP (fun x => x.i == id)
theorem dropId_perm {xs l : List It} (hp : xs.Perm l) (hi : Ids xs) {k : Nat} (hk : k < xs.length) {id : Int} (he : (gOf xs k).i = id) : (xs.eraseIdx k).Perm (dropId id l) ∧ findId id l = some (gOf xs k) := by
  have h1 := eraseIdx_perm hk
  have hm : gOf xs k ∈ l := hp.subset (by rw [gOf_get hk]; exact List.getElem_mem _)
  obtain ⟨a, l1, l2, h2, h3, h4, h5⟩ := List.exists_of_eraseP (p := fun x : It => x.i == id) hm (by simpa using he)
  have ea : a = gOf xs k := (hi.perm hp).eq (by rw [h4]; simp) hm (by rw [he]; simpa using h3)
  have h6 : l.Perm (a :: dropId id l) := by
    unfold dropId
    rw [h5]
    conv => lhs; rw [h4]
    exact List.perm_middle
  refine ⟨(h1.symm.trans (hp.trans (ea ▸ h6))).cons_inv, ?_⟩
  unfold findId
  rw [h4, List.find?_append]
  have : l1.find? (fun x : It => x.i == id) = none := List.find?_eq_none.2 (fun x hx => h2 x hx)
  rw [this]
  simp [h3, ← ea]
theorem dropId_rises {l : List It} (h : Rises l) (id : Int) : Rises (dropId id l) := List.Pairwise.sublist List.eraseP_sublist h
theorem dropId_none {l : List It} {id : Int} (h : hasId id l = false) : dropId id l = l ∧ findId id l = none := by
  have hn := (hasId_not _ _).1 h
  exact ⟨List.eraseP_of_forall_not (fun x hx => by simpa using hn x hx), List.find?_eq_none.2 (fun x hx => by simpa using hn x hx)⟩
section
variable {w : World} {ops : Array Oper} {o : Oper} {a : Act} {Q : Exit → Act → World → Prop}
end
end Go.Proofs.Ytjmnklmomdfpfaa
