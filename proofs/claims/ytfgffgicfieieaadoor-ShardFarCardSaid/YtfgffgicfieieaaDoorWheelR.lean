/-
  The wheel as a whole, told by the list of its items; contract of turn.
-/
import Derived.Test.YtfgffgicfieieaaDoorWheelP
namespace Go.Proofs.YtfgffgicfieieaaDoor
set_option maxRecDepth 100000
open Go.RowKit Go.ChangeMaps Go.MapKept
set_option linter.unusedVariables false
set_option linter.unusedSimpArgs false

/-- The key of each ID. -/
def keysOf (l : List It) : Int → Option Int := fun id => (findId id l).map It.k
/-- The wheel at wb, of the blocks S, of that width and base, holds the items of l. -/
def WheelOf (w : World) (wb : Nat) (S : List Nat) (wd : Nat) (base : Int) (l : List It) : Prop :=
  ∃ vs ms mb, S = wown wb mb vs ∧ WheelIs w wb mb vs ms wd base (fun i => part (pl wd base) i l) (keysOf l) ∧ Lies wd base l ∧ (∀ x ∈ l, x.ok) ∧ l.length ≤ 400000 ∧ wd ≤ 40 ∧ base ≤ 18446744073709551615
section
variable {w w' : World} {wb wd : Nat} {S T : List Nat} {base : Int} {l : List It}
theorem WheelOf.only (h : WheelOf w wb S wd base l) (ho : Only T w w') (hT : ∀ b ∈ S, b ∉ T) : WheelOf w' wb S wd base l := by
  obtain ⟨vs, ms, mb, rfl, h1, h2⟩ := h
  exact ⟨vs, ms, mb, rfl, h1.only ho hT, h2⟩
theorem WheelOf.only0 (h : WheelOf w wb S wd base l) (ho : Only [] w w') : WheelOf w' wb S wd base l := h.only ho (by simp)
theorem WheelOf.lt (h : WheelOf w wb S wd base l) : ∀ b ∈ S, b < w.heap.size := by
  obtain ⟨vs, ms, mb, rfl, h1, h2⟩ := h
  exact h1.lt
theorem WheelOf.lies (h : WheelOf w wb S wd base l) : Lies wd base l := by
  obtain ⟨vs, ms, mb, rfl, h1, h2, h3, h4, h5, h6⟩ := h
  exact h2
theorem WheelOf.fit (h : WheelOf w wb S wd base l) : ∀ x ∈ l, x.ok := by
  obtain ⟨vs, ms, mb, rfl, h1, h2, h3, h4, h5, h6⟩ := h
  exact h3
theorem WheelOf.small (h : WheelOf w wb S wd base l) : l.length ≤ 400000 := by
  obtain ⟨vs, ms, mb, rfl, h1, h2, h3, h4, h5, h6⟩ := h
  exact h4
theorem WheelOf.wd40 (h : WheelOf w wb S wd base l) : wd ≤ 40 := by
  obtain ⟨vs, ms, mb, rfl, h1, h2, h3, h4, h5, h6⟩ := h
  exact h5
theorem WheelOf.bases (h : WheelOf w wb S wd base l) : 0 ≤ base ∧ base ≤ 18446744073709551615 := by
  obtain ⟨vs, ms, mb, rfl, h1, h2, h3, h4, h5, h6⟩ := h
  exact ⟨h2.b0, h6⟩
end
theorem keysOf_nil : keysOf [] = fun _ => none := rfl
theorem keysOf_some (l : List It) (id : Int) : (keysOf l id).isSome = hasId id l := by
  unfold keysOf
  rw [Option.isSome_map]
  unfold findId
  rw [Bool.eq_iff_iff, List.find?_isSome, hasId_iff]
  simp
theorem keysOf_ins {l : List It} (h : Ids l) (hr : Rises l) {y : It} (hy : ∀ x ∈ l, x.i ≠ y.i) : keysOf (ins y l) = upd (keysOf l) y.i y.k := by
  have hp := ins_perm y l
  have hi : Ids (ins y l) := by
    have : Ids (l ++ [y]) := by
      unfold Ids at h ⊢
      rw [List.map_append, List.nodup_append]
      refine ⟨h, by simp, fun a ha b hb e => ?_⟩
      simp at hb
      obtain ⟨x, hx, rfl⟩ := List.mem_map.1 ha
      exact hy x hx (e.trans hb)
    exact this.perm hp.symm
  funext id
  unfold keysOf upd
  have find : ∀ {m : List It}, Ids m → ∀ z, findId id m = some z ↔ z ∈ m ∧ z.i = id := fun {m} hm z => by
    unfold findId
    constructor
    · intro e
      exact ⟨List.mem_of_find?_eq_some e, by simpa using List.find?_some e⟩
    · rintro ⟨hz, e⟩
      cases hf : m.find? (fun x => x.i == id) with
      | none =>
        have := List.find?_eq_none.1 hf z hz
        simp [e] at this
      | some u =>
        have hu := List.mem_of_find?_eq_some hf
        have hui : u.i = id := by simpa using List.find?_some hf
        rw [hm.eq hu hz (hui.trans e.symm)]
  split
  · rename_i e
    have : findId id (ins y l) = some y := (find hi y).2 ⟨hp.symm.subset (by simp), e.symm⟩
    rw [this]; rfl
  · rename_i e
    show (findId id (ins y l)).map It.k = (findId id l).map It.k
    cases hf : findId id l with
    | none =>
      cases hg : findId id (ins y l) with
      | none => rfl
      | some u =>
        obtain ⟨h1, h2⟩ := (find hi u).1 hg
        have : u ∈ l ++ [y] := hp.subset h1
        rcases List.mem_append.1 this with h3 | h3
        · rw [(find h u).2 ⟨h3, h2⟩] at hf; cases hf
        · simp at h3; rw [h3] at h2; exact absurd h2.symm e
    | some u =>
      obtain ⟨h1, h2⟩ := (find h u).1 hf
      rw [(find hi u).2 ⟨hp.symm.subset (by simp [h1]), h2⟩]
theorem keysOf_drop {l : List It} (h : Ids l) (id : Int) : keysOf (dropId id l) = off (keysOf l) id := by
  funext q
  unfold keysOf off findId dropId
  by_cases hq : q = id
  · subst hq
    rw [if_pos rfl]
    have : (l.eraseP fun x => x.i == q).find? (fun x => x.i == q) = none := by
      rw [List.find?_eq_none]
      intro x hx hc
      simp at hc
      cases hf : hasId q l with
      | false =>
        have := (hasId_not q l).1 hf x (List.mem_of_mem_eraseP hx)
        exact this hc
      | true =>
        obtain ⟨z, hz, hzi⟩ := (hasId_iff q l).1 hf
        obtain ⟨a, l1, l2, h2, h3, h4, h5⟩ := List.exists_of_eraseP (p := fun x : It => x.i == q) hz (by simpa using hzi)
        have hx' : x ∈ l1 ++ l2 := by rw [← h5]; exact hx
        have hia : a.i = q := by simpa using h3
        rw [h4] at h
        unfold Ids at h
        have hx2 : x.i ∈ (l1 ++ l2).map It.i := List.mem_map.2 ⟨x, hx', rfl⟩
        have hn : (a :: (l1 ++ l2)).map It.i |>.Nodup := (List.perm_middle.map It.i).nodup_iff.1 h
        rw [List.map_cons, List.nodup_cons] at hn
        exact hn.1 (by rw [hia, ← hc]; exact hx2)
    rw [this]; rfl
  · rw [if_neg hq]
    congr 1
    have key : ∀ m : List It, (m.eraseP fun x => x.i == id).find? (fun x => x.i == q) = m.find? (fun x => x.i == q) := by
      intro m
      induction m with
      | nil => rfl
      | cons x m ih =>
        rw [List.eraseP_cons]
        by_cases hx : x.i = id
        · have h1 : (x.i == id) = true := by simpa using hx
          have h2 : (x.i == q) = false := by simp; omega
          rw [h1, List.find?_cons, h2]
          rfl
        · have h1 : (x.i == id) = false := by simpa using hx
          rw [h1]
          show (x :: m.eraseP _).find? _ = _
          rw [List.find?_cons, List.find?_cons, ih]
    exact key l

/-! ### the parts while the base turns -/
/-- Behind k of them. -/
def Turning (p : It → Nat) (f0 : Nat → List It) (xs : List It) (k : Nat) (f : Nat → List It) : Prop := ∀ i, Rises (f i) ∧ (f i).Perm (f0 i ++ part p i (xs.take k))
theorem Turning.step {p : It → Nat} {f0 f : Nat → List It} {xs : List It} {k : Nat} (h : Turning p f0 xs k f) (hk : k < xs.length) (hx : Ids xs) (hd : ∀ i, ∀ y ∈ f0 i, ∀ x ∈ xs, y.i ≠ x.i) :
    Turning p f0 xs (k + 1) (setN f (p (gOf xs k)) (ins (gOf xs k) (f (p (gOf xs k))))) := by
  have et : xs.take (k + 1) = xs.take k ++ [gOf xs k] := by rw [List.take_add_one, gOf_get hk, List.getElem?_eq_getElem hk]; rfl
  intro i
  have hi := h i
  by_cases e : i = p (gOf xs k)
  · rw [← e, setN_same, et]
    have hp : part p i (xs.take k ++ [gOf xs k]) = part p i (xs.take k) ++ [gOf xs k] := by unfold part; rw [List.filter_append]; simp [← e]
    refine ⟨ins_rises hi.1 fun y hy hc => ?_, ?_⟩
    · have := hi.2.subset hy
      rcases List.mem_append.1 this with h1 | h1
      · exact hd i y h1 (gOf xs k) (by rw [gOf_get hk]; exact List.getElem_mem _) hc
      · have h2 := (mem_part.1 h1).1
        obtain ⟨j, hj, rfl⟩ := List.getElem_of_mem h2
        rw [List.getElem_take] at hc
        have hjk : j < k := by simp at hj; omega
        have := hx.place (a := j) (b := k) (by omega) hk (by rw [gOf_get (by omega : j < xs.length)]; exact hc)
        omega
    · rw [hp, ← List.append_assoc]
      exact (ins_perm _ _).trans (hi.2.append_right _)
  · rw [setN_ne _ _ e, et]
    have hp : part p i (xs.take k ++ [gOf xs k]) = part p i (xs.take k) := by
      unfold part
      rw [List.filter_append]
      have : (p (gOf xs k) == i) = false := by simp; exact fun h => e h.symm
      simp [this]
    rw [hp]
    exact hi
/-- All of them laid anew: the parts by the new base. -/
theorem turned {wd : Nat} {base to : Int} {l : List It} (h : Lies wd base l) (h1 : base ≤ to) (h2 : ∀ x ∈ l, to ≤ x.k) {L : Nat} (hL : levM wd base to = (L : Int)) (hL1 : 1 ≤ L) (hL2 : L ≤ 2) {f : Nat → List It}
    (ht : Turning (pl wd to) (setN (fun i => part (pl wd base) i l) (pos wd base to) []) (part (pl wd base) (pos wd base to) l) (part (pl wd base) (pos wd base to) l).length f) : f = fun i => part (pl wd to) i l := by
  funext i
  obtain ⟨hr, hp⟩ := ht i
  rw [List.take_length] at hp
  refine Rises.eq_of_perm hr (part_rises h.rises i) (hp.trans ?_)
  have hq : ∀ x ∈ l, (pl wd base x ≠ pos wd base to → pl wd to x = pl wd base x ∧ pl wd to x ≠ pos wd base to) := fun x hx => ((pos_turn h.b0 h1 (h2 x hx) (h.near x hx)).2.2.2.2 L hL hL1 hL2).1
  generalize pos wd base to = r at *
  generalize pl wd base = p at *
  generalize pl wd to = q at *
  have e1 : setN (fun i => part p i l) r [] i = part q i (l.filter fun x => !(p x == r)) := by
    by_cases e : i = r
    · subst e
      rw [setN_same]
      symm
      rw [part_nil_iff]
      intro x hx
      obtain ⟨hx1, hx2⟩ := List.mem_filter.1 hx
      exact (hq x hx1 (by simpa using hx2)).2
    · rw [setN_ne _ _ e]
      unfold part
      rw [List.filter_filter]
      apply List.filter_congr
      intro x hx
      by_cases c : p x = r
      · have c1 : (p x == i) = false := by simp; omega
        simp [c, c1]
        omega
      · have := (hq x hx c).1
        rw [this]
        have c1 : (p x == r) = false := by simpa using c
        simp [c1]
  rw [e1]
  unfold part
  rw [List.filter_filter, List.filter_filter]
  have : ∀ m : List It, (m.filter (fun a => (q a == i) && !(p a == r)) ++ m.filter (fun a => (q a == i) && (p a == r))).Perm (m.filter fun x => q x == i) := by
    intro m
    induction m with
    | nil => exact List.Perm.refl _
    | cons x m ih =>
      simp only [List.filter_cons]
      by_cases c1 : q x = i
      · by_cases c2 : p x = r
        · simp only [c1, c2, beq_self_eq_true, Bool.not_true, Bool.and_false, Bool.true_and, if_true]
          simp only [Bool.false_eq_true, if_false]
          exact (List.perm_middle).trans (ih.cons x)
        · have c3 : (p x == r) = false := by simpa using c2
          simp only [c1, c3, beq_self_eq_true, Bool.not_false, Bool.and_true, Bool.and_false, if_true]
          simp only [Bool.false_eq_true, if_false]
          exact ih.cons x
      · have c3 : (q x == i) = false := by simpa using c1
        simp only [c3, Bool.false_and]
        simp only [Bool.false_eq_true, if_false]
        exact ih
  exact this l
end Go.Proofs.YtfgffgicfieieaaDoor
