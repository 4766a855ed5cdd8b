/-
  A queue beside the document's list of items, while no key is pushed below the last one popped.
-/
import Derived.Test.YtajhkdbldbifeaaGreatDoorQueueT
namespace Go.Proofs.YtajhkdbldbifeaaGreatDoor
set_option maxRecDepth 100000
open Go.RowKit Go.ChangeMaps Go.MapKept
set_option linter.unusedVariables false
set_option linter.unusedSimpArgs false

/-- What a queue holds while no key is pushed below the last one popped. -/
structure Late (n : Nat) (B : Nat → Int) (L : Nat → List It) (last : Int) : Prop where
  homes : Homes n L
  l0 : 0 ≤ last
  l1 : last ≤ 18446744073709551615
  low : ∀ i, i < n → B i ≤ last
  up : ∀ x ∈ mergeM L n, last ≤ x.k
  fit : ∀ x ∈ mergeM L n, x.ok
section
variable {n : Nat} {B : Nat → Int} {L : Nat → List It} {last : Int}
theorem Late.push (h : Late n B L last) (hn : 1 ≤ n) {k j : Int} (hk : last ≤ k) (hok : (It.ok ⟨k, j⟩)) (hj : 0 ≤ j) : pushB L n B ⟨k, j⟩ = !hasId j (mergeM L n) ∧ mergeM (pushL L n B ⟨k, j⟩) n = (if hasId j (mergeM L n) = true then mergeM L n else ins ⟨k, j⟩ (mergeM L n)) ∧ Late n B (pushL L n B ⟨k, j⟩) last := by
  obtain ⟨i, hi, hm, ht⟩ := home_at hj hn
  have eh : homeN j n = i := homeN_at hm
  have hb : B i ≤ k := Int.le_trans (h.low i hi) hk
  have hha := h.homes.has hi hm
  have e1 : pushB L n B ⟨k, j⟩ = !hasId j (mergeM L n) := by
    unfold pushB
    simp only [eh]
    rw [decide_eq_true hj, decide_eq_true hb, hha]
    simp
  refine ⟨e1, ?_⟩
  rcases hc : hasId j (mergeM L n) with _ | _
  · rw [hc] at e1 hha
    have e2 : pushL L n B ⟨k, j⟩ = fup L i (ins ⟨k, j⟩ (L i)) := by unfold pushL; rw [e1]; simp only [eh]; rfl
    rw [e2]
    have e3 := h.homes.merge_ins (x := ⟨k, j⟩) hi ⟨hj, hm⟩ hha.symm
    refine ⟨by rw [e3]; rfl, ⟨h.homes.ins (x := ⟨k, j⟩) hi ⟨hj, hm⟩ hha.symm, h.l0, h.l1, h.low, ?_, ?_⟩⟩
    all_goals
      intro x hx
      rw [e3] at hx
      have := (ins_perm _ _).subset hx
      rcases List.mem_append.1 this with h1 | h1
    · exact h.up x h1
    · have e : x = ⟨k, j⟩ := by simpa using h1
      rw [e]; exact hk
    · exact h.fit x h1
    · have e : x = ⟨k, j⟩ := by simpa using h1
      rw [e]; exact hok
  · rw [hc] at e1
    have e2 : pushL L n B ⟨k, j⟩ = L := by unfold pushL; rw [e1]; rfl
    rw [e2]
    exact ⟨rfl, h⟩
theorem Late.pop (h : Late n B L last) : minX L n = first (mergeM L n) ∧ minB L n = !(mergeM L n).isEmpty ∧ mergeM (popL L n) n = (mergeM L n).tail ∧ Late n (popB L n B) (popL L n) (if (mergeM L n).isEmpty then last else (first (mergeM L n)).k) := by
  rcases bestL_range L n with e | ⟨i, hi, hne, e⟩
  · obtain ⟨e1, e2, e3, e4⟩ := pop_none (B := B) e
    rw [e1, e2, e3, e4, merge_none e]
    refine ⟨rfl, rfl, rfl, ?_⟩
    exact h
  · obtain ⟨e1, e2, e3, e4⟩ := pop_some (B := B) e
    obtain ⟨f1, f2, f3⟩ := h.homes.merge_first e
    rw [e1, e2, e3, e4]
    have hx : first (L i) ∈ mergeM L n := by rw [f3]; exact List.mem_cons_self
    have hlx := h.up _ hx
    have hr := h.homes.merged
    have hfx := key_le (h.fit _ hx)
    rw [f3] at hr
    have hup := rises_up hr
    have hsub : ∀ x ∈ mergeM (fup L i (L i).tail) n, x ∈ mergeM L n := fun x hx => by rw [f3]; exact List.mem_cons_of_mem _ hx
    refine ⟨by rw [f3]; rfl, by rw [f3]; rfl, by rw [f3]; rfl, ?_⟩
    have e5 : (if (mergeM L n).isEmpty = true then last else (first (mergeM L n)).k) = (first (L i)).k := by rw [f3]; rfl
    rw [e5]
    refine ⟨h.homes.sub f1 (List.tail_sublist _), hfx.1, hfx.2, fun k hk => ?_, fun x hx => hup x hx, fun x hx => h.fit x (hsub x hx)⟩
    by_cases ek : k = i
    · subst ek; rw [fup_same]; exact Int.le_refl _
    · rw [fup_other _ _ ek]; exact Int.le_trans (h.low k hk) hlx
theorem Late.drop (h : Late n B L last) (hn : 1 ≤ n) {j : Int} (hj : 0 ≤ j) : dropF L n j = findId j (mergeM L n) ∧ mergeM (dropL L n j) n = dropId j (mergeM L n) ∧ Late n B (dropL L n j) last := by
  obtain ⟨i, hi, hm, ht⟩ := home_at hj hn
  have eh : homeN j n = i := homeN_at hm
  have e1 : dropF L n j = findId j (L i) := by unfold dropF; rw [if_pos hj, eh]
  have e2 : dropL L n j = fup L i (dropId j (L i)) := by unfold dropL; rw [if_pos hj, eh]
  obtain ⟨e3, e4⟩ := h.homes.merge_drop hi hm
  rw [e1, e2]
  refine ⟨e4.symm, e3, ⟨h.homes.drop hi j, h.l0, h.l1, h.low, fun x hx => ?_, fun x hx => ?_⟩⟩
  · rw [e3] at hx
    exact h.up x (List.eraseP_sublist.subset hx)
  · rw [e3] at hx
    exact h.fit x (List.eraseP_sublist.subset hx)
end
/-- A queue and the document's list, made within the walk that began in w. -/
structure QDuo (w wr : World) (qb : Nat) (S : List Nat) (xb : Nat) (T : List Nat) (n wd : Nat) (B : Nat → Int) (L : Nat → List It) (last : Int) : Prop where
  ours : QueueOf wr qb S n wd B L
  ref : ItemsOf Ri wr xb T (mergeM L n)
  late : Late n B L last
  dis : ∀ b ∈ S, b ∉ T
  newS : ∀ b ∈ S, w.heap.size ≤ b
  newT : ∀ b ∈ T, w.heap.size ≤ b
  only : Only [] w wr
section
variable {w wr : World} {qb xb n wd : Nat} {S T : List Nat} {B : Nat → Int} {L : Nat → List It} {last : Int}
theorem QDuo.only0 {w2 : World} (h : QDuo w wr qb S xb T n wd B L last) (ho : Only [] wr w2) : QDuo w w2 qb S xb T n wd B L last :=
  ⟨h.ours.only0 ho, h.ref.only0 ho, h.late, h.dis, h.newS, h.newT, h.only.trans' ho⟩
theorem QDuo.tab (h : QDuo w wr qb S xb T n wd B L last) (hT : Tab w) : Tab wr ∧ 0 ∉ S := ⟨hT.only0 h.only, tab_not hT h.newS⟩
/-- The list behind what was done to the queue. -/
theorem QDuo.after {w0 w1 : World} {S' : List Nat} (h : QDuo w wr qb S xb T n wd B L last) (o : Only [] wr w0) (m1 : Moved w0 S w1 S') : ItemsOf Ri w1 xb T (mergeM L n) := (h.ref.only0 o).only m1.1 (fun b hb hc => h.dis b hc hb)
/-- The queue moved, then the list. -/
theorem QDuo.mk2 {w1 w2 : World} {S' T' : List Nat} {B' : Nat → Int} {L' : Nat → List It} {last' : Int} (hp : QDuo w wr qb S xb T n wd B L last) (h1 : QueueOf w1 qb S' n wd B' L') (m1 : Moved wr S w1 S') (h2 : ItemsOf Ri w2 xb T' (mergeM L' n)) (m2 : Moved w1 T w2 T') (hl : Late n B' L' last') : QDuo w w2 qb S' xb T' n wd B' L' last' := by
  have hT1 : ∀ b ∈ T, b < wr.heap.size := hp.ref.lt
  have hST : ∀ b ∈ S', b ∉ T := fun b hb hc => by
    rcases m1.2 b hb with h | h
    · exact hp.dis b h hc
    · have := hT1 b hc; omega
  have hs := hp.only.size
  have o1 : Only [] w w1 := hp.only.trans m1.1 fun k hk => .inr (hp.newS k hk)
  refine ⟨h1.only m2.1 hST, h2, hl, fun b hb hc => ?_, fun b hb => ?_, fun b hb => ?_, o1.trans m2.1 fun k hk => .inr (hp.newT k hk)⟩
  · rcases m2.2 b hc with h | h
    · exact hST b hb h
    · have := h1.lt b hb; omega
  · rcases m1.2 b hb with h | h
    · exact hp.newS b h
    · omega
  · rcases m2.2 b hb with h | h
    · exact hp.newT b h
    · have := o1.size; omega
end
/-- The document's list, laid beside a queue. -/
theorem duo_q {w w1 : World} {qb yb n wd : Nat} {S T : List Nat} (h : QSound w w1 qb S yb T n wd (fun _ => 0) (fun _ => [])) :
    QDuo w (w1.alloc (.cells #[.slice none 0 0] 47)) qb S w1.heap.size (iown w1.heap.size (.slice none 0 0)) n wd (fun _ => 0) (fun _ => []) 0 := by
  have e : mergeM (fun _ => []) n = [] := by
    apply List.eq_nil_iff_forall_not_mem.2
    intro x hx
    obtain ⟨i, -, hi⟩ := mem_merge.1 hx
    simp at hi
  refine ⟨h.pair.ours.only0 ((Only.refl [] w1).alloc _), by rw [e]; exact items_new w1, ⟨h.homes, Int.le_refl _, by omega, fun _ _ => Int.le_refl _, fun x hx => by rw [e] at hx; simp at hx, fun x hx => by rw [e] at hx; simp at hx⟩, ?_, h.newS, ?_, h.only.alloc _⟩
  · intro b hb hc
    simp [iown, Value.ownBlock] at hc
    have := h.pair.ours.lt b hb
    omega
  · intro b hb
    simp [iown, Value.ownBlock] at hb
    subst hb
    exact h.only.size
theorem item_neqQ (x y : It) (w : World) : (binOp .neq 40 (.agg #[.int .u64 x.k, .int .i64 x.i]) (.agg #[.int .u64 y.k, .int .i64 y.i])).run Tryz.prog w = .ok (.bool (!decide (x = y))) w := by
  have u1 := Tryz.underlying3
  have a1 := Tryz.isAgg3
  have z1 := Tryz.sizeOf3
  have u2 := Tryz.underlying29
  have a2 := Tryz.isAgg29
  have z2 := Tryz.sizeOf29
  rw [run_neq_struct, show (10000 : Nat) = 9999 + 1 from rfl, run_equalIn_agg w 9999 40 _ _ item_struct item_held]
  simp only [Program.fieldsOf, Tryz.underlying40]
  go_simp
  obtain ⟨k, i⟩ := x
  obtain ⟨k', i'⟩ := y
  by_cases h1 : k = k' <;> by_cases h2 : i = i' <;> simp [h1, h2]
end Go.Proofs.YtajhkdbldbifeaaGreatDoor
