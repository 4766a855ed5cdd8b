/-
  race.First.
-/
import Derived.Test.YtmgmfihjojhilaaRcI
namespace Go.Proofs.Ytmgmfihjojhilaa
set_option maxRecDepth 100000
open Go.RowKit
set_option linter.unusedVariables false
set_option linter.unusedSimpArgs false
set_option maxRecDepth 100000

/-- What First keeps of each location: the latest of equal events, each location's in a row of its own. -/
structure FL (W1 wr : World) (l : Nat → Ev) (f : Lc → Option Sl) (j : Nat) : Prop where
  only : Only [] W1 wr
  map : MapL wr W1.heap.size f
  rows : ∀ q, iE.Row wr (.slice ((f q).getD Sl.nil).A ((f q).getD Sl.nil).n ((f q).getD Sl.nil).c) (natI (nearI l q j))
  new : ∀ q g, (Value.slice ((f q).getD Sl.nil).A ((f q).getD Sl.nil).n ((f q).getD Sl.nil).c).ownBlock = some g → W1.heap.size < g
  ap : ∀ q q' g, q ≠ q' → (Value.slice ((f q).getD Sl.nil).A ((f q).getD Sl.nil).n ((f q).getD Sl.nil).c).ownBlock = some g → (Value.slice ((f q').getD Sl.nil).A ((f q').getD Sl.nil).n ((f q').getD Sl.nil).c).ownBlock ≠ some g
section
variable {W1 wr u v : World} {l : Nat → Ev} {f : Lc → Option Sl} {j : Nat}
theorem FL.only0 (h : FL W1 wr l f j) (ho : Only [] wr u) : FL W1 u l f j := ⟨h.only.trans' ho, h.map.only ho (by simp), fun q => (h.rows q).only0 ho, h.new, h.ap⟩
theorem FL.start (W1 : World) (l : Nat → Ev) : FL W1 (W1.alloc (.map #[] 0)) l (fun _ => none) 0 :=
  ⟨(Only.refl [] W1).alloc _, MapL.made W1, fun q => El.Row.nil _, fun q g hg => by simp [Sl.nil, Value.ownBlock] at hg, fun q q' g _ hg => by simp [Sl.nil, Value.ownBlock] at hg⟩
theorem FL.next (h : FL W1 wr l f j) {s : Sl} (ho : Only ((Value.slice ((f (l j).lc).getD Sl.nil).A ((f (l j).lc).getD Sl.nil).n ((f (l j).lc).getD Sl.nil).c).ownBlock.toList) wr u) (hr : iE.Row u (.slice s.A s.n s.c) (natI ((nearI l (l j).lc j).filter (fun i => !decide (l i = l j)) ++ [j])))
    (hs : (Value.slice s.A s.n s.c).ownBlock = (Value.slice ((f (l j).lc).getD Sl.nil).A ((f (l j).lc).getD Sl.nil).n ((f (l j).lc).getD Sl.nil).c).ownBlock ∨ ∃ g, (Value.slice s.A s.n s.c).ownBlock = some g ∧ wr.heap.size ≤ g)
    (hm : MapL v W1.heap.size (updL f (l j).lc s)) (hv : Only [W1.heap.size] u v) : FL W1 v l (updL f (l j).lc s) (j + 1) := by
  have hmlt := h.map.lt
  have own : ∀ q g, (Value.slice (((updL f (l j).lc s) q).getD Sl.nil).A (((updL f (l j).lc s) q).getD Sl.nil).n (((updL f (l j).lc s) q).getD Sl.nil).c).ownBlock = some g → (q = (l j).lc ∧ (Value.slice s.A s.n s.c).ownBlock = some g) ∨ (q ≠ (l j).lc ∧ (Value.slice ((f q).getD Sl.nil).A ((f q).getD Sl.nil).n ((f q).getD Sl.nil).c).ownBlock = some g) := fun q g hg => by
    unfold updL at hg
    split at hg
    · rename_i e; exact .inl ⟨e, hg⟩
    · rename_i e; exact .inr ⟨e, hg⟩
  refine ⟨?_, hm, fun q => ?_, fun q g hg => ?_, fun q q' g hne hg hg' => ?_⟩
  · refine (h.only.trans ho (fun k hk => .inr ?_)).trans hv (fun k hk => .inr (by simp at hk; omega))
    have := h.new (l j).lc k (by simpa using hk)
    omega
  · unfold updL
    by_cases e : q = (l j).lc
    · rw [if_pos e, e]
      simp only [nearI]
      exact hr.only hv (fun g hg => by
        rcases hs with hs | ⟨g', hs, hge⟩
        · have := h.new _ g (hs ▸ hg); simp; omega
        · rw [hs] at hg; injection hg with hg; simp; omega)
    · rw [if_neg e]
      simp only [nearI]
      rw [if_neg (fun h2 => e h2.symm)]
      exact ((h.rows q).only ho (fun g hg hk => h.ap q _ g e hg (by simpa using hk))).only hv (fun g hg => by have := h.new q g hg; simp; omega)
  · rcases own q g hg with ⟨_, h2⟩ | ⟨_, h2⟩
    · rcases hs with hs | ⟨g', hs, hge⟩
      · exact h.new _ g (hs ▸ h2)
      · rw [hs] at h2; injection h2 with h2; omega
    · exact h.new q g h2
  · rcases own q g hg with ⟨e1, h2⟩ | ⟨e1, h2⟩ <;> rcases own q' g hg' with ⟨e3, h4⟩ | ⟨e3, h4⟩
    · exact hne (e1.trans e3.symm)
    · rcases hs with hs | ⟨g', hs, hge⟩
      · exact h.ap _ q' g (fun e => e3 e.symm) (hs ▸ h2) h4
      · rw [hs] at h2
        injection h2 with h2
        have := (h.rows q').lt h4
        omega
    · rcases hs with hs | ⟨g', hs, hge⟩
      · exact h.ap q _ g e1 h2 (hs ▸ h4)
      · rw [hs] at h4
        injection h4 with h4
        have := (h.rows q).lt h2
        omega
    · exact h.ap q q' g hne h2 h4
end
/-- The first two that race; none where the events may not be. -/
def FirstL (xs : List Ev) (a b : Int) (ok : Bool) : Prop := (okL xs = true ∧ FirstIs (evs xs) xs.length a b ok) ∨ (okL xs = false ∧ a = 0 ∧ b = 0 ∧ ok = false)
theorem FirstL.is (xs : List Ev) : ∃ a b ok, FirstL xs a b ok := by
  rcases h : okL xs
  · exact ⟨0, 0, false, .inr ⟨h, rfl, rfl, rfl⟩⟩
  · obtain ⟨a, b, ok, hF⟩ := FirstIs.is (evs xs) xs.length
    exact ⟨a, b, ok, .inl ⟨h, hF⟩⟩
set_option maxHeartbeats 1000000 in
theorem cFirstNo (A : Option Addr) (m c : Nat) (xs : List Ev) (w : World) (hm : xs.length = m) (hb : m ≤ 100) (h : Evs w A xs) (hok : okL xs = false) :
    Calls Try.prog 12 #[.slice A m c] w fun e w' => e = .returned (.tuple #[.int .i64 0, .int .i64 0, .bool false]) ∧ Only [] w w' := by
  have k := Lib.hid (fun (W : World) (o : Only [] w W) => cClocksNo A m c xs W hm hb (h.only0 o) hok)
  have OB : Hid (∀ o, Only [] w (w.alloc o)) := fun o => (Only.refl [] w).alloc o
  have OC : Hid (∀ (W : World) o1 o2, Only [] w W → Only [] w ((W.alloc o1).alloc o2)) := fun W o1 o2 o => (o.alloc o1).alloc o2
  have hmm := run_mkmap
  clear hok h hm
  go_enter Try.func12, Try.ntmps12
  go_wp2_with fail
  refine (k.out _ (OB.out _)).mono ?_
  rintro e w1 ⟨rfl, o1⟩
  have O1 : Hid (Only [] w w1) := (OB.out _).trans' o1
  clear k o1
  go_wp2_with fail
  go_loopg [15] 1 (fun gk si wr => si = .int .i64 0 ∧ Hid (Only [] w wr))
  case atStart => exact ⟨rfl, OC.out _ _ _ O1.out⟩
  case round =>
    obtain ⟨rfl, O⟩ := hrel
    go_wp2_with fail
    refine bodyPost_ret (v := .tuple #[.int .i64 0, .int .i64 0, .bool false]) ?_ rfl ?_
    · simp [results, Try.f12, go_sem]
    · exact ⟨rfl, O.out⟩
end Go.Proofs.Ytmgmfihjojhilaa
