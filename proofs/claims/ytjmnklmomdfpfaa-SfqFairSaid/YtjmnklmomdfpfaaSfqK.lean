/-
  What follows, as numbers: no start is below v; each packet is of its flow.
-/
import Derived.Test.YtjmnklmomdfpfaaSfqHS
namespace Go.Proofs.Ytjmnklmomdfpfaa
set_option maxRecDepth 100000
set_option linter.unusedVariables false
set_option linter.unusedSimpArgs false

theorem delK_mem {K : List (Int × Fl)} {id : Int} {x : Int × Fl} (h : x ∈ delK K id) : x ∈ K := List.mem_of_mem_eraseIdx h
theorem srv_mem {S : Sq} (hok : S.ok) {x : Int × Fl} (hx : x ∈ S.srv.l) : x ∈ S.l ∨ ∃ (i : Nat) (F : Fl) (t : List It), S.l[i]? = some (x.1, F) ∧ F.any = true ∧ startsK S.l = itemK (x.1, F) :: t ∧ x.2 = F.srv := by
  unfold Sq.srv at hx
  rcases hs : startsK S.l with _ | ⟨y, t⟩
  · rw [hs] at hx
    exact .inl hx
  · rw [hs] at hx
    change x ∈ updK S.l y.i Fl.srv at hx
    rcases updK_mem hx with h1 | ⟨e, he, e1, rfl⟩
    · exact .inl h1
    · obtain ⟨i, F, hi, ha, hk, _⟩ := hok.starts (x := y) (by rw [hs]; simp)
      obtain ⟨j, hj⟩ := List.getElem?_of_mem he
      have hij := hok.srt.inj hi hj e1.symm
      subst hij
      rw [hi] at hj
      injection hj with hj
      subst hj
      refine .inr ⟨i, F, t, hi, ha, ?_, rfl⟩
      show y :: t = itemK (y.i, F) :: t
      unfold itemK
      simp only
      rw [← hk]
/-- No start is below v. -/
def Rz (S : Sq) : Prop := ∀ e ∈ S.l, e.2.any = true → S.v ≤ e.2.s
/-- Each packet is of its flow. -/
def Pf (S : Sq) : Prop := ∀ e ∈ S.l, ∀ x ∈ e.2.l, x.f = e.1
theorem any_iff (F : Fl) : F.any = true ↔ F.l ≠ [] := by unfold Fl.any; cases F.l <;> simp
theorem fin_ge {F : Fl} (h : F.ok) : F.s ≤ F.fin := by
  unfold Fl.fin
  have h1 := cost_word F.hd.l F.r h.r
  have hs := h.s
  unfold addM
  unfold U64 at *
  split <;> omega
theorem Rz.new : Rz Sq.new := by intro e he; simp [Sq.new] at he
theorem Pf.new : Pf Sq.new := by intro e he; simp [Sq.new] at he
theorem Rz.add {S : Sq} (h : Rz S) (id r : Int) (n : Nat) : Rz (S.add id r n) := by
  unfold Sq.add
  split
  · exact h
  · intro e he ha
    rcases insK_mem.1 he with rfl | he
    · simp [Fl.new, Fl.any] at ha
    · exact h e he ha
theorem Pf.add {S : Sq} (h : Pf S) (id r : Int) (n : Nat) : Pf (S.add id r n) := by
  unfold Sq.add
  split
  · exact h
  · intro e he x hx
    rcases insK_mem.1 he with rfl | he
    · simp [Fl.new] at hx
    · exact h e he x hx
theorem Rz.rem {S : Sq} (h : Rz S) (id : Int) : Rz (S.rem id) := by
  unfold Sq.rem
  split
  · intro e he ha; exact h e (delK_mem he) ha
  · exact h
theorem Pf.rem {S : Sq} (h : Pf S) (id : Int) : Pf (S.rem id) := by
  unfold Sq.rem
  split
  · intro e he x hx; exact h e (delK_mem he) x hx
  · exact h
theorem Rz.arr {S : Sq} (h : Rz S) (p : Pk) : Rz (S.arr p) := by
  intro e he ha
  show S.v ≤ e.2.s
  rcases updK_mem (show e ∈ updK S.l p.f (fun F => F.arr S.v p) from he) with h1 | ⟨d, hd, e1, rfl⟩
  · exact h e h1 ha
  · show S.v ≤ (d.2.arr S.v p).s
    unfold Fl.arr
    split
    · rename_i hf
      refine h d hd ?_
      have : (d.2.arr S.v p).any = true := ha
      unfold Fl.arr at this
      rw [if_pos hf] at this
      exact this
    · show S.v ≤ if d.2.l = [] then max S.v d.2.e else d.2.s
      split
      · omega
      · rename_i hne
        exact h d hd ((any_iff _).2 hne)
theorem Pf.arr {S : Sq} (h : Pf S) (p : Pk) : Pf (S.arr p) := by
  intro e he x hx
  rcases updK_mem (show e ∈ updK S.l p.f (fun F => F.arr S.v p) from he) with h1 | ⟨d, hd, e1, rfl⟩
  · exact h e h1 x hx
  · have hx' : x ∈ (d.2.arr S.v p).l := hx
    unfold Fl.arr at hx'
    split at hx'
    · rw [← e1]; exact h d hd x hx'
    · rcases List.mem_append.1 hx' with h2 | h2
      · rw [← e1]; exact h d hd x h2
      · simp at h2; rw [h2]
theorem Rz.srv {S : Sq} (h : Rz S) (hok : S.ok) : Rz S.srv ∧ S.v ≤ S.srv.v ∧ S.m ≤ S.srv.m := by
  rcases hs : startsK S.l with _ | ⟨y, t⟩
  · have hn : ∀ d ∈ S.l, d.2.any = false := fun d hd => by
      rcases ha : d.2.any with _ | _
      · rfl
      · have := (startsK_perm S.l).symm.subset (itemsK_mem.2 ⟨d, hd, ha, rfl⟩)
        rw [hs] at this; cases this
    rw [(Sq.srv_none hn).1]
    refine ⟨fun e he ha => ?_, ?_, Int.le_refl _⟩
    · rw [hn e he] at ha; cases ha
    · show S.v ≤ max S.v S.m
      omega
  · obtain ⟨i, F, hi, ha, hk, hF, _⟩ := hok.starts (x := y) (by rw [hs]; simp)
    have hv : S.srv.v = y.k := by unfold Sq.srv; rw [hs]
    have hm : S.srv.m = max S.m F.fin := by unfold Sq.srv; rw [hs]; show max S.m (getK S.l y.i).fin = _; rw [getK_is hok.srt hi]
    have hge : S.v ≤ y.k := by rw [hk]; exact h _ (List.mem_of_getElem? hi) ha
    refine ⟨fun e he hea => ?_, by rw [hv]; exact hge, by rw [hm]; omega⟩
    rw [hv]
    rcases srv_mem hok he with h1 | ⟨j, G, t', hj, hga, hst, e2⟩
    · have hm1 : itemK e ∈ startsK S.l := (startsK_perm S.l).symm.subset (itemsK_mem.2 ⟨e, h1, hea, rfl⟩)
      have hr := startsK_rises hok.srt
      rw [hs] at hm1 hr
      rcases List.mem_cons.1 hm1 with e3 | hm1
      · rw [← e3]; exact Int.le_refl _
      · have := (List.pairwise_cons.1 hr).1 _ hm1
        rw [It.lt_iff] at this
        simp only [itemK] at this
        omega
    · rw [hs] at hst
      injection hst with e3 _
      have hGok := (hok.wf _ (List.mem_of_getElem? hj)).2
      have : e.2.s = G.fin := by
        rw [e2]
        unfold Fl.srv
        rw [if_neg ((any_iff _).1 hga)]
      rw [this, e3]
      exact fin_ge hGok
theorem Pf.srv {S : Sq} (h : Pf S) (hok : S.ok) : Pf S.srv := by
  intro e he x hx
  rcases srv_mem hok he with h1 | ⟨j, G, t', hj, hga, hst, e2⟩
  · exact h e h1 x hx
  · rw [e2] at hx
    unfold Fl.srv at hx
    rw [if_neg ((any_iff _).1 hga)] at hx
    exact h _ (List.mem_of_getElem? hj) x (List.mem_of_mem_tail hx)
theorem Rz.act {S : Sq} (h : Rz S) (hok : S.ok) (a : Ax) : Rz (a.act S) ∧ S.v ≤ (a.act S).v ∧ S.m ≤ (a.act S).m := by
  unfold Ax.act
  split
  · exact ⟨h.add _ _ _, by unfold Sq.add; split <;> exact Int.le_refl _, by unfold Sq.add; split <;> exact Int.le_refl _⟩
  · split
    · exact ⟨h.rem _, by unfold Sq.rem; split <;> exact Int.le_refl _, by unfold Sq.rem; split <;> exact Int.le_refl _⟩
    · split
      · exact ⟨h.arr _, Int.le_refl _, Int.le_refl _⟩
      · exact h.srv hok
theorem Pf.act {S : Sq} (h : Pf S) (hok : S.ok) (a : Ax) : Pf (a.act S) := by
  unfold Ax.act
  split
  · exact h.add _ _ _
  · split
    · exact h.rem _
    · split
      · exact h.arr _
      · exact h.srv hok
theorem Rz.starts {S : Sq} (h : Rz S) {x : It} (hx : x ∈ startsK S.l) : S.v ≤ x.k := by
  obtain ⟨e, he, ha, rfl⟩ := itemsK_mem.1 ((startsK_perm S.l).subset hx)
  exact h e he ha
/-- What a Serve tells. -/
theorem served {S : Sq} (hp : Pf S) (hok : S.ok) {x : It} {t : List It} (hs : startsK S.l = x :: t) : S.any = true ∧ S.hd.f = x.i ∧ S.srv.v = x.k := by
  obtain ⟨i, F, hi, ha, hk, hF, _⟩ := hok.starts (x := x) (by rw [hs]; simp)
  refine ⟨by unfold Sq.any; rw [hs]; rfl, ?_, by unfold Sq.srv; rw [hs]⟩
  unfold Sq.hd
  rw [hs]
  show (getK S.l x.i).hd.f = x.i
  rw [getK_is hok.srt hi]
  unfold Fl.hd
  rcases hl : F.l with _ | ⟨y, r⟩
  · exact absurd hl ((any_iff _).1 ha)
  · exact hp _ (List.mem_of_getElem? hi) y (by rw [hl]; simp)
theorem unserved {S : Sq} (hs : startsK S.l = []) : S.any = false ∧ S.srv.v = max S.v S.m := ⟨by unfold Sq.any; rw [hs]; rfl, by unfold Sq.srv; rw [hs]⟩
end Go.Proofs.Ytjmnklmomdfpfaa
