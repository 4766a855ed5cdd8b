/-
  What SfqKept's walk keeps: a scheduler alone beside two rows of packets of the walk's own; two rows more; all that waits, as numbers.
-/
import Derived.Test.YtjmnklmomdfpfaaSfqA
import Derived.Test.YtjmnklmomdfpfaaSfqK
namespace Go.Proofs.Ytjmnklmomdfpfaa
set_option maxRecDepth 100000
open Go.RowKit
set_option linter.unusedVariables false
set_option linter.unusedSimpArgs false
set_option maxRecDepth 100000

structure QOrd (w0 wr : World) (b : Nat) (S : Sq) (O : List Nat) (vi vo : Value) (I Q : List Pk) : Prop where
  one : Q1 w0 wr b S O
  ri : PRow wr vi I
  ro : PRow wr vo Q
  ni : ∀ g, vi.ownBlock = some g → w0.heap.size ≤ g ∧ g ∉ O
  no : ∀ g, vo.ownBlock = some g → w0.heap.size ≤ g ∧ g ∉ O
  ap : ∀ g, vi.ownBlock = some g → vo.ownBlock ≠ some g
section
variable {w0 wr W w' : World} {b : Nat} {S S' : Sq} {O O' : List Nat} {vi vo v2 : Value} {I Q zs : List Pk}
theorem QOrd.swap (h : QOrd w0 wr b S O vi vo I Q) : QOrd w0 wr b S O vo vi Q I := ⟨h.one, h.ro, h.ri, h.no, h.ni, fun g h1 h2 => h.ap g h2 h1⟩
theorem QOrd.only0 (h : QOrd w0 wr b S O vi vo I Q) (ho : Only [] wr w') : QOrd w0 w' b S O vi vo I Q :=
  ⟨h.one.only0 ho, h.ri.only ho (by simp), h.ro.only ho (by simp), h.ni, h.no, h.ap⟩
/-- The scheduler turned. -/
theorem QOrd.turn (h : QOrd w0 wr b S O vi vo I Q) (t : STo wr b O S' w') : ∃ O', QOrd w0 w' b S' O' vi vo I Q := by
  obtain ⟨O', h1, hw⟩ := t
  have out : ∀ {v : Value} {xs : List Pk}, PRow wr v xs → (∀ g, v.ownBlock = some g → w0.heap.size ≤ g ∧ g ∉ O) → ∀ g, v.ownBlock = some g → w0.heap.size ≤ g ∧ g ∉ O' := fun {v xs} hr hn g hg => by
    refine ⟨(hn g hg).1, fun hk => ?_⟩
    rcases hw.2 g hk with h3 | h3
    · exact (hn g hg).2 h3
    · have := hr.lt hg; omega
  exact ⟨O', ⟨h1, fun k hk => (hw.2 k hk).elim (h.one.new k) (fun h3 => Nat.le_trans h.one.only.size h3), h.one.only.trans hw.1 (fun k hk => .inr (h.one.new k hk))⟩, h.ri.only hw.1 (fun g hg => (h.ni g hg).2), h.ro.only hw.1 (fun g hg => (h.no g hg).2), out h.ri h.ni, out h.ro h.no, h.ap⟩
/-- The first row grown. -/
theorem QOrd.grow (h : QOrd w0 wr b S O vi vo I Q) (o : Only [] wr W) (hg : W.grownBy w' vi.ownBlock) (hr : PRow w' v2 zs) (hl : v2.ownBlock = vi.ownBlock ∨ v2.ownBlock = some W.heap.size) : QOrd w0 w' b S O v2 vo zs Q := by
  have ho : Only vi.ownBlock.toList wr w' := (o.mono (T := vi.ownBlock.toList) (by simp)).grown hg (fun k hk => .inl (Option.mem_toList.2 hk))
  have hno : ∀ k ∈ O, k ∉ vi.ownBlock.toList := fun k hk hk2 => (h.ni k (Option.mem_toList.1 hk2)).2 hk
  have hW := h.only0 o
  have hv : ∀ g, v2.ownBlock = some g → vi.ownBlock = some g ∨ g = W.heap.size := fun g hg => by
    rcases hl with e | e
    · exact .inl (by rw [← e]; exact hg)
    · rw [e] at hg; injection hg with hg; exact .inr hg.symm
  refine ⟨⟨h.one.of_.only ho hno, h.one.new, h.one.only.trans ho (fun k hk => .inr (h.ni k (Option.mem_toList.1 hk)).1)⟩, hr, h.ro.only ho (fun g hg hk => h.ap g (Option.mem_toList.1 hk) hg), fun g hg => ?_, h.no, fun g hg h2 => ?_⟩
  · rcases hv g hg with h3 | h3
    · exact h.ni g h3
    · subst h3
      exact ⟨hW.one.only.size, fun hk => Nat.lt_irrefl _ (hW.one.of_.lt _ hk)⟩
  · rcases hv g hg with h3 | h3
    · exact h.ap g h3 h2
    · subst h3
      exact Nat.lt_irrefl _ (hW.ro.lt h2)
theorem QOrd.growOut (h : QOrd w0 wr b S O vi vo I Q) (o : Only [] wr W) (hg : W.grownBy w' vo.ownBlock) (hr : PRow w' v2 zs) (hl : v2.ownBlock = vo.ownBlock ∨ v2.ownBlock = some W.heap.size) : QOrd w0 w' b S O vi v2 I zs :=
  (h.swap.grow o hg hr hl).swap
theorem QOrd.start (h : Q1 w0 wr b S O) : QOrd w0 wr b S O (.slice none 0 0) (.slice none 0 0) [] [] :=
  ⟨h, PRow.nil _, PRow.nil _, by simp [Value.ownBlock], by simp [Value.ownBlock], by simp [Value.ownBlock]⟩
theorem QOrd.arr (h : QOrd w0 wr b S O vi vo I Q) (x : Pk) (hx : x.ok) : Calls Try.prog 22 #[.pointer (some ⟨b, 0, none⟩), .agg #[.int .i64 x.f, .int .i64 x.l, .int .i64 x.m]] wr fun e w' => e = .returned (.int .i64 (S.arrE x)) ∧ STo wr b O (S.arr x) w' :=
  sArrive wr b S O h.one.of_ x hx
theorem QOrd.srv (h : QOrd w0 wr b S O vi vo I Q) : Calls Try.prog 19 #[.pointer (some ⟨b, 0, none⟩)] wr fun e w' => e = .returned (.tuple #[.agg #[.int .i64 S.hd.f, .int .i64 S.hd.l, .int .i64 S.hd.m], .bool S.any]) ∧ ∃ O', QOrd w0 w' b S.srv O' vi vo I Q :=
  (sServe wr b S O h.one.of_).mono fun e w' q => ⟨q.1, h.turn q.2⟩
theorem QSnd.one {c : Nat} {P : List Nat} (h : QSnd w0 wr b c S O P) : Q1 w0 wr b S O := ⟨h.duo.fl, fun k hk => h.new k (by simp [hk]), h.only⟩
end

/-- Two rows more, beside a world that stays. -/
structure QAB (W wr : World) (va vb : Value) (A B : List Pk) : Prop where
  ra : PRow wr va A
  rb : PRow wr vb B
  na : ∀ g, va.ownBlock = some g → W.heap.size ≤ g
  nb : ∀ g, vb.ownBlock = some g → W.heap.size ≤ g
  ap : ∀ g, va.ownBlock = some g → vb.ownBlock ≠ some g
  only : Only [] W wr
section
variable {W wr U w' : World} {va vb v2 : Value} {A B zs : List Pk}
theorem QAB.swap (h : QAB W wr va vb A B) : QAB W wr vb va B A := ⟨h.rb, h.ra, h.nb, h.na, fun g h1 h2 => h.ap g h2 h1, h.only⟩
theorem QAB.only0 (h : QAB W wr va vb A B) (ho : Only [] wr w') : QAB W w' va vb A B := ⟨h.ra.only ho (by simp), h.rb.only ho (by simp), h.na, h.nb, h.ap, h.only.trans' ho⟩
theorem QAB.grow (h : QAB W wr va vb A B) (o : Only [] wr U) (hg : U.grownBy w' va.ownBlock) (hr : PRow w' v2 zs) (hl : v2.ownBlock = va.ownBlock ∨ v2.ownBlock = some U.heap.size) : QAB W w' v2 vb zs B := by
  have ho : Only va.ownBlock.toList wr w' := (o.mono (T := va.ownBlock.toList) (by simp)).grown hg (fun k hk => .inl (Option.mem_toList.2 hk))
  have hU := h.only0 o
  have hv : ∀ g, v2.ownBlock = some g → va.ownBlock = some g ∨ g = U.heap.size := fun g hg => by
    rcases hl with e | e
    · exact .inl (by rw [← e]; exact hg)
    · rw [e] at hg; injection hg with hg; exact .inr hg.symm
  refine ⟨hr, h.rb.only ho (fun g hg hk => h.ap g (Option.mem_toList.1 hk) hg), fun g hg => ?_, h.nb, fun g hg h2 => ?_, h.only.trans ho (fun k hk => .inr (h.na k (Option.mem_toList.1 hk)))⟩
  · rcases hv g hg with h3 | h3
    · exact h.na g h3
    · subst h3
      exact hU.only.size
  · rcases hv g hg with h3 | h3
    · exact h.ap g h3 h2
    · subst h3
      exact Nat.lt_irrefl _ (hU.rb.lt h2)
theorem QAB.growOut (h : QAB W wr va vb A B) (o : Only [] wr U) (hg : U.grownBy w' vb.ownBlock) (hr : PRow w' v2 zs) (hl : v2.ownBlock = vb.ownBlock ∨ v2.ownBlock = some U.heap.size) : QAB W w' va v2 A zs :=
  (h.swap.grow o hg hr hl).swap
theorem QAB.start {W : World} : QAB W W (.slice none 0 0) (.slice none 0 0) [] [] :=
  ⟨PRow.nil _, PRow.nil _, by simp [Value.ownBlock], by simp [Value.ownBlock], by simp [Value.ownBlock], Only.refl _ _⟩
end

/-! ### all that waits -/
theorem Fl.arr_full {F : Fl} (h : F.takes = false) (v : Int) (x : Pk) : F.arr v x = F := by
  unfold Fl.takes at h
  unfold Fl.arr
  rw [if_pos (by simpa using h)]
theorem Fl.arr_in {F : Fl} (h : F.takes = true) (v : Int) (x : Pk) : F.arr v x = ⟨F.r, F.n, if F.l = [] then max v F.e else F.s, F.e, F.l ++ [x]⟩ := by
  unfold Fl.takes at h
  unfold Fl.arr
  rw [if_neg (by simpa using h)]
theorem Fl.srv_cons {F : Fl} {x : Pk} {t : List Pk} (h : F.l = x :: t) : F.srv = ⟨F.r, F.n, F.fin, F.fin, t⟩ := by unfold Fl.srv; rw [if_neg (by rw [h]; simp), h]; rfl
def allK (K : List (Int × Fl)) : List Pk := K.flatMap (·.2.l)
def fil (f : Int) (xs : List Pk) : List Pk := xs.filter fun x => decide (x.f = f)
theorem allK_append (A B : List (Int × Fl)) : allK (A ++ B) = allK A ++ allK B := by unfold allK; rw [List.flatMap_append]
theorem allK_cons (e : Int × Fl) (B : List (Int × Fl)) : allK (e :: B) = e.2.l ++ allK B := by unfold allK; rw [List.flatMap_cons]
theorem fil_append (f : Int) (A B : List Pk) : fil f (A ++ B) = fil f A ++ fil f B := by unfold fil; rw [List.filter_append]
theorem fil_cons (f : Int) (x : Pk) (B : List Pk) : fil f (x :: B) = (if x.f = f then [x] else []) ++ fil f B := by
  unfold fil
  rw [List.filter_cons]
  by_cases h : x.f = f
  · simp [h]
  · simp [h]
theorem fil_nil (f : Int) : fil f [] = [] := rfl
theorem fil_none {f : Int} {xs : List Pk} (h : ∀ x ∈ xs, x.f ≠ f) : fil f xs = [] := by
  unfold fil
  rw [List.filter_eq_nil_iff]
  intro x hx
  simp [h x hx]
theorem fil_len (f : Int) (xs : List Pk) : (fil f xs).length ≤ xs.length := List.length_filter_le _ _
theorem fil_step (f : Int) {xs : List Pk} {k : Nat} (hk : k < xs.length) : fil f (xs.take (k + 1)) = fil f (xs.take k) ++ (if (pOf xs k).f = f then [pOf xs k] else []) := by
  rw [List.take_succ_eq_append_getElem hk, fil_append, fil_cons, fil_nil, List.append_nil, pOf_get hk]
theorem splitK {K : List (Int × Fl)} (h : Srt K) {i : Nat} {id : Int} {F : Fl} (hi : K[i]? = some (id, F)) : ∃ K1 K2, K = K1 ++ (id, F) :: K2 ∧ (∀ g, updK K id g = K1 ++ (id, g F) :: K2) ∧ (∀ e ∈ K1, e.1 ≠ id) ∧ (∀ e ∈ K2, e.1 ≠ id) := by
  obtain ⟨K1, K2, e⟩ := List.append_of_mem (List.mem_of_getElem? hi)
  have hp := h
  unfold Srt at hp
  rw [e] at hp
  obtain ⟨p1, p2, p3⟩ := List.pairwise_append.1 hp
  obtain ⟨p4, p5⟩ := List.pairwise_cons.1 p2
  have h1 : ∀ e ∈ K1, e.1 ≠ id := fun x hx => by have := p3 x hx (id, F) (by simp); simp at this; omega
  have h2 : ∀ e ∈ K2, e.1 ≠ id := fun x hx => by have := p4 x hx; simp at this; omega
  refine ⟨K1, K2, e, fun g => ?_, h1, h2⟩
  have hm : ∀ L : List (Int × Fl), (∀ e ∈ L, e.1 ≠ id) → L.map (fun e => if e.1 = id then (e.1, g e.2) else e) = L := fun L hL => by
    conv => rhs; rw [← List.map_id L]
    apply List.map_congr_left
    intro x hx
    rw [if_neg (hL x hx)]; rfl
  rw [e]
  unfold updK
  rw [List.map_append, List.map_cons, hm K1 h1, hm K2 h2, if_pos rfl]
/-- What came and what was told: of each flow what came is what was told and what waits. -/
structure Kp (S : Sq) (I Q : List Pk) : Prop where
  pf : Pf S
  eq : ∀ f, fil f I = fil f Q ++ fil f (allK S.l)
  len : I.length = Q.length + (allK S.l).length
theorem none_of {S : Sq} (h : Pf S) {L : List (Int × Fl)} (hL : ∀ e ∈ L, e ∈ S.l) {id : Int} (hn : ∀ e ∈ L, e.1 ≠ id) : fil id (allK L) = [] := by
  apply fil_none
  intro x hx
  unfold allK at hx
  rw [List.mem_flatMap] at hx
  obtain ⟨e, he, hxe⟩ := hx
  rw [h e (hL e he) x hxe]
  exact hn e he
theorem Kp.arr {S : Sq} {I Q : List Pk} (h : Kp S I Q) (hok : S.ok) (x : Pk) : (S.arrE x = 0 ∧ Kp (S.arr x) (I ++ [x]) Q) ∨ (S.arrE x ≠ 0 ∧ Kp (S.arr x) I Q) := by
  rcases hh : hasK S.l x.f with _ | _
  · refine .inr ⟨by unfold Sq.arrE; rw [hh]; simp, h.pf.arr x, ?_, ?_⟩
    · have hl : (S.arr x).l = S.l := updK_none hh (fun F => F.arr S.v x)
      rw [hl]; exact h.eq
    · have hl : (S.arr x).l = S.l := updK_none hh (fun F => F.arr S.v x)
      rw [hl]; exact h.len
  · obtain ⟨i, F, hi⟩ := hasK_some hh
    obtain ⟨K1, K2, e, hu, n1, n2⟩ := splitK hok.srt hi
    have hE : S.arrE x = if F.takes then 0 else 9 := by unfold Sq.arrE; rw [hh, getK_is hok.srt hi]; rfl
    have hl : (S.arr x).l = K1 ++ (x.f, F.arr S.v x) :: K2 := hu (fun F => F.arr S.v x)
    have z2 := none_of h.pf (L := K2) (fun d hd => by rw [e]; simp [hd]) n2
    rcases ht : F.takes with _ | _
    · refine .inr ⟨by rw [hE, ht]; simp, h.pf.arr x, ?_, ?_⟩
      · rw [hl, Fl.arr_full ht, ← e]; exact h.eq
      · rw [hl, Fl.arr_full ht, ← e]; exact h.len
    · refine .inl ⟨by rw [hE, ht]; simp, h.pf.arr x, fun f => ?_, ?_⟩
      · have h1 := h.eq f
        rw [hl, Fl.arr_in ht]
        rw [e] at h1
        simp only [allK_append, allK_cons, fil_append, fil_cons, fil_nil, List.append_nil, List.append_assoc] at h1 ⊢
        rw [h1]
        by_cases hf : x.f = f
        · subst hf
          rw [z2, if_pos rfl]
          simp
        · rw [if_neg hf]
          simp
      · have h1 := h.len
        rw [hl, Fl.arr_in ht]
        rw [e] at h1
        simp only [allK_append, allK_cons, List.length_append, List.length_cons, List.length_nil] at h1 ⊢
        omega
theorem allK_nil {S : Sq} (hs : startsK S.l = []) : allK S.l = [] := by
  unfold allK
  rw [List.flatMap_eq_nil_iff]
  intro d hd
  rcases ha : d.2.any with _ | _
  · unfold Fl.any at ha
    simpa using ha
  · have := (startsK_perm S.l).symm.subset (itemsK_mem.2 ⟨d, hd, ha, rfl⟩)
    rw [hs] at this; cases this
theorem Kp.srv {S : Sq} {I Q : List Pk} (h : Kp S I Q) (hok : S.ok) : (S.any = true ∧ Kp S.srv I (Q ++ [S.hd]) ∧ (allK S.srv.l).length + 1 = (allK S.l).length) ∨ (S.any = false ∧ Kp S.srv I Q ∧ allK S.srv.l = [] ∧ allK S.l = []) := by
  rcases hs : startsK S.l with _ | ⟨y, t⟩
  · have hl : S.srv.l = S.l := by unfold Sq.srv; rw [hs]
    refine .inr ⟨by unfold Sq.any; rw [hs]; rfl, ⟨h.pf.srv hok, ?_, ?_⟩, by rw [hl]; exact allK_nil hs, allK_nil hs⟩
    · rw [hl]; exact h.eq
    · rw [hl]; exact h.len
  · obtain ⟨i, F, hi, ha, hk, hF, _⟩ := hok.starts (x := y) (by rw [hs]; simp)
    obtain ⟨K1, K2, e, hu, n1, n2⟩ := splitK hok.srt hi
    have hl : S.srv.l = K1 ++ (y.i, F.srv) :: K2 := by unfold Sq.srv; rw [hs]; exact hu Fl.srv
    have z1 := none_of h.pf (L := K1) (fun d hd => by rw [e]; simp [hd]) n1
    obtain ⟨a, r, hr⟩ : ∃ a r, F.l = a :: r := by
      rcases hr : F.l with _ | ⟨a, r⟩
      · exact absurd hr ((any_iff _).1 ha)
      · exact ⟨a, r, rfl⟩
    have hhd : S.hd = a := by
      unfold Sq.hd
      rw [hs]
      show (getK S.l y.i).hd = a
      rw [getK_is hok.srt hi]
      unfold Fl.hd
      rw [hr]; rfl
    have hsr : F.srv.l = r := by rw [Fl.srv_cons hr]
    have haf : a.f = y.i := h.pf _ (List.mem_of_getElem? hi) a (by rw [hr]; simp)
    refine .inl ⟨by unfold Sq.any; rw [hs]; rfl, ⟨h.pf.srv hok, fun f => ?_, ?_⟩, ?_⟩
    · have h1 := h.eq f
      rw [hl, hhd]
      rw [e] at h1
      simp only [allK_append, allK_cons, fil_append, fil_cons, fil_nil, List.append_nil, List.append_assoc, hsr, hr, List.cons_append] at h1 ⊢
      rw [h1]
      by_cases hf : a.f = f
      · rw [← hf, haf, z1, if_pos rfl]
        simp
      · rw [if_neg hf]
        simp
    · have h1 := h.len
      rw [hl]
      rw [e] at h1
      simp only [allK_append, allK_cons, List.length_append, List.length_cons, List.length_nil, hsr, hr] at h1 ⊢
      omega
    · rw [hl, e]
      simp only [allK_append, allK_cons, List.length_append, List.length_cons, hsr, hr]
      omega
/-- Nothing is left. -/
theorem Kp.done {S : Sq} {I Q : List Pk} (h : Kp S I Q) (h0 : (allK S.l).length = 0) : startsK S.l = [] ∧ I.length = Q.length ∧ ∀ f, fil f I = fil f Q := by
  have hn : allK S.l = [] := List.eq_nil_of_length_eq_zero h0
  refine ⟨startsK_none fun d hd => ?_, by rw [h.len, hn]; rfl, fun f => by rw [h.eq f, hn, fil_nil, List.append_nil]⟩
  unfold allK at hn
  rw [List.flatMap_eq_nil_iff] at hn
  unfold Fl.any
  rw [hn d hd]; rfl
theorem Kp.some : Kp someS [] [] := by
  have hp : Pf someS := (((Pf.new.add _ _ _).add _ _ _).add _ _ _).add _ _ _
  have hn : allK someS.l = [] := by decide
  exact ⟨hp, fun f => by rw [hn]; rfl, by rw [hn]; rfl⟩
end Go.Proofs.Ytjmnklmomdfpfaa
