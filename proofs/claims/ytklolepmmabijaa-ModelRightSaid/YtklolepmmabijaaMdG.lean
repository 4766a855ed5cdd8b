/-
  What is refused changes nothing; flows of one shard; plain lists.
-/
import Derived.Test.YtklolepmmabijaaMdA
namespace Go.Proofs.Ytklolepmmabijaa
set_option maxRecDepth 100000
open Go.RowKit
set_option linter.unusedVariables false
set_option linter.unusedSimpArgs false

/-! ### what is refused -/
theorem Md.bat_cases (M : Md) : ∀ p, ((M.bat p).2.e = 0 ∧ (M.bat p).2.ps.length = p) ∨ ((M.bat p).2.e ≠ 0 ∧ ((M.bat p).2.ps = [] → (M.bat p).1 = M.one ∧ M.S.any = false ∧ (M.bat p).2.e = 10))
  | 0 => .inl ⟨rfl, rfl⟩
  | p + 1 => by
    rcases Md.bat_cases M p with ⟨h1, h2⟩ | ⟨h1, h2⟩
    · rw [M.bat_succ h1]
      rcases ha : (M.bat p).1.S.any with _ | _
      · have e : (M.bat p).1.oneR = Rt.code 10 := by unfold Md.oneR; rw [ha]; rfl
        rw [e]
        refine .inr ⟨by simp [Rt.code], fun hp => ?_⟩
        simp [Rt.code] at hp
        have h0 : p = 0 := by rw [← h2, hp]; rfl
        subst h0
        exact ⟨rfl, ha, rfl⟩
      · have e : (M.bat p).1.oneR = ⟨0, [(M.bat p).1.S.hd], 0, 0⟩ := by unfold Md.oneR; rw [ha]; rfl
        rw [e]
        exact .inl ⟨rfl, by simp [h2]⟩
    · rw [M.bat_stay h1 (p + 1) (by omega)]
      exact .inr ⟨h1, h2⟩
/-- What stays where a call is refused. -/
structure Stays (M M' : Md) (e : Int) : Prop where
  n : M'.n = M.n
  l : M'.S.l = M.S.l
  v : M.S.v ≤ M'.S.v
  v' : M'.S.v = M.S.v ∨ e = 10
theorem Stays.refl (M : Md) (e : Int) : Stays M M e := ⟨rfl, rfl, Int.le_refl _, .inl rfl⟩
theorem Stays.one {M : Md} (h : M.S.any = false) : Stays M M.one 10 := by
  have hs : startsK M.S.l = [] := by
    unfold Sq.any at h
    rcases hh : startsK M.S.l with _ | ⟨x, t⟩
    · rfl
    · rw [hh] at h; cases h
  have e : M.S.srv = ⟨max M.S.v M.S.m, M.S.m, M.S.l⟩ := by unfold Sq.srv; rw [hs]
  refine ⟨?_, ?_, ?_, .inr rfl⟩
  · show (if M.S.any then M.n + 1 else M.n) = M.n
    rw [h]; rfl
  · show M.S.srv.l = M.S.l
    rw [e]
  · show M.S.v ≤ M.S.srv.v
    rw [e]
    simp only
    omega
theorem Md.refused {M : Md} {k j : Nat} (hM : M.ok k j) (c : Cl) (he : (M.todo c).2.e ≠ 0) (hp : (M.todo c).2.ps = []) : Stays M (M.todo c).1 (M.todo c).2.e := by
  unfold Md.todo at he hp ⊢
  split at he
  · rename_i h
    rw [if_pos h]
    simp only at he ⊢
    rw [if_neg (by simpa [Rt.code] using he)]
    exact Stays.refl _ _
  · rename_i h
    rw [if_neg h] at hp ⊢
    split at he
    · rename_i h
      rw [if_pos h]
      have e : M.S.rem c.f = M.S := Sq.rem_no (by simpa [Rt.code] using he)
      have e2 : M.rem c.f = M := by unfold Md.rem; rw [e]
      simp only
      rw [e2]
      exact Stays.refl _ _
    · rename_i h
      rw [if_neg h] at hp ⊢
      split at he
      · rename_i h
        rw [if_pos h]
        split at he
        · rename_i h3
          rw [if_pos h3]
          have e : M.S.arr ⟨c.f, c.a, c.b⟩ = M.S := Sq.arr_no hM.s.srt (by simpa [Rt.code] using he)
          have e2 : M.arr ⟨c.f, c.a, c.b⟩ = M := by unfold Md.arr; rw [e]
          simp only
          rw [e2]
          exact Stays.refl _ _
        · rename_i h3
          rw [if_neg h3]
          exact Stays.refl _ _
      · rename_i h
        rw [if_neg h] at hp ⊢
        split at he
        · rename_i h
          rw [if_pos h]
          simp only at he ⊢
          have ha : M.S.any = false := by
            rcases ha : M.S.any with _ | _
            · rfl
            · unfold Md.oneR at he; rw [ha] at he; simp at he
          have e : M.oneR = Rt.code 10 := by unfold Md.oneR; rw [ha]; rfl
          rw [e]
          exact Stays.one ha
        · rename_i h
          rw [if_neg h] at hp ⊢
          split at he
          · rename_i h
            rw [if_pos h] at hp ⊢
            split at he
            · rename_i h5
              rw [if_pos h5] at hp ⊢
              rcases M.bat_cases c.a.toNat with ⟨h6, h7⟩ | ⟨h6, h7⟩
              · exact absurd h6 he
              · obtain ⟨g1, g2, g3⟩ := h7 hp
                rw [g1, g3]
                exact Stays.one g2
            · rename_i h5
              rw [if_neg h5]
              exact Stays.refl _ _
          · rename_i h
            rw [if_neg h]
            split
            · exact Stays.refl _ _
            · exact Stays.refl _ _

/-! ### flows of one shard -/
/-- Just these flows, none of which has packets. -/
structure Em (M : Md) (I : List Int) : Prop where
  ids : (idsOf M.S.l).Perm I
  no : ∀ e ∈ M.S.l, e.2.l = []
theorem hasK_ids (K : List (Int × Fl)) (id : Int) : hasK K id = true ↔ id ∈ idsOf K := by
  unfold hasK idsOf
  simp
section
variable {M : Md} {I : List Int} (h : Em M I)
include h
theorem Em.has {id : Int} (hi : id ∈ I) : hasK M.S.l id = true := (hasK_ids _ _).2 (h.ids.mem_iff.2 hi)
theorem Em.hasnt {id : Int} (hi : id ∉ I) : hasK M.S.l id = false := by
  rcases hh : hasK M.S.l id with _ | _
  · rfl
  · exact absurd (h.ids.mem_iff.1 ((hasK_ids _ _).1 hh)) hi
theorem Em.taken (sh r : Int) : takenI (idsOf M.S.l) sh r = takenI I sh r := by
  unfold takenI
  exact (h.ids.filter _).length_eq
theorem Em.len {id : Int} (hs : Srt M.S.l) (hi : id ∈ I) : lenI M.S.l id = 0 := by
  have hh := h.has hi
  unfold lenI
  rw [if_pos hh, h.no _ (mem_getK hs hh)]
  rfl
theorem Em.len_no {id : Int} (hi : id ∉ I) : lenI M.S.l id = -1 := by
  unfold lenI
  rw [h.hasnt hi]
  rfl
theorem Em.of_perm {J : List Int} (hp : I.Perm J) : Em M J := ⟨h.ids.trans hp, h.no⟩
theorem Em.regE_is {c : Cl} (h1 : 0 ≤ c.f ∧ c.f ≤ 1048576) (h2 : 1 ≤ c.a ∧ c.a ≤ 65536) (h3 : 1 ≤ c.b ∧ c.b ≤ 8) :
    M.regE c = if c.f ∈ I then 6 else if M.c.sl ≤ (takenI I M.c.sh (c.f.tmod M.c.sh) : Int) then 7 else 0 := by
  unfold Md.regE
  rw [if_neg (by simpa using h1), if_neg (by simpa using h2), if_neg (by simpa using h3), h.taken]
  by_cases hi : c.f ∈ I
  · rw [if_pos (h.has hi), if_pos hi]
  · rw [h.hasnt hi, if_neg hi]
    simp
theorem Em.reg {c : Cl} (hi : c.f ∉ I) : Em (M.reg c) (c.f :: I) := by
  have e : (M.reg c).S.l = insK M.S.l (c.f, Fl.new (invM M.c.un c.a) (room c.b)) := by
    show (M.S.add c.f (invM M.c.un c.a) (room c.b)).l = _
    unfold Sq.add
    rw [h.hasnt hi]
    rfl
  refine ⟨?_, ?_⟩
  · rw [e]
    unfold insK idsOf
    rw [List.map_append, List.map_cons]
    refine List.perm_middle.trans (List.Perm.cons _ ?_)
    rw [← List.map_append, List.take_append_drop]
    exact h.ids
  · rw [e]
    intro d hd
    rcases insK_mem.1 hd with rfl | hd
    · rfl
    · exact h.no d hd
theorem Em.shut (hs : Srt M.S.l) {id : Int} {J : List Int} (hI : I.Perm (id :: J)) : M.S.remE id = 0 ∧ Em (M.rem id) J := by
  have hh : hasK M.S.l id = true := h.has (hI.mem_iff.2 (by simp))
  have ha : (getK M.S.l id).any = false := by
    unfold Fl.any
    rw [h.no _ (mem_getK hs hh)]
    rfl
  refine ⟨by unfold Sq.remE; rw [hh, ha]; rfl, ?_⟩
  have e : (M.rem id).S.l = delK M.S.l id := by
    show (M.S.rem id).l = _
    unfold Sq.rem
    rw [hh, ha]
    rfl
  obtain ⟨i, F, hi⟩ := hasK_some hh
  have hp : posK M.S.l id = i := posK_is hs hi
  refine ⟨?_, ?_⟩
  · rw [e]
    unfold delK
    rw [hp, List.eraseIdx_eq_take_drop_succ]
    have hl := (List.getElem?_eq_some_iff.1 hi)
    have hK : M.S.l = M.S.l.take i ++ (id, F) :: M.S.l.drop (i + 1) := by
      rw [← hl.2, ← List.drop_eq_getElem_cons hl.1, List.take_append_drop]
    have h5 : (idsOf M.S.l).Perm (id :: idsOf (M.S.l.take i ++ M.S.l.drop (i + 1))) := by
      unfold idsOf
      rw [List.map_append]
      refine List.Perm.trans ?_ List.perm_middle
      rw [← List.map_cons (f := fun e : Int × Fl => e.1) (a := (id, F)), ← List.map_append, ← hK]
    exact ((h5.symm.trans h.ids).trans hI).cons_inv
  · rw [e]
    exact fun d hd => h.no d (List.mem_of_mem_eraseIdx hd)
end
theorem Em.new (c : Cf) : Em ⟨c, Sq.new, 0⟩ [] := ⟨List.Perm.refl _, by simp [Sq.new]⟩
theorem takenI_all {I : List Int} {sh s : Int} (h : ∀ x ∈ I, x.tmod sh = s) : takenI I sh s = I.length := by
  unfold takenI
  rw [List.filter_eq_self.2 (fun x hx => by simp [h x hx])]
theorem takenI_none {I : List Int} {sh s : Int} (h : ∀ x ∈ I, x.tmod sh ≠ s) : takenI I sh s = 0 := by
  unfold takenI
  rw [List.filter_eq_nil_iff.2 (fun x hx => by simp [h x hx])]
  rfl
theorem takenI_cons {I : List Int} {sh s y : Int} (h : y.tmod sh ≠ s) : takenI (y :: I) sh s = takenI I sh s := by
  unfold takenI
  rw [List.filter_cons, if_neg (by simp [h])]
/-- The first numbers that fall to a shard. -/
def inSh (s sh : Int) (n : Nat) : List Int := (List.range n).map fun j : Nat => s + (j : Int) * sh
def inSh1 (s sh : Int) (n : Nat) : List Int := (List.range n).map fun j : Nat => s + ((j : Int) + 1) * sh
theorem inSh_mem {s sh x : Int} {n : Nat} : x ∈ inSh s sh n ↔ ∃ j : Nat, j < n ∧ s + (j : Int) * sh = x := by unfold inSh; simp
theorem inSh1_mem {s sh x : Int} {n : Nat} : x ∈ inSh1 s sh n ↔ ∃ j : Nat, j < n ∧ s + ((j : Int) + 1) * sh = x := by unfold inSh1; simp
theorem inSh_succ (s sh : Int) (n : Nat) : ((s + (n : Int) * sh) :: inSh s sh n).Perm (inSh s sh (n + 1)) := by
  unfold inSh
  rw [List.range_succ, List.map_append]
  exact (List.perm_append_singleton _ _).symm
theorem inSh_head (s sh : Int) (n : Nat) : inSh s sh (n + 1) = s :: inSh1 s sh n := by
  unfold inSh inSh1
  rw [List.range_succ_eq_map, List.map_cons, List.map_map]
  simp only [List.cons.injEq]
  exact ⟨by simp, List.map_congr_left (fun j _ => by simp)⟩
theorem fall {s sh i : Int} (h0 : 0 ≤ s) (h1 : s < sh) (hi : 0 ≤ i) : (s + i * sh).tmod sh = s := by
  have h2 : 0 ≤ i * sh := Int.mul_nonneg hi (by omega)
  rw [Int.tmod_eq_emod_of_nonneg (by omega), Int.add_mul_emod_self_right]
  exact Int.emod_eq_of_lt h0 h1
theorem fall_inj {s sh i j : Int} (h1 : 1 ≤ sh) (h : s + i * sh = s + j * sh) : i = j := by
  have h2 : i * sh = j * sh := by omega
  exact Int.eq_of_mul_eq_mul_right (by omega) h2
end Go.Proofs.Ytklolepmmabijaa
