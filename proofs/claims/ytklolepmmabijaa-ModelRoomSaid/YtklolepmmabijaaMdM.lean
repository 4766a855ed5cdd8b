/-
  A model as numbers: a config, a scheduler, how many were served; calls, and what they tell; plain lists.
-/
import Derived.Test.YtklolepmmabijaaGmB
namespace Go.Proofs.Ytklolepmmabijaa
set_option maxRecDepth 100000
open Go.RowKit
set_option linter.unusedVariables false
set_option linter.unusedSimpArgs false

structure Cf where
  sh : Int
  sl : Int
  wk : Int
  wd : Int
  un : Int
def Cf.ok (c : Cf) : Prop := i64ok c.sh ∧ i64ok c.sl ∧ i64ok c.wk ∧ i64ok c.wd ∧ U64 c.un
structure Cf.right (c : Cf) : Prop where
  sh1 : 1 ≤ c.sh
  sh4 : c.sh ≤ 4
  sl1 : 1 ≤ c.sl
  sl4 : c.sl ≤ 4
  wk1 : 1 ≤ c.wk
  wk6 : c.wk ≤ 6
  wd0 : 0 ≤ c.wd
  wd1 : c.wd ≤ 40
  un1 : 1 ≤ c.un
  un2 : c.un ≤ 4611686018427387904
structure Cl where
  op : Int
  f : Int
  a : Int
  b : Int
deriving Inhabited
def Cl.ok (c : Cl) : Prop := i64ok c.op ∧ i64ok c.f ∧ i64ok c.a ∧ i64ok c.b
structure Rt where
  e : Int
  ps : List Pk
  n : Int
  v : Int
def Rt.code (e : Int) : Rt := ⟨e, [], 0, 0⟩
structure Md where
  c : Cf
  S : Sq
  n : Int

/-! ### how many packets each flow has -/
def lensK (K : List (Int × Fl)) (id : Int) : Option Int := if hasK K id then some ((getK K id).l.length : Int) else none
def homK (K : List (Int × Fl)) : Prop := ∀ e ∈ K, ∀ p ∈ e.2.l, p.f = e.1
theorem lensK_is {K : List (Int × Fl)} (h : Srt K) {id : Int} {F : Fl} (hm : (id, F) ∈ K) : lensK K id = some (F.l.length : Int) := by
  obtain ⟨i, hi⟩ := List.getElem?_of_mem hm
  unfold lensK
  rw [if_pos (hasK_is hi), getK_is h hi]
theorem lensK_not {K : List (Int × Fl)} {id : Int} (h : ∀ e ∈ K, e.1 ≠ id) : lensK K id = none := by
  unfold lensK
  rw [if_neg]
  intro hh
  obtain ⟨i, F, hi⟩ := hasK_some hh
  exact h _ (List.mem_of_getElem? hi) rfl
theorem lensK_or (K : List (Int × Fl)) (id : Int) : (∃ F, (id, F) ∈ K) ∨ ∀ e ∈ K, e.1 ≠ id := by
  rcases hh : hasK K id with _ | _
  · refine .inr fun e he e1 => ?_
    obtain ⟨i, hi⟩ := List.getElem?_of_mem he
    exact hasK_not hh hi e1
  · obtain ⟨i, F, hi⟩ := hasK_some hh
    exact .inl ⟨F, List.mem_of_getElem? hi⟩
theorem lensK_isSome (K : List (Int × Fl)) (id : Int) : (lensK K id).isSome = hasK K id := by
  unfold lensK
  rcases hasK K id with _ | _ <;> rfl
theorem mem_getK {K : List (Int × Fl)} (h : Srt K) {id : Int} (hh : hasK K id = true) : (id, getK K id) ∈ K := by
  obtain ⟨i, F, hi⟩ := hasK_some hh
  rw [getK_is h hi]
  exact List.mem_of_getElem? hi
theorem lensK_ins {K : List (Int × Fl)} (h : Srt K) {id : Int} (hn : hasK K id = false) (F : Fl) : lensK (insK K (id, F)) = upd (lensK K) id (F.l.length : Int) := by
  have hs : Srt (insK K (id, F)) := h.ins (id, F) hn
  funext q
  unfold upd
  by_cases e : q = id
  · subst e
    rw [if_pos rfl]
    exact lensK_is hs (insK_mem.2 (.inl rfl))
  · rw [if_neg e]
    rcases lensK_or K q with ⟨G, hG⟩ | hno
    · rw [lensK_is h hG]
      exact lensK_is hs (insK_mem.2 (.inr hG))
    · rw [lensK_not hno]
      refine lensK_not fun d hd => ?_
      rcases insK_mem.1 hd with rfl | hd
      · exact fun e1 => e e1.symm
      · exact hno d hd
theorem lensK_del {K : List (Int × Fl)} (h : Srt K) {id : Int} (hh : hasK K id = true) : lensK (delK K id) = off (lensK K) id := by
  obtain ⟨i, F, hi⟩ := hasK_some hh
  have hp : posK K id = i := posK_is h hi
  have hs : Srt (delK K id) := h.del id
  funext q
  unfold off
  by_cases e : q = id
  · subst e
    rw [if_pos rfl]
    refine lensK_not fun d hd e1 => ?_
    unfold delK at hd
    obtain ⟨j, hj, hd2⟩ := List.mem_eraseIdx_iff_getElem?.1 hd
    have := h.inj hd2 hi e1
    omega
  · rw [if_neg e]
    rcases lensK_or K q with ⟨G, hG⟩ | hno
    · rw [lensK_is h hG]
      refine lensK_is hs ?_
      unfold delK
      obtain ⟨j, hj⟩ := List.getElem?_of_mem hG
      refine List.mem_eraseIdx_iff_getElem?.2 ⟨j, fun e1 => ?_, hj⟩
      rw [hp] at e1
      subst e1
      rw [hi] at hj
      injection hj with hj
      exact e (congrArg Prod.fst hj).symm
    · rw [lensK_not hno]
      exact lensK_not fun d hd => hno d (List.mem_of_mem_eraseIdx hd)
theorem lensK_upd {K : List (Int × Fl)} (h : Srt K) {id : Int} (hh : hasK K id = true) (f : Fl → Fl) : lensK (updK K id f) = upd (lensK K) id ((f (getK K id)).l.length : Int) := by
  obtain ⟨i, F, hi⟩ := hasK_some hh
  have hs : Srt (updK K id f) := h.upd id f
  have hg : getK K id = F := getK_is h hi
  have hu := updK_is h hi f
  have hl : i < K.length := (List.getElem?_eq_some_iff.1 hi).1
  rw [hg]
  funext q
  unfold upd
  by_cases e : q = id
  · subst e
    rw [if_pos rfl]
    refine lensK_is hs ?_
    rw [hu]
    exact List.mem_of_getElem? (i := i) (by rw [List.getElem?_set, if_pos rfl, if_pos hl])
  · rw [if_neg e]
    rcases lensK_or K q with ⟨G, hG⟩ | hno
    · rw [lensK_is h hG]
      refine lensK_is hs ?_
      unfold updK
      exact List.mem_map.2 ⟨(q, G), hG, by rw [if_neg e]⟩
    · rw [lensK_not hno]
      refine lensK_not fun d hd e1 => ?_
      have h1 : d.1 ∈ (updK K id f).map (·.1) := List.mem_map.2 ⟨d, hd, rfl⟩
      rw [updK_keys] at h1
      obtain ⟨d2, hd2, e2⟩ := List.mem_map.1 h1
      exact hno d2 hd2 (by rw [e2, e1])
theorem upd_same {f : Int → Option Int} {k v : Int} (h : f k = some v) : upd f k v = f := by
  funext q
  unfold upd
  split
  · rename_i e; rw [e, h]
  · rfl

/-! ### what is done -/
def idsOf (K : List (Int × Fl)) : List Int := K.map (·.1)
def takenI (l : List Int) (sh r : Int) : Nat := (l.filter fun a => a.tmod sh == r).length
theorem takenI_step {l : List Int} {p : Nat} {x : Int} (h : l[p]? = some x) (sh r : Int) : takenI (l.take (p + 1)) sh r = takenI (l.take p) sh r + (if (x.tmod sh == r) = true then 1 else 0) := by
  obtain ⟨hl, rfl⟩ := List.getElem?_eq_some_iff.1 h
  unfold takenI
  rw [List.take_add_one, h, List.filter_append, List.length_append]
  congr 1
  by_cases e : (l[p].tmod sh == r) = true
  · rw [if_pos e]; simp [e]
  · rw [if_neg e]; simp [e]
theorem takenI_le (l : List Int) (sh r : Int) : takenI l sh r ≤ l.length := List.length_filter_le _ _
def Md.regE (M : Md) (c : Cl) : Int :=
  if ¬ (0 ≤ c.f ∧ c.f ≤ 1048576) then 1 else if ¬ (1 ≤ c.a ∧ c.a ≤ 65536) then 4 else if ¬ (1 ≤ c.b ∧ c.b ≤ 8) then 1
  else if hasK M.S.l c.f then 6 else if M.c.sl ≤ (takenI (idsOf M.S.l) M.c.sh (c.f.tmod M.c.sh) : Int) then 7 else 0
def Md.reg (M : Md) (c : Cl) : Md := ⟨M.c, M.S.add c.f (invM M.c.un c.a) (room c.b), M.n⟩
def Md.rem (M : Md) (id : Int) : Md := ⟨M.c, M.S.rem id, M.n⟩
def Md.arr (M : Md) (p : Pk) : Md := ⟨M.c, M.S.arr p, M.n⟩
def Md.one (M : Md) : Md := ⟨M.c, M.S.srv, if M.S.any then M.n + 1 else M.n⟩
def Md.oneR (M : Md) : Rt := if M.S.any then ⟨0, [M.S.hd], 0, 0⟩ else Rt.code 10
def Md.bat (M : Md) : Nat → Md × Rt
  | 0 => (M, Rt.code 0)
  | p + 1 => if (Md.bat M p).2.e = 0 then ((Md.bat M p).1.one, ⟨(Md.bat M p).1.oneR.e, (Md.bat M p).2.ps ++ (Md.bat M p).1.oneR.ps, 0, 0⟩) else Md.bat M p
def Md.todo (M : Md) (c : Cl) : Md × Rt :=
  if c.op = 1 then (if M.regE c = 0 then M.reg c else M, Rt.code (M.regE c))
  else if c.op = 2 then (M.rem c.f, Rt.code (M.S.remE c.f))
  else if c.op = 3 then (if 1 ≤ c.a ∧ c.a ≤ 65536 then (M.arr ⟨c.f, c.a, c.b⟩, Rt.code (M.S.arrE ⟨c.f, c.a, c.b⟩)) else (M, Rt.code 3))
  else if c.op = 4 then (M.one, M.oneR)
  else if c.op = 5 then (if 1 ≤ c.a ∧ c.a ≤ 16 then M.bat c.a.toNat else (M, Rt.code 1))
  else if c.op = 6 then (M, ⟨0, [], M.n, M.S.v⟩)
  else (M, Rt.code 2)
theorem Md.bat_stay (M : Md) {p : Nat} (h : (M.bat p).2.e ≠ 0) : ∀ q, p ≤ q → M.bat q = M.bat p
  | 0, hq => by
    obtain rfl : p = 0 := by omega
    rfl
  | q + 1, hq => by
    by_cases e : p = q + 1
    · rw [e]
    · have h1 := Md.bat_stay M h q (by omega)
      show (if (M.bat q).2.e = 0 then _ else M.bat q) = _
      rw [h1, if_neg h]
theorem Md.bat_succ (M : Md) {p : Nat} (h : (M.bat p).2.e = 0) : M.bat (p + 1) = ((M.bat p).1.one, ⟨(M.bat p).1.oneR.e, (M.bat p).2.ps ++ (M.bat p).1.oneR.ps, 0, 0⟩) := by
  show (if (M.bat p).2.e = 0 then _ else _) = _
  rw [if_pos h]
theorem Md.oneR_len (M : Md) : M.oneR.ps.length ≤ 1 := by
  unfold Md.oneR
  split
  · simp
  · simp [Rt.code]
theorem Md.bat_len (M : Md) : ∀ p, (M.bat p).2.ps.length ≤ p
  | 0 => Nat.le_refl _
  | p + 1 => by
    have h1 := Md.bat_len M p
    by_cases h : (M.bat p).2.e = 0
    · rw [M.bat_succ h]
      have h2 := (M.bat p).1.oneR_len
      simp only [List.length_append]
      omega
    · rw [M.bat_stay h (p + 1) (by omega)]; omega
theorem Md.bat_nv (M : Md) : ∀ p, (M.bat p).2.n = 0 ∧ (M.bat p).2.v = 0
  | 0 => ⟨rfl, rfl⟩
  | p + 1 => by
    by_cases h : (M.bat p).2.e = 0
    · rw [M.bat_succ h]; exact ⟨rfl, rfl⟩
    · rw [M.bat_stay h (p + 1) (by omega)]; exact Md.bat_nv M p

theorem Sq.rem_no {S : Sq} {id : Int} (h : S.remE id ≠ 0) : S.rem id = S := by
  unfold Sq.remE at h
  unfold Sq.rem
  rcases hh : hasK S.l id with _ | _
  · simp
  · rw [hh] at h
    simp only [if_true] at h
    rcases ha : (getK S.l id).any with _ | _
    · rw [ha] at h; simp at h
    · simp
theorem Sq.rem_yes {S : Sq} (hs : Srt S.l) {id : Int} (h : S.remE id = 0) : lensK (S.rem id).l = off (lensK S.l) id := by
  unfold Sq.remE at h
  unfold Sq.rem
  rcases hh : hasK S.l id with _ | _
  · rw [hh] at h; simp at h
  · rw [hh] at h
    simp only [if_true] at h
    rcases ha : (getK S.l id).any with _ | _
    · simp only [Bool.not_false, Bool.and_self, if_true]
      exact lensK_del hs hh
    · rw [ha] at h; simp at h
theorem Sq.srv_no {S : Sq} (h : S.any = false) : S.srv.l = S.l := by
  unfold Sq.any at h
  unfold Sq.srv
  rcases hs : startsK S.l with _ | ⟨x, t⟩
  · rfl
  · rw [hs] at h; cases h
theorem Sq.arr_no {S : Sq} (hs : Srt S.l) {p : Pk} (h : S.arrE p ≠ 0) : S.arr p = S := by
  unfold Sq.arrE at h
  unfold Sq.arr
  rcases hh : hasK S.l p.f with _ | _
  · rw [updK_none hh]
  · rw [hh] at h
    simp only [if_true] at h
    obtain ⟨i, F, hi⟩ := hasK_some hh
    have hg := getK_is hs hi
    rw [hg] at h
    rcases ht : F.takes with _ | _
    · have e : F.arr S.v p = F := by
        unfold Fl.takes at ht
        unfold Fl.arr
        simp at ht
        rw [if_pos ht]
      rw [updK_is hs hi, e]
      congr 1
      apply List.ext_getElem?
      intro j
      rw [List.getElem?_set]
      split
      · rename_i e2
        subst e2
        rw [if_pos (List.getElem?_eq_some_iff.1 hi).1, hi]
      · rfl
    · rw [ht] at h; simp at h
theorem Sq.arr_yes {S : Sq} (hs : Srt S.l) {p : Pk} (h : S.arrE p = 0) : lensK S.l p.f = some ((getK S.l p.f).l.length : Int) ∧ lensK (S.arr p).l = upd (lensK S.l) p.f (((getK S.l p.f).l.length : Int) + 1) := by
  unfold Sq.arrE at h
  rcases hh : hasK S.l p.f with _ | _
  · rw [hh] at h; simp at h
  · rw [hh] at h
    simp only [if_true] at h
    refine ⟨lensK_is hs (mem_getK hs hh), ?_⟩
    show lensK (updK S.l p.f fun F => F.arr S.v p) = _
    rw [lensK_upd hs hh]
    congr 1
    rcases ht : (getK S.l p.f).takes with _ | _
    · rw [ht] at h; simp at h
    · unfold Fl.takes at ht
      unfold Fl.arr
      simp at ht
      rw [if_neg ht]
      simp

/-! ### what may be -/
structure Md.ok (M : Md) (k j : Nat) : Prop where
  c : M.c.right
  s : M.S.ok
  hom : homK M.S.l
  len : M.S.l.length ≤ k
  n0 : 0 ≤ M.n
  n1 : M.n ≤ j
theorem homK.upd {K : List (Int × Fl)} (h : homK K) (id : Int) (f : Fl → Fl) (hf : ∀ F : Fl, (∀ p ∈ F.l, p.f = id) → ∀ p ∈ (f F).l, p.f = id) : homK (updK K id f) := by
  intro e he p hp
  rcases updK_mem he with he | ⟨d, hd, e1, rfl⟩
  · exact h e he p hp
  · exact hf d.2 (fun q hq => (h d hd q hq).trans e1) p hp
theorem Fl.arr_mem {F : Fl} {v : Int} {x p : Pk} (h : p ∈ (F.arr v x).l) : p ∈ F.l ∨ p = x := by
  unfold Fl.arr at h
  split at h
  · exact .inl h
  · simpa using h
theorem Fl.srv_mem {F : Fl} {p : Pk} (h : p ∈ F.srv.l) : p ∈ F.l := by
  unfold Fl.srv at h
  split at h
  · exact h
  · exact List.mem_of_mem_tail h
theorem invM_u64 (u a : Int) (hu1 : 1 ≤ u) (hu2 : u ≤ 4611686018427387904) (ha : 1 ≤ a) : U64 (invM u a) := by
  have h1 : u / a ≤ u := Int.ediv_le_self _ (by omega)
  have h2 : 0 ≤ u / a := Int.ediv_nonneg (by omega) (by omega)
  unfold invM U64
  split <;> omega
section
variable {M : Md} {k j : Nat} (h : M.ok k j)
include h
theorem Md.ok.mono {k' j' : Nat} (hk : k ≤ k') (hj : j ≤ j') : M.ok k' j' := ⟨h.c, h.s, h.hom, Nat.le_trans h.len hk, h.n0, by have := h.n1; omega⟩
theorem Md.ok.add {id r : Int} (hid : i64ok id) (hr : U64 r) (most : Int) (hk : k < 1000) : (⟨M.c, M.S.add id r (room most), M.n⟩ : Md).ok (k + 1) j := by
  refine ⟨h.c, h.s.add hid hr most (by have := h.len; omega), ?_, Nat.le_trans (Sq.add_len _ _ _ _) (by have := h.len; omega), h.n0, h.n1⟩
  show homK (M.S.add id r (room most)).l
  unfold Sq.add
  split
  · exact h.hom
  · intro e he p hp
    rcases insK_mem.1 he with rfl | he
    · simp [Fl.new] at hp
    · exact h.hom e he p hp
theorem Md.ok.rem (id : Int) : (M.rem id).ok k j := by
  refine ⟨h.c, h.s.rem id, ?_, Nat.le_trans (Sq.rem_len _ _) h.len, h.n0, h.n1⟩
  show homK (M.S.rem id).l
  unfold Sq.rem
  split
  · exact fun e he => h.hom e (List.mem_of_mem_eraseIdx he)
  · exact h.hom
theorem Md.ok.arr {p : Pk} (hp : p.ok) : (M.arr p).ok k j := by
  refine ⟨h.c, h.s.arr hp, ?_, by show (M.S.arr p).l.length ≤ k; rw [Sq.arr_len]; exact h.len, h.n0, h.n1⟩
  show homK (updK M.S.l p.f fun F => F.arr M.S.v p)
  refine h.hom.upd _ _ fun F hF q hq => ?_
  rcases Fl.arr_mem hq with hq | rfl
  · exact hF q hq
  · rfl
theorem Md.ok.one : M.one.ok k (j + 1) := by
  refine ⟨h.c, h.s.srv, ?_, by show M.S.srv.l.length ≤ k; rw [Sq.srv_len]; exact h.len, ?_, ?_⟩
  · show homK M.S.srv.l
    unfold Sq.srv
    rcases startsK M.S.l with _ | ⟨x, t⟩
    · exact h.hom
    · exact h.hom.upd _ _ fun F hF q hq => hF q (Fl.srv_mem hq)
  · show (0 : Int) ≤ if M.S.any then M.n + 1 else M.n
    have := h.n0
    split <;> omega
  · show (if M.S.any then M.n + 1 else M.n) ≤ ((j + 1 : Nat) : Int)
    have := h.n1
    split <;> omega
theorem Md.ok.bat : ∀ p, (M.bat p).1.ok k (j + p)
  | 0 => h
  | p + 1 => by
    have h1 := Md.ok.bat p
    by_cases e : (M.bat p).2.e = 0
    · rw [M.bat_succ e]; exact h1.one
    · rw [M.bat_stay e (p + 1) (by omega)]; exact h1.mono (Nat.le_refl _) (by omega)
theorem Md.ok.todo {c : Cl} (hc : c.ok) (hk : k < 1000) : (M.todo c).1.ok (k + 1) (j + 16) := by
  have h0 : M.ok (k + 1) (j + 16) := h.mono (by omega) (by omega)
  unfold Md.todo
  split
  · show (if M.regE c = 0 then M.reg c else M).ok _ _
    split
    · rename_i e
      have ha : 1 ≤ c.a := by
        unfold Md.regE at e
        split at e
        · cases e
        · split at e
          · cases e
          · rename_i h2; omega
      exact (h.add hc.2.1 (invM_u64 _ _ h.c.un1 h.c.un2 ha) c.b hk).mono (by omega) (by omega)
    · exact h0
  · split
    · exact (h.rem _).mono (by omega) (by omega)
    · split
      · split
        · exact (h.arr (p := ⟨c.f, c.a, c.b⟩) ⟨hc.2.1, hc.2.2.1, hc.2.2.2⟩).mono (by omega) (by omega)
        · exact h0
      · split
        · exact h.one.mono (by omega) (by omega)
        · split
          · split
            · exact (h.bat _).mono (by omega) (by omega)
            · exact h0
          · split <;> exact h0
/-- The packet that is served is of the flow whose count falls. -/
theorem Md.ok.served (ha : M.S.any = true) : hasK M.S.l M.S.hd.f = true ∧ (getK M.S.l M.S.hd.f).l.length ≠ 0 ∧ (getK M.S.l M.S.hd.f).l.length ≤ 8 ∧ i64ok M.S.hd.f ∧ lensK M.S.srv.l = upd (lensK M.S.l) M.S.hd.f (((getK M.S.l M.S.hd.f).l.length : Int) - 1) := by
  rcases hs : startsK M.S.l with _ | ⟨x, t⟩
  · unfold Sq.any at ha; rw [hs] at ha; cases ha
  · obtain ⟨i, F, hi, hF, hk, hok, hx⟩ := h.s.starts (x := x) (by rw [hs]; simp)
    have hg := getK_is h.s.srt hi
    have hhas := hasK_is hi
    have hhd : M.S.hd = F.hd := by unfold Sq.hd; rw [hs]; show (getK M.S.l x.i).hd = _; rw [hg]
    have hsrv : M.S.srv.l = updK M.S.l x.i Fl.srv := by unfold Sq.srv; rw [hs]
    rcases hl : F.l with _ | ⟨y, r⟩
    · unfold Fl.any at hF; rw [hl] at hF; cases hF
    · have hy : F.hd = y := by unfold Fl.hd; rw [hl]; rfl
      have hyf : y.f = x.i := h.hom _ (List.mem_of_getElem? hi) y (by rw [hl]; simp)
      have hf : M.S.hd.f = x.i := by rw [hhd, hy, hyf]
      rw [hf, hsrv, hg, hl]
      have hn := hok.len
      rw [hl] at hn
      refine ⟨hhas, by simp, ?_, hx, ?_⟩
      · have := hok.n8
        omega
      · rw [lensK_upd h.s.srt hhas, hg]
        congr 1
        unfold Fl.srv
        rw [if_neg (by rw [hl]; simp), hl]
        simp
end
end Go.Proofs.Ytklolepmmabijaa
