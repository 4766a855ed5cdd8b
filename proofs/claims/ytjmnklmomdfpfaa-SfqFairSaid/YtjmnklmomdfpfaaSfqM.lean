/-
  A scheduler as numbers: flows by rising number, what is added, removed, served; plain lists.
-/
import Derived.Test.YtjmnklmomdfpfaaFlowF
namespace Go.Proofs.Ytjmnklmomdfpfaa
set_option maxRecDepth 100000
set_option linter.unusedVariables false
set_option linter.unusedSimpArgs false

/-- A scheduler: its virtual time, the greatest finish, its flows by number. -/
structure Sq where
  v : Int
  m : Int
  l : List (Int × Fl)

def Srt (K : List (Int × Fl)) : Prop := K.Pairwise fun a b => a.1 < b.1
def posK (K : List (Int × Fl)) (id : Int) : Nat := (K.takeWhile fun e => decide (e.1 < id)).length
def hasK (K : List (Int × Fl)) (id : Int) : Bool := K.any fun e => e.1 == id
def getK (K : List (Int × Fl)) (id : Int) : Fl := ((K.find? fun e => e.1 == id).map (·.2)).getD (Fl.new 0 1)
def updK (K : List (Int × Fl)) (id : Int) (f : Fl → Fl) : List (Int × Fl) := K.map fun e => if e.1 = id then (e.1, f e.2) else e
def insK (K : List (Int × Fl)) (x : Int × Fl) : List (Int × Fl) := K.take (posK K x.1) ++ x :: K.drop (posK K x.1)
def delK (K : List (Int × Fl)) (id : Int) : List (Int × Fl) := K.eraseIdx (posK K id)

theorem posK_le (K : List (Int × Fl)) (id : Int) : posK K id ≤ K.length := (List.takeWhile_sublist _).length_le
theorem takeWhile_len {α : Type} {p : α → Bool} : ∀ {l : List α} {k : Nat}, k ≤ l.length → (∀ j x, j < k → l[j]? = some x → p x = true) → (∀ x, l[k]? = some x → p x = false) → (l.takeWhile p).length = k
  | [], k, hk, h1, h2 => by simp at hk; simp [hk]
  | y :: l, 0, hk, h1, h2 => by
    have := h2 y (by simp)
    simp [List.takeWhile_cons, this]
  | y :: l, k + 1, hk, h1, h2 => by
    have h0 := h1 0 y (by omega) (by simp)
    have := takeWhile_len (p := p) (l := l) (k := k) (by simpa using hk) (fun j x hj hx => h1 (j + 1) x (by omega) (by simpa using hx)) (fun x hx => h2 x (by simpa using hx))
    simp [List.takeWhile_cons, h0, this]
theorem posK_of {K : List (Int × Fl)} {id : Int} {k : Nat} (hk : k ≤ K.length) (h1 : ∀ j e, j < k → K[j]? = some e → e.1 < id) (h2 : ∀ e, K[k]? = some e → ¬ e.1 < id) : posK K id = k :=
  takeWhile_len hk (fun j e hj he => by simpa using h1 j e hj he) (fun e he => by simpa using h2 e he)
theorem Srt.lt {K : List (Int × Fl)} (h : Srt K) {i j : Nat} {a b : Int × Fl} (hij : i < j) (ha : K[i]? = some a) (hb : K[j]? = some b) : a.1 < b.1 := by
  obtain ⟨hi, rfl⟩ := List.getElem?_eq_some_iff.1 ha
  obtain ⟨hj, rfl⟩ := List.getElem?_eq_some_iff.1 hb
  exact List.pairwise_iff_getElem.1 h i j hi hj hij
theorem Srt.inj {K : List (Int × Fl)} (h : Srt K) {i j : Nat} {a b : Int × Fl} (ha : K[i]? = some a) (hb : K[j]? = some b) (e : a.1 = b.1) : i = j := by
  rcases Nat.lt_trichotomy i j with h1 | h1 | h1
  · have := h.lt h1 ha hb; omega
  · exact h1
  · have := h.lt h1 hb ha; omega
/-- Ahead of its place all numbers are less, from it on none is. -/
theorem posK_lt {K : List (Int × Fl)} {id : Int} {j : Nat} {e : Int × Fl} (hj : j < posK K id) (he : K[j]? = some e) : e.1 < id := by
  unfold posK at hj
  have hp : K.takeWhile (fun e => decide (e.1 < id)) <+: K := List.takeWhile_prefix _
  have h1 : (K.takeWhile fun e => decide (e.1 < id))[j]? = some e := by
    rw [List.prefix_iff_eq_take.1 hp, List.getElem?_take, if_pos hj]; exact he
  have h2 : e ∈ K.takeWhile fun e => decide (e.1 < id) := List.mem_of_getElem? h1
  have := List.all_takeWhile (p := fun e : Int × Fl => decide (e.1 < id)) (l := K)
  rw [List.all_eq_true] at this
  simpa using this e h2
theorem posK_at {K : List (Int × Fl)} {id : Int} {e : Int × Fl} (he : K[posK K id]? = some e) : ¬ e.1 < id := by
  intro hlt
  have hsp : K.takeWhile (fun e => decide (e.1 < id)) ++ K.dropWhile (fun e => decide (e.1 < id)) = K := List.takeWhile_append_dropWhile
  have h1 : (K.dropWhile fun e => decide (e.1 < id))[0]? = some e := by
    have he' : (K.takeWhile (fun e => decide (e.1 < id)) ++ K.dropWhile (fun e => decide (e.1 < id)))[(K.takeWhile fun e => decide (e.1 < id)).length]? = some e := by rw [hsp]; exact he
    rw [List.getElem?_append_right (Nat.le_refl _), Nat.sub_self] at he'
    exact he'
  rcases hd : K.dropWhile fun e => decide (e.1 < id) with _ | ⟨y, r⟩
  · rw [hd] at h1; simp at h1
  · rw [hd] at h1
    simp at h1
    subst h1
    have := List.head?_dropWhile_not (p := fun e : Int × Fl => decide (e.1 < id)) (l := K)
    rw [hd] at this
    simp at this
    omega
theorem posK_ge {K : List (Int × Fl)} (h : Srt K) {id : Int} {j : Nat} {e : Int × Fl} (hj : posK K id ≤ j) (he : K[j]? = some e) : id ≤ e.1 := by
  have hl : j < K.length := (List.getElem?_eq_some_iff.1 he).1
  have hp : K[posK K id]? = some (K[posK K id]'(by omega)) := List.getElem?_eq_getElem (by omega)
  have h1 := posK_at hp
  rcases Nat.lt_or_ge (posK K id) j with h2 | h2
  · have := h.lt h2 hp he; omega
  · have : j = posK K id := by omega
    subst this
    rw [hp] at he
    injection he with he
    subst he
    omega
theorem hasK_is {K : List (Int × Fl)} {i : Nat} {id : Int} {F : Fl} (hi : K[i]? = some (id, F)) : hasK K id = true := by
  unfold hasK
  rw [List.any_eq_true]
  exact ⟨_, List.mem_of_getElem? hi, by simp⟩
section
variable {K : List (Int × Fl)} (h : Srt K) {i : Nat} {id : Int} {F : Fl} (hi : K[i]? = some (id, F))
include h hi
theorem posK_is : posK K id = i :=
  posK_of (Nat.le_of_lt (List.getElem?_eq_some_iff.1 hi).1) (fun j e hj he => h.lt hj he hi) (fun e he => by rw [hi] at he; injection he with he; subst he; simp)
theorem getK_is : getK K id = F := by
  unfold getK
  have : K.find? (fun e => e.1 == id) = some (id, F) := by
    obtain ⟨hl, he⟩ := List.getElem?_eq_some_iff.1 hi
    rw [List.find?_eq_some_iff_getElem]
    refine ⟨by simp, i, hl, he, fun j hj => ?_⟩
    have h1 := h.lt hj (List.getElem?_eq_getElem (by omega)) hi
    simp
    simp at h1
    omega
  rw [this]
  rfl
theorem updK_is (f : Fl → Fl) : updK K id f = K.set i (id, f F) := by
  apply List.ext_getElem?
  intro j
  unfold updK
  rw [List.getElem?_map, List.getElem?_set]
  have hl : i < K.length := (List.getElem?_eq_some_iff.1 hi).1
  by_cases e : i = j
  · subst e
    rw [if_pos rfl, if_pos hl, hi]
    simp
  · rw [if_neg e]
    rcases hj : K[j]? with _ | x
    · rfl
    · have : x.1 ≠ id := fun e2 => e (h.inj hi hj (by simp [e2]))
      simp [this]
end
theorem hasK_not {K : List (Int × Fl)} {id : Int} (h : hasK K id = false) {j : Nat} {e : Int × Fl} (he : K[j]? = some e) : e.1 ≠ id := by
  intro e2
  unfold hasK at h
  rw [List.any_eq_false] at h
  exact h e (List.mem_of_getElem? he) (by simp [e2])
theorem hasK_some {K : List (Int × Fl)} {id : Int} (h : hasK K id = true) : ∃ (i : Nat) (F : Fl), K[i]? = some (id, F) := by
  unfold hasK at h
  rw [List.any_eq_true] at h
  obtain ⟨⟨a, F⟩, he, ha⟩ := h
  obtain ⟨i, hi, e⟩ := List.getElem_of_mem he
  simp at ha
  subst ha
  exact ⟨i, F, by rw [List.getElem?_eq_getElem hi, e]⟩
theorem updK_none {K : List (Int × Fl)} {id : Int} (h : hasK K id = false) (f : Fl → Fl) : updK K id f = K := by
  apply List.ext_getElem?
  intro j
  unfold updK
  rw [List.getElem?_map]
  rcases hj : K[j]? with _ | x
  · rfl
  · simp [hasK_not h hj]
theorem updK_keys (K : List (Int × Fl)) (id : Int) (f : Fl → Fl) : (updK K id f).map (·.1) = K.map (·.1) := by
  unfold updK
  rw [List.map_map]
  congr 1
  funext e
  simp only [Function.comp]
  split <;> rfl
theorem srt_iff (K : List (Int × Fl)) : Srt K ↔ (K.map (·.1)).Pairwise (· < ·) := by unfold Srt; rw [List.pairwise_map]
theorem Srt.upd {K : List (Int × Fl)} (h : Srt K) (id : Int) (f : Fl → Fl) : Srt (updK K id f) := by
  rw [srt_iff] at *
  rw [updK_keys]; exact h
theorem updK_mem {K : List (Int × Fl)} {id : Int} {f : Fl → Fl} {x : Int × Fl} (hx : x ∈ updK K id f) : x ∈ K ∨ ∃ e ∈ K, e.1 = id ∧ x = (id, f e.2) := by
  unfold updK at hx
  rw [List.mem_map] at hx
  obtain ⟨e, he, rfl⟩ := hx
  split
  · rename_i h; exact .inr ⟨e, he, h, by rw [h]⟩
  · exact .inl he
theorem Srt.ins {K : List (Int × Fl)} (h : Srt K) (x : Int × Fl) (hx : hasK K x.1 = false) : Srt (insK K x) := by
  unfold insK Srt
  have hsp : K.take (posK K x.1) ++ K.drop (posK K x.1) = K := List.take_append_drop _ _
  have h' := h
  unfold Srt at h'
  rw [← hsp] at h'
  obtain ⟨p1, p2, p3⟩ := List.pairwise_append.1 h'
  have ha : ∀ a ∈ K.take (posK K x.1), a.1 < x.1 := fun a ha => by
    obtain ⟨j, hj, e⟩ := List.getElem_of_mem ha
    have hj2 : j < posK K x.1 := by simp at hj; omega
    exact posK_lt hj2 (by rw [← e, List.getElem_take, List.getElem?_eq_getElem])
  have hb : ∀ b ∈ K.drop (posK K x.1), x.1 < b.1 := fun b hb => by
    obtain ⟨j, hj, e⟩ := List.getElem_of_mem hb
    have he : K[posK K x.1 + j]? = some b := by
      rw [← e, List.getElem_drop, List.getElem?_eq_getElem]
    have h1 := posK_ge h (Nat.le_add_right _ _) he
    have h2 := hasK_not hx he
    omega
  refine List.pairwise_append.2 ⟨p1, List.pairwise_cons.2 ⟨hb, p2⟩, fun a ha' b hb' => ?_⟩
  rcases List.mem_cons.1 hb' with rfl | hb'
  · exact ha a ha'
  · exact p3 a ha' b hb'
theorem insK_mem {K : List (Int × Fl)} {x y : Int × Fl} : y ∈ insK K x ↔ y = x ∨ y ∈ K := by
  unfold insK
  conv => rhs; rw [← List.take_append_drop (posK K x.1) K]
  simp only [List.mem_append, List.mem_cons]
  constructor
  · rintro (h | h | h)
    · exact .inr (.inl h)
    · exact .inl h
    · exact .inr (.inr h)
  · rintro (h | h | h)
    · exact .inr (.inl h)
    · exact .inl h
    · exact .inr (.inr h)
theorem insK_len (K : List (Int × Fl)) (x : Int × Fl) : (insK K x).length = K.length + 1 := by
  have := posK_le K x.1
  unfold insK
  simp
  omega
theorem Srt.del {K : List (Int × Fl)} (h : Srt K) (id : Int) : Srt (delK K id) := List.Pairwise.sublist (List.eraseIdx_sublist _ _) h

/-! ### who waits, and by what -/
def itemK (e : Int × Fl) : It := ⟨e.2.s, e.1⟩
def itemsK (K : List (Int × Fl)) : List It := (K.filter fun e => e.2.any).map itemK
def insAll (l : List It) : List It := l.foldl (fun a x => ins x a) []
def startsK (K : List (Int × Fl)) : List It := insAll (itemsK K)
theorem itemsK_mem {K : List (Int × Fl)} {x : It} : x ∈ itemsK K ↔ ∃ e ∈ K, e.2.any = true ∧ itemK e = x := by
  unfold itemsK
  simp only [List.mem_map, List.mem_filter]
  constructor
  · rintro ⟨e, ⟨h1, h2⟩, h3⟩; exact ⟨e, h1, h2, h3⟩
  · rintro ⟨e, h1, h2, h3⟩; exact ⟨e, ⟨h1, h2⟩, h3⟩
theorem itemsK_ids {K : List (Int × Fl)} (h : Srt K) : Ids (itemsK K) := by
  unfold Ids itemsK List.Nodup
  rw [List.map_map, List.pairwise_map]
  refine List.Pairwise.imp ?_ (List.Pairwise.sublist List.filter_sublist h)
  intro a b hab e
  simp only [Function.comp, itemK] at e
  omega
theorem insAll_step (l : List It) (x : It) : insAll (l ++ [x]) = ins x (insAll l) := by unfold insAll; rw [List.foldl_append]; rfl
theorem insAll_perm : ∀ l : List It, (insAll l).Perm l := by
  intro l
  suffices h : ∀ (l a : List It), (l.foldl (fun a x => ins x a) a).Perm (a ++ l) by simpa [insAll] using h l []
  intro l
  induction l with
  | nil => intro a; simp
  | cons x l ih =>
    intro a
    refine (ih (ins x a)).trans ?_
    have := (ins_perm x a).append_right l
    simpa using this
theorem insAll_rises {l : List It} (h : Ids l) : Rises (insAll l) := by
  suffices hs : ∀ (l a : List It), Rises a → Ids (a ++ l) → Rises (l.foldl (fun a x => ins x a) a) by exact hs l [] (by simp [Rises]) (by simpa using h)
  intro l
  induction l with
  | nil => intro a ha _; exact ha
  | cons x l ih =>
    intro a ha hi
    refine ih (ins x a) (ins_rises ha fun y hy e => ?_) (hi.perm ?_)
    · have hn : ((a ++ x :: l).map It.i).Nodup := hi
      rw [List.map_append, List.nodup_append] at hn
      exact hn.2.2 y.i (List.mem_map.2 ⟨y, hy, rfl⟩) x.i (by simp) e
    · have := ((ins_perm x a).append_right l).symm
      simpa using this
theorem startsK_perm (K : List (Int × Fl)) : (startsK K).Perm (itemsK K) := insAll_perm _
theorem startsK_rises {K : List (Int × Fl)} (h : Srt K) : Rises (startsK K) := insAll_rises (itemsK_ids h)
/-- Who has no item behind another one is the first one. -/
theorem startsK_head {K : List (Int × Fl)} (h : Srt K) {i : Nat} {e : Int × Fl} (hi : K[i]? = some e) (ha : e.2.any = true) (hl : ∀ d ∈ K, d.2.any = true → (itemK d).lt (itemK e) = false) : ∃ t, startsK K = itemK e :: t := by
  have hm : itemK e ∈ startsK K := (startsK_perm K).symm.subset (itemsK_mem.2 ⟨e, List.mem_of_getElem? hi, ha, rfl⟩)
  rcases hs : startsK K with _ | ⟨y, t⟩
  · rw [hs] at hm; cases hm
  · refine ⟨t, ?_⟩
    have hr := startsK_rises h
    rw [hs] at hr hm
    rcases List.mem_cons.1 hm with e1 | hm
    · rw [e1]
    · have h1 := (List.pairwise_cons.1 hr).1 _ hm
      have hy : y ∈ itemsK K := (startsK_perm K).subset (by rw [hs]; simp)
      obtain ⟨d, hd, hda, rfl⟩ := itemsK_mem.1 hy
      rw [hl d hd hda] at h1
      cases h1
theorem startsK_none {K : List (Int × Fl)} (h : ∀ d ∈ K, d.2.any = false) : startsK K = [] := by
  have : itemsK K = [] := by
    rw [List.eq_nil_iff_forall_not_mem]
    intro x hx
    obtain ⟨e, he, ha, _⟩ := itemsK_mem.1 hx
    rw [h e he] at ha; cases ha
  unfold startsK
  rw [this]
  rfl

/-! ### what is done to it -/
def Sq.new : Sq := ⟨0, 0, []⟩
def Sq.add (S : Sq) (id r : Int) (n : Nat) : Sq := if hasK S.l id then S else ⟨S.v, S.m, insK S.l (id, Fl.new r n)⟩
def Sq.remE (S : Sq) (id : Int) : Int := if hasK S.l id then (if (getK S.l id).any then 8 else 0) else 5
def Sq.rem (S : Sq) (id : Int) : Sq := if hasK S.l id && !(getK S.l id).any then ⟨S.v, S.m, delK S.l id⟩ else S
def Sq.arrE (S : Sq) (p : Pk) : Int := if hasK S.l p.f then (if (getK S.l p.f).takes then 0 else 9) else 5
def Sq.arr (S : Sq) (p : Pk) : Sq := ⟨S.v, S.m, updK S.l p.f fun F => F.arr S.v p⟩
def Sq.any (S : Sq) : Bool := !(startsK S.l).isEmpty
def Sq.hd (S : Sq) : Pk := match startsK S.l with | [] => Pk.none | x :: _ => (getK S.l x.i).hd
def Sq.srv (S : Sq) : Sq := match startsK S.l with | [] => ⟨max S.v S.m, S.m, S.l⟩ | x :: _ => ⟨x.k, max S.m (getK S.l x.i).fin, updK S.l x.i Fl.srv⟩
structure Sq.ok (S : Sq) : Prop where
  v : U64 S.v
  m : U64 S.m
  srt : Srt S.l
  wf : ∀ e ∈ S.l, i64ok e.1 ∧ e.2.ok
  len : S.l.length ≤ 1000
theorem Sq.ok.new : Sq.new.ok := ⟨U64.zero, U64.zero, List.Pairwise.nil, by simp [Sq.new], by simp [Sq.new]⟩
theorem Sq.ok.add {S : Sq} (h : S.ok) {id r : Int} (hid : i64ok id) (hr : U64 r) (most : Int) (hl : S.l.length < 1000) : (S.add id r (room most)).ok := by
  unfold Sq.add
  rcases hh : hasK S.l id with _ | _
  · rw [if_neg (by simp)]
    refine ⟨h.v, h.m, h.srt.ins _ hh, fun e he => ?_, by rw [insK_len]; omega⟩
    rcases insK_mem.1 he with rfl | he
    · exact ⟨hid, Fl.new_ok hr most⟩
    · exact h.wf e he
  · rw [if_pos rfl]; exact h
theorem Sq.ok.rem {S : Sq} (h : S.ok) (id : Int) : (S.rem id).ok := by
  unfold Sq.rem
  split
  · exact ⟨h.v, h.m, h.srt.del _, fun e he => h.wf e (List.mem_of_mem_eraseIdx he), Nat.le_trans (List.length_eraseIdx_le _ _) h.len⟩
  · exact h
theorem updK_len (K : List (Int × Fl)) (id : Int) (f : Fl → Fl) : (updK K id f).length = K.length := by simp [updK]
theorem Sq.ok.upd {S : Sq} (h : S.ok) {v m : Int} (hv : U64 v) (hm : U64 m) (id : Int) (f : Fl → Fl) (hf : ∀ F : Fl, F.ok → (f F).ok) : (⟨v, m, updK S.l id f⟩ : Sq).ok := by
  refine ⟨hv, hm, h.srt.upd _ _, fun e he => ?_, by rw [updK_len]; exact h.len⟩
  rcases updK_mem he with he | ⟨d, hd, e1, rfl⟩
  · exact h.wf e he
  · exact ⟨e1 ▸ (h.wf d hd).1, hf _ (h.wf d hd).2⟩
theorem Sq.ok.arr {S : Sq} (h : S.ok) {p : Pk} (hp : p.ok) : (S.arr p).ok := h.upd h.v h.m _ _ fun F hF => hF.arr h.v hp
theorem U64.max {a b : Int} (h : U64 a) (h2 : U64 b) : U64 (max a b) := by unfold U64 at *; omega
theorem Sq.ok.starts {S : Sq} (h : S.ok) {x : It} (hx : x ∈ startsK S.l) : ∃ (i : Nat) (F : Fl), S.l[i]? = some (x.i, F) ∧ F.any = true ∧ x.k = F.s ∧ F.ok ∧ i64ok x.i := by
  obtain ⟨⟨id, F⟩, he, ha, rfl⟩ := itemsK_mem.1 ((startsK_perm _).subset hx)
  obtain ⟨i, hi, e⟩ := List.getElem_of_mem he
  exact ⟨i, F, by rw [List.getElem?_eq_getElem hi, e]; rfl, ha, rfl, (h.wf _ he).2, (h.wf _ he).1⟩
theorem Sq.ok.srv {S : Sq} (h : S.ok) : S.srv.ok := by
  unfold Sq.srv
  rcases hs : startsK S.l with _ | ⟨x, t⟩
  · exact ⟨h.v.max h.m, h.m, h.srt, h.wf, h.len⟩
  · obtain ⟨i, F, hi, ha, hk, hF, _⟩ := h.starts (x := x) (by rw [hs]; simp)
    show (⟨x.k, max S.m (getK S.l x.i).fin, updK S.l x.i Fl.srv⟩ : Sq).ok
    rw [getK_is h.srt hi]
    exact h.upd (hk ▸ hF.s) (h.m.max hF.fin) _ _ fun F hF => hF.srv
theorem Sq.ok.hd {S : Sq} (h : S.ok) : S.hd.ok := by
  unfold Sq.hd
  rcases hs : startsK S.l with _ | ⟨x, t⟩
  · exact Pk.none_ok
  · obtain ⟨i, F, hi, ha, hk, hF, _⟩ := h.starts (x := x) (by rw [hs]; simp)
    show (getK S.l x.i).hd.ok
    rw [getK_is h.srt hi]
    exact hF.hd
/-- The one that is served. -/
theorem Sq.srv_is {S : Sq} (h : S.ok) {i : Nat} {id : Int} {F : Fl} (hi : S.l[i]? = some (id, F)) (ha : F.any = true) (hl : ∀ d ∈ S.l, d.2.any = true → (itemK d).lt (itemK (id, F)) = false) :
    S.srv = ⟨F.s, max S.m F.fin, S.l.set i (id, F.srv)⟩ ∧ S.hd = F.hd ∧ S.any = true := by
  obtain ⟨t, ht⟩ := startsK_head h.srt hi ha hl
  unfold Sq.srv Sq.hd Sq.any
  rw [ht]
  refine ⟨?_, ?_, rfl⟩
  · show (⟨F.s, max S.m (getK S.l id).fin, updK S.l id Fl.srv⟩ : Sq) = _
    rw [getK_is h.srt hi, updK_is h.srt hi]
  · show (getK S.l id).hd = _
    rw [getK_is h.srt hi]
theorem Sq.srv_none {S : Sq} (h : ∀ d ∈ S.l, d.2.any = false) : S.srv = ⟨max S.v S.m, S.m, S.l⟩ ∧ S.hd = Pk.none ∧ S.any = false := by
  have hs := startsK_none h
  unfold Sq.srv Sq.hd Sq.any
  rw [hs]
  exact ⟨rfl, rfl, rfl⟩
theorem Sq.srv_len (S : Sq) : S.srv.l.length = S.l.length := by
  unfold Sq.srv
  rcases startsK S.l with _ | ⟨x, t⟩
  · rfl
  · exact updK_len _ _ _
theorem Sq.arr_len (S : Sq) (p : Pk) : (S.arr p).l.length = S.l.length := by unfold Sq.arr; simp [updK]
theorem Sq.rem_len (S : Sq) (id : Int) : (S.rem id).l.length ≤ S.l.length := by
  unfold Sq.rem
  split
  · exact List.length_eraseIdx_le _ _
  · exact Nat.le_refl _
theorem Sq.add_len (S : Sq) (id r : Int) (n : Nat) : (S.add id r n).l.length ≤ S.l.length + 1 := by
  unfold Sq.add
  split
  · omega
  · show (insK S.l _).length ≤ _
    rw [insK_len]; omega
end Go.Proofs.Ytjmnklmomdfpfaa
