/-
  A scheduler as numbers: flows by rising number, what is added, removed, served; plain lists.
  A scheduler in memory: kinds of elements, families of flows (ours and the document's), the structs.
-/
import Derived.Test.YtklolepmmabijaaGmF
import Derived.Test.YtklolepmmabijaaGmR
import Derived.Test.YtklolepmmabijaaGmC
namespace Go.Proofs.Ytklolepmmabijaa
set_option maxRecDepth 100000
set_option linter.unusedVariables false
set_option linter.unusedSimpArgs false

/-- A scheduler: its virtual time, the greatest finish, its flows by number. -/
structure Sq where
  v : Int
  m : Int
  l : List (Int × Fl)

def Srt (K : List (Int × Fl)) : Prop := K.Pairwise fun a b => a.1 < b.1
def posK (K : List (Int × Fl)) (id : Int) : Nat := (K.takeWhile fun e => decide (e.1 < id)).length
def hasK (K : List (Int × Fl)) (id : Int) : Bool := K.any fun e => e.1 == id
def getK (K : List (Int × Fl)) (id : Int) : Fl := ((K.find? fun e => e.1 == id).map (·.2)).getD (Fl.new 0 1)
def updK (K : List (Int × Fl)) (id : Int) (f : Fl → Fl) : List (Int × Fl) := K.map fun e => if e.1 = id then (e.1, f e.2) else e
def insK (K : List (Int × Fl)) (x : Int × Fl) : List (Int × Fl) := K.take (posK K x.1) ++ x :: K.drop (posK K x.1)
def delK (K : List (Int × Fl)) (id : Int) : List (Int × Fl) := K.eraseIdx (posK K id)

theorem posK_le (K : List (Int × Fl)) (id : Int) : posK K id ≤ K.length := (List.takeWhile_sublist _).length_le
theorem takeWhile_len {α : Type} {p : α → Bool} : ∀ {l : List α} {k : Nat}, k ≤ l.length → (∀ j x, j < k → l[j]? = some x → p x = true) → (∀ x, l[k]? = some x → p x = false) → (l.takeWhile p).length = k
  | [], k, hk, h1, h2 => by simp at hk; simp [hk]
  | y :: l, 0, hk, h1, h2 => by
    have := h2 y (by simp)
    simp [List.takeWhile_cons, this]
  | y :: l, k + 1, hk, h1, h2 => by
    have h0 := h1 0 y (by omega) (by simp)
    have := takeWhile_len (p := p) (l := l) (k := k) (by simpa using hk) (fun j x hj hx => h1 (j + 1) x (by omega) (by simpa using hx)) (fun x hx => h2 x (by simpa using hx))
    simp [List.takeWhile_cons, h0, this]
theorem posK_of {K : List (Int × Fl)} {id : Int} {k : Nat} (hk : k ≤ K.length) (h1 : ∀ j e, j < k → K[j]? = some e → e.1 < id) (h2 : ∀ e, K[k]? = some e → ¬ e.1 < id) : posK K id = k :=
  takeWhile_len hk (fun j e hj he => by simpa using h1 j e hj he) (fun e he => by simpa using h2 e he)
theorem Srt.lt {K : List (Int × Fl)} (h : Srt K) {i j : Nat} {a b : Int × Fl} (hij : i < j) (ha : K[i]? = some a) (hb : K[j]? = some b) : a.1 < b.1 := by
  obtain ⟨hi, rfl⟩ := List.getElem?_eq_some_iff.1 ha
  obtain ⟨hj, rfl⟩ := List.getElem?_eq_some_iff.1 hb
  exact List.pairwise_iff_getElem.1 h i j hi hj hij
theorem Srt.inj {K : List (Int × Fl)} (h : Srt K) {i j : Nat} {a b : Int × Fl} (ha : K[i]? = some a) (hb : K[j]? = some b) (e : a.1 = b.1) : i = j := by
  rcases Nat.lt_trichotomy i j with h1 | h1 | h1
  · have := h.lt h1 ha hb; omega
  · exact h1
  · have := h.lt h1 hb ha; omega
/-- Ahead of its place all numbers are less, from it on none is. -/
theorem posK_lt {K : List (Int × Fl)} {id : Int} {j : Nat} {e : Int × Fl} (hj : j < posK K id) (he : K[j]? = some e) : e.1 < id := by
  unfold posK at hj
  have hp : K.takeWhile (fun e => decide (e.1 < id)) <+: K := List.takeWhile_prefix _
  have h1 : (K.takeWhile fun e => decide (e.1 < id))[j]? = some e := by
    rw [List.prefix_iff_eq_take.1 hp, List.getElem?_take, if_pos hj]; exact he
  have h2 : e ∈ K.takeWhile fun e => decide (e.1 < id) := List.mem_of_getElem? h1
  have := List.all_takeWhile (p := fun e : Int × Fl => decide (e.1 < id)) (l := K)
  rw [List.all_eq_true] at this
  simpa using this e h2
theorem posK_at {K : List (Int × Fl)} {id : Int} {e : Int × Fl} (he : K[posK K id]? = some e) : ¬ e.1 < id := by
  intro hlt
  have hsp : K.takeWhile (fun e => decide (e.1 < id)) ++ K.dropWhile (fun e => decide (e.1 < id)) = K := List.takeWhile_append_dropWhile
  have h1 : (K.dropWhile fun e => decide (e.1 < id))[0]? = some e := by
    have he' : (K.takeWhile (fun e => decide (e.1 < id)) ++ K.dropWhile (fun e => decide (e.1 < id)))[(K.takeWhile fun e => decide (e.1 < id)).length]? = some e := by rw [hsp]; exact he
    rw [List.getElem?_append_right (Nat.le_refl _), Nat.sub_self] at he'
    exact he'
  rcases hd : K.dropWhile fun e => decide (e.1 < id) with _ | ⟨y, r⟩
  · rw [hd] at h1; simp at h1
  · rw [hd] at h1
    simp at h1
    subst h1
    have := List.head?_dropWhile_not (p := fun e : Int × Fl => decide (e.1 < id)) (l := K)
    rw [hd] at this
    simp at this
    omega
theorem posK_ge {K : List (Int × Fl)} (h : Srt K) {id : Int} {j : Nat} {e : Int × Fl} (hj : posK K id ≤ j) (he : K[j]? = some e) : id ≤ e.1 := by
  have hl : j < K.length := (List.getElem?_eq_some_iff.1 he).1
  have hp : K[posK K id]? = some (K[posK K id]'(by omega)) := List.getElem?_eq_getElem (by omega)
  have h1 := posK_at hp
  rcases Nat.lt_or_ge (posK K id) j with h2 | h2
  · have := h.lt h2 hp he; omega
  · have : j = posK K id := by omega
    subst this
    rw [hp] at he
    injection he with he
    subst he
    omega
theorem hasK_is {K : List (Int × Fl)} {i : Nat} {id : Int} {F : Fl} (hi : K[i]? = some (id, F)) : hasK K id = true := by
  unfold hasK
  rw [List.any_eq_true]
  exact ⟨_, List.mem_of_getElem? hi, by simp⟩
section
variable {K : List (Int × Fl)} (h : Srt K) {i : Nat} {id : Int} {F : Fl} (hi : K[i]? = some (id, F))
include h hi
theorem posK_is : posK K id = i :=
  posK_of (Nat.le_of_lt (List.getElem?_eq_some_iff.1 hi).1) (fun j e hj he => h.lt hj he hi) (fun e he => by rw [hi] at he; injection he with he; subst he; simp)
theorem getK_is : getK K id = F := by
  unfold getK
  have : K.find? (fun e => e.1 == id) = some (id, F) := by
    obtain ⟨hl, he⟩ := List.getElem?_eq_some_iff.1 hi
    rw [List.find?_eq_some_iff_getElem]
    refine ⟨by simp, i, hl, he, fun j hj => ?_⟩
    have h1 := h.lt hj (List.getElem?_eq_getElem (by omega)) hi
    simp
    simp at h1
    omega
  rw [this]
  rfl
theorem updK_is (f : Fl → Fl) : updK K id f = K.set i (id, f F) := by
  apply List.ext_getElem?
  intro j
  unfold updK
  rw [List.getElem?_map, List.getElem?_set]
  have hl : i < K.length := (List.getElem?_eq_some_iff.1 hi).1
  by_cases e : i = j
  · subst e
    rw [if_pos rfl, if_pos hl, hi]
    simp
  · rw [if_neg e]
    rcases hj : K[j]? with _ | x
    · rfl
    · have : x.1 ≠ id := fun e2 => e (h.inj hi hj (by simp [e2]))
      simp [this]
end
theorem hasK_not {K : List (Int × Fl)} {id : Int} (h : hasK K id = false) {j : Nat} {e : Int × Fl} (he : K[j]? = some e) : e.1 ≠ id := by
  intro e2
  unfold hasK at h
  rw [List.any_eq_false] at h
  exact h e (List.mem_of_getElem? he) (by simp [e2])
theorem hasK_some {K : List (Int × Fl)} {id : Int} (h : hasK K id = true) : ∃ (i : Nat) (F : Fl), K[i]? = some (id, F) := by
  unfold hasK at h
  rw [List.any_eq_true] at h
  obtain ⟨⟨a, F⟩, he, ha⟩ := h
  obtain ⟨i, hi, e⟩ := List.getElem_of_mem he
  simp at ha
  subst ha
  exact ⟨i, F, by rw [List.getElem?_eq_getElem hi, e]⟩
theorem updK_none {K : List (Int × Fl)} {id : Int} (h : hasK K id = false) (f : Fl → Fl) : updK K id f = K := by
  apply List.ext_getElem?
  intro j
  unfold updK
  rw [List.getElem?_map]
  rcases hj : K[j]? with _ | x
  · rfl
  · simp [hasK_not h hj]
theorem updK_keys (K : List (Int × Fl)) (id : Int) (f : Fl → Fl) : (updK K id f).map (·.1) = K.map (·.1) := by
  unfold updK
  rw [List.map_map]
  congr 1
  funext e
  simp only [Function.comp]
  split <;> rfl
theorem srt_iff (K : List (Int × Fl)) : Srt K ↔ (K.map (·.1)).Pairwise (· < ·) := by unfold Srt; rw [List.pairwise_map]
theorem Srt.upd {K : List (Int × Fl)} (h : Srt K) (id : Int) (f : Fl → Fl) : Srt (updK K id f) := by
  rw [srt_iff] at *
  rw [updK_keys]; exact h
theorem updK_mem {K : List (Int × Fl)} {id : Int} {f : Fl → Fl} {x : Int × Fl} (hx : x ∈ updK K id f) : x ∈ K ∨ ∃ e ∈ K, e.1 = id ∧ x = (id, f e.2) := by
  unfold updK at hx
  rw [List.mem_map] at hx
  obtain ⟨e, he, rfl⟩ := hx
  split
  · rename_i h; exact .inr ⟨e, he, h, by rw [h]⟩
  · exact .inl he
theorem Srt.ins {K : List (Int × Fl)} (h : Srt K) (x : Int × Fl) (hx : hasK K x.1 = false) : Srt (insK K x) := by
  unfold insK Srt
  have hsp : K.take (posK K x.1) ++ K.drop (posK K x.1) = K := List.take_append_drop _ _
  have h' := h
  unfold Srt at h'
  rw [← hsp] at h'
  obtain ⟨p1, p2, p3⟩ := List.pairwise_append.1 h'
  have ha : ∀ a ∈ K.take (posK K x.1), a.1 < x.1 := fun a ha => by
    obtain ⟨j, hj, e⟩ := List.getElem_of_mem ha
    have hj2 : j < posK K x.1 := by simp at hj; omega
    exact posK_lt hj2 (by rw [← e, List.getElem_take, List.getElem?_eq_getElem])
  have hb : ∀ b ∈ K.drop (posK K x.1), x.1 < b.1 := fun b hb => by
    obtain ⟨j, hj, e⟩ := List.getElem_of_mem hb
    have he : K[posK K x.1 + j]? = some b := by
      rw [← e, List.getElem_drop, List.getElem?_eq_getElem]
    have h1 := posK_ge h (Nat.le_add_right _ _) he
    have h2 := hasK_not hx he
    omega
  refine List.pairwise_append.2 ⟨p1, List.pairwise_cons.2 ⟨hb, p2⟩, fun a ha' b hb' => ?_⟩
  rcases List.mem_cons.1 hb' with rfl | hb'
  · exact ha a ha'
  · exact p3 a ha' b hb'
theorem insK_mem {K : List (Int × Fl)} {x y : Int × Fl} : y ∈ insK K x ↔ y = x ∨ y ∈ K := by
  unfold insK
  conv => rhs; rw [← List.take_append_drop (posK K x.1) K]
  simp only [List.mem_append, List.mem_cons]
  constructor
  · rintro (h | h | h)
    · exact .inr (.inl h)
    · exact .inl h
    · exact .inr (.inr h)
  · rintro (h | h | h)
    · exact .inr (.inl h)
    · exact .inl h
    · exact .inr (.inr h)
theorem insK_len (K : List (Int × Fl)) (x : Int × Fl) : (insK K x).length = K.length + 1 := by
  have := posK_le K x.1
  unfold insK
  simp
  omega
theorem Srt.del {K : List (Int × Fl)} (h : Srt K) (id : Int) : Srt (delK K id) := List.Pairwise.sublist (List.eraseIdx_sublist _ _) h

/-! ### who waits, and by what -/
def itemK (e : Int × Fl) : It := ⟨e.2.s, e.1⟩
def itemsK (K : List (Int × Fl)) : List It := (K.filter fun e => e.2.any).map itemK
def insAll (l : List It) : List It := l.foldl (fun a x => ins x a) []
def startsK (K : List (Int × Fl)) : List It := insAll (itemsK K)
theorem itemsK_mem {K : List (Int × Fl)} {x : It} : x ∈ itemsK K ↔ ∃ e ∈ K, e.2.any = true ∧ itemK e = x := by
  unfold itemsK
  simp only [List.mem_map, List.mem_filter]
  constructor
  · rintro ⟨e, ⟨h1, h2⟩, h3⟩; exact ⟨e, h1, h2, h3⟩
  · rintro ⟨e, h1, h2, h3⟩; exact ⟨e, ⟨h1, h2⟩, h3⟩
theorem itemsK_ids {K : List (Int × Fl)} (h : Srt K) : Ids (itemsK K) := by
  unfold Ids itemsK List.Nodup
  rw [List.map_map, List.pairwise_map]
  refine List.Pairwise.imp ?_ (List.Pairwise.sublist List.filter_sublist h)
  intro a b hab e
  simp only [Function.comp, itemK] at e
  omega
theorem insAll_step (l : List It) (x : It) : insAll (l ++ [x]) = ins x (insAll l) := by unfold insAll; rw [List.foldl_append]; rfl
theorem insAll_perm : ∀ l : List It, (insAll l).Perm l := by
  intro l
  suffices h : ∀ (l a : List It), (l.foldl (fun a x => ins x a) a).Perm (a ++ l) by simpa [insAll] using h l []
  intro l
  induction l with
  | nil => intro a; simp
  | cons x l ih =>
    intro a
    refine (ih (ins x a)).trans ?_
    have := (ins_perm x a).append_right l
    simpa using this
theorem insAll_rises {l : List It} (h : Ids l) : Rises (insAll l) := by
  suffices hs : ∀ (l a : List It), Rises a → Ids (a ++ l) → Rises (l.foldl (fun a x => ins x a) a) by exact hs l [] (by simp [Rises]) (by simpa using h)
  intro l
  induction l with
  | nil => intro a ha _; exact ha
  | cons x l ih =>
    intro a ha hi
    refine ih (ins x a) (ins_rises ha fun y hy e => ?_) (hi.perm ?_)
    · have hn : ((a ++ x :: l).map It.i).Nodup := hi
      rw [List.map_append, List.nodup_append] at hn
      exact hn.2.2 y.i (List.mem_map.2 ⟨y, hy, rfl⟩) x.i (by simp) e
    · have := ((ins_perm x a).append_right l).symm
      simpa using this
theorem startsK_perm (K : List (Int × Fl)) : (startsK K).Perm (itemsK K) := insAll_perm _
theorem startsK_rises {K : List (Int × Fl)} (h : Srt K) : Rises (startsK K) := insAll_rises (itemsK_ids h)
/-- Who has no item behind another one is the first one. -/
theorem startsK_head {K : List (Int × Fl)} (h : Srt K) {i : Nat} {e : Int × Fl} (hi : K[i]? = some e) (ha : e.2.any = true) (hl : ∀ d ∈ K, d.2.any = true → (itemK d).lt (itemK e) = false) : ∃ t, startsK K = itemK e :: t := by
  have hm : itemK e ∈ startsK K := (startsK_perm K).symm.subset (itemsK_mem.2 ⟨e, List.mem_of_getElem? hi, ha, rfl⟩)
  rcases hs : startsK K with _ | ⟨y, t⟩
  · rw [hs] at hm; cases hm
  · refine ⟨t, ?_⟩
    have hr := startsK_rises h
    rw [hs] at hr hm
    rcases List.mem_cons.1 hm with e1 | hm
    · rw [e1]
    · have h1 := (List.pairwise_cons.1 hr).1 _ hm
      have hy : y ∈ itemsK K := (startsK_perm K).subset (by rw [hs]; simp)
      obtain ⟨d, hd, hda, rfl⟩ := itemsK_mem.1 hy
      rw [hl d hd hda] at h1
      cases h1
theorem startsK_none {K : List (Int × Fl)} (h : ∀ d ∈ K, d.2.any = false) : startsK K = [] := by
  have : itemsK K = [] := by
    rw [List.eq_nil_iff_forall_not_mem]
    intro x hx
    obtain ⟨e, he, ha, _⟩ := itemsK_mem.1 hx
    rw [h e he] at ha; cases ha
  unfold startsK
  rw [this]
  rfl

/-! ### what is done to it -/
def Sq.new : Sq := ⟨0, 0, []⟩
def Sq.add (S : Sq) (id r : Int) (n : Nat) : Sq := if hasK S.l id then S else ⟨S.v, S.m, insK S.l (id, Fl.new r n)⟩
def Sq.remE (S : Sq) (id : Int) : Int := if hasK S.l id then (if (getK S.l id).any then 8 else 0) else 5
def Sq.rem (S : Sq) (id : Int) : Sq := if hasK S.l id && !(getK S.l id).any then ⟨S.v, S.m, delK S.l id⟩ else S
def Sq.arrE (S : Sq) (p : Pk) : Int := if hasK S.l p.f then (if (getK S.l p.f).takes then 0 else 9) else 5
def Sq.arr (S : Sq) (p : Pk) : Sq := ⟨S.v, S.m, updK S.l p.f fun F => F.arr S.v p⟩
def Sq.any (S : Sq) : Bool := !(startsK S.l).isEmpty
def Sq.hd (S : Sq) : Pk := match startsK S.l with | [] => Pk.none | x :: _ => (getK S.l x.i).hd
def Sq.srv (S : Sq) : Sq := match startsK S.l with | [] => ⟨max S.v S.m, S.m, S.l⟩ | x :: _ => ⟨x.k, max S.m (getK S.l x.i).fin, updK S.l x.i Fl.srv⟩
structure Sq.ok (S : Sq) : Prop where
  v : U64 S.v
  m : U64 S.m
  srt : Srt S.l
  wf : ∀ e ∈ S.l, i64ok e.1 ∧ e.2.ok
  len : S.l.length ≤ 1000
theorem Sq.ok.new : Sq.new.ok := ⟨U64.zero, U64.zero, List.Pairwise.nil, by simp [Sq.new], by simp [Sq.new]⟩
theorem Sq.ok.add {S : Sq} (h : S.ok) {id r : Int} (hid : i64ok id) (hr : U64 r) (most : Int) (hl : S.l.length < 1000) : (S.add id r (room most)).ok := by
  unfold Sq.add
  rcases hh : hasK S.l id with _ | _
  · rw [if_neg (by simp)]
    refine ⟨h.v, h.m, h.srt.ins _ hh, fun e he => ?_, by rw [insK_len]; omega⟩
    rcases insK_mem.1 he with rfl | he
    · exact ⟨hid, Fl.new_ok hr most⟩
    · exact h.wf e he
  · rw [if_pos rfl]; exact h
theorem Sq.ok.rem {S : Sq} (h : S.ok) (id : Int) : (S.rem id).ok := by
  unfold Sq.rem
  split
  · exact ⟨h.v, h.m, h.srt.del _, fun e he => h.wf e (List.mem_of_mem_eraseIdx he), Nat.le_trans (List.length_eraseIdx_le _ _) h.len⟩
  · exact h
theorem updK_len (K : List (Int × Fl)) (id : Int) (f : Fl → Fl) : (updK K id f).length = K.length := by simp [updK]
theorem Sq.ok.upd {S : Sq} (h : S.ok) {v m : Int} (hv : U64 v) (hm : U64 m) (id : Int) (f : Fl → Fl) (hf : ∀ F : Fl, F.ok → (f F).ok) : (⟨v, m, updK S.l id f⟩ : Sq).ok := by
  refine ⟨hv, hm, h.srt.upd _ _, fun e he => ?_, by rw [updK_len]; exact h.len⟩
  rcases updK_mem he with he | ⟨d, hd, e1, rfl⟩
  · exact h.wf e he
  · exact ⟨e1 ▸ (h.wf d hd).1, hf _ (h.wf d hd).2⟩
theorem Sq.ok.arr {S : Sq} (h : S.ok) {p : Pk} (hp : p.ok) : (S.arr p).ok := h.upd h.v h.m _ _ fun F hF => hF.arr h.v hp
theorem U64.max {a b : Int} (h : U64 a) (h2 : U64 b) : U64 (max a b) := by unfold U64 at *; omega
theorem Sq.ok.starts {S : Sq} (h : S.ok) {x : It} (hx : x ∈ startsK S.l) : ∃ (i : Nat) (F : Fl), S.l[i]? = some (x.i, F) ∧ F.any = true ∧ x.k = F.s ∧ F.ok ∧ i64ok x.i := by
  obtain ⟨⟨id, F⟩, he, ha, rfl⟩ := itemsK_mem.1 ((startsK_perm _).subset hx)
  obtain ⟨i, hi, e⟩ := List.getElem_of_mem he
  exact ⟨i, F, by rw [List.getElem?_eq_getElem hi, e]; rfl, ha, rfl, (h.wf _ he).2, (h.wf _ he).1⟩
theorem Sq.ok.srv {S : Sq} (h : S.ok) : S.srv.ok := by
  unfold Sq.srv
  rcases hs : startsK S.l with _ | ⟨x, t⟩
  · exact ⟨h.v.max h.m, h.m, h.srt, h.wf, h.len⟩
  · obtain ⟨i, F, hi, ha, hk, hF, _⟩ := h.starts (x := x) (by rw [hs]; simp)
    show (⟨x.k, max S.m (getK S.l x.i).fin, updK S.l x.i Fl.srv⟩ : Sq).ok
    rw [getK_is h.srt hi]
    exact h.upd (hk ▸ hF.s) (h.m.max hF.fin) _ _ fun F hF => hF.srv
theorem Sq.ok.hd {S : Sq} (h : S.ok) : S.hd.ok := by
  unfold Sq.hd
  rcases hs : startsK S.l with _ | ⟨x, t⟩
  · exact Pk.none_ok
  · obtain ⟨i, F, hi, ha, hk, hF, _⟩ := h.starts (x := x) (by rw [hs]; simp)
    show (getK S.l x.i).hd.ok
    rw [getK_is h.srt hi]
    exact hF.hd
/-- The one that is served. -/
theorem Sq.srv_is {S : Sq} (h : S.ok) {i : Nat} {id : Int} {F : Fl} (hi : S.l[i]? = some (id, F)) (ha : F.any = true) (hl : ∀ d ∈ S.l, d.2.any = true → (itemK d).lt (itemK (id, F)) = false) :
    S.srv = ⟨F.s, max S.m F.fin, S.l.set i (id, F.srv)⟩ ∧ S.hd = F.hd ∧ S.any = true := by
  obtain ⟨t, ht⟩ := startsK_head h.srt hi ha hl
  unfold Sq.srv Sq.hd Sq.any
  rw [ht]
  refine ⟨?_, ?_, rfl⟩
  · show (⟨F.s, max S.m (getK S.l id).fin, updK S.l id Fl.srv⟩ : Sq) = _
    rw [getK_is h.srt hi, updK_is h.srt hi]
  · show (getK S.l id).hd = _
    rw [getK_is h.srt hi]
theorem Sq.srv_none {S : Sq} (h : ∀ d ∈ S.l, d.2.any = false) : S.srv = ⟨max S.v S.m, S.m, S.l⟩ ∧ S.hd = Pk.none ∧ S.any = false := by
  have hs := startsK_none h
  unfold Sq.srv Sq.hd Sq.any
  rw [hs]
  exact ⟨rfl, rfl, rfl⟩
theorem Sq.srv_len (S : Sq) : S.srv.l.length = S.l.length := by
  unfold Sq.srv
  rcases startsK S.l with _ | ⟨x, t⟩
  · rfl
  · exact updK_len _ _ _
theorem Sq.arr_len (S : Sq) (p : Pk) : (S.arr p).l.length = S.l.length := by unfold Sq.arr; simp [updK]
theorem Sq.rem_len (S : Sq) (id : Int) : (S.rem id).l.length ≤ S.l.length := by
  unfold Sq.rem
  split
  · exact List.length_eraseIdx_le _ _
  · exact Nat.le_refl _
theorem Sq.add_len (S : Sq) (id r : Int) (n : Nat) : (S.add id r n).l.length ≤ S.l.length + 1 := by
  unfold Sq.add
  split
  · omega
  · show (insK S.l _).length ≤ _
    rw [insK_len]; omega
end Go.Proofs.Ytklolepmmabijaa

namespace Go.Proofs.Ytklolepmmabijaa
set_option maxRecDepth 100000
open Go.RowKit
set_option linter.unusedVariables false
set_option linter.unusedSimpArgs false

def ptr (b : Nat) : Value := .pointer (some ⟨b, 0, none⟩)
/-- member: a number and a flow (or none). -/
def mE : El (Int × Option Nat) 2 where
  T := 72
  cs := fun x => [.int .i64 x.1, .pointer (x.2.map fun b => ⟨b, 0, none⟩)]
  z := .agg #[.int .i64 0, .pointer none]
  wide := 16
  len := fun _ => rfl
  one := fun x u hu => by
    simp at hu
    rcases hu with rfl | rfl <;> rfl
  pos := by decide
  info := by kernel_rfl
  zs := rfl
  small := by decide
/-- turn: an item and a flow. -/
def tE : El (It × Nat) 3 where
  T := 79
  cs := fun x => [.int .u64 x.1.k, .int .i64 x.1.i, .pointer (some ⟨x.2, 0, none⟩)]
  z := .agg #[.int .u64 0, .int .i64 0, .pointer none]
  wide := 24
  len := fun _ => rfl
  one := fun x u hu => by
    simp at hu
    rcases hu with rfl | rfl | rfl <;> rfl
  pos := by decide
  info := by kernel_rfl
  zs := rfl
  small := by decide
/-- The document's flows. -/
def pE : El Nat 1 where
  T := 105
  cs := fun b => [.pointer (some ⟨b, 0, none⟩)]
  z := .pointer none
  wide := 8
  len := fun _ => rfl
  one := fun x u hu => by
    simp at hu
    subst hu
    rfl
  pos := by decide
  info := by kernel_rfl
  zs := rfl
  small := by decide
/-- ints. -/
def iE : El Int 1 where
  T := 3
  cs := fun a => [.int .i64 a]
  z := .int .i64 0
  wide := 8
  len := fun _ => rfl
  one := fun x u hu => by
    simp at hu
    subst hu
    rfl
  pos := by decide
  info := by kernel_rfl
  zs := rfl
  small := by decide

/-! ### families -/
/-- An entry: a flow's number, what it is, its block, what it owns. -/
structure En where
  id : Int
  F : Fl
  b : Nat
  O : List Nat
def En.key (e : En) : Int × Fl := (e.id, e.F)
def En.mb (e : En) : Int × Option Nat := (e.id, some e.b)
structure Rep (R : World → En → Prop) : Prop where
  only : ∀ {w w' : World} {e : En} {S : List Nat}, R w e → Only S w w' → (∀ k ∈ e.O, k ∉ S) → R w' e
  lt : ∀ {w : World} {e : En}, R w e → ∀ k ∈ e.O, k < w.heap.size
def Ours (w : World) (e : En) : Prop := FlowOf w e.b e.F e.O
def Theirs (w : World) (e : En) : Prop := RefOf w e.b e.id e.F e.O
theorem rep_ours : Rep Ours := ⟨fun h ho hS => FlowOf.only h ho hS, fun h => FlowOf.lt h⟩
theorem rep_theirs : Rep Theirs := ⟨fun h ho hS => RefOf.only h ho hS, fun h => RefOf.lt h⟩
/-- Flows that have nothing in common, nor with X. -/
structure Fam (R : World → En → Prop) (w : World) (es : List En) (X : List Nat) : Prop where
  each : ∀ e ∈ es, R w e
  ap : es.Pairwise fun a c => ∀ k ∈ a.O, k ∉ c.O
  apX : ∀ e ∈ es, ∀ k ∈ e.O, k ∉ X
def ownF (X : List Nat) (es : List En) : List Nat := X ++ es.flatMap En.O
theorem mem_ownF {X : List Nat} {es : List En} {k : Nat} : k ∈ ownF X es ↔ k ∈ X ∨ ∃ e ∈ es, k ∈ e.O := by simp [ownF]
theorem Fam.apart {R : World → En → Prop} {w : World} {es : List En} {X : List Nat} (h : Fam R w es X) {i : Nat} {e d : En} (hi : es[i]? = some e) {j : Nat} (hj : es[j]? = some d) (hne : i ≠ j) : ∀ k ∈ e.O, k ∉ d.O := by
  obtain ⟨hi', rfl⟩ := List.getElem?_eq_some_iff.1 hi
  obtain ⟨hj', rfl⟩ := List.getElem?_eq_some_iff.1 hj
  rcases Nat.lt_or_ge i j with h1 | h1
  · exact List.pairwise_iff_getElem.1 h.ap i j hi' hj' h1
  · intro k hk hk2
    exact List.pairwise_iff_getElem.1 h.ap j i hj' hi' (by omega) k hk2 hk
section
variable {R : World → En → Prop} (hR : Rep R) {w w' : World} {es : List En} {X : List Nat}
include hR
theorem Fam.only {S : List Nat} (h : Fam R w es X) (ho : Only S w w') (hS : ∀ e ∈ es, ∀ k ∈ e.O, k ∉ S) : Fam R w' es X :=
  ⟨fun e he => hR.only (h.each e he) ho (hS e he), h.ap, h.apX⟩
theorem Fam.only0 (h : Fam R w es X) (ho : Only [] w w') : Fam R w' es X := h.only hR ho (by simp)
/-- X alone turned. -/
theorem Fam.onlyX (h : Fam R w es X) (ho : Only X w w') {X' : List Nat} (hX : ∀ k ∈ X', k ∈ X ∨ w.heap.size ≤ k) : Fam R w' es X' ∧ Went w (ownF X es) w' (ownF X' es) := by
  refine ⟨⟨(h.only hR ho h.apX).each, h.ap, fun e he k hk hk2 => ?_⟩, ho.mono (fun k hk => .inl (mem_ownF.2 (.inl hk))), fun k hk => ?_⟩
  · rcases hX k hk2 with h1 | h1
    · exact h.apX e he k hk h1
    · have := hR.lt (h.each e he) k hk; omega
  · rcases mem_ownF.1 hk with h1 | h1
    · rcases hX k h1 with h2 | h2
      · exact .inl (mem_ownF.2 (.inl h2))
      · exact .inr h2
    · exact .inl (mem_ownF.2 (.inr h1))
/-- One flow turned. -/
theorem Fam.set (h : Fam R w es X) {i : Nat} {e e' : En} (hi : es[i]? = some e) (hr : R w' e') (hw : Went w e.O w' e'.O) (hX : ∀ k ∈ X, k < w.heap.size) :
    Fam R w' (es.set i e') X ∧ Went w (ownF X es) w' (ownF X (es.set i e')) := by
  have hil : i < es.length := (List.getElem?_eq_some_iff.1 hi).1
  have hem : e ∈ es := List.mem_of_getElem? hi
  have hget : ∀ j d, (es.set i e')[j]? = some d → (j = i ∧ d = e') ∨ (j ≠ i ∧ es[j]? = some d) := fun j d hd => by
    rw [List.getElem?_set] at hd
    by_cases e1 : i = j
    · subst e1
      rw [if_pos rfl, if_pos hil] at hd
      injection hd with hd
      exact .inl ⟨rfl, hd.symm⟩
    · rw [if_neg e1] at hd
      exact .inr ⟨fun e2 => e1 e2.symm, hd⟩
  have hold : ∀ j d, j ≠ i → es[j]? = some d → R w' d ∧ ∀ k ∈ d.O, k ∉ e'.O := fun j d hj hd => by
    have ha := h.apart hd hi hj
    have hd' := h.each d (List.mem_of_getElem? hd)
    refine ⟨hR.only hd' hw.1 ha, fun k hk hk2 => ?_⟩
    rcases hw.2 k hk2 with h1 | h1
    · exact ha k hk h1
    · have := hR.lt hd' k hk; omega
  refine ⟨⟨fun d hd => ?_, ?_, fun d hd k hk hkX => ?_⟩, ?_, fun k hk => ?_⟩
  · obtain ⟨j, hj⟩ := List.getElem?_of_mem hd
    rcases hget j d hj with ⟨_, rfl⟩ | ⟨h1, h2⟩
    · exact hr
    · exact (hold j d h1 h2).1
  · refine List.pairwise_iff_getElem.2 fun a b ha hb hab => ?_
    have ga := hget a _ (List.getElem?_eq_getElem ha)
    have gb := hget b _ (List.getElem?_eq_getElem hb)
    rcases ga with ⟨rfl, ga⟩ | ⟨na, ga⟩
    · rcases gb with ⟨rfl, gb⟩ | ⟨nb, gb⟩
      · omega
      · rw [ga]
        intro k hk hk2
        exact (hold b _ nb gb).2 k hk2 hk
    · rcases gb with ⟨rfl, gb⟩ | ⟨nb, gb⟩
      · rw [gb]
        exact (hold a _ na ga).2
      · exact h.apart ga gb (by omega)
  · obtain ⟨j, hj⟩ := List.getElem?_of_mem hd
    rcases hget j d hj with ⟨_, rfl⟩ | ⟨h1, h2⟩
    · rcases hw.2 k hk with h3 | h3
      · exact h.apX e hem k h3 hkX
      · have := hX k hkX; omega
    · exact h.apX d (List.mem_of_getElem? h2) k hk hkX
  · exact hw.1.mono (fun k hk => .inl (mem_ownF.2 (.inr ⟨e, hem, hk⟩)))
  · rcases mem_ownF.1 hk with h1 | ⟨d, hd, hkd⟩
    · exact .inl (mem_ownF.2 (.inl h1))
    · obtain ⟨j, hj⟩ := List.getElem?_of_mem hd
      rcases hget j d hj with ⟨_, rfl⟩ | ⟨h1, h2⟩
      · rcases hw.2 k hkd with h3 | h3
        · exact .inl (mem_ownF.2 (.inr ⟨e, hem, h3⟩))
        · exact .inr h3
      · exact .inl (mem_ownF.2 (.inr ⟨d, List.mem_of_getElem? h2, hkd⟩))
end
section
variable {R : World → En → Prop} {w : World} {es : List En} {X : List Nat}
/-- One more. -/
theorem Fam.insert (h : Fam R w es X) (i : Nat) {e : En} (hr : R w e) (hX : ∀ k ∈ e.O, k ∉ X) (hes : ∀ d ∈ es, ∀ k ∈ e.O, k ∉ d.O) : Fam R w (es.take i ++ e :: es.drop i) X := by
  have hm : ∀ d, d ∈ es.take i ++ e :: es.drop i → d = e ∨ d ∈ es := fun d hd => by
    rcases List.mem_append.1 hd with hd | hd
    · exact .inr (List.mem_of_mem_take hd)
    · rcases List.mem_cons.1 hd with rfl | hd
      · exact .inl rfl
      · exact .inr (List.mem_of_mem_drop hd)
  refine ⟨fun d hd => (hm d hd).elim (fun e1 => e1 ▸ hr) (h.each d), ?_, fun d hd => (hm d hd).elim (fun e1 => e1 ▸ hX) (h.apX d)⟩
  have h' := h.ap
  rw [← List.take_append_drop i es] at h'
  obtain ⟨p1, p2, p3⟩ := List.pairwise_append.1 h'
  refine List.pairwise_append.2 ⟨p1, List.pairwise_cons.2 ⟨fun d hd => hes d (List.mem_of_mem_drop hd), p2⟩, fun a ha b hb => ?_⟩
  rcases List.mem_cons.1 hb with rfl | hb
  · intro k hk hk2
    exact hes a (List.mem_of_mem_take ha) k hk2 hk
  · exact p3 a ha b hb
theorem Fam.sub (h : Fam R w es X) {ds : List En} (hd : ds.Sublist es) : Fam R w ds X :=
  ⟨fun e he => h.each e (hd.subset he), List.Pairwise.sublist hd h.ap, fun e he => h.apX e (hd.subset he)⟩
end

/-! ### the structs -/
def SBlk (w : World) (b : Nat) (v m : Int) (u : Value) : Prop := w.heap[b]? = some (.cells #[.int .u64 v, .int .u64 m, u] 69 (0, 0))
section
variable {w w' : World} {b : Nat} {v m : Int} {u : Value}
theorem SBlk.lt (h : SBlk w b v m u) : b < w.heap.size := (Array.getElem?_eq_some_iff.1 h).1
theorem SBlk.c (h : SBlk w b v m u) : w.cell? ⟨b, 0, none⟩ = some (.int .u64 v) ∧ w.cell? ⟨b, 1, none⟩ = some (.int .u64 m) ∧ w.cell? ⟨b, 2, none⟩ = some u :=
  ⟨by rw [cell_of_row w b 0 _ _ _ h]; rfl, by rw [cell_of_row w b 1 _ _ _ h]; rfl, by rw [cell_of_row w b 2 _ _ _ h]; rfl⟩
theorem SBlk.fr (h : SBlk w b v m u) (j : Nat) : w.frozen? ⟨b, j, none⟩ = false := frozen_of_row w b j _ _ h
theorem SBlk.only {S : List Nat} (h : SBlk w b v m u) (ho : Only S w w') (hS : b ∉ S) : SBlk w' b v m u := ho.get h hS
theorem SBlk.only0 (h : SBlk w b v m u) (ho : Only [] w w') : SBlk w' b v m u := h.only ho (by simp)
theorem SBlk.set0 (h : SBlk w b v m u) (x : Int) : SBlk (w.setCell ⟨b, 0, none⟩ (.int .u64 x)) b x m u := by
  have := heap_setCell_same w b 0 _ _ (.int .u64 x) h
  simpa [SBlk] using this
theorem SBlk.set1 (h : SBlk w b v m u) (x : Int) : SBlk (w.setCell ⟨b, 1, none⟩ (.int .u64 x)) b v x u := by
  have := heap_setCell_same w b 1 _ _ (.int .u64 x) h
  simpa [SBlk] using this
theorem SBlk.set2 (h : SBlk w b v m u) (x : Value) : SBlk (w.setCell ⟨b, 2, none⟩ x) b v m x := by
  have := heap_setCell_same w b 2 _ _ x h
  simpa [SBlk] using this
end
/-- The document's: flows first. -/
def QBlk (w : World) (b : Nat) (v m : Int) (u : Value) : Prop := w.heap[b]? = some (.cells #[u, .int .u64 v, .int .u64 m] 85 (0, 0))
section
variable {w w' : World} {b : Nat} {v m : Int} {u : Value}
theorem QBlk.lt (h : QBlk w b v m u) : b < w.heap.size := (Array.getElem?_eq_some_iff.1 h).1
theorem QBlk.c (h : QBlk w b v m u) : w.cell? ⟨b, 0, none⟩ = some u ∧ w.cell? ⟨b, 1, none⟩ = some (.int .u64 v) ∧ w.cell? ⟨b, 2, none⟩ = some (.int .u64 m) :=
  ⟨by rw [cell_of_row w b 0 _ _ _ h]; rfl, by rw [cell_of_row w b 1 _ _ _ h]; rfl, by rw [cell_of_row w b 2 _ _ _ h]; rfl⟩
theorem QBlk.fr (h : QBlk w b v m u) (j : Nat) : w.frozen? ⟨b, j, none⟩ = false := frozen_of_row w b j _ _ h
theorem QBlk.only {S : List Nat} (h : QBlk w b v m u) (ho : Only S w w') (hS : b ∉ S) : QBlk w' b v m u := ho.get h hS
theorem QBlk.only0 (h : QBlk w b v m u) (ho : Only [] w w') : QBlk w' b v m u := h.only ho (by simp)
theorem QBlk.set0 (h : QBlk w b v m u) (x : Value) : QBlk (w.setCell ⟨b, 0, none⟩ x) b v m x := by
  have := heap_setCell_same w b 0 _ _ x h
  simpa [QBlk] using this
theorem QBlk.set1 (h : QBlk w b v m u) (x : Int) : QBlk (w.setCell ⟨b, 1, none⟩ (.int .u64 x)) b x m u := by
  have := heap_setCell_same w b 1 _ _ (.int .u64 x) h
  simpa [QBlk] using this
theorem QBlk.set2 (h : QBlk w b v m u) (x : Int) : QBlk (w.setCell ⟨b, 2, none⟩ (.int .u64 x)) b v x u := by
  have := heap_setCell_same w b 2 _ _ (.int .u64 x) h
  simpa [QBlk] using this
end
def xOf (b : Nat) (u : Value) : List Nat := b :: u.ownBlock.toList
theorem mem_xOf {b : Nat} {u : Value} {k : Nat} : k ∈ xOf b u ↔ k = b ∨ u.ownBlock = some k := by simp [xOf, Option.mem_toList, eq_comm]

/-- Ours in memory: S as numbers, u its slice, es its flows. -/
structure SqIs (w : World) (b : Nat) (S : Sq) (u : Value) (es : List En) : Prop where
  ok : S.ok
  blk : SBlk w b S.v S.m u
  row : mE.Row w u (es.map En.mb)
  fam : Fam Ours w es (xOf b u)
  key : es.map En.key = S.l
def SqOf (w : World) (b : Nat) (S : Sq) (O : List Nat) : Prop := ∃ u es, SqIs w b S u es ∧ O = ownF (xOf b u) es
/-- What comes of one that is turned to S. -/
def STo (w : World) (b : Nat) (O : List Nat) (S : Sq) (w' : World) : Prop := ∃ O', SqOf w' b S O' ∧ Went w O w' O'
structure RqIs (w : World) (b : Nat) (S : Sq) (u : Value) (es : List En) : Prop where
  ok : S.ok
  blk : QBlk w b S.v S.m u
  row : pE.Row w u (es.map En.b)
  fam : Fam Theirs w es (xOf b u)
  key : es.map En.key = S.l
def RqOf (w : World) (b : Nat) (S : Sq) (O : List Nat) : Prop := ∃ u es, RqIs w b S u es ∧ O = ownF (xOf b u) es
def QTo (w : World) (b : Nat) (O : List Nat) (S : Sq) (w' : World) : Prop := ∃ O', RqOf w' b S O' ∧ Went w O w' O'
theorem key_len {S : Sq} {es : List En} (h : es.map En.key = S.l) : es.length = S.l.length := by rw [← h]; simp
theorem key_at {S : Sq} {es : List En} (h : es.map En.key = S.l) {i : Nat} {e : En} (hi : es[i]? = some e) : S.l[i]? = some (e.id, e.F) := by rw [← h, List.getElem?_map, hi]; rfl
theorem at_key {S : Sq} {es : List En} (h : es.map En.key = S.l) {i : Nat} {x : Int × Fl} (hi : S.l[i]? = some x) : ∃ e, es[i]? = some e ∧ e.id = x.1 ∧ e.F = x.2 := by
  rw [← h, List.getElem?_map] at hi
  rcases he : es[i]? with _ | e
  · rw [he] at hi; cases hi
  · rw [he] at hi
    injection hi with hi
    exact ⟨e, rfl, by rw [← hi]; rfl, by rw [← hi]; rfl⟩
section
variable {w w' : World} {b : Nat} {S : Sq} {u : Value} {es : List En} {O T : List Nat}
theorem SqIs.row_ne (h : SqIs w b S u es) : ∀ g, u.ownBlock = some g → g ≠ b := h.row.ne h.blk (by decide)
theorem SqIs.lt (h : SqIs w b S u es) : ∀ k ∈ ownF (xOf b u) es, k < w.heap.size := by
  intro k hk
  rcases mem_ownF.1 hk with hk | ⟨e, he, hk⟩
  · rcases mem_xOf.1 hk with rfl | hk
    · exact h.blk.lt
    · exact h.row.lt hk
  · exact rep_ours.lt (h.fam.each e he) k hk
theorem SqIs.only (h : SqIs w b S u es) (ho : Only T w w') (hT : ∀ k ∈ ownF (xOf b u) es, k ∉ T) : SqIs w' b S u es :=
  ⟨h.ok, h.blk.only ho (hT b (mem_ownF.2 (.inl (mem_xOf.2 (.inl rfl))))), h.row.only ho (fun g hg => hT g (mem_ownF.2 (.inl (mem_xOf.2 (.inr hg))))), h.fam.only rep_ours ho (fun e he k hk => hT k (mem_ownF.2 (.inr ⟨e, he, hk⟩))), h.key⟩
theorem SqIs.only0 (h : SqIs w b S u es) (ho : Only [] w w') : SqIs w' b S u es := h.only ho (by simp)
theorem SqOf.only (h : SqOf w b S O) (ho : Only T w w') (hT : ∀ k ∈ O, k ∉ T) : SqOf w' b S O := by
  obtain ⟨u, es, h1, rfl⟩ := h
  exact ⟨u, es, h1.only ho hT, rfl⟩
theorem SqOf.only0 (h : SqOf w b S O) (ho : Only [] w w') : SqOf w' b S O := h.only ho (by simp)
theorem SqOf.lt (h : SqOf w b S O) : ∀ k ∈ O, k < w.heap.size := by
  obtain ⟨u, es, h1, rfl⟩ := h
  exact h1.lt
theorem SqOf.mem (h : SqOf w b S O) : b ∈ O := by
  obtain ⟨u, es, h1, rfl⟩ := h
  exact mem_ownF.2 (.inl (mem_xOf.2 (.inl rfl)))
theorem SqOf.ok (h : SqOf w b S O) : S.ok := by
  obtain ⟨u, es, h1, rfl⟩ := h
  exact h1.ok
theorem STo.still (h : SqOf w b S O) (ho : Only [] w w') : STo w b O S w' := ⟨O, h.only0 ho, Went.still ho O⟩
theorem STo.from {w2 : World} (ho : Only [] w w2) (h : STo w2 b O S w') : STo w b O S w' := by
  obtain ⟨O', h1, h2⟩ := h
  exact ⟨O', h1, (Went.still ho O).trans h2⟩
theorem STo.on {w2 : World} (h : STo w b O S w2) (ho : Only [] w2 w') : STo w b O S w' := by
  obtain ⟨O', h1, h2⟩ := h
  exact ⟨O', h1.only0 ho, h2.trans (Went.still ho O')⟩
theorem RqIs.row_ne (h : RqIs w b S u es) : ∀ g, u.ownBlock = some g → g ≠ b := h.row.ne h.blk (by decide)
theorem RqIs.lt (h : RqIs w b S u es) : ∀ k ∈ ownF (xOf b u) es, k < w.heap.size := by
  intro k hk
  rcases mem_ownF.1 hk with hk | ⟨e, he, hk⟩
  · rcases mem_xOf.1 hk with rfl | hk
    · exact h.blk.lt
    · exact h.row.lt hk
  · exact rep_theirs.lt (h.fam.each e he) k hk
theorem RqIs.only (h : RqIs w b S u es) (ho : Only T w w') (hT : ∀ k ∈ ownF (xOf b u) es, k ∉ T) : RqIs w' b S u es :=
  ⟨h.ok, h.blk.only ho (hT b (mem_ownF.2 (.inl (mem_xOf.2 (.inl rfl))))), h.row.only ho (fun g hg => hT g (mem_ownF.2 (.inl (mem_xOf.2 (.inr hg))))), h.fam.only rep_theirs ho (fun e he k hk => hT k (mem_ownF.2 (.inr ⟨e, he, hk⟩))), h.key⟩
theorem RqIs.only0 (h : RqIs w b S u es) (ho : Only [] w w') : RqIs w' b S u es := h.only ho (by simp)
theorem RqOf.only (h : RqOf w b S O) (ho : Only T w w') (hT : ∀ k ∈ O, k ∉ T) : RqOf w' b S O := by
  obtain ⟨u, es, h1, rfl⟩ := h
  exact ⟨u, es, h1.only ho hT, rfl⟩
theorem RqOf.only0 (h : RqOf w b S O) (ho : Only [] w w') : RqOf w' b S O := h.only ho (by simp)
theorem RqOf.lt (h : RqOf w b S O) : ∀ k ∈ O, k < w.heap.size := by
  obtain ⟨u, es, h1, rfl⟩ := h
  exact h1.lt
theorem RqOf.mem (h : RqOf w b S O) : b ∈ O := by
  obtain ⟨u, es, h1, rfl⟩ := h
  exact mem_ownF.2 (.inl (mem_xOf.2 (.inl rfl)))
theorem RqOf.ok (h : RqOf w b S O) : S.ok := by
  obtain ⟨u, es, h1, rfl⟩ := h
  exact h1.ok
theorem QTo.still (h : RqOf w b S O) (ho : Only [] w w') : QTo w b O S w' := ⟨O, h.only0 ho, Went.still ho O⟩
theorem QTo.from {w2 : World} (ho : Only [] w w2) (h : QTo w2 b O S w') : QTo w b O S w' := by
  obtain ⟨O', h1, h2⟩ := h
  exact ⟨O', h1, (Went.still ho O).trans h2⟩
theorem QTo.on {w2 : World} (h : QTo w b O S w2) (ho : Only [] w2 w') : QTo w b O S w' := by
  obtain ⟨O', h1, h2⟩ := h
  exact ⟨O', h1.only0 ho, h2.trans (Went.still ho O')⟩
end
theorem set_same {α β : Type} (f : α → β) {es : List α} {i : Nat} {e e' : α} (hi : es[i]? = some e) (h : f e' = f e) : (es.set i e').map f = es.map f := by
  apply List.ext_getElem?
  intro j
  rw [List.getElem?_map, List.getElem?_map, List.getElem?_set]
  by_cases e1 : i = j
  · subst e1
    rw [if_pos rfl, if_pos (List.getElem?_eq_some_iff.1 hi).1, hi]
    simp [h]
  · rw [if_neg e1]
end Go.Proofs.Ytklolepmmabijaa
