/-
  Over rows of calls: calls, neighbours, IndexFunc, ContainsFunc, DeleteFunc, Clone.
-/
import Derived.Test.YtaaolacfhdfagaaHsB
import Derived.Lib.SliceRun
import Derived.Deep.LoopGhost
import Derived.StillTailTactics
namespace Go.Proofs.Ytaaolacfhdfagaa
set_option maxRecDepth 100000
open Go.RowKit
set_option linter.unusedVariables false
set_option linter.unusedSimpArgs false
set_option maxRecDepth 100000

def optI : Option Nat → Int
  | none => -1
  | some k => (k : Int)
theorem findX_some {α : Type} {L : List α} {p : α → Bool} {k : Nat} {x : α} (hk : L[k]? = some x) (h : p x = true) (hb : ∀ (i : Nat) (y : α), i < k → L[i]? = some y → p y = false) : L.findIdx? p = some k := by
  rw [List.findIdx?_eq_some_iff_getElem]
  obtain ⟨hlt, e⟩ := List.getElem?_eq_some_iff.1 hk
  refine ⟨hlt, by rw [e]; exact h, fun j hj => ?_⟩
  have := hb j _ hj (List.getElem?_eq_getElem (by omega))
  simp [this]
theorem findX_none {α : Type} {L : List α} {p : α → Bool} (hb : ∀ (i : Nat) (y : α), L[i]? = some y → p y = false) : L.findIdx? p = none := by
  rw [List.findIdx?_eq_none_iff]
  intro x hx
  obtain ⟨i, hi⟩ := List.getElem?_of_mem hx
  exact hb i x hi
theorem findX_any {α : Type} (L : List α) (p : α → Bool) : decide (0 ≤ optI (L.findIdx? p)) = L.any p := by
  rcases h : L.findIdx? p with _ | k
  · rw [List.findIdx?_eq_none_iff] at h
    have : L.any p = false := by rw [List.any_eq_false]; intro x hx; simp [h x hx]
    rw [this]; simp [optI]
  · rw [List.findIdx?_eq_some_iff_getElem] at h
    obtain ⟨hk, hp, _⟩ := h
    have : L.any p = true := List.any_eq_true.2 ⟨_, List.getElem_mem hk, hp⟩
    rw [this]; simp [optI]

/-! ### what lies in a row while it is gone through by DeleteFunc -/
structure DelX {α : Type} (L M : List α) (q : α → Bool) (i j : Nat) : Prop where
  len : M.length = L.length
  front : M.take i = (L.take j).filter fun x => !q x
  back : ∀ k, j ≤ k → M[k]? = L[k]?
  lt : i < j
  le : j ≤ L.length
section
variable {α : Type} {L M : List α} {q : α → Bool} {i j : Nat}
theorem take_succ_at {α : Type} {l : List α} {k : Nat} {x : α} (h : l[k]? = some x) : l.take (k + 1) = l.take k ++ [x] := by
  rw [List.take_add_one, h]; rfl
theorem DelX.skip (h : DelX L M q i j) {x : α} (hx : L[j]? = some x) (hq : q x = true) : DelX L M q i (j + 1) := by
  have hj := (List.getElem?_eq_some_iff.1 hx).1
  refine ⟨h.len, ?_, fun k hk => h.back k (by omega), by have := h.lt; omega, by omega⟩
  rw [take_succ_at hx, List.filter_append, h.front]
  simp [hq]
theorem DelX.keep (h : DelX L M q i j) {x : α} (hx : L[j]? = some x) (hq : q x = false) : DelX L (M.set i x) q (i + 1) (j + 1) := by
  have hj := (List.getElem?_eq_some_iff.1 hx).1
  have hlt := h.lt
  have hl := h.len
  refine ⟨by simpa using h.len, ?_, fun k hk => ?_, by omega, by omega⟩
  · rw [take_succ_at hx, List.filter_append, ← h.front, take_succ_at (l := M.set i x) (k := i) (x := x) (by rw [List.getElem?_set_self (by omega)]), List.take_set_of_le (Nat.le_refl _)]
    simp [hq]
  · rw [List.getElem?_set_ne (by omega)]
    exact h.back k (by omega)
theorem DelX.start {k : Nat} {x : α} (hx : L[k]? = some x) (h : q x = true) (hb : ∀ (i : Nat) (y : α), i < k → L[i]? = some y → q y = false) : DelX L L q k (k + 1) := by
  have hk := (List.getElem?_eq_some_iff.1 hx).1
  have hf : (L.take k).filter (fun x => !q x) = L.take k := by
    rw [List.filter_eq_self]
    intro y hy
    obtain ⟨i, hi⟩ := List.getElem?_of_mem hy
    rw [List.getElem?_take] at hi
    split at hi
    · rw [hb i y (by omega) hi]; rfl
    · cases hi
  refine ⟨rfl, ?_, fun _ _ => rfl, by omega, by omega⟩
  rw [take_succ_at hx, List.filter_append, hf]
  simp [h]
end
/-- clear of a slice of structs. -/
theorem zeroK (n : Nat) : (Builtin.zeroCells kE.z.cells n).toList = kE.flat (List.replicate n default) := by
  have e : Builtin.zeroCells kE.z.cells n = madeCells kE.z.cells (n * 12) := rfl
  rw [e]
  exact El.made_flat (E := kE) (default : Dn) rfl n
theorem zero_call (w : World) : (zeroValue 41).run Try.prog w = .ok kE.z w := by kernel_rfl
theorem run_clearK (w : World) (ty : TypeId) (b o n c : Nat) (hn : 0 < n)
    (hc : ∀ j, j < n * 12 → (w.cell? ⟨b, o + j, none⟩).isSome = true) (hf : ∀ j, j < n * 12 → w.frozen? ⟨b, o + j, none⟩ = false) :
    (Builtin.clear_ #[53] ty #[.slice (some ⟨b, o, none⟩) n c]).run Try.prog w = .ok (.tuple #[]) (w.setCells b o (kE.flat (List.replicate n default))) := by
  have hl : (kE.flat (List.replicate n (default : Dn))).length = n * 12 := by rw [kE.flat_length]; simp
  have hst := run_storeCells_cells (P := Try.prog) b o (kE.flat (List.replicate n default)) 0 w (by rw [hl]; simpa using hc) (by rw [hl]; simpa using hf) (kE.flat_one _)
  simp only [Nat.add_zero] at hst
  have hzc := zeroK n
  have hzv := zero_call
  generalize kE.z = z at *
  generalize kE.flat (List.replicate n (default : Dn)) = l at *
  obtain ⟨m, rfl⟩ : ∃ m, n = m + 1 := ⟨n - 1, by omega⟩
  simp [Builtin.clear_, run_underlying Try.underlying53, hzv, hzc, hst]
set_option maxHeartbeats 1000000
/-- calls: the same list, as calls of our own. -/
theorem kCalls (u : World) (A : Option Addr) (n c : Nat) (L : List Dn) (hL : L.length = n) (hb : n ≤ 1000000) (h : Dns u A L) :
    Calls Try.prog 23 #[.slice A n c] u fun e w' => ∃ g, e = .returned (.slice (some ⟨g, 0, none⟩) n n) ∧ kE.Row w' (.slice (some ⟨g, 0, none⟩) n n) L ∧ (u.heap.size ≤ g ∧ g < w'.heap.size) ∧ Only [] u w' := by
  have H := Lib.hid (And.intro h hL)
  have hmk := El.run_make_ (E := kE) Try.underlying53 u n n (Nat.le_refl _) hb
  have hr0 := Lib.hid (El.Row.made (E := kE) (default : Dn) rfl u n hb)
  have ho0 : Hid (Only [] u (u.alloc (.cells (madeCells kE.z.cells (n * 12)) kE.T))) := (Only.refl [] u).alloc _
  have hsz : Hid (u.heap.size < (u.alloc (.cells (madeCells kE.z.cells (n * 12)) kE.T)).heap.size) := by show _ < _; rw [World.size_alloc]; omega
  clear h hL
  generalize u.alloc (.cells (madeCells kE.z.cells (n * 12)) kE.T) = W at *
  go_enter Try.func23, Try.ntmps23
  go_wp2_with fail
  obtain ⟨G, eG⟩ : ∃ G, u.heap.size = G := ⟨_, rfl⟩
  have HG := Lib.hid eG
  rw [eG] at hr0 hmk hsz ⊢
  clear eG hmk
  go_loopg [11] (n + 1) (fun gk si wr => ∃ (p : Nat) (M : List Dn), si = .int .i64 (p : Int) ∧ p ≤ n ∧ n + 1 ≤ gk + p ∧ Hid (M.length = n) ∧ Hid (kE.Row wr (.slice (some ⟨G, 0, none⟩) n n) M) ∧ Hid (∀ j, j < p → M[j]? = L[j]?) ∧ Hid (G < wr.heap.size) ∧ Hid (Only [] u wr))
  case atStart => exact ⟨0, _, rfl, by omega, by omega, by show (List.replicate n _).length = n; simp, hr0, fun j hj => absurd hj (by omega), hsz, ho0⟩
  case round =>
    obtain ⟨p, M, rfl, hp, hg, hMl, hR, hM, hsw, ho⟩ := hrel
    clear hr0 ho0 hsz
    by_cases hpl : p < n
    · have hpl' : (p : Int) < (n : Int) := by omega
      obtain ⟨g, rfl, hx⟩ := (H.out.1.only0 ho.out).at_ (k := p) (by rw [H.out.2]; exact hpl)
      obtain ⟨z, hz⟩ : ∃ z, M[p]? = some z := ⟨_, List.getElem?_eq_getElem (by rw [hMl.out]; exact hpl)⟩
      obtain ⟨G', e1, hy⟩ := Dns.of_row (E := kE) rfl hR.out p z hz
      injection e1 with e1
      injection e1 with e1
      subst e1
      obtain ⟨x, hxe⟩ : ∃ x, dns L p = x := ⟨_, rfl⟩
      rw [hxe] at hx
      have HX := Lib.hid hxe
      have al := Only.alloc (Only.refl [] wr) (.cells #[.int .i64 x.who, .int .i64 x.place, .int .i64 x.op, .int .i64 x.f, .int .i64 x.a, .int .i64 x.b, .int .i64 x.e, .slice x.A x.m x.c, .int .i64 x.n, .int .u64 x.v, .int .i64 x.fr, .int .i64 x.to] 30)
      have hb2 := DnAt.box wr x 30
      have hy2 := hy.only0 al
      have hfr : ∀ k, (wr.alloc (.cells #[.int .i64 x.who, .int .i64 x.place, .int .i64 x.op, .int .i64 x.f, .int .i64 x.a, .int .i64 x.b, .int .i64 x.e, .slice x.A x.m x.c, .int .i64 x.n, .int .u64 x.v, .int .i64 x.fr, .int .i64 x.to] 30)).frozen? ⟨G, k, none⟩ = false := fun k => (hR.out.only0 al).frozen k (by rw [hMl.out]; omega)
      obtain ⟨x0, x1, x2, x3, x4, x5, x6, x7, x8, x9, x10, x11⟩ := hx; (try simp only [Nat.zero_add] at x0 x1 x2 x3 x4 x5 x6 x7 x8 x9 x10 x11)
      obtain ⟨b0, b1, b2, b3, b4, b5, b6, b7, b8, b9, b10, b11⟩ := hb2; simp only [Nat.zero_add] at b0 b1 b2 b3 b4 b5 b6 b7 b8 b9 b10 b11
      obtain ⟨y0, y1, y2, y3, y4, y5, y6, y7, y8, y9, y10, y11⟩ := hy2; (try simp only [Nat.zero_add] at y0 y1 y2 y3 y4 y5 y6 y7 y8 y9 y10 y11)
      have f0 := hfr (p * 12)
      have f1 := hfr (p * 12 + 1)
      have f2 := hfr (p * 12 + 2)
      have f3 := hfr (p * 12 + 3)
      have f4 := hfr (p * 12 + 4)
      have f5 := hfr (p * 12 + 5)
      have f6 := hfr (p * 12 + 6)
      have f7 := hfr (p * 12 + 7)
      have f8 := hfr (p * 12 + 8)
      have f9 := hfr (p * 12 + 9)
      have f10 := hfr (p * 12 + 10)
      have f11 := hfr (p * 12 + 11)
      have OA : Hid (Only [] wr (wr.alloc (.cells #[.int .i64 x.who, .int .i64 x.place, .int .i64 x.op, .int .i64 x.f, .int .i64 x.a, .int .i64 x.b, .int .i64 x.e, .slice x.A x.m x.c, .int .i64 x.n, .int .u64 x.v, .int .i64 x.fr, .int .i64 x.to] 30))) := al
      clear hxe hz hfr al hy
      go_upto_region 5 with fail
      clear x0 x1 x2 x3 x4 x5 x6 x7 x8 x9 x10 x11
      generalize wr.alloc (.cells #[.int .i64 x.who, .int .i64 x.place, .int .i64 x.op, .int .i64 x.f, .int .i64 x.a, .int .i64 x.b, .int .i64 x.e, .slice x.A x.m x.c, .int .i64 x.n, .int .u64 x.v, .int .i64 x.fr, .int .i64 x.to] 30) = wr2 at *
      go_wp2_with fail
      go_roundg (n + 1 - (p + 1))
      case measure => omega
      case rel =>
        have hGw : u.heap.size = G := HG.out
        refine ⟨p + 1, M.set p x, by simp, by omega, by omega, by show (M.set p x).length = n; rw [List.length_set]; exact hMl.out, ?_, fun j hj => ?_, ?_, ?_⟩
        · exact (hR.out.only0 OA.out).store12 rfl p x (by rw [hMl.out]; exact hpl)
        · rw [List.getElem?_set]
          by_cases e2 : p = j
          · subst e2
            rw [if_pos rfl, if_pos (by rw [hMl.out]; exact hpl), ← HX.out]
            exact (dns_get (by rw [H.out.2]; exact hpl)).symm
          · rw [if_neg e2]; exact hM.out j (by omega)
        · have h7 := (((Only.refl [G] wr).trans OA.out (by simp)).set12 G (p * 12) x (.inl (by simp))).size
          have h8 := hsw.out
          exact Nat.lt_of_lt_of_le h8 h7
        · exact (ho.out.trans' OA.out).set12 G (p * 12) x (.inr (by omega))
    · have hpl' : ¬ ((p : Int) < (n : Int)) := by omega
      have hpl3 : decide ((p : Int) < (n : Int)) = false := decide_eq_false hpl'
      obtain rfl : p = n := by omega
      go_wp2_with fail
      go_ret
      have e1 : M = L := by
        apply List.ext_getElem?
        intro j
        rcases Nat.lt_or_ge j p with h1 | h1
        · exact hM.out j h1
        · rw [List.getElem?_eq_none (by rw [hMl.out]; exact h1), List.getElem?_eq_none (by rw [H.out.2]; exact h1)]
      have hRl := hR.out
      rw [e1] at hRl
      exact ⟨G, rfl, hRl, ⟨by have := HG.out; omega, hsw.out⟩, ho.out⟩

theorem kIdxW (u : World) (A : Option Addr) (n c : Nat) (L : List Dn) (hL : L.length = n) (hb : n ≤ 1000000) (h : Dns u A L) :
    Calls Try.prog 39 #[.slice A n c, .func (.func 27) #[] #[]] u fun e w' => e = .returned (.int .i64 (optI (L.findIdx? wrongB))) ∧ Only [] u w' := by
  have HQ := Lib.hid (fun (x : Dn) (V : World) => kWrong x V)
  have H := Lib.hid (And.intro h hL)
  clear h hL
  go_enter Try.func39, Try.ntmps39
  go_wp2_with fail
  go_loopg [8] (n + 1) (fun gk si wr => ∃ k : Nat, si = .int .i64 (k : Int) ∧ k ≤ n ∧ n + 1 ≤ gk + k ∧ Hid (∀ (i : Nat) y, i < k → L[i]? = some y → wrongB y = false) ∧ Hid (Only [] u wr))
  case atStart => exact ⟨0, rfl, by omega, by omega, fun i y hi => absurd hi (by omega), Only.refl _ _⟩
  case round =>
    obtain ⟨k, rfl, hk, hg, hj, O⟩ := hrel
    by_cases hkn : k < n
    · have h1 : (k : Int) < (n : Int) := by omega
      obtain ⟨x, hx⟩ : ∃ x, L[k]? = some x := ⟨_, List.getElem?_eq_getElem (by have := H.out.2; omega)⟩
      obtain ⟨ga, rfl, hc⟩ := (H.out.1.only0 O.out) k x hx
      obtain ⟨x0, x1, x2, x3, x4, x5, x6, x7, x8, x9, x10, x11⟩ := hc; (try simp only [Nat.zero_add] at x0 x1 x2 x3 x4 x5 x6 x7 x8 x9 x10 x11)
      have q := Lib.hid (HQ.out x wr)
      have HX := Lib.hid hx
      clear hx
      rcases hp : wrongB x
      · rw [hp] at q
        have J : Hid (∀ (i : Nat) y, i < k + 1 → L[i]? = some y → wrongB y = false) := fun i y hi hy => by
          by_cases e : i = k
          · subst e; have := HX.out; rw [this] at hy; injection hy with hy; subst hy; exact hp
          · exact hj.out i y (by omega) hy
        clear hp
        go_wp2_with fail
        refine q.out.mono ?_
        rintro e w2 ⟨rfl, o2⟩
        have O2 := Lib.hid (O.out.trans' o2)
        clear o2 x0 x1 x2 x3 x4 x5 x6 x7 x8 x9 x10 x11
        go_wp2_with fail
        go_roundg (n + 1 - (k + 1))
        case measure => omega
        case rel => exact ⟨k + 1, by simp, by omega, by omega, J, O2⟩
      · rw [hp] at q
        have F := Lib.hid (findX_some HX.out hp hj.out)
        clear hp
        go_wp2_with fail
        refine q.out.mono ?_
        rintro e w2 ⟨rfl, o2⟩
        have O2 := Lib.hid (O.out.trans' o2)
        clear o2 x0 x1 x2 x3 x4 x5 x6 x7 x8 x9 x10 x11
        go_wp2_with fail
        go_ret
        exact ⟨by rw [F.out]; rfl, O2.out⟩
    · have h2 : ¬ ((k : Int) < (n : Int)) := by omega
      have h3 : decide ((k : Int) < (n : Int)) = false := decide_eq_false h2
      have F := Lib.hid (findX_none (p := wrongB) (fun i y hy => hj.out i y (by have := (List.getElem?_eq_some_iff.1 hy).1; have := H.out.2; omega) hy))
      go_wp2_with fail
      go_ret
      exact ⟨by rw [F.out]; rfl, O.out⟩

theorem kIdxO (u : World) (A : Option Addr) (n c : Nat) (L : List Dn) (hL : L.length = n) (hb : n ≤ 1000000) (h : Dns u A L) :
    Calls Try.prog 39 #[.slice A n c, .func (.func 18) #[] #[]] u fun e w' => e = .returned (.int .i64 (optI (L.findIdx? opn))) ∧ Only [] u w' := by
  have HQ := Lib.hid (fun (x : Dn) (V : World) => kOpen x V)
  have H := Lib.hid (And.intro h hL)
  clear h hL
  go_enter Try.func39, Try.ntmps39
  go_wp2_with fail
  go_loopg [8] (n + 1) (fun gk si wr => ∃ k : Nat, si = .int .i64 (k : Int) ∧ k ≤ n ∧ n + 1 ≤ gk + k ∧ Hid (∀ (i : Nat) y, i < k → L[i]? = some y → opn y = false) ∧ Hid (Only [] u wr))
  case atStart => exact ⟨0, rfl, by omega, by omega, fun i y hi => absurd hi (by omega), Only.refl _ _⟩
  case round =>
    obtain ⟨k, rfl, hk, hg, hj, O⟩ := hrel
    by_cases hkn : k < n
    · have h1 : (k : Int) < (n : Int) := by omega
      obtain ⟨x, hx⟩ : ∃ x, L[k]? = some x := ⟨_, List.getElem?_eq_getElem (by have := H.out.2; omega)⟩
      obtain ⟨ga, rfl, hc⟩ := (H.out.1.only0 O.out) k x hx
      obtain ⟨x0, x1, x2, x3, x4, x5, x6, x7, x8, x9, x10, x11⟩ := hc; (try simp only [Nat.zero_add] at x0 x1 x2 x3 x4 x5 x6 x7 x8 x9 x10 x11)
      have q := Lib.hid (HQ.out x wr)
      have HX := Lib.hid hx
      clear hx
      rcases hp : opn x
      · rw [hp] at q
        have J : Hid (∀ (i : Nat) y, i < k + 1 → L[i]? = some y → opn y = false) := fun i y hi hy => by
          by_cases e : i = k
          · subst e; have := HX.out; rw [this] at hy; injection hy with hy; subst hy; exact hp
          · exact hj.out i y (by omega) hy
        clear hp
        go_wp2_with fail
        refine q.out.mono ?_
        rintro e w2 ⟨rfl, o2⟩
        have O2 := Lib.hid (O.out.trans' o2)
        clear o2 x0 x1 x2 x3 x4 x5 x6 x7 x8 x9 x10 x11
        go_wp2_with fail
        go_roundg (n + 1 - (k + 1))
        case measure => omega
        case rel => exact ⟨k + 1, by simp, by omega, by omega, J, O2⟩
      · rw [hp] at q
        have F := Lib.hid (findX_some HX.out hp hj.out)
        clear hp
        go_wp2_with fail
        refine q.out.mono ?_
        rintro e w2 ⟨rfl, o2⟩
        have O2 := Lib.hid (O.out.trans' o2)
        clear o2 x0 x1 x2 x3 x4 x5 x6 x7 x8 x9 x10 x11
        go_wp2_with fail
        go_ret
        exact ⟨by rw [F.out]; rfl, O2.out⟩
    · have h2 : ¬ ((k : Int) < (n : Int)) := by omega
      have h3 : decide ((k : Int) < (n : Int)) = false := decide_eq_false h2
      have F := Lib.hid (findX_none (p := opn) (fun i y hy => hj.out i y (by have := (List.getElem?_eq_some_iff.1 hy).1; have := H.out.2; omega) hy))
      go_wp2_with fail
      go_ret
      exact ⟨by rw [F.out]; rfl, O.out⟩

theorem kIdxB (u : World) (A : Option Addr) (n c : Nat) (L : List Dn) (hL : L.length = n) (hb : n ≤ 1000000) (h : Dns u A L) :
    Calls Try.prog 39 #[.slice A n c, .func (.func 31) #[] #[]] u fun e w' => e = .returned (.int .i64 (optI (L.findIdx? backB))) ∧ Only [] u w' := by
  have HQ := Lib.hid (fun (x : Dn) (V : World) => kBack x V)
  have H := Lib.hid (And.intro h hL)
  clear h hL
  go_enter Try.func39, Try.ntmps39
  go_wp2_with fail
  go_loopg [8] (n + 1) (fun gk si wr => ∃ k : Nat, si = .int .i64 (k : Int) ∧ k ≤ n ∧ n + 1 ≤ gk + k ∧ Hid (∀ (i : Nat) y, i < k → L[i]? = some y → backB y = false) ∧ Hid (Only [] u wr))
  case atStart => exact ⟨0, rfl, by omega, by omega, fun i y hi => absurd hi (by omega), Only.refl _ _⟩
  case round =>
    obtain ⟨k, rfl, hk, hg, hj, O⟩ := hrel
    by_cases hkn : k < n
    · have h1 : (k : Int) < (n : Int) := by omega
      obtain ⟨x, hx⟩ : ∃ x, L[k]? = some x := ⟨_, List.getElem?_eq_getElem (by have := H.out.2; omega)⟩
      obtain ⟨ga, rfl, hc⟩ := (H.out.1.only0 O.out) k x hx
      obtain ⟨x0, x1, x2, x3, x4, x5, x6, x7, x8, x9, x10, x11⟩ := hc; (try simp only [Nat.zero_add] at x0 x1 x2 x3 x4 x5 x6 x7 x8 x9 x10 x11)
      have q := Lib.hid (HQ.out x wr)
      have HX := Lib.hid hx
      clear hx
      rcases hp : backB x
      · rw [hp] at q
        have J : Hid (∀ (i : Nat) y, i < k + 1 → L[i]? = some y → backB y = false) := fun i y hi hy => by
          by_cases e : i = k
          · subst e; have := HX.out; rw [this] at hy; injection hy with hy; subst hy; exact hp
          · exact hj.out i y (by omega) hy
        clear hp
        go_wp2_with fail
        refine q.out.mono ?_
        rintro e w2 ⟨rfl, o2⟩
        have O2 := Lib.hid (O.out.trans' o2)
        clear o2 x0 x1 x2 x3 x4 x5 x6 x7 x8 x9 x10 x11
        go_wp2_with fail
        go_roundg (n + 1 - (k + 1))
        case measure => omega
        case rel => exact ⟨k + 1, by simp, by omega, by omega, J, O2⟩
      · rw [hp] at q
        have F := Lib.hid (findX_some HX.out hp hj.out)
        clear hp
        go_wp2_with fail
        refine q.out.mono ?_
        rintro e w2 ⟨rfl, o2⟩
        have O2 := Lib.hid (O.out.trans' o2)
        clear o2 x0 x1 x2 x3 x4 x5 x6 x7 x8 x9 x10 x11
        go_wp2_with fail
        go_ret
        exact ⟨by rw [F.out]; rfl, O2.out⟩
    · have h2 : ¬ ((k : Int) < (n : Int)) := by omega
      have h3 : decide ((k : Int) < (n : Int)) = false := decide_eq_false h2
      have F := Lib.hid (findX_none (p := backB) (fun i y hy => hj.out i y (by have := (List.getElem?_eq_some_iff.1 hy).1; have := H.out.2; omega) hy))
      go_wp2_with fail
      go_ret
      exact ⟨by rw [F.out]; rfl, O.out⟩

theorem kHasW (u : World) (A : Option Addr) (n c : Nat) (L : List Dn) (hL : L.length = n) (hb : n ≤ 1000000) (h : Dns u A L) :
    Calls Try.prog 26 #[.slice A n c, .func (.func 27) #[] #[]] u fun e w' => e = .returned (.bool (L.any wrongB)) ∧ Only [] u w' := by
  have k := kIdxW u A n c L hL hb h
  have E : Hid (L.any wrongB = decide (0 ≤ optI (L.findIdx? wrongB))) := (findX_any L wrongB).symm
  clear h hL
  generalize optI (L.findIdx? wrongB) = r at *
  by_cases hr : 0 ≤ r
  · have d : decide (0 ≤ r) = true := decide_eq_true hr
    have D := Lib.hid d
    go_enter Try.func26, Try.ntmps26
    go_wp2_with fail
    refine k.mono ?_
    rintro e w2 ⟨rfl, o2⟩
    go_wp2_with fail
    go_ret
    exact ⟨by rw [E.out, D.out]; rfl, o2⟩
  · have d : decide (0 ≤ r) = false := decide_eq_false hr
    have D := Lib.hid d
    go_enter Try.func26, Try.ntmps26
    go_wp2_with fail
    refine k.mono ?_
    rintro e w2 ⟨rfl, o2⟩
    go_wp2_with fail
    go_ret
    exact ⟨by rw [E.out, D.out]; rfl, o2⟩

theorem kHasO (u : World) (A : Option Addr) (n c : Nat) (L : List Dn) (hL : L.length = n) (hb : n ≤ 1000000) (h : Dns u A L) :
    Calls Try.prog 26 #[.slice A n c, .func (.func 18) #[] #[]] u fun e w' => e = .returned (.bool (L.any opn)) ∧ Only [] u w' := by
  have k := kIdxO u A n c L hL hb h
  have E : Hid (L.any opn = decide (0 ≤ optI (L.findIdx? opn))) := (findX_any L opn).symm
  clear h hL
  generalize optI (L.findIdx? opn) = r at *
  by_cases hr : 0 ≤ r
  · have d : decide (0 ≤ r) = true := decide_eq_true hr
    have D := Lib.hid d
    go_enter Try.func26, Try.ntmps26
    go_wp2_with fail
    refine k.mono ?_
    rintro e w2 ⟨rfl, o2⟩
    go_wp2_with fail
    go_ret
    exact ⟨by rw [E.out, D.out]; rfl, o2⟩
  · have d : decide (0 ≤ r) = false := decide_eq_false hr
    have D := Lib.hid d
    go_enter Try.func26, Try.ntmps26
    go_wp2_with fail
    refine k.mono ?_
    rintro e w2 ⟨rfl, o2⟩
    go_wp2_with fail
    go_ret
    exact ⟨by rw [E.out, D.out]; rfl, o2⟩

/-- neighbours: two that stand side by side and clash. -/
def adjB (L : List Dn) : Bool := (List.range L.length).any fun i => decide (0 < i) && clashB (dns L (i - 1)) (dns L i)
theorem adj_true {L : List Dn} {i : Nat} (h : i < L.length) (h0 : 0 < i) (hc : clashB (dns L (i - 1)) (dns L i) = true) : adjB L = true := by
  unfold adjB
  rw [List.any_eq_true]
  exact ⟨i, List.mem_range.2 h, by simp [h0, hc]⟩
theorem adj_false {L : List Dn} (h : ∀ i, i < L.length → 0 < i → clashB (dns L (i - 1)) (dns L i) = false) : adjB L = false := by
  unfold adjB
  rw [List.any_eq_false]
  intro i hi
  by_cases h0 : 0 < i
  · simp [h i (List.mem_range.1 hi) h0]
  · simp [h0]
theorem kAdj (u : World) (A : Option Addr) (n c : Nat) (L : List Dn) (hL : L.length = n) (hb : n ≤ 1000000) (h : Dns u A L) :
    Calls Try.prog 28 #[.slice A n c, .func (.func 29) #[] #[]] u fun e w' => e = .returned (.bool (adjB L)) ∧ Only [] u w' := by
  have HQ := Lib.hid (fun (x y : Dn) (V : World) => kClash x y V)
  have H := Lib.hid (And.intro h hL)
  clear h hL
  go_enter Try.func28, Try.ntmps28
  go_wp2_with fail
  go_loopg [9] (n + 1) (fun gk si wr => ∃ k : Nat, si = .int .i64 (k : Int) ∧ k ≤ n ∧ n + 1 ≤ gk + k ∧ Hid (∀ i, i < k → 0 < i → clashB (dns L (i - 1)) (dns L i) = false) ∧ Hid (Only [] u wr))
  case atStart => exact ⟨0, rfl, by omega, by omega, fun i hi => absurd hi (by omega), Only.refl _ _⟩
  case round =>
    obtain ⟨k, rfl, hk, hg, hj, O⟩ := hrel
    by_cases hkn : k < n
    · have h1 : (k : Int) < (n : Int) := by omega
      obtain ⟨ga, rfl, hc⟩ := (H.out.1.only0 O.out).at_ (k := k) (by have := H.out.2; omega)
      obtain ⟨y, hy⟩ : ∃ y, dns L k = y := ⟨_, rfl⟩
      rw [hy] at hc
      have HY := Lib.hid hy
      have al := Only.alloc (Only.refl [] wr) (.cells #[.int .i64 y.who, .int .i64 y.place, .int .i64 y.op, .int .i64 y.f, .int .i64 y.a, .int .i64 y.b, .int .i64 y.e, .slice y.A y.m y.c, .int .i64 y.n, .int .u64 y.v, .int .i64 y.fr, .int .i64 y.to] 41)
      have O1 : Hid (Only [] u (wr.alloc (.cells #[.int .i64 y.who, .int .i64 y.place, .int .i64 y.op, .int .i64 y.f, .int .i64 y.a, .int .i64 y.b, .int .i64 y.e, .slice y.A y.m y.c, .int .i64 y.n, .int .u64 y.v, .int .i64 y.fr, .int .i64 y.to] 41))) := O.out.trans' al
      have hyb := Lib.hid (DnAt.box wr y 41)
      obtain ⟨y0, y1, y2, y3, y4, y5, y6, y7, y8, y9, y10, y11⟩ := hc; (try simp only [Nat.zero_add] at y0 y1 y2 y3 y4 y5 y6 y7 y8 y9 y10 y11)
      clear hy al
      go_upto_region 4 with fail
      clear y0 y1 y2 y3 y4 y5 y6 y7 y8 y9 y10 y11
      generalize wr.alloc (.cells #[.int .i64 y.who, .int .i64 y.place, .int .i64 y.op, .int .i64 y.f, .int .i64 y.a, .int .i64 y.b, .int .i64 y.e, .slice y.A y.m y.c, .int .i64 y.n, .int .u64 y.v, .int .i64 y.fr, .int .i64 y.to] 41) = W at *
      generalize wr.heap.size = b at *
      by_cases h0 : 0 < k
      · have h0' : (0 : Int) < (k : Int) := by omega
        have d0 : decide ((0 : Int) < (k : Int)) = true := decide_eq_true h0'
        have d1 : decide ((k : Int) - 1 < (n : Int)) = true := decide_eq_true (by omega)
        have hw : IntKind.i64.wrap ((k : Int) - 1) = (k : Int) - 1 := by rw [IntKind.wrap_i64]; omega
        have ht : ((k : Int) - 1).toNat = k - 1 := by omega
        have hnn : 0 ≤ (k : Int) - 1 := by omega
        have g1 : 1 ≤ (k : Int) := by omega
        have g2 : (k : Int) - 1 < (n : Int) := by omega
        obtain ⟨x, hx⟩ : ∃ x, dns L (k - 1) = x := ⟨_, rfl⟩
        obtain ⟨ga', ea, hc⟩ := (H.out.1.only0 O1.out).at_ (k := k - 1) (by have := H.out.2; omega)
        injection ea with ea
        injection ea with ea
        subst ea
        rw [hx] at hc
        have HX := Lib.hid hx
        have q := Lib.hid (HQ.out x y W.drew)
        clear hx
        obtain ⟨m, hm⟩ : ∃ m, k - 1 = m := ⟨_, rfl⟩
        have HM := Lib.hid hm
        rw [hm] at ht hc
        clear hm
        have CEL : Hid (∀ V, Only [] W V → (V.cell? ⟨ga, m * 12, none⟩ = some (.int .i64 x.who) ∧ V.cell? ⟨ga, m * 12 + 1, none⟩ = some (.int .i64 x.place) ∧ V.cell? ⟨ga, m * 12 + 2, none⟩ = some (.int .i64 x.op) ∧ V.cell? ⟨ga, m * 12 + 3, none⟩ = some (.int .i64 x.f) ∧ V.cell? ⟨ga, m * 12 + 4, none⟩ = some (.int .i64 x.a) ∧ V.cell? ⟨ga, m * 12 + 5, none⟩ = some (.int .i64 x.b) ∧ V.cell? ⟨ga, m * 12 + 6, none⟩ = some (.int .i64 x.e) ∧ V.cell? ⟨ga, m * 12 + 7, none⟩ = some (.slice x.A x.m x.c) ∧ V.cell? ⟨ga, m * 12 + 8, none⟩ = some (.int .i64 x.n) ∧ V.cell? ⟨ga, m * 12 + 9, none⟩ = some (.int .u64 x.v) ∧ V.cell? ⟨ga, m * 12 + 10, none⟩ = some (.int .i64 x.fr) ∧ V.cell? ⟨ga, m * 12 + 11, none⟩ = some (.int .i64 x.to)) ∧ (V.cell? ⟨b, 0, none⟩ = some (.int .i64 y.who) ∧ V.cell? ⟨b, 0 + 1, none⟩ = some (.int .i64 y.place) ∧ V.cell? ⟨b, 0 + 2, none⟩ = some (.int .i64 y.op) ∧ V.cell? ⟨b, 0 + 3, none⟩ = some (.int .i64 y.f) ∧ V.cell? ⟨b, 0 + 4, none⟩ = some (.int .i64 y.a) ∧ V.cell? ⟨b, 0 + 5, none⟩ = some (.int .i64 y.b) ∧ V.cell? ⟨b, 0 + 6, none⟩ = some (.int .i64 y.e) ∧ V.cell? ⟨b, 0 + 7, none⟩ = some (.slice y.A y.m y.c) ∧ V.cell? ⟨b, 0 + 8, none⟩ = some (.int .i64 y.n) ∧ V.cell? ⟨b, 0 + 9, none⟩ = some (.int .u64 y.v) ∧ V.cell? ⟨b, 0 + 10, none⟩ = some (.int .i64 y.fr) ∧ V.cell? ⟨b, 0 + 11, none⟩ = some (.int .i64 y.to))) := fun V o => ⟨hc.only0 o, hyb.out.only0 o⟩
        simp only [Nat.zero_add] at CEL
        clear hc
        rcases hp : clashB x y
        · rw [hp] at q
          have J : Hid (∀ i, i < k + 1 → 0 < i → clashB (dns L (i - 1)) (dns L i) = false) := fun i hi hi0 => by
            by_cases e : i = k
            · subst e; rw [HX.out, HY.out]; exact hp
            · exact hj.out i (by omega) hi0
          clear hp
          refine wp_region_held_drew (S := (fun u' => (u'.cell? ⟨ga, m * 12, none⟩ = some (.int .i64 x.who) ∧ u'.cell? ⟨ga, m * 12 + 1, none⟩ = some (.int .i64 x.place) ∧ u'.cell? ⟨ga, m * 12 + 2, none⟩ = some (.int .i64 x.op) ∧ u'.cell? ⟨ga, m * 12 + 3, none⟩ = some (.int .i64 x.f) ∧ u'.cell? ⟨ga, m * 12 + 4, none⟩ = some (.int .i64 x.a) ∧ u'.cell? ⟨ga, m * 12 + 5, none⟩ = some (.int .i64 x.b) ∧ u'.cell? ⟨ga, m * 12 + 6, none⟩ = some (.int .i64 x.e) ∧ u'.cell? ⟨ga, m * 12 + 7, none⟩ = some (.slice x.A x.m x.c) ∧ u'.cell? ⟨ga, m * 12 + 8, none⟩ = some (.int .i64 x.n) ∧ u'.cell? ⟨ga, m * 12 + 9, none⟩ = some (.int .u64 x.v) ∧ u'.cell? ⟨ga, m * 12 + 10, none⟩ = some (.int .i64 x.fr) ∧ u'.cell? ⟨ga, m * 12 + 11, none⟩ = some (.int .i64 x.to)) ∧ (u'.cell? ⟨b, 0, none⟩ = some (.int .i64 y.who) ∧ u'.cell? ⟨b, 1, none⟩ = some (.int .i64 y.place) ∧ u'.cell? ⟨b, 2, none⟩ = some (.int .i64 y.op) ∧ u'.cell? ⟨b, 3, none⟩ = some (.int .i64 y.f) ∧ u'.cell? ⟨b, 4, none⟩ = some (.int .i64 y.a) ∧ u'.cell? ⟨b, 5, none⟩ = some (.int .i64 y.b) ∧ u'.cell? ⟨b, 6, none⟩ = some (.int .i64 y.e) ∧ u'.cell? ⟨b, 7, none⟩ = some (.slice y.A y.m y.c) ∧ u'.cell? ⟨b, 8, none⟩ = some (.int .i64 y.n) ∧ u'.cell? ⟨b, 9, none⟩ = some (.int .u64 y.v) ∧ u'.cell? ⟨b, 10, none⟩ = some (.int .i64 y.fr) ∧ u'.cell? ⟨b, 11, none⟩ = some (.int .i64 y.to)))) (by kernel_rfl) (CEL.out _ ((Only.refl [] W).drew)) (fun hHeld => ?_)
          refine takeH (i := 0) (v := ?_) rfl (by kernel_rfl) (by kernel_rfl) (by kernel_rfl) (fun _ _ _ h => h) (Or.inl ⟨by rfl, ?_⟩) (by assumption) ?_
          rotate_left 1
          · (intro w hSw; (try dsimp only at hSw); go_simp; try (with_reducible rfl))
          try simp only [Act.put, List.setIfInBounds_toArray, List.set_cons_zero, List.set_cons_succ]
          refine takeH (i := 1) (v := ?_) rfl (by kernel_rfl) (by kernel_rfl) (by kernel_rfl) (fun _ _ _ h => h) (Or.inl ⟨by rfl, ?_⟩) (by assumption) ?_
          rotate_left 1
          · (intro w hSw; (try dsimp only at hSw); go_simp; try (with_reducible rfl))
          try simp only [Act.put, List.setIfInBounds_toArray, List.set_cons_zero, List.set_cons_succ]
          refine takeH (i := 2) (v := ?_) rfl (by kernel_rfl) (by kernel_rfl) (by kernel_rfl) (fun _ _ _ h => h) (Or.inl ⟨by rfl, ?_⟩) (by assumption) ?_
          rotate_left 1
          · (intro w hSw; (try dsimp only at hSw); go_simp; try (with_reducible rfl))
          try simp only [Act.put, List.setIfInBounds_toArray, List.set_cons_zero, List.set_cons_succ]
          refine takeH (i := 3) (v := ?_) rfl (by kernel_rfl) (by kernel_rfl) (by kernel_rfl) (fun _ _ _ h => h) (Or.inl ⟨by rfl, ?_⟩) (by assumption) ?_
          rotate_left 1
          · (intro w hSw; (try dsimp only at hSw); go_simp; try (with_reducible rfl))
          try simp only [Act.put, List.setIfInBounds_toArray, List.set_cons_zero, List.set_cons_succ]
          refine takeH (i := 4) (v := ?_) rfl (by kernel_rfl) (by kernel_rfl) (by kernel_rfl) (fun _ _ _ h => h) (Or.inl ⟨by rfl, ?_⟩) (by assumption) ?_
          rotate_left 1
          · (intro w hSw; (try dsimp only at hSw); go_simp; try (with_reducible rfl))
          try simp only [Act.put, List.setIfInBounds_toArray, List.set_cons_zero, List.set_cons_succ]
          refine takeH (i := 5) (v := ?_) rfl (by kernel_rfl) (by kernel_rfl) (by kernel_rfl) (fun _ _ _ h => h) (Or.inl ⟨by rfl, ?_⟩) (by assumption) ?_
          rotate_left 1
          · (intro w hSw; (try dsimp only at hSw); go_simp; try (with_reducible rfl))
          try simp only [Act.put, List.setIfInBounds_toArray, List.set_cons_zero, List.set_cons_succ]
          refine takeH (i := 6) (v := ?_) rfl (by kernel_rfl) (by kernel_rfl) (by kernel_rfl) (fun _ _ _ h => h) (Or.inl ⟨by rfl, ?_⟩) (by assumption) ?_
          rotate_left 1
          · (intro w hSw; (try dsimp only at hSw); go_simp; try (with_reducible rfl))
          try simp only [Act.put, List.setIfInBounds_toArray, List.set_cons_zero, List.set_cons_succ]
          refine takeH (i := 7) (v := ?_) rfl (by kernel_rfl) (by kernel_rfl) (by kernel_rfl) (fun _ _ _ h => h) (Or.inl ⟨by rfl, ?_⟩) (by assumption) ?_
          rotate_left 1
          · (intro w hSw; (try dsimp only at hSw); go_simp; try (with_reducible rfl))
          try simp only [Act.put, List.setIfInBounds_toArray, List.set_cons_zero, List.set_cons_succ]
          refine takeH (i := 8) (v := ?_) rfl (by kernel_rfl) (by kernel_rfl) (by kernel_rfl) (fun _ _ _ h => h) (Or.inl ⟨by rfl, ?_⟩) (by assumption) ?_
          rotate_left 1
          · (intro w hSw; (try dsimp only at hSw); go_simp; try (with_reducible rfl))
          try simp only [Act.put, List.setIfInBounds_toArray, List.set_cons_zero, List.set_cons_succ]
          refine takeH (i := 9) (v := ?_) rfl (by kernel_rfl) (by kernel_rfl) (by kernel_rfl) (fun _ _ _ h => h) (Or.inl ⟨by rfl, ?_⟩) (by assumption) ?_
          rotate_left 1
          · (intro w hSw; (try dsimp only at hSw); go_simp; try (with_reducible rfl))
          try simp only [Act.put, List.setIfInBounds_toArray, List.set_cons_zero, List.set_cons_succ]
          refine wpAnyH_ready (rs := [10]) (by kernel_rfl) (by simp) ?_
          refine consH rfl (fun K hK => ?_) AllReadyH.nil
          go_simp
          refine q.out.mono ?_
          rintro e w2 ⟨rfl, o2⟩
          have O2w := Lib.hid ((Only.drew (Only.refl [] W)).trans' o2)
          have O2 := Lib.hid (O1.out.trans' O2w.out)
          clear o2
          refine hK.out _ _ (CEL.out _ O2w.out) (fun hHeld2 => ?_)
          clear hK K hHeld
          have hHeld := hHeld2
          clear hHeld2
          try simp only [Act.put, List.setIfInBounds_toArray, List.set_cons_zero, List.set_cons_succ]
          refine takeH (i := 11) (v := ?_) rfl (by kernel_rfl) (by kernel_rfl) (by kernel_rfl) (fun _ _ _ h => h) (Or.inl ⟨by rfl, ?_⟩) (by assumption) ?_
          rotate_left 1
          · (intro w hSw; (try dsimp only at hSw); go_simp; try (with_reducible rfl))
          try simp only [Act.put, List.setIfInBounds_toArray, List.set_cons_zero, List.set_cons_succ]
          refine wpAnyH_done (by kernel_rfl) ?_ _
          go_wp2_with fail
          go_roundg (n + 1 - (k + 1))
          case measure => omega
          case rel => exact ⟨k + 1, by simp, by omega, by omega, J, O2⟩
        · rw [hp] at q
          have F := Lib.hid (adj_true (L := L) (i := k) (by have := H.out.2; omega) h0 (by rw [HX.out, HY.out]; exact hp))
          clear hp
          refine wp_region_held_drew (S := (fun u' => (u'.cell? ⟨ga, m * 12, none⟩ = some (.int .i64 x.who) ∧ u'.cell? ⟨ga, m * 12 + 1, none⟩ = some (.int .i64 x.place) ∧ u'.cell? ⟨ga, m * 12 + 2, none⟩ = some (.int .i64 x.op) ∧ u'.cell? ⟨ga, m * 12 + 3, none⟩ = some (.int .i64 x.f) ∧ u'.cell? ⟨ga, m * 12 + 4, none⟩ = some (.int .i64 x.a) ∧ u'.cell? ⟨ga, m * 12 + 5, none⟩ = some (.int .i64 x.b) ∧ u'.cell? ⟨ga, m * 12 + 6, none⟩ = some (.int .i64 x.e) ∧ u'.cell? ⟨ga, m * 12 + 7, none⟩ = some (.slice x.A x.m x.c) ∧ u'.cell? ⟨ga, m * 12 + 8, none⟩ = some (.int .i64 x.n) ∧ u'.cell? ⟨ga, m * 12 + 9, none⟩ = some (.int .u64 x.v) ∧ u'.cell? ⟨ga, m * 12 + 10, none⟩ = some (.int .i64 x.fr) ∧ u'.cell? ⟨ga, m * 12 + 11, none⟩ = some (.int .i64 x.to)) ∧ (u'.cell? ⟨b, 0, none⟩ = some (.int .i64 y.who) ∧ u'.cell? ⟨b, 1, none⟩ = some (.int .i64 y.place) ∧ u'.cell? ⟨b, 2, none⟩ = some (.int .i64 y.op) ∧ u'.cell? ⟨b, 3, none⟩ = some (.int .i64 y.f) ∧ u'.cell? ⟨b, 4, none⟩ = some (.int .i64 y.a) ∧ u'.cell? ⟨b, 5, none⟩ = some (.int .i64 y.b) ∧ u'.cell? ⟨b, 6, none⟩ = some (.int .i64 y.e) ∧ u'.cell? ⟨b, 7, none⟩ = some (.slice y.A y.m y.c) ∧ u'.cell? ⟨b, 8, none⟩ = some (.int .i64 y.n) ∧ u'.cell? ⟨b, 9, none⟩ = some (.int .u64 y.v) ∧ u'.cell? ⟨b, 10, none⟩ = some (.int .i64 y.fr) ∧ u'.cell? ⟨b, 11, none⟩ = some (.int .i64 y.to)))) (by kernel_rfl) (CEL.out _ ((Only.refl [] W).drew)) (fun hHeld => ?_)
          refine takeH (i := 0) (v := ?_) rfl (by kernel_rfl) (by kernel_rfl) (by kernel_rfl) (fun _ _ _ h => h) (Or.inl ⟨by rfl, ?_⟩) (by assumption) ?_
          rotate_left 1
          · (intro w hSw; (try dsimp only at hSw); go_simp; try (with_reducible rfl))
          try simp only [Act.put, List.setIfInBounds_toArray, List.set_cons_zero, List.set_cons_succ]
          refine takeH (i := 1) (v := ?_) rfl (by kernel_rfl) (by kernel_rfl) (by kernel_rfl) (fun _ _ _ h => h) (Or.inl ⟨by rfl, ?_⟩) (by assumption) ?_
          rotate_left 1
          · (intro w hSw; (try dsimp only at hSw); go_simp; try (with_reducible rfl))
          try simp only [Act.put, List.setIfInBounds_toArray, List.set_cons_zero, List.set_cons_succ]
          refine takeH (i := 2) (v := ?_) rfl (by kernel_rfl) (by kernel_rfl) (by kernel_rfl) (fun _ _ _ h => h) (Or.inl ⟨by rfl, ?_⟩) (by assumption) ?_
          rotate_left 1
          · (intro w hSw; (try dsimp only at hSw); go_simp; try (with_reducible rfl))
          try simp only [Act.put, List.setIfInBounds_toArray, List.set_cons_zero, List.set_cons_succ]
          refine takeH (i := 3) (v := ?_) rfl (by kernel_rfl) (by kernel_rfl) (by kernel_rfl) (fun _ _ _ h => h) (Or.inl ⟨by rfl, ?_⟩) (by assumption) ?_
          rotate_left 1
          · (intro w hSw; (try dsimp only at hSw); go_simp; try (with_reducible rfl))
          try simp only [Act.put, List.setIfInBounds_toArray, List.set_cons_zero, List.set_cons_succ]
          refine takeH (i := 4) (v := ?_) rfl (by kernel_rfl) (by kernel_rfl) (by kernel_rfl) (fun _ _ _ h => h) (Or.inl ⟨by rfl, ?_⟩) (by assumption) ?_
          rotate_left 1
          · (intro w hSw; (try dsimp only at hSw); go_simp; try (with_reducible rfl))
          try simp only [Act.put, List.setIfInBounds_toArray, List.set_cons_zero, List.set_cons_succ]
          refine takeH (i := 5) (v := ?_) rfl (by kernel_rfl) (by kernel_rfl) (by kernel_rfl) (fun _ _ _ h => h) (Or.inl ⟨by rfl, ?_⟩) (by assumption) ?_
          rotate_left 1
          · (intro w hSw; (try dsimp only at hSw); go_simp; try (with_reducible rfl))
          try simp only [Act.put, List.setIfInBounds_toArray, List.set_cons_zero, List.set_cons_succ]
          refine takeH (i := 6) (v := ?_) rfl (by kernel_rfl) (by kernel_rfl) (by kernel_rfl) (fun _ _ _ h => h) (Or.inl ⟨by rfl, ?_⟩) (by assumption) ?_
          rotate_left 1
          · (intro w hSw; (try dsimp only at hSw); go_simp; try (with_reducible rfl))
          try simp only [Act.put, List.setIfInBounds_toArray, List.set_cons_zero, List.set_cons_succ]
          refine takeH (i := 7) (v := ?_) rfl (by kernel_rfl) (by kernel_rfl) (by kernel_rfl) (fun _ _ _ h => h) (Or.inl ⟨by rfl, ?_⟩) (by assumption) ?_
          rotate_left 1
          · (intro w hSw; (try dsimp only at hSw); go_simp; try (with_reducible rfl))
          try simp only [Act.put, List.setIfInBounds_toArray, List.set_cons_zero, List.set_cons_succ]
          refine takeH (i := 8) (v := ?_) rfl (by kernel_rfl) (by kernel_rfl) (by kernel_rfl) (fun _ _ _ h => h) (Or.inl ⟨by rfl, ?_⟩) (by assumption) ?_
          rotate_left 1
          · (intro w hSw; (try dsimp only at hSw); go_simp; try (with_reducible rfl))
          try simp only [Act.put, List.setIfInBounds_toArray, List.set_cons_zero, List.set_cons_succ]
          refine takeH (i := 9) (v := ?_) rfl (by kernel_rfl) (by kernel_rfl) (by kernel_rfl) (fun _ _ _ h => h) (Or.inl ⟨by rfl, ?_⟩) (by assumption) ?_
          rotate_left 1
          · (intro w hSw; (try dsimp only at hSw); go_simp; try (with_reducible rfl))
          try simp only [Act.put, List.setIfInBounds_toArray, List.set_cons_zero, List.set_cons_succ]
          refine wpAnyH_ready (rs := [10]) (by kernel_rfl) (by simp) ?_
          refine consH rfl (fun K hK => ?_) AllReadyH.nil
          go_simp
          refine q.out.mono ?_
          rintro e w2 ⟨rfl, o2⟩
          have O2w := Lib.hid ((Only.drew (Only.refl [] W)).trans' o2)
          have O2 := Lib.hid (O1.out.trans' O2w.out)
          clear o2
          refine hK.out _ _ (CEL.out _ O2w.out) (fun hHeld2 => ?_)
          clear hK K hHeld
          have hHeld := hHeld2
          clear hHeld2
          try simp only [Act.put, List.setIfInBounds_toArray, List.set_cons_zero, List.set_cons_succ]
          refine takeH (i := 11) (v := ?_) rfl (by kernel_rfl) (by kernel_rfl) (by kernel_rfl) (fun _ _ _ h => h) (Or.inl ⟨by rfl, ?_⟩) (by assumption) ?_
          rotate_left 1
          · (intro w hSw; (try dsimp only at hSw); go_simp; try (with_reducible rfl))
          try simp only [Act.put, List.setIfInBounds_toArray, List.set_cons_zero, List.set_cons_succ]
          refine wpAnyH_done (by kernel_rfl) ?_ _
          go_wp2_with fail
          go_ret
          exact ⟨by rw [F.out]; rfl, O2.out⟩
      · obtain rfl : k = 0 := by omega
        have J : Hid (∀ i, i < 0 + 1 → 0 < i → clashB (dns L (i - 1)) (dns L i) = false) := fun i hi hi0 => absurd hi0 (by omega)
        have O2 : Hid (Only [] u W.drew) := O1.out.drew
        refine wp_region_held_drew (S := (fun _ => True)) (by kernel_rfl) trivial (fun hHeld => ?_)
        refine takeH (i := 0) (v := ?_) rfl (by kernel_rfl) (by kernel_rfl) (by kernel_rfl) (fun _ _ _ h => h) (Or.inl ⟨by rfl, ?_⟩) (by assumption) ?_
        rotate_left 1
        · (intro w hSw; (try dsimp only at hSw); go_simp; try (with_reducible rfl))
        try simp only [Act.put, List.setIfInBounds_toArray, List.set_cons_zero, List.set_cons_succ]
        refine takeH (i := 1) (v := ?_) rfl (by kernel_rfl) (by kernel_rfl) (by kernel_rfl) (fun _ _ _ h => h) (Or.inl ⟨by rfl, ?_⟩) (by assumption) ?_
        rotate_left 1
        · (intro w hSw; (try dsimp only at hSw); go_simp; try (with_reducible rfl))
        try simp only [Act.put, List.setIfInBounds_toArray, List.set_cons_zero, List.set_cons_succ]
        refine takeH (i := 2) (v := ?_) rfl (by kernel_rfl) (by kernel_rfl) (by kernel_rfl) (fun _ _ _ h => h) (Or.inl ⟨by rfl, ?_⟩) (by assumption) ?_
        rotate_left 1
        · (intro w hSw; (try dsimp only at hSw); go_simp; try (with_reducible rfl))
        try simp only [Act.put, List.setIfInBounds_toArray, List.set_cons_zero, List.set_cons_succ]
        refine takeH (i := 3) (v := undef) rfl (by kernel_rfl) (by kernel_rfl) (by kernel_rfl) (fun _ _ _ h => h) (Or.inr ⟨by rfl, rfl⟩) (by assumption) ?_
        try simp only [Act.put, List.setIfInBounds_toArray, List.set_cons_zero, List.set_cons_succ]
        refine takeH (i := 4) (v := undef) rfl (by kernel_rfl) (by kernel_rfl) (by kernel_rfl) (fun _ _ _ h => h) (Or.inr ⟨by rfl, rfl⟩) (by assumption) ?_
        try simp only [Act.put, List.setIfInBounds_toArray, List.set_cons_zero, List.set_cons_succ]
        refine takeH (i := 5) (v := undef) rfl (by kernel_rfl) (by kernel_rfl) (by kernel_rfl) (fun _ _ _ h => h) (Or.inr ⟨by rfl, rfl⟩) (by assumption) ?_
        try simp only [Act.put, List.setIfInBounds_toArray, List.set_cons_zero, List.set_cons_succ]
        refine takeH (i := 6) (v := undef) rfl (by kernel_rfl) (by kernel_rfl) (by kernel_rfl) (fun _ _ _ h => h) (Or.inr ⟨by rfl, rfl⟩) (by assumption) ?_
        try simp only [Act.put, List.setIfInBounds_toArray, List.set_cons_zero, List.set_cons_succ]
        refine takeH (i := 7) (v := undef) rfl (by kernel_rfl) (by kernel_rfl) (by kernel_rfl) (fun _ _ _ h => h) (Or.inr ⟨by rfl, rfl⟩) (by assumption) ?_
        try simp only [Act.put, List.setIfInBounds_toArray, List.set_cons_zero, List.set_cons_succ]
        refine takeH (i := 8) (v := undef) rfl (by kernel_rfl) (by kernel_rfl) (by kernel_rfl) (fun _ _ _ h => h) (Or.inr ⟨by rfl, rfl⟩) (by assumption) ?_
        try simp only [Act.put, List.setIfInBounds_toArray, List.set_cons_zero, List.set_cons_succ]
        refine takeH (i := 9) (v := undef) rfl (by kernel_rfl) (by kernel_rfl) (by kernel_rfl) (fun _ _ _ h => h) (Or.inr ⟨by rfl, rfl⟩) (by assumption) ?_
        try simp only [Act.put, List.setIfInBounds_toArray, List.set_cons_zero, List.set_cons_succ]
        refine takeH (i := 10) (v := undef) rfl (by kernel_rfl) (by kernel_rfl) (by kernel_rfl) (fun _ _ _ h => h) (Or.inr ⟨by rfl, rfl⟩) (by assumption) ?_
        try simp only [Act.put, List.setIfInBounds_toArray, List.set_cons_zero, List.set_cons_succ]
        refine takeH (i := 11) (v := ?_) rfl (by kernel_rfl) (by kernel_rfl) (by kernel_rfl) (fun _ _ _ h => h) (Or.inl ⟨by rfl, ?_⟩) (by assumption) ?_
        rotate_left 1
        · (intro w hSw; (try dsimp only at hSw); go_simp; try (with_reducible rfl))
        try simp only [Act.put, List.setIfInBounds_toArray, List.set_cons_zero, List.set_cons_succ]
        refine wpAnyH_done (by kernel_rfl) ?_ _
        generalize W.drew = W2 at *
        go_wp2_with fail
        go_roundg (n + 1 - (0 + 1))
        case measure => omega
        case rel => exact ⟨0 + 1, by simp, by omega, by omega, J, O2⟩
    · have h2 : ¬ ((k : Int) < (n : Int)) := by omega
      have h3 : decide ((k : Int) < (n : Int)) = false := decide_eq_false h2
      have F := Lib.hid (adj_false (L := L) (fun i hi hi0 => hj.out i (by have := H.out.2; omega) hi0))
      go_wp2_with fail
      go_ret
      exact ⟨by rw [F.out]; rfl, O.out⟩

end Go.Proofs.Ytaaolacfhdfagaa
