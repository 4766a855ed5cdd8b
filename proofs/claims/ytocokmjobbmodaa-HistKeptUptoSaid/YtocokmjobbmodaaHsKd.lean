/-
  Calls of which the first ones tell packets of their own.
-/
import Derived.Test.YtocokmjobbmodaaHsKb
import Derived.Test.YtocokmjobbmodaaHsU
namespace Go.Proofs.Ytocokmjobbmodaa
set_option maxRecDepth 100000
open Go.RowKit
set_option linter.unusedVariables false
set_option linter.unusedSimpArgs false
set_option maxRecDepth 100000

set_option maxHeartbeats 2000000
/-- One cell of one that lies in the row turns. -/
theorem El.Row.setOne {α : Type} {n : Nat} {E : El α n} {w : World} {g m cap : Nat} {xs : List α} (h : E.Row w (.slice (some ⟨g, 0, none⟩) m cap) xs) (k j : Nat) (x x' : α) (v : Value) (hk : xs[k]? = some x) (hj : j < n) (hx : E.cs x' = (E.cs x).set j v) :
    E.Row (w.setCell ⟨g, k * n + j, none⟩ v) (.slice (some ⟨g, 0, none⟩) m cap) (xs.set k x') := by
  have hkl : k < xs.length := (List.getElem?_eq_some_iff.1 hk).1
  obtain ⟨h1, h2⟩ := h
  rcases h2 with ⟨e, _⟩ | ⟨g', cap', cur, e, h0, hg, hn, hc, hsz, hcur⟩
  · cases e
  · injection e with e1 e2 e3
    injection e1 with e1
    injection e1 with e1
    subst e1 e2 e3
    refine ⟨by rw [E.flat_length], .inr ⟨g, cap, cur.setIfInBounds (k * n + j) v, by simp, h0, by simp [World.setCell, Array.getElem?_modify, hg], by simpa using hn, hc, by simpa using hsz, ?_⟩⟩
    have hn0 := E.pos
    apply List.ext_getElem?
    intro t
    rw [List.getElem?_take, List.length_set]
    by_cases ht : t < xs.length * n
    · rw [if_pos ht]
      have hq : t / n < xs.length := by rw [Nat.div_lt_iff_lt_mul hn0]; exact ht
      have hm : t % n < n := Nat.mod_lt _ hn0
      have ej : t / n * n + t % n = t := by rw [Nat.mul_comm]; exact Nat.div_add_mod t n
      have htc : t < cur.size := by
        have h9 : xs.length * n ≤ cap * n := Nat.mul_le_mul_right n hn
        rw [hsz]; omega
      have h6 := E.flat_at xs (t / n) xs[t / n] (List.getElem?_eq_getElem hq) (t % n) hm
      rw [ej, ← hcur, List.getElem?_take, if_pos ht] at h6
      rw [Array.toList_setIfInBounds, List.getElem?_set]
      by_cases he : t / n = k
      · have h5 := E.flat_at (xs.set k x') k x' (by simp [hkl]) (t % n) hm
        have hxk : xs[t / n] = x := by
          have h7 : xs[t / n]? = some x := by rw [he]; exact hk
          rw [List.getElem?_eq_getElem hq] at h7
          injection h7
        rw [hxk] at h6
        rw [← he, ej] at h5
        rw [← he, h5, hx, List.getElem?_set, E.len]
        by_cases hj2 : j = t % n
        · rw [if_pos (by omega), if_pos hj2, if_pos (by simp; omega), if_pos hj]
        · rw [if_neg (by omega), if_neg hj2]
          exact h6
      · have h5 := E.flat_at (xs.set k x') (t / n) xs[t / n] (by rw [List.getElem?_set_ne (by omega)]; exact List.getElem?_eq_getElem hq) (t % n) hm
        rw [ej] at h5
        have hne : ¬ (k * n + j = t) := by
          intro h9
          apply he
          rw [← h9, Nat.mul_comm, Nat.mul_add_div hn0, Nat.div_eq_of_lt hj, Nat.add_zero]
        rw [if_neg hne, h5]
        exact h6
    · rw [if_neg ht, List.getElem?_eq_none (by rw [E.flat_length, List.length_set]; omega)]
/-- Calls of which the first i tell packets of their own, with room behind them. -/
structure OwnL (w : World) (v : Pk) (L M : List Dn) (qs : List Da) (i : Nat) : Prop where
  len : M.length = L.length
  done : ∀ (k : Nat) (x : Dn) (a : Da), k < i → M[k]? = some x → qs[k]? = some a → x.strip = a.1 ∧ x.m = a.2.length ∧ x.c = a.2.length + 3 ∧ ∃ g, x.A = some ⟨g, 0, none⟩ ∧ pE.Row w (.slice (some ⟨g, 0, none⟩) (a.2.length + 3) (a.2.length + 3)) (a.2 ++ List.replicate 3 v)
  rest : ∀ k, i ≤ k → M[k]? = L[k]?
section
variable {w w' : World} {v : Pk} {L M : List Dn} {qs : List Da} {i : Nat}
theorem OwnL.start (w : World) (v : Pk) (L : List Dn) (qs : List Da) : OwnL w v L L qs 0 := ⟨rfl, fun k x a hk => by omega, fun k _ => rfl⟩
theorem OwnL.only0 (h : OwnL w v L M qs i) (ho : Only [] w w') : OwnL w' v L M qs i := ⟨h.len, fun k x a hk hx ha => by
  obtain ⟨h1, h2, h3, g, e, hr⟩ := h.done k x a hk hx ha
  exact ⟨h1, h2, h3, g, e, hr.only0 ho⟩, h.rest⟩
theorem OwnL.step (h : OwnL w v L M qs i) {g1 n c : Nat} (hr : dE.Row w (.slice (some ⟨g1, 0, none⟩) n c) M) {x : Dn} {a : Da} (hx : L[i]? = some x) (ha : qs[i]? = some a) (hs : x.strip = a.1) {g m : Nat} (hm : m = a.2.length)
    (hp : pE.Row w (.slice (some ⟨g, 0, none⟩) (m + 3) (m + 3)) (a.2 ++ List.replicate 3 v)) :
    OwnL (w.setCell ⟨g1, i * 12 + 7, none⟩ (.slice (some ⟨g, 0, none⟩) m (m + 3))) v L (M.set i { x with A := some ⟨g, 0, none⟩, m := m, c := m + 3 }) qs (i + 1) := by
  obtain ⟨cs, hb⟩ := hr.typ rfl
  subst hm
  refine ⟨by rw [List.length_set]; exact h.len, fun k y b hk hy hb2 => ?_, fun k hk => ?_⟩
  · by_cases e : k = i
    · subst e
      rw [ha] at hb2
      injection hb2 with hb2
      subst hb2
      have hil : k < M.length := by rw [h.len]; exact (List.getElem?_eq_some_iff.1 hx).1
      rw [List.getElem?_set_self hil] at hy
      injection hy with hy
      subst hy
      exact ⟨hs, rfl, rfl, g, rfl, row_setBox hp hb _ _⟩
    · rw [List.getElem?_set_ne (by omega)] at hy
      obtain ⟨h1, h2, h3, g', e', hr'⟩ := h.done k y b (by omega) hy hb2
      exact ⟨h1, h2, h3, g', e', row_setBox hr' hb _ _⟩
  · rw [List.getElem?_set_ne (by omega)]
    exact h.rest k (by omega)
theorem OwnL.abs (h : OwnL w v L M qs i) (hi : i = L.length) (hq : qs.length = L.length) : AbsL w M qs := by
  refine ⟨h.len.trans hq.symm, fun k x a hx ha => ?_⟩
  have hk : k < M.length := (List.getElem?_eq_some_iff.1 hx).1
  obtain ⟨h1, h2, h3, g, e, hr⟩ := h.done k x a (by rw [hi, ← h.len]; exact hk) hx ha
  exact ⟨h1, h2, by rw [e]; exact src_take (El.Src.of_row hr), fun e2 => by rw [e] at e2; cases e2⟩
end
theorem AbsL.small {w : World} {M : List Dn} {qs : List Da} (h : AbsL w M qs) {B : Nat} (hs : ∀ a ∈ qs, a.2.length ≤ B) : ∀ x ∈ M, x.m ≤ B := fun x hx => by
  obtain ⟨k, hk, rfl⟩ := List.mem_iff_getElem.1 hx
  obtain ⟨y, a, h1, h2, h3⟩ := h.get (k := k) (by rw [← h.len]; exact hk)
  rw [List.getElem?_eq_getElem hk] at h1
  injection h1 with h1
  rw [h1, h3.len]
  exact hs a (List.mem_of_getElem? h2)
theorem kSpoil (A : Option Addr) (n c : Nat) (xs : List Dn) (w : World) (hb : n ≤ 100000000) (h : dE.Row w (.slice A n c) xs) :
    Calls Try.prog 30 #[.slice A n c] w fun e w' => e = .returned (.tuple #[]) ∧ ∃ S, Only S w w' ∧ ∀ k ∈ S, A = some ⟨k, 0, none⟩ := by
  have HB : Hid (DnAt (w.alloc (.cells #[.int .i64 0, .int .i64 0, .int .i64 0, .int .i64 0, .int .i64 0, .int .i64 0, .int .i64 0, .slice none 0 0, .int .i64 0, .int .u64 0, .int .i64 0, .int .i64 0] 31)) w.heap.size 0 zD) := DnAt.box w zD _
  have OB : Hid (Only [] w (w.alloc (.cells #[.int .i64 0, .int .i64 0, .int .i64 0, .int .i64 0, .int .i64 0, .int .i64 0, .int .i64 0, .slice none 0 0, .int .i64 0, .int .u64 0, .int .i64 0, .int .i64 0] 31))) := (Only.refl [] w).alloc _
  have W0 := Lib.hid (h.only0 OB.out)
  have WL : Hid (xs.length = n ∧ ∀ g, A = some ⟨g, 0, none⟩ → g < w.heap.size) := ⟨h.lenOf, fun g e => h.lt (by rw [e]; rfl)⟩
  clear h
  go_enter Try.func30, Try.ntmps30
  go_upto_region 1 with fail
  generalize w.alloc (.cells #[.int .i64 0, .int .i64 0, .int .i64 0, .int .i64 0, .int .i64 0, .int .i64 0, .int .i64 0, .slice none 0 0, .int .i64 0, .int .u64 0, .int .i64 0, .int .i64 0] 31) = V at *
  obtain ⟨bx, ebx⟩ : ∃ bx, w.heap.size = bx := ⟨_, rfl⟩
  rw [ebx] at HB WL ⊢
  clear ebx
  go_wp2_with fail
  go_loopg [3] (n + 1) (fun gk si wr => ∃ (p : Nat) (ys : List Dn), si = .int .i64 (p : Int) ∧ p ≤ n ∧ n + 1 ≤ gk + p ∧ Hid (dE.Row wr (.slice A n c) ys ∧ (∃ S, Only S V wr ∧ ∀ k ∈ S, A = some ⟨k, 0, none⟩) ∧ DnAt wr bx 0 zD))
  case atStart => exact ⟨0, xs, rfl, by omega, by omega, W0.out, ⟨[], Only.refl [] V, by simp⟩, HB.out⟩
  case round =>
    obtain ⟨p, ys, rfl, hp, hg, R⟩ := hrel
    clear W0
    by_cases hpl : p < n
    · have hpl' : (p : Int) < (n : Int) := by omega
      have YL : Hid (ys.length = n) := R.out.1.lenOf
      obtain ⟨g, rfl⟩ : ∃ g, A = some ⟨g, 0, none⟩ := by
        rcases R.out.1.addr with rfl | h
        · have := (R.out.1.nilOf rfl).2
          have := YL.out
          simp_all
          omega
        · exact h
      have NE : Hid (g ≠ bx) := by show _ ≠ _; have := WL.out.2 g rfl; omega
      have CC := row_cells R.out.1 (k := p) (by have := YL.out; omega)
      have R2 := Lib.hid (R.out.1.store12 rfl p zD (by have := YL.out; omega))
      have OO : Hid (∃ S, Only S V ((((((((((((wr.setCell ⟨g, p * 12, none⟩ (.int .i64 zD.who)).setCell ⟨g, p * 12 + 1, none⟩ (.int .i64 zD.place)).setCell ⟨g, p * 12 + 2, none⟩ (.int .i64 zD.op)).setCell ⟨g, p * 12 + 3, none⟩ (.int .i64 zD.f)).setCell ⟨g, p * 12 + 4, none⟩ (.int .i64 zD.a)).setCell ⟨g, p * 12 + 5, none⟩ (.int .i64 zD.b)).setCell ⟨g, p * 12 + 6, none⟩ (.int .i64 zD.e)).setCell ⟨g, p * 12 + 7, none⟩ (.slice zD.A zD.m zD.c)).setCell ⟨g, p * 12 + 8, none⟩ (.int .i64 zD.n)).setCell ⟨g, p * 12 + 9, none⟩ (.int .u64 zD.v)).setCell ⟨g, p * 12 + 10, none⟩ (.int .i64 zD.fr)).setCell ⟨g, p * 12 + 11, none⟩ (.int .i64 zD.to)) ∧ ∀ k ∈ S, (some ⟨g, 0, none⟩ : Option Addr) = some ⟨k, 0, none⟩) := by
        obtain ⟨S, o, hS⟩ := R.out.2.1
        refine ⟨g :: S, (o.mono (T := g :: S) (fun k hk => .inl (by simp [hk]))).set12 g _ _ (.inl (by simp)), fun k hk => ?_⟩
        rcases List.mem_cons.1 hk with rfl | hk
        · rfl
        · exact hS k hk
      have ZZ : Hid (DnAt ((((((((((((wr.setCell ⟨g, p * 12, none⟩ (.int .i64 zD.who)).setCell ⟨g, p * 12 + 1, none⟩ (.int .i64 zD.place)).setCell ⟨g, p * 12 + 2, none⟩ (.int .i64 zD.op)).setCell ⟨g, p * 12 + 3, none⟩ (.int .i64 zD.f)).setCell ⟨g, p * 12 + 4, none⟩ (.int .i64 zD.a)).setCell ⟨g, p * 12 + 5, none⟩ (.int .i64 zD.b)).setCell ⟨g, p * 12 + 6, none⟩ (.int .i64 zD.e)).setCell ⟨g, p * 12 + 7, none⟩ (.slice zD.A zD.m zD.c)).setCell ⟨g, p * 12 + 8, none⟩ (.int .i64 zD.n)).setCell ⟨g, p * 12 + 9, none⟩ (.int .u64 zD.v)).setCell ⟨g, p * 12 + 10, none⟩ (.int .i64 zD.fr)).setCell ⟨g, p * 12 + 11, none⟩ (.int .i64 zD.to)) bx 0 zD) := by
        have o : Only [g] wr ((((((((((((wr.setCell ⟨g, p * 12, none⟩ (.int .i64 zD.who)).setCell ⟨g, p * 12 + 1, none⟩ (.int .i64 zD.place)).setCell ⟨g, p * 12 + 2, none⟩ (.int .i64 zD.op)).setCell ⟨g, p * 12 + 3, none⟩ (.int .i64 zD.f)).setCell ⟨g, p * 12 + 4, none⟩ (.int .i64 zD.a)).setCell ⟨g, p * 12 + 5, none⟩ (.int .i64 zD.b)).setCell ⟨g, p * 12 + 6, none⟩ (.int .i64 zD.e)).setCell ⟨g, p * 12 + 7, none⟩ (.slice zD.A zD.m zD.c)).setCell ⟨g, p * 12 + 8, none⟩ (.int .i64 zD.n)).setCell ⟨g, p * 12 + 9, none⟩ (.int .u64 zD.v)).setCell ⟨g, p * 12 + 10, none⟩ (.int .i64 zD.fr)).setCell ⟨g, p * 12 + 11, none⟩ (.int .i64 zD.to)) := (Only.refl [g] wr).set12 g _ _ (.inl (by simp))
        exact R.out.2.2.only o (by have := NE.out; simp; omega)
      obtain ⟨y0, y1, y2, y3, y4, y5, y6, y7, y8, y9, y10, y11⟩ := R.out.2.2; (try simp only [Nat.zero_add] at y0 y1 y2 y3 y4 y5 y6 y7 y8 y9 y10 y11)
      obtain ⟨c0, f0⟩ := CC 0 (by decide)
      obtain ⟨c1, f1⟩ := CC 1 (by decide)
      obtain ⟨c2, f2⟩ := CC 2 (by decide)
      obtain ⟨c3, f3⟩ := CC 3 (by decide)
      obtain ⟨c4, f4⟩ := CC 4 (by decide)
      obtain ⟨c5, f5⟩ := CC 5 (by decide)
      obtain ⟨c6, f6⟩ := CC 6 (by decide)
      obtain ⟨c7, f7⟩ := CC 7 (by decide)
      obtain ⟨c8, f8⟩ := CC 8 (by decide)
      obtain ⟨c9, f9⟩ := CC 9 (by decide)
      obtain ⟨c10, f10⟩ := CC 10 (by decide)
      obtain ⟨c11, f11⟩ := CC 11 (by decide)
      obtain ⟨u0, c0⟩ := Option.isSome_iff_exists.1 c0
      obtain ⟨u1, c1⟩ := Option.isSome_iff_exists.1 c1
      obtain ⟨u2, c2⟩ := Option.isSome_iff_exists.1 c2
      obtain ⟨u3, c3⟩ := Option.isSome_iff_exists.1 c3
      obtain ⟨u4, c4⟩ := Option.isSome_iff_exists.1 c4
      obtain ⟨u5, c5⟩ := Option.isSome_iff_exists.1 c5
      obtain ⟨u6, c6⟩ := Option.isSome_iff_exists.1 c6
      obtain ⟨u7, c7⟩ := Option.isSome_iff_exists.1 c7
      obtain ⟨u8, c8⟩ := Option.isSome_iff_exists.1 c8
      obtain ⟨u9, c9⟩ := Option.isSome_iff_exists.1 c9
      obtain ⟨u10, c10⟩ := Option.isSome_iff_exists.1 c10
      obtain ⟨u11, c11⟩ := Option.isSome_iff_exists.1 c11
      simp only [Nat.add_zero] at c0 f0
      dsimp only [zD] at y0 y1 y2 y3 y4 y5 y6 y7 y8 y9 y10 y11 R2 OO ZZ
      clear CC
      go_wp2_with fail
      go_roundg (n + 1 - (p + 1))
      case measure => omega
      case rel => exact ⟨p + 1, _, by simp, by omega, by omega, R2.out, OO.out, ZZ.out⟩
    · have hpl' : decide ((p : Int) < (n : Int)) = false := decide_eq_false (by omega)
      have hpl'' : ¬ ((p : Int) < (n : Int)) := by omega
      have F : Hid (∃ S, Only S w wr ∧ ∀ k ∈ S, A = some ⟨k, 0, none⟩) := by
        obtain ⟨S, o, hS⟩ := R.out.2.1
        exact ⟨S, (OB.out.mono (T := S) (fun k hk => by simp at hk)).trans o (fun k hk => .inl hk), hS⟩
      go_wp2_with fail
      go_end0
      exact ⟨rfl, F.out⟩
end Go.Proofs.Ytocokmjobbmodaa
