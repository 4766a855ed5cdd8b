/-
  Numbers in memory as they are read and written ('Nums'); At of both; Mod; Same and Plain over two lists that are alike; Spoil.
-/
import Derived.Test.YtmgmfihjojhilaaRowG
import Derived.Test.YtmgmfihjojhilaaClkM
import Derived.Lib.Hide
import Derived.WalkSmall
import Derived.Deep.LoopGhost
import Derived.BigQuiet
import Derived.Deep.QuietTactic
import Derived.Deep.RegionHeld3
namespace Go.Proofs.Ytmgmfihjojhilaa
set_option maxRecDepth 100000
open Go.RowKit
set_option linter.unusedVariables false
set_option linter.unusedSimpArgs false
set_option maxRecDepth 100000

/-- ints. -/
def iE : El Int 1 where
  T := 3
  cs := fun a => [.int .i64 a]
  z := .int .i64 0
  wide := 8
  len := fun _ => rfl
  one := fun x u hu => by
    simp at hu
    subst hu
    rfl
  pos := by decide
  info := by kernel_rfl
  zs := rfl
  small := by decide
theorem iflat (xs : List Int) : iE.flat xs = xs.map (Value.int .i64) := by
  induction xs with
  | nil => rfl
  | cons x xs ih => rw [iE.flat_cons, ih]; rfl
/-- A slice's address leads to these numbers, in a block that is not below B, where they may be written. -/
def Nums (B : Nat) (w : World) (A : Option Addr) (xs : List Int) : Prop := ∀ k x, xs[k]? = some x → ∃ g, A = some ⟨g, 0, none⟩ ∧ B ≤ g ∧ w.cell? ⟨g, k, none⟩ = some (.int .i64 x) ∧ w.frozen? ⟨g, k, none⟩ = false
section
variable {B : Nat} {w w' : World} {A : Option Addr} {xs : List Int}
theorem Nums.nil (B : Nat) (w : World) (A : Option Addr) : Nums B w A [] := fun k x h => by simp at h
theorem Nums.block (h : Nums B w A xs) (hk : ∀ g, A = some ⟨g, 0, none⟩ → 0 < xs.length → B ≤ g → g < w.heap.size → w'.heap[g]? = w.heap[g]?) : Nums B w' A xs := fun k x hx => by
  obtain ⟨g, e, hB, hc, hf⟩ := h k x hx
  have h0 : 0 < xs.length := by
    have := (List.getElem?_eq_some_iff.1 hx).1; omega
  have hg := hk g e h0 hB (World.block_lt_of_cell? w _ hc)
  exact ⟨g, e, hB, (World.cell?_of_block hg).trans hc, (World.frozen?_of_block hg).trans hf⟩
theorem Nums.only (h : Nums B w A xs) {S : List Nat} (ho : Only S w w') (hS : ∀ g, A = some ⟨g, 0, none⟩ → 0 < xs.length → B ≤ g → g < w.heap.size → g ∉ S) : Nums B w' A xs :=
  h.block fun g e h0 hB hg => ho.block g hg (hS g e h0 hB hg)
theorem Nums.only0 (h : Nums B w A xs) (ho : Only [] w w') : Nums B w' A xs := h.only ho (by simp)
theorem Nums.mono (h : Nums B w A xs) {B' : Nat} (hB : B' ≤ B) : Nums B' w A xs := fun k x hx => by
  obtain ⟨g, e, h1, h2⟩ := h k x hx
  exact ⟨g, e, by omega, h2⟩
theorem Nums.zero (h : Nums B w A xs) : Nums 0 w A xs := h.mono (Nat.zero_le _)
theorem Nums.of_row {m cap : Nat} (h : iE.Row w (.slice A m cap) xs) (hB : ∀ g, (Value.slice A m cap).ownBlock = some g → B ≤ g) : Nums B w A xs := fun k x hx => by
  obtain ⟨g, e, hg, hc⟩ := h.cell hx
  subst e
  have h0 := hc 0 _ rfl
  simp only [Nat.mul_one, Nat.add_zero] at h0
  exact ⟨g, rfl, hB g (by simp [Value.ownBlock]), h0.1, h0.2⟩
theorem Nums.src (h : Nums B w A xs) : iE.Src w A xs := fun hne => by
  obtain ⟨x, hx⟩ : ∃ x, xs[0]? = some x := ⟨_, List.getElem?_eq_getElem (List.length_pos_iff.2 hne)⟩
  obtain ⟨g, e, _, _⟩ := h 0 x hx
  refine ⟨_, e, fun j u hu => ?_⟩
  rw [iflat, List.getElem?_map] at hu
  rcases hj : xs[j]? with _ | y
  · rw [hj] at hu; cases hu
  · rw [hj] at hu
    simp at hu
    subst hu
    obtain ⟨g', e', _, hc, _⟩ := h j y hj
    rw [e] at e'
    injection e' with e'
    injection e' with e'
    subst e'
    rw [addr_at, Nat.zero_add]
    exact hc
/-- Of the first part. -/
theorem Nums.head {ys : List Int} (h : Nums B w A (xs ++ ys)) : Nums B w A xs := fun k x hx =>
  h k x (by rw [List.getElem?_append_left (List.getElem?_eq_some_iff.1 hx).1]; exact hx)
/-- A number written over. -/
theorem Nums.store {g : Nat} (h : Nums B w (some ⟨g, 0, none⟩) xs) (k : Nat) (x : Int) : Nums B (w.setCell ⟨g, k, none⟩ (.int .i64 x)) (some ⟨g, 0, none⟩) (xs.set k x) := fun j y hy => by
  rw [List.getElem?_set] at hy
  by_cases e : k = j
  · subst e
    rw [if_pos rfl] at hy
    split at hy
    · rename_i hlt
      injection hy with hy
      subst hy
      obtain ⟨g', e', hB, hc, hf⟩ := h k _ (List.getElem?_eq_getElem hlt)
      injection e' with e'
      injection e' with e'
      subst e'
      exact ⟨g, rfl, hB, World.cell?_setCell_same' _ _ _ (by rw [hc]; rfl), by rw [World.frozen?_setCell]; exact hf⟩
    · cases hy
  · rw [if_neg e] at hy
    obtain ⟨g', e', hB, hc, hf⟩ := h j y hy
    injection e' with e'
    injection e' with e'
    subst e'
    refine ⟨g, rfl, hB, ?_, by rw [World.frozen?_setCell]; exact hf⟩
    rw [World.cell?_setCell_other _ _ _ _ (by intro h2; injection h2 with _ h2; exact e h2)]
    exact hc
end

/-! ### At -/
set_option maxHeartbeats 1000000 in
theorem cAt (A : Option Addr) (m c : Nat) (xs : List Int) (i : Int) (w : World) (hm : xs.length = m) (hb : m ≤ 1000000) (h : Nums 0 w A xs) :
    Calls Try.prog 60 #[.slice A m c, .int .i64 i] w fun e w' => e = .returned (.int .i64 (atM xs i)) ∧ w' = w := by
  by_cases h0 : i < 0
  · have e : atM xs i = 0 := by unfold atM; rw [if_pos (.inl h0)]
    rw [e]
    clear h e
    go_enter Try.func60, Try.ntmps60
    go_wp2
    go_ret
    exact ⟨rfl, rfl⟩
  · by_cases h1 : (m : Int) ≤ i
    · have e : atM xs i = 0 := by unfold atM; rw [if_pos (.inr (by omega))]
      rw [e]
      clear h e
      go_enter Try.func60, Try.ntmps60
      go_wp2
      go_ret
      exact ⟨rfl, rfl⟩
    · obtain ⟨k, rfl⟩ := Int.eq_ofNat_of_zero_le (by omega : 0 ≤ i)
      rw [atM_nat]
      have hk : k < m := by omega
      obtain ⟨g, rfl, _, hc, _⟩ := h k _ (gC_get (by omega))
      generalize gC xs k = x at *
      clear h hm
      have hnl : ¬ ((m : Int) ≤ (k : Int)) := by omega
      have hnl' : decide ((m : Int) ≤ (k : Int)) = false := decide_eq_false hnl
      go_enter Try.func60, Try.ntmps60
      go_wp2
      go_ret
      exact ⟨rfl, rfl⟩
set_option maxHeartbeats 1000000 in
theorem rAt (A : Option Addr) (m c : Nat) (xs : List Int) (i : Int) (w : World) (hm : xs.length = m) (hb : m ≤ 1000000) (h : Nums 0 w A xs) :
    Calls Try.prog 51 #[.slice A m c, .int .i64 i] w fun e w' => e = .returned (.int .i64 (atM xs i)) ∧ w' = w := by
  by_cases h0 : i < 0
  · have e : atM xs i = 0 := by unfold atM; rw [if_pos (.inl h0)]
    rw [e]
    clear h e
    go_enter Try.func51, Try.ntmps51
    go_wp2
    go_ret
    exact ⟨rfl, rfl⟩
  · by_cases h1 : (m : Int) ≤ i
    · have e : atM xs i = 0 := by unfold atM; rw [if_pos (.inr (by omega))]
      rw [e]
      clear h e
      go_enter Try.func51, Try.ntmps51
      go_wp2
      go_ret
      exact ⟨rfl, rfl⟩
    · obtain ⟨k, rfl⟩ := Int.eq_ofNat_of_zero_le (by omega : 0 ≤ i)
      rw [atM_nat]
      have hk : k < m := by omega
      obtain ⟨g, rfl, _, hc, _⟩ := h k _ (gC_get (by omega))
      generalize gC xs k = x at *
      clear h hm
      have hnl : ¬ ((m : Int) ≤ (k : Int)) := by omega
      have hnl' : decide ((m : Int) ≤ (k : Int)) = false := decide_eq_false hnl
      go_enter Try.func51, Try.ntmps51
      go_wp2
      go_ret
      exact ⟨rfl, rfl⟩

/-! ### Mod -/
def modI (v n : Int) : Int := (v % 18446744073709551616) % n
theorem modI_lt (v : Int) {n : Int} (h : 0 < n) : 0 ≤ modI v n ∧ modI v n < n := ⟨Int.emod_nonneg _ (by omega), Int.emod_lt_of_pos _ h⟩
theorem cMod (v n : Int) (h : 0 < n) (hn : n ≤ 1000000) (w : World) : Calls Try.prog 21 #[.int .i64 v, .int .i64 n] w fun e w' => e = .returned (.int .i64 (modI v n)) ∧ w' = w := by
  obtain ⟨x, h0, hx, ex⟩ := rem_is v n h
  have em : modI v n = x := by
    rw [← ex]
    unfold modI
    rw [show IntKind.u64.wrap v = v % 18446744073709551616 from IntKind.wrap_u64 v]
    rw [Int.tmod_eq_emod_of_nonneg (Int.emod_nonneg _ (by decide))]
  have hw : wrap64 x = x := by unfold wrap64; omega
  have hne' : ¬ (n = 0) := by omega
  have hwn : IntKind.u64.wrap n = n := by rw [IntKind.wrap_u64]; omega
  rw [em]
  go_enter Try.func21, Try.ntmps21
  go_wp2
  go_ret
  exact ⟨by simp [ex, hw], rfl⟩

/-! ### Same, Plain, Spoil -/
theorem ieq_any (x y : Int) (w : World) : Calls Try.prog 53 #[.int .i64 x, .int .i64 y] w fun e w' => e = .returned (.bool (x == y)) ∧ w' = w := by
  go_enter Try.func53, Try.ntmps53
  go_wp2
  go_ret
  exact ⟨rfl, rfl⟩
set_option maxHeartbeats 1000000 in
theorem iSame (w : World) (A A' : Option Addr) (n c c' : Nat) (l : List Int) (hn : l.length = n) (hm : n ≤ 1000000) (h : Nums 0 w A l) (h' : Nums 0 w A' l) :
    Calls Try.prog 52 #[.slice A n c, .slice A' n c', .func (.func 53) #[] #[]] w fun e w' => e = .returned (.bool true) ∧ Only [] w w' := by
  have R1 := Lib.hid h
  have R2 := Lib.hid h'
  have hget : Hid (∀ k : Nat, k < n → ∃ x, l[k]? = some x) := fun k hk => ⟨_, List.getElem?_eq_getElem (by omega)⟩
  clear h h' hn
  go_enter Try.func52, Try.ntmps52
  go_wp2_with fail
  go_loopg [7] (n + 1) (fun gk si wr => ∃ k : Nat, si = .int .i64 (k : Int) ∧ k ≤ n ∧ n + 1 ≤ gk + k ∧ Hid (Only [] w wr))
  case atStart => exact ⟨0, rfl, by omega, by omega, Only.refl [] w⟩
  case round =>
    obtain ⟨k, rfl, hk, hg, O⟩ := hrel
    by_cases hlt : k < n
    · have hlt' : (k : Int) < (n : Int) := by omega
      obtain ⟨x, hx⟩ := hget.out k hlt
      obtain ⟨g, rfl, _, c1, _⟩ := R1.out.only0 O.out k x hx
      obtain ⟨g', rfl, _, c2, _⟩ := R2.out.only0 O.out k x hx
      clear hx
      go_wp2_with fail
      go_quiet (first | (go_at_call 53; exact Calls.quiet_of_same (ieq_any _ _ _)))
      have O5 : Hid (Only [] w (wr.drewN nq)) := O.out.drewN nq
      generalize wr.drewN nq = w5 at *
      go_wp2_with fail
      go_roundg (n + 1 - (k + 1))
      case measure => omega
      case rel => exact ⟨k + 1, by simp, by omega, by omega, O5⟩
    · have hpl' : decide ((k : Int) < (n : Int)) = false := decide_eq_false (by omega)
      have hpl'' : ¬ ((k : Int) < (n : Int)) := by omega
      go_wp2_with fail
      go_ret
      exact ⟨rfl, O.out⟩
theorem iPlain (w : World) (A A' : Option Addr) (n c c' : Nat) (l : List Int) (hn : l.length = n) (hm : n ≤ 1000000) (h : Nums 0 w A l) (h' : Nums 0 w A' l) :
    Calls Try.prog 28 #[.slice A n c, .slice A' n c'] w fun e w' => e = .returned (.bool true) ∧ Only [] w w' := by
  have hs := iSame w A A' n c c' l hn hm h h'
  clear h h'
  go_enter Try.func28, Try.ntmps28
  go_wp2_with fail
  refine hs.mono ?_
  rintro e w2 ⟨rfl, o2⟩
  go_wp2_with fail
  go_ret
  exact ⟨rfl, o2⟩
/-- Blocks of a kind alone turn. -/
def OnlyP (p : Nat → Prop) (w w' : World) : Prop := ∃ S, Only S w w' ∧ ∀ k ∈ S, p k
theorem OnlyP.refl (p : Nat → Prop) (w : World) : OnlyP p w w := ⟨[], Only.refl [] w, by simp⟩
theorem OnlyP.trans {p : Nat → Prop} {a b c : World} (h : OnlyP p a b) (h2 : OnlyP p b c) : OnlyP p a c := by
  obtain ⟨S, o, hS⟩ := h
  obtain ⟨T, o2, hT⟩ := h2
  refine ⟨S ++ T, (o.mono (T := S ++ T) (fun k hk => .inl (by simp [hk]))).trans o2 (fun k hk => .inl (by simp [hk])), fun k hk => ?_⟩
  rcases List.mem_append.1 hk with h | h
  · exact hS k h
  · exact hT k h
theorem OnlyP.setCell {p : Nat → Prop} {a w : World} (h : OnlyP p a w) {ad : Addr} (hp : p ad.block) (u : Value) : OnlyP p a (w.setCell ad u) :=
  h.trans ⟨[ad.block], (Only.refl _ w).setCell (.inl (by simp)) u, by simpa using hp⟩
theorem OnlyP.on {p : Nat → Prop} {a w w' : World} (h : OnlyP p w w') (ho : Only [] a w) (hp : ∀ k, p k → a.heap.size ≤ k) : Only [] a w' := by
  obtain ⟨S, o, hS⟩ := h
  exact ho.trans o (fun k hk => .inr (hp k (hS k hk)))
/-- Spoil: the list's own block alone turns. -/
def Its (A : Option Addr) (B n k : Nat) : Prop := A = some ⟨k, 0, none⟩ ∧ B ≤ k ∧ 0 < n
set_option maxHeartbeats 1000000 in
theorem iSpoil (B : Nat) (w : World) (A : Option Addr) (n c : Nat) (l : List Int) (hn : l.length = n) (hm : n ≤ 1000000) (h : Nums B w A l) :
    Calls Try.prog 27 #[.slice A n c] w fun e w' => e = .returned (.tuple #[]) ∧ OnlyP (Its A B n) w w' := by
  have H := Lib.hid (And.intro h hn)
  clear h hn
  go_enter Try.func27, Try.ntmps27
  go_wp2_with fail
  go_loopg [3] (n + 1) (fun gk si wr => ∃ (p : Nat) (bs : List Int), si = .int .i64 (p : Int) ∧ p ≤ n ∧ n + 1 ≤ gk + p ∧ Hid (Nums B wr A bs ∧ bs.length = n ∧ OnlyP (Its A B n) w wr))
  case atStart => exact ⟨0, l, rfl, by omega, by omega, H.out.1, H.out.2, OnlyP.refl _ w⟩
  case round =>
    obtain ⟨p, bs, rfl, hp, hg, R⟩ := hrel
    by_cases hpl : p < n
    · have hpl' : (p : Int) < (n : Int) := by omega
      obtain ⟨x, hx⟩ : ∃ x, bs[p]? = some x := ⟨_, List.getElem?_eq_getElem (by rw [R.out.2.1]; exact hpl)⟩
      obtain ⟨g, rfl, hB, y0, yf0⟩ := R.out.1 p x hx
      clear hx
      have HB := Lib.hid hB
      clear hB
      go_wp2_with fail
      go_roundg (n + 1 - (p + 1))
      case measure => omega
      case rel =>
        obtain ⟨r1, r2, r4⟩ := R.out
        exact ⟨p + 1, bs.set p 0, by simp, by omega, by omega, r1.store p 0, by simpa using r2, r4.setCell ⟨rfl, HB.out, by omega⟩ _⟩
    · have hpl' : decide ((p : Int) < (n : Int)) = false := decide_eq_false (by omega)
      have hpl'' : ¬ ((p : Int) < (n : Int)) := by omega
      go_wp2_with fail
      go_end0
      exact ⟨rfl, R.out.2.2⟩
end Go.Proofs.Ytmgmfihjojhilaa
