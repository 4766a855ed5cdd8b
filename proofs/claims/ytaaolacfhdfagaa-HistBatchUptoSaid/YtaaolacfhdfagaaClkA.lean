/-
  Numbers in memory as they are read and written ('Nums'); At of both; Mod; Same and Plain over two lists that are alike; Spoil.
-/
import Derived.Test.YtaaolacfhdfagaaRowG
import Derived.Test.YtaaolacfhdfagaaClkM
import Derived.Lib.Hide
import Derived.WalkSmall
import Derived.Deep.LoopGhost
import Derived.BigQuiet
import Derived.Deep.QuietTactic
import Derived.Deep.RegionHeld3
namespace Go.Proofs.Ytaaolacfhdfagaa
set_option maxRecDepth 100000
open Go.RowKit
set_option linter.unusedVariables false
set_option linter.unusedSimpArgs false
set_option maxRecDepth 100000

/-- ints. -/
def iE : El Int 1 where
  T := 3
  cs := fun a => [.int .i64 a]
  z := .int .i64 0
  wide := 8
  len := fun _ => rfl
  one := fun x u hu => by
    simp at hu
    subst hu
    rfl
  pos := by decide
  info := by kernel_rfl
  zs := rfl
  small := by decide
theorem iflat (xs : List Int) : iE.flat xs = xs.map (Value.int .i64) := by
  induction xs with
  | nil => rfl
  | cons x xs ih => rw [iE.flat_cons, ih]; rfl
/-- A slice's address leads to these numbers, in a block that is not below B, where they may be written. -/
def Nums (B : Nat) (w : World) (A : Option Addr) (xs : List Int) : Prop := ∀ k x, xs[k]? = some x → ∃ g, A = some ⟨g, 0, none⟩ ∧ B ≤ g ∧ w.cell? ⟨g, k, none⟩ = some (.int .i64 x) ∧ w.frozen? ⟨g, k, none⟩ = false
section
variable {B : Nat} {w w' : World} {A : Option Addr} {xs : List Int}
theorem Nums.nil (B : Nat) (w : World) (A : Option Addr) : Nums B w A [] := fun k x h => by simp at h
theorem Nums.block (h : Nums B w A xs) (hk : ∀ g, A = some ⟨g, 0, none⟩ → 0 < xs.length → B ≤ g → g < w.heap.size → w'.heap[g]? = w.heap[g]?) : Nums B w' A xs := fun k x hx => by
  obtain ⟨g, e, hB, hc, hf⟩ := h k x hx
  have h0 : 0 < xs.length := by
    have := (List.getElem?_eq_some_iff.1 hx).1; omega
  have hg := hk g e h0 hB (World.block_lt_of_cell? w _ hc)
  exact ⟨g, e, hB, (World.cell?_of_block hg).trans hc, (World.frozen?_of_block hg).trans hf⟩
theorem Nums.only (h : Nums B w A xs) {S : List Nat} (ho : Only S w w') (hS : ∀ g, A = some ⟨g, 0, none⟩ → 0 < xs.length → B ≤ g → g < w.heap.size → g ∉ S) : Nums B w' A xs :=
  h.block fun g e h0 hB hg => ho.block g hg (hS g e h0 hB hg)
theorem Nums.only0 (h : Nums B w A xs) (ho : Only [] w w') : Nums B w' A xs := h.only ho (by simp)
theorem Nums.mono (h : Nums B w A xs) {B' : Nat} (hB : B' ≤ B) : Nums B' w A xs := fun k x hx => by
  obtain ⟨g, e, h1, h2⟩ := h k x hx
  exact ⟨g, e, by omega, h2⟩
theorem Nums.zero (h : Nums B w A xs) : Nums 0 w A xs := h.mono (Nat.zero_le _)
theorem Nums.of_row {m cap : Nat} (h : iE.Row w (.slice A m cap) xs) (hB : ∀ g, (Value.slice A m cap).ownBlock = some g → B ≤ g) : Nums B w A xs := fun k x hx => by
  obtain ⟨g, e, hg, hc⟩ := h.cell hx
  subst e
  have h0 := hc 0 _ rfl
  simp only [Nat.mul_one, Nat.add_zero] at h0
  exact ⟨g, rfl, hB g (by simp [Value.ownBlock]), h0.1, h0.2⟩
theorem Nums.src (h : Nums B w A xs) : iE.Src w A xs := fun hne => by
  obtain ⟨x, hx⟩ : ∃ x, xs[0]? = some x := ⟨_, List.getElem?_eq_getElem (List.length_pos_iff.2 hne)⟩
  obtain ⟨g, e, _, _⟩ := h 0 x hx
  refine ⟨_, e, fun j u hu => ?_⟩
  rw [iflat, List.getElem?_map] at hu
  rcases hj : xs[j]? with _ | y
  · rw [hj] at hu; cases hu
  · rw [hj] at hu
    simp at hu
    subst hu
    obtain ⟨g', e', _, hc, _⟩ := h j y hj
    rw [e] at e'
    injection e' with e'
    injection e' with e'
    subst e'
    rw [addr_at, Nat.zero_add]
    exact hc
/-- Of the first part. -/
theorem Nums.head {ys : List Int} (h : Nums B w A (xs ++ ys)) : Nums B w A xs := fun k x hx =>
  h k x (by rw [List.getElem?_append_left (List.getElem?_eq_some_iff.1 hx).1]; exact hx)
/-- A number written over. -/
theorem Nums.store {g : Nat} (h : Nums B w (some ⟨g, 0, none⟩) xs) (k : Nat) (x : Int) : Nums B (w.setCell ⟨g, k, none⟩ (.int .i64 x)) (some ⟨g, 0, none⟩) (xs.set k x) := fun j y hy => by
  rw [List.getElem?_set] at hy
  by_cases e : k = j
  · subst e
    rw [if_pos rfl] at hy
    split at hy
    · rename_i hlt
      injection hy with hy
      subst hy
      obtain ⟨g', e', hB, hc, hf⟩ := h k _ (List.getElem?_eq_getElem hlt)
      injection e' with e'
      injection e' with e'
      subst e'
      exact ⟨g, rfl, hB, World.cell?_setCell_same' _ _ _ (by rw [hc]; rfl), by rw [World.frozen?_setCell]; exact hf⟩
    · cases hy
  · rw [if_neg e] at hy
    obtain ⟨g', e', hB, hc, hf⟩ := h j y hy
    injection e' with e'
    injection e' with e'
    subst e'
    refine ⟨g, rfl, hB, ?_, by rw [World.frozen?_setCell]; exact hf⟩
    rw [World.cell?_setCell_other _ _ _ _ (by intro h2; injection h2 with _ h2; exact e h2)]
    exact hc
end

/-! ### At -/
/-! ### Mod -/
def modI (v n : Int) : Int := (v % 18446744073709551616) % n
theorem modI_lt (v : Int) {n : Int} (h : 0 < n) : 0 ≤ modI v n ∧ modI v n < n := ⟨Int.emod_nonneg _ (by omega), Int.emod_lt_of_pos _ h⟩
theorem cMod (v n : Int) (h : 0 < n) (hn : n ≤ 1000000) (w : World) : Calls Try.prog 5 #[.int .i64 v, .int .i64 n] w fun e w' => e = .returned (.int .i64 (modI v n)) ∧ w' = w := by
  obtain ⟨x, h0, hx, ex⟩ := rem_is v n h
  have em : modI v n = x := by
    rw [← ex]
    unfold modI
    rw [show IntKind.u64.wrap v = v % 18446744073709551616 from IntKind.wrap_u64 v]
    rw [Int.tmod_eq_emod_of_nonneg (Int.emod_nonneg _ (by decide))]
  have hw : wrap64 x = x := by unfold wrap64; omega
  have hne' : ¬ (n = 0) := by omega
  have hwn : IntKind.u64.wrap n = n := by rw [IntKind.wrap_u64]; omega
  rw [em]
  go_enter Try.func5, Try.ntmps5
  go_wp2
  go_ret
  exact ⟨by simp [ex, hw], rfl⟩

/-! ### Same, Plain, Spoil -/
/-- Blocks of a kind alone turn. -/
def OnlyP (p : Nat → Prop) (w w' : World) : Prop := ∃ S, Only S w w' ∧ ∀ k ∈ S, p k
theorem OnlyP.refl (p : Nat → Prop) (w : World) : OnlyP p w w := ⟨[], Only.refl [] w, by simp⟩
theorem OnlyP.trans {p : Nat → Prop} {a b c : World} (h : OnlyP p a b) (h2 : OnlyP p b c) : OnlyP p a c := by
  obtain ⟨S, o, hS⟩ := h
  obtain ⟨T, o2, hT⟩ := h2
  refine ⟨S ++ T, (o.mono (T := S ++ T) (fun k hk => .inl (by simp [hk]))).trans o2 (fun k hk => .inl (by simp [hk])), fun k hk => ?_⟩
  rcases List.mem_append.1 hk with h | h
  · exact hS k h
  · exact hT k h
theorem OnlyP.setCell {p : Nat → Prop} {a w : World} (h : OnlyP p a w) {ad : Addr} (hp : p ad.block) (u : Value) : OnlyP p a (w.setCell ad u) :=
  h.trans ⟨[ad.block], (Only.refl _ w).setCell (.inl (by simp)) u, by simpa using hp⟩
theorem OnlyP.on {p : Nat → Prop} {a w w' : World} (h : OnlyP p w w') (ho : Only [] a w) (hp : ∀ k, p k → a.heap.size ≤ k) : Only [] a w' := by
  obtain ⟨S, o, hS⟩ := h
  exact ho.trans o (fun k hk => .inr (hp k (hS k hk)))
/-- Spoil: the list's own block alone turns. -/
def Its (A : Option Addr) (B n k : Nat) : Prop := A = some ⟨k, 0, none⟩ ∧ B ≤ k ∧ 0 < n
end Go.Proofs.Ytaaolacfhdfagaa
