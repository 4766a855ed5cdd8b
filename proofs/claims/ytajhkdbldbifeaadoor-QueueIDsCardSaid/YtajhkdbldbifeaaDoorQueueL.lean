/-
  Contracts of the queue: Len, Bases.
-/
import Derived.Test.YtajhkdbldbifeaaDoorQueueO
namespace Go.Proofs.YtajhkdbldbifeaaDoor
set_option maxRecDepth 100000
open Go.RowKit Go.ChangeMaps Go.MapKept
set_option linter.unusedVariables false
set_option linter.unusedSimpArgs false

theorem catL_len_le {L : Nat → List It} {m : Nat} : ∀ {n : Nat}, (∀ i, i < n → (L i).length ≤ m) → (catL L n).length ≤ n * m
  | 0, _ => by simp [catL]
  | n + 1, h => by
    have h1 := catL_len_le (n := n) (fun i hi => h i (by omega))
    have h2 := h n (by omega)
    rw [catL, List.length_append, Nat.succ_mul]
    omega
theorem catL_len (L : Nat → List It) (p : Nat) : (catL L (p + 1)).length = (catL L p).length + (L p).length := by rw [catL, List.length_append]

set_option maxHeartbeats 2000000 in
theorem qLen (w : World) (qb : Nat) (S : List Nat) (n wd : Nat) (B : Nat → Int) (L : Nat → List It) (h : QueueOf w qb S n wd B L) :
    Calls Tryd.prog 8 #[.pointer (some ⟨qb, 0, none⟩)] w fun e w' => e = .returned (.int .i64 ((catL L n).length : Int)) ∧ Only [] w w' := by
  have hsm : Hid (∀ p, p ≤ n → (catL L p).length ≤ 5000000) := fun p hp => by
    have h1 := catL_len_le (L := L) (n := p) (m := 300000) (fun i hi => (h.sits (by omega)).small)
    have h2 := h.n1.2
    have h3 : p * 300000 ≤ 16 * 300000 := Nat.mul_le_mul_right _ (by omega)
    omega
  obtain ⟨ab, tb, ib, nb, P, SS, rfl, h⟩ := h
  have c0 := h.c0
  have n16 := h.n1.2
  have H := Lib.hid h
  clear h
  go_enter Tryd.func8, Tryd.ntmps8
  go_wp2_with fail
  go_loopg [3, 11] (n + 1) (fun gk sn si wr => ∃ p : Nat, sn = .int .i64 ((catL L p).length : Int) ∧ si = .int .i64 (p : Int) ∧ p ≤ n ∧ n + 1 ≤ gk + p ∧ Hid (Only [] w wr))
  case atStart => exact ⟨0, rfl, rfl, by omega, by omega, Only.refl [] w⟩
  case round =>
    obtain ⟨p, rfl, rfl, hp, hg, O⟩ := hrel
    clear c0
    by_cases hpl : p < n
    · have hpl' : (p : Int) < (n : Int) := by omega
      have hQ := H.out.only0 O.out
      have di := hQ.at_ hpl
      have hle := sLenOf wr (P p) (SS p) wd (B p) (L p) (hQ.sh p hpl)
      have hc := catL_len L p
      have h1 := hsm.out p hp
      have h2 := hsm.out (p + 1) hpl
      generalize (catL L p).length = a at *
      generalize (L p).length = b at *
      obtain ⟨c, ec⟩ : ∃ c, (catL L (p + 1)).length = c := ⟨_, rfl⟩
      rw [ec] at hc h2
      have EC := Lib.hid ec
      clear ec hQ
      go_wp2_with fail
      refine hle.mono ?_
      rintro e w2 ⟨rfl, o2⟩
      have O2 : Hid (Only [] w w2) := O.out.trans' o2
      clear o2 hle di
      go_wp2_with fail
      go_roundg (n + 1 - (p + 1))
      case measure => omega
      case rel => exact ⟨p + 1, by rw [EC.out, hc]; simp, by simp, by omega, by omega, O2⟩
    · have hpe : p = n := by omega
      subst hpe
      have hpl' : ¬ ((p : Int) < (p : Int)) := by omega
      go_wp2_with fail
      go_ret
      exact ⟨rfl, O.out⟩

/-! ### rows of uint64s -/
def u64s (ns : List Int) : List Value := ns.map (Value.int .u64)
theorem u64s_at {ns : List Int} {k : Nat} (h : k < ns.length) : (u64s ns)[k]? = some (.int .u64 (ns.getD k 0)) := by simp [u64s, h]
theorem u64s_set (ns : List Int) (k : Nat) (v : Int) : (u64s ns).set k (.int .u64 v) = u64s (ns.set k v) := by simp [u64s]
theorem info_u64 : (Tryd.prog.info? 22).map (fun i => (i.zero, i.size, i.bytes)) = some (some (.int .u64 0), 1, 8) := by kernel_rfl
theorem make_u64s (m : Nat) (h : m ≤ 1000) (w : World) : (Instr.makeSlice 41 (.int .i64 (m : Int)) (.int .i64 (m : Int))).run Tryd.prog w = .ok (.slice (some ⟨w.heap.size, 0, none⟩) m m) (w.alloc (.cells (u64s (List.replicate m 0)).toArray 22)) := by
  have := run_make_row' (P := Tryd.prog) 41 22 (.int .u64 0) 8 Tryd.underlying41 info_u64 rfl .i64 .i64 m (by omega) (by omega) w
  rw [made_one] at this
  rw [this]
  simp [u64s]
/-- The bases of n shards. -/
def basesL (B : Nat → Int) (n : Nat) : List Int := (List.range n).map B
@[simp] theorem basesL_len (B : Nat → Int) (n : Nat) : (basesL B n).length = n := by simp [basesL]
theorem basesL_at (B : Nat → Int) {n k : Nat} (h : k < n) : (basesL B n).getD k 0 = B k := by simp [basesL, h]
theorem bases_eq {B : Nat → Int} {n : Nat} {bs : List Int} (h : bs.length = n) (hj : ∀ j, j < n → bs.getD j 0 = B j) : bs = basesL B n := by
  apply List.ext_getElem (by simp [h])
  intro j h1 h2
  have := hj j (by omega)
  simp [h1] at this
  rw [this]
  simp [basesL]
/-- A row of uint64s, told by its cells. -/
def UAt (w : World) (A : Option Addr) (l : List Int) : Prop := l ≠ [] → ∃ g, A = some ⟨g, 0, none⟩ ∧ g < w.heap.size ∧ ∀ k, k < l.length → w.cell? ⟨g, k, none⟩ = some (.int .u64 (l.getD k 0))
theorem Arr.uat {w : World} {g : Nat} {l : List Int} (h : Arr w g 22 (u64s l)) : UAt w (some ⟨g, 0, none⟩) l := fun _ => ⟨g, rfl, h.lt, fun k hk => by rw [h.cell]; exact u64s_at hk⟩
theorem UAt.only0 {w w' : World} {A : Option Addr} {l : List Int} (h : UAt w A l) (ho : Only [] w w') : UAt w' A l := fun hl => by
  obtain ⟨g, rfl, hg, hc⟩ := h hl
  exact ⟨g, rfl, Nat.lt_of_lt_of_le hg ho.size, fun k hk => (ho.cell hg (by simp)).trans (hc k hk)⟩

set_option maxHeartbeats 2000000 in
theorem qBases (w : World) (qb : Nat) (S : List Nat) (n wd : Nat) (B : Nat → Int) (L : Nat → List It) (h : QueueOf w qb S n wd B L) :
    Calls Tryd.prog 15 #[.pointer (some ⟨qb, 0, none⟩)] w fun e w' => ∃ g, e = .returned (.slice (some ⟨g, 0, none⟩) n n) ∧ Arr w' g 22 (u64s (basesL B n)) ∧ w.heap.size ≤ g ∧ Only [] w w' := by
  obtain ⟨ab, tb, ib, nb, P, SS, rfl, h⟩ := h
  have n16 := h.n1.2
  have mk := make_u64s n (by omega)
  have oA : Only [] w (w.alloc (.cells (u64s (List.replicate n 0)).toArray 22)) := (Only.refl [] w).alloc _
  have a1 : Arr (w.alloc (.cells (u64s (List.replicate n 0)).toArray 22)) w.heap.size 22 (u64s (List.replicate n 0)) := Arr.new w _ _
  have c0 := h.c0
  have c0' := (h.only0 oA).c0
  have H := Lib.hid h
  have HA := Lib.hid (And.intro oA a1)
  clear h oA a1
  obtain ⟨V, eV⟩ : ∃ V, w.alloc (.cells (u64s (List.replicate n 0)).toArray 22) = V := ⟨_, rfl⟩
  obtain ⟨N, eN⟩ : ∃ N, w.heap.size = N := ⟨_, rfl⟩
  have mk1 := mk w
  rw [eV, eN] at mk1
  rw [eV] at c0'
  rw [eV, eN] at HA
  clear mk
  have EN := Lib.hid eN
  clear eV eN
  go_enter Tryd.func15, Tryd.ntmps15
  go_wp2_with fail
  go_loopg [17] (n + 1) (fun gk si wr => ∃ (p : Nat) (bs : List Int), si = .int .i64 (p : Int) ∧ p ≤ n ∧ n + 1 ≤ gk + p ∧ Hid (Arr wr N 22 (u64s bs) ∧ bs.length = n ∧ (∀ j, j < p → bs.getD j 0 = B j) ∧ Only [] w wr))
  case atStart => exact ⟨0, _, rfl, by omega, by omega, HA.out.2, by simp, fun j hj => by omega, HA.out.1⟩
  case round =>
    obtain ⟨p, bs, rfl, hp, hg, R⟩ := hrel
    clear c0 c0' mk1
    by_cases hpl : p < n
    · have hpl' : (p : Int) < (n : Int) := by omega
      have hQ := H.out.only0 R.out.2.2.2
      have di := hQ.at_ hpl
      have hba := sBaseOf wr (P p) (SS p) wd (B p) (L p) (hQ.sh p hpl)
      have fr := R.out.1.fr p
      have cp : wr.cell? ⟨N, p, none⟩ = some (.int .u64 (bs.getD p 0)) := by rw [R.out.1.cell]; exact u64s_at (by rw [R.out.2.1]; exact hpl)
      clear hQ
      go_wp2_with fail
      refine hba.mono ?_
      rintro e wr ⟨rfl, rfl⟩
      go_wp2_with fail
      go_roundg (n + 1 - (p + 1))
      case measure => omega
      case rel =>
        obtain ⟨r1, r2, r3, r4⟩ := R.out
        have r5 := r1.store p (.int .u64 (B p))
        rw [u64s_set] at r5
        refine ⟨p + 1, bs.set p (B p), by simp, by omega, by omega, r5, by simpa using r2, fun j hj => ?_, r4.setCell (.inr (by rw [EN.out]; exact Nat.le_refl _)) _⟩
        by_cases e : j = p
        · subst e; simp [r2, hpl]
        · have := r3 j (by omega)
          simp only [List.getD_eq_getElem?_getD] at this ⊢
          rw [List.getElem?_set_ne (by omega)]
          exact this
    · have hpe : p = n := by omega
      subst hpe
      have hpl' : ¬ ((p : Int) < (p : Int)) := by omega
      go_wp2_with fail
      go_ret
      obtain ⟨r1, r2, r3, r4⟩ := R.out
      rw [bases_eq r2 r3] at r1
      exact ⟨N, rfl, r1, by rw [EN.out]; exact Nat.le_refl _, r4⟩
end Go.Proofs.YtajhkdbldbifeaaDoor
