/-
  Contract of the document's All; of the laws' base and made.
-/
import Derived.Test.YtajhkdbldbifeaaGreatDoorQueueF
import Derived.Test.YtajhkdbldbifeaaGreatDoorQueueN
namespace Go.Proofs.YtajhkdbldbifeaaGreatDoor
set_option maxRecDepth 100000
open Go.RowKit Go.ChangeMaps Go.MapKept
set_option linter.unusedVariables false
set_option linter.unusedSimpArgs false

/-- The list alone. -/
def Ri : TypeId × List Value := (47, [])
theorem items_new (w : World) : ItemsOf Ri (w.alloc (.cells #[.slice none 0 0] 47)) w.heap.size (iown w.heap.size (.slice none 0 0)) [] :=
  ⟨_, rfl, ⟨heap_alloc_new w _, (show 47 ≠ 40 by decide), RowIs.nil _⟩, by simp⟩
theorem items_row {R : TypeId × List Value} {w : World} {xb : Nat} {T : List Nat} {l : List It} (h : ItemsOf R w xb T l) : ∃ A cap, w.cell? ⟨xb, 0, none⟩ = some (.slice A l.length cap) ∧ RowIs w (.slice A l.length cap) l ∧ (∀ g, (Value.slice A l.length cap).ownBlock = some g → g ∈ T) := by
  obtain ⟨v, rfl, h1, -⟩ := h
  obtain ⟨A, cap, ev⟩ := h1.row.form
  have c0 := h1.c0
  have hr := h1.row
  rw [ev] at c0 hr
  exact ⟨A, cap, c0, hr, fun g hg => by rw [← ev] at hg; simp [iown, hg]⟩
/-- All items of the first p shards, and k of the next one. -/
def midL (L : Nat → List It) (p k : Nat) : List It := insAll [] (catL L p ++ (L p).take k)
theorem midL_zero (L : Nat → List It) (p : Nat) : midL L p 0 = insAll [] (catL L p) := by unfold midL; rw [List.take_zero, List.append_nil]
theorem midL_full (L : Nat → List It) (p : Nat) : midL L p (L p).length = insAll [] (catL L (p + 1)) := by unfold midL; rw [List.take_length, catL]
theorem midL_succ (L : Nat → List It) (p : Nat) {k : Nat} (hk : k < (L p).length) : midL L p (k + 1) = ins (gOf (L p) k) (midL L p k) := by
  unfold midL
  have e : (L p).take (k + 1) = (L p).take k ++ [gOf (L p) k] := by rw [List.take_add_one, gOf_get hk, List.getElem?_eq_getElem hk]; rfl
  rw [e, ← List.append_assoc, insAll_app]
  rfl
theorem midL_len (L : Nat → List It) (p k : Nat) : (midL L p k).length ≤ (catL L (p + 1)).length := by
  unfold midL
  rw [(insAll_perm _ _).length_eq, catL]
  simp
  omega
theorem catL_mono (L : Nat → List It) {p n : Nat} (h : p ≤ n) : (catL L p).length ≤ (catL L n).length := by
  induction n with
  | zero => have : p = 0 := by omega
            subst this; exact Nat.le_refl _
  | succ n ih =>
    by_cases e : p = n + 1
    · subst e; exact Nat.le_refl _
    · have := ih (by omega)
      rw [catL, List.length_append]
      omega
theorem midL_no {n : Nat} {L : Nat → List It} (h : Homes n L) {p k : Nat} (hp : p < n) (hk : k < (L p).length) : hasId (gOf (L p) k).i (midL L p k) = false := by
  rw [hasId_not]
  intro y hy e
  have hy2 := (insAll_perm _ _).subset hy
  rw [List.nil_append] at hy2
  have hi := h.idsTo (m := p + 1) (by omega)
  rw [catL] at hi
  have e2 : L p = (L p).take k ++ gOf (L p) k :: (L p).drop (k + 1) := by
    rw [gOf_get hk, ← List.drop_eq_getElem_cons hk, List.take_append_drop]
  rw [e2, ← List.append_assoc] at hi
  unfold Ids at hi
  rw [List.map_append, List.map_cons, List.nodup_append] at hi
  exact hi.2.2 y.i (List.mem_map.2 ⟨y, hy2, rfl⟩) _ (List.mem_cons_self) e

set_option maxHeartbeats 4000000 in
theorem rqAll (w : World) (xb : Nat) (T : List Nat) (n wd : Nat) (B : Nat → Int) (L : Nat → List It) (h : RQOf w xb T n wd B L) (hh : Homes n L) (hroom : (catL L n).length ≤ 100000) :
    Calls Tryz.prog 12 #[.pointer (some ⟨xb, 0, none⟩)] w fun e w' => ∃ A cap, e = .returned (.slice A (mergeM L n).length cap) ∧ RowIs w' (.slice A (mergeM L n).length cap) (mergeM L n) ∧ Only [] w w' := by
  obtain ⟨ab, cap, P, TT, rfl, h⟩ := h
  have n16 := h.n16
  have H := Lib.hid (And.intro h hh)
  have hln : Hid (∀ p, p < n → (L p).length ≤ 100000) := fun p hp => by
    have := catL_mono L (p := p + 1) (n := n) (by omega)
    rw [catL, List.length_append] at this
    omega
  have hmd : Hid (∀ p k, p < n → (midL L p k).length ≤ 100000) := fun p k hp => by
    have := midL_len L p k
    have := catL_mono L (p := p + 1) (n := n) (by omega)
    omega
  have I0 := items_new w
  have o0 : Only [] w (w.alloc (.cells #[.slice none 0 0] 47)) := (Only.refl [] w).alloc _
  have t0 : ∀ b ∈ iown w.heap.size (.slice none 0 0), w.heap.size ≤ b := fun b hb => by
    simp [iown, Value.ownBlock] at hb; omega
  have J0 := Lib.hid (And.intro I0 (And.intro t0 o0))
  clear h hh I0 o0 t0 hroom
  obtain ⟨V, eV⟩ : ∃ V, w.alloc (.cells #[.slice none 0 0] 47) = V := ⟨_, rfl⟩
  rw [eV] at J0
  obtain ⟨N, eN⟩ : ∃ N, w.heap.size = N := ⟨_, rfl⟩
  rw [eN] at J0
  go_enter Tryz.func12, Tryz.ntmps12
  go_wp2_with (simp only [eV, eN])
  have EN := Lib.hid eN
  clear eV eN
  go_loopg [4] (n + 1) (fun gk si wr => ∃ (p : Nat) (T : List Nat), si = .int .i64 (p : Int) ∧ p ≤ n ∧ n + 1 ≤ gk + p ∧ Hid (ItemsOf Ri wr N T (insAll [] (catL L p)) ∧ (∀ b ∈ T, N ≤ b) ∧ Only [] w wr))
  case atStart => exact ⟨0, _, rfl, by omega, by omega, J0⟩
  case round =>
    obtain ⟨p, T, rfl, hp, hg, J⟩ := hrel
    clear J0
    have c0 := (H.out.1.only0 J.out.2.2).c0
    by_cases hpl : p < n
    · have hpl' : (p : Int) < (n : Int) := by omega
      have hI : (0 : Int) ≤ (p : Int) ∧ (p : Int) < (n : Int) := by omega
      rw [← midL_zero] at J
      have hl1 := hln.out p hpl
      go_wp2_with fail
      go_loopg [5] ((L p).length + 1) (fun gz sk wr => ∃ (k : Nat) (T : List Nat), sk = .int .i64 (k : Int) ∧ k ≤ (L p).length ∧ (L p).length + 1 ≤ gz + k ∧ Hid (ItemsOf Ri wr N T (midL L p k) ∧ (∀ b ∈ T, N ≤ b) ∧ Only [] w wr))
      case atStart => exact ⟨0, _, rfl, by omega, by omega, J⟩
      case round =>
        obtain ⟨k, T, rfl, hk, hgz, J⟩ := hrel
        clear c0
        have hQ := H.out.1.only0 J.out.2.2
        have c0 := hQ.c0
        have di := hQ.at_ hpl
        obtain ⟨A, ca, k0, hr⟩ := refOf_row (hQ.sh p hpl)
        clear hQ
        by_cases hkl : k < (L p).length
        · have hkl' : (k : Int) < ((L p).length : Int) := by omega
          obtain ⟨g, ca', e, -, -, -, -, hc⟩ := hr.at_ (by omega)
          injection e with e1 e2 e3
          subst e1
          obtain ⟨m0, m1, -, -⟩ := hc k hkl
          have hpu := xPush Ri wr N T (midL L p k) J.out.1 (gOf (L p) k) (by have := hmd.out p k hpl; omega)
          rw [midL_no H.out.2 hpl hkl] at hpu
          simp only [Bool.not_false, Bool.false_eq_true, if_false] at hpu
          rw [← midL_succ L p hkl] at hpu
          unfold It.val at hpu
          generalize gOf (L p) k = x at *
          clear hc hr e2 e3
          go_wp2_with fail
          refine hpu.mono ?_
          rintro e w3 ⟨rfl, T3, q1, q2⟩
          have J3 : Hid (ItemsOf Ri w3 N T3 (midL L p (k + 1)) ∧ (∀ b ∈ T3, N ≤ b) ∧ Only [] w w3) := ⟨q1, fun b hb => by
            rcases q2.2 b hb with h9 | h9
            · exact J.out.2.1 b h9
            · have := J.out.2.2.size
              have := EN.out
              omega, J.out.2.2.trans q2.1 fun b hb => .inr (by rw [EN.out]; exact J.out.2.1 b hb)⟩
          clear q1 q2 hpu
          go_wp2_with fail
          go_roundg ((L p).length + 1 - (k + 1))
          case measure => omega
          case rel => exact ⟨k + 1, T3, by simp, by omega, by omega, J3⟩
        · have hke : k = (L p).length := by omega
          have hkl' : ¬ ((k : Int) < ((L p).length : Int)) := by omega
          have J3 := J
          rw [hke, midL_full] at J3
          clear hr
          go_wp2_with fail
          go_roundg (n + 1 - (p + 1))
          case measure => omega
          case rel => exact ⟨p + 1, T, by simp, by omega, by omega, J3⟩
    · have hpe : p = n := by omega
      subst hpe
      have hpl' : ¬ ((p : Int) < (p : Int)) := by omega
      obtain ⟨A, ca, k0, hr, -⟩ := items_row J.out.1
      have HR := Lib.hid hr
      clear hr
      go_wp2_with fail
      go_ret
      exact ⟨A, ca, rfl, HR.out, J.out.2.2⟩
end Go.Proofs.YtajhkdbldbifeaaGreatDoor
