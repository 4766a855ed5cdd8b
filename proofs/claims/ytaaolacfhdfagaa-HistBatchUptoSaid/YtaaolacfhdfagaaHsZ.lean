/-
  What is handed in, with its packets; how many parts there are.
-/
import Derived.Test.YtaaolacfhdfagaaHsS
import Derived.Test.YtaaolacfhdfagaaHsX
import Derived.Test.YtaaolacfhdfagaaHsY
import Derived.Test.YtaaolacfhdfagaaHsV
namespace Go.Proofs.Ytaaolacfhdfagaa
set_option maxRecDepth 100000
set_option linter.unusedVariables false
set_option linter.unusedSimpArgs false
theorem near_hdr (x : Dn) : (nearD x).A = x.A ∧ (nearD x).m = x.m ∧ (nearD x).c = x.c := by
  unfold nearD
  split <;> exact ⟨rfl, rfl, rfl⟩
def someA (ds : Nat → Dn) (pk : Nat → List Pk) (n : Nat) : List Da := (List.range (min n 40)).map fun k => ((nearD (ds k)).strip, pk k)
theorem someA_len (ds : Nat → Dn) (pk : Nat → List Pk) (n : Nat) : (someA ds pk n).length = min n 40 := by simp [someA]
theorem InPk.abs {w : World} {x : Dn} {ps : List Pk} (h : InPk w x ps) : Abs w x (x.strip, ps) := ⟨rfl, h.len, h.src, h.nil⟩
theorem InPk.near {w : World} {x : Dn} {ps : List Pk} (h : InPk w x ps) : InPk w (nearD x) ps := by
  obtain ⟨e1, e2, e3⟩ := near_hdr x
  exact ⟨e2.trans h.len, by rw [e1]; exact h.src, fun e => by rw [e2]; exact h.nil (e1 ▸ e), by rw [e2, e3]; exact h.cap⟩
theorem some_abs {w : World} {ds : Nat → Dn} {pk : Nat → List Pk} {n : Nat} (h : ∀ k, k < n → InPk w (ds k) (pk k)) : AbsL w (someL ds n) (someA ds pk n) := by
  refine ⟨by rw [someL_len, someA_len], fun k x a hx ha => ?_⟩
  have hk : k < min n 40 := by rw [← someL_len ds n]; exact (List.getElem?_eq_some_iff.1 hx).1
  simp only [someL, someA, List.getElem?_map, List.getElem?_range hk, Option.map_some, Option.some.injEq] at hx ha
  subst hx ha
  exact (h k (by omega)).near.abs
theorem someA_m {ds : Nat → Dn} {pk : Nat → List Pk} {n : Nat} (w : World) (h : ∀ k, k < n → InPk w (ds k) (pk k)) (hm : ∀ k, k < n → (ds k).m ≤ 1048576) : ∀ a ∈ someA ds pk n, a.2.length ≤ 1048576 := fun a ha => by
  obtain ⟨k, hk, rfl⟩ := List.mem_map.1 ha
  have := List.mem_range.1 hk
  have h1 := (h k (by omega)).len
  have h2 := hm k (by omega)
  show (pk k).length ≤ _
  omega
theorem someL_m {ds : Nat → Dn} {n : Nat} (hm : ∀ k, k < n → (ds k).m ≤ 1048576) : ∀ x ∈ someL ds n, x.m ≤ 1048576 := fun x hx => by
  obtain ⟨k, hk, rfl⟩ := List.mem_map.1 hx
  have := List.mem_range.1 hk
  rw [(near_hdr (ds k)).2.1]
  exact hm k (by omega)
theorem partsD_m {a : Da} (h : a.2.length ≤ 1048576) : ∀ b ∈ partsD a, b.2.length ≤ 1048576 := fun b hb => by
  unfold partsD partsA at hb
  split at hb
  · rcases List.mem_append.1 hb with hb | hb
    · obtain ⟨p, _, rfl⟩ := List.mem_map.1 hb
      simp [partA]
    · split at hb
      · simp at hb; subst hb; simp [partA]
      · simp at hb
  · simp at hb; subst hb; exact h
theorem partsL_m {qs : List Da} (h : ∀ a ∈ qs, a.2.length ≤ 1048576) : ∀ b ∈ partsL qs, b.2.length ≤ 1048576 := fun b hb => by
  obtain ⟨a, ha, hb⟩ := List.mem_flatMap.1 hb
  exact partsD_m (h a ha) b hb
theorem partsL_len {qs : List Da} (h : ∀ a ∈ qs, a.2.length ≤ 1048576) : (partsL qs).length ≤ qs.length * 1048577 := by
  induction qs with
  | nil => simp [partsL]
  | cons a r ih =>
    have h1 := ih (fun b hb => h b (by simp [hb]))
    have h2 := partsD_len a
    have h3 := h a (by simp)
    have e : partsL (a :: r) = partsD a ++ partsL r := by simp [partsL]
    rw [e, List.length_append, List.length_cons, Nat.add_mul]
    omega
end Go.Proofs.Ytaaolacfhdfagaa
