/-
  What orders calls: byFrom, byTo, byPlace.
-/
import Derived.Test.YtaaolacfhdfagaaHsB
import Derived.Test.YtaaolacfhdfagaaRowS
namespace Go.Proofs.Ytaaolacfhdfagaa
set_option maxRecDepth 100000
open Go.RowKit
set_option linter.unusedVariables false
set_option linter.unusedSimpArgs false
set_option maxRecDepth 100000

open Go.Shelf Go.Lib Go.Sort
set_option maxHeartbeats 1000000
/-! ### what orders them -/
def cmpZ (x y : Int) : Int := if x < y then -1 else if y < x then 1 else 0
theorem sCmp (x y : Int) (w : World) : Calls Try.prog 38 #[.int .i64 x, .int .i64 y] w fun e w' => e = .returned (.int .i64 (cmpZ x y)) ∧ w' = w := by
  have nan : ∀ (z : Int) (w : World), Calls Try.prog 50 #[.int .i64 z] w fun e w' => e = .returned (.bool false) ∧ w' = w := fun z w => by
    have hz : (z != z) = false := by simp
    go_enter Try.func50, Try.ntmps50
    go_wp2
    go_ret
    exact ⟨by simp, rfl⟩
  unfold cmpZ
  rcases Int.lt_trichotomy x y with h | h | h
  · rw [if_pos h]
    go_enter Try.func38, Try.ntmps38
    go_wp2_with (first
      | (go_at_call 50; refine (nan _ _).mono ?_; rintro e w1 ⟨rfl, rfl⟩))
    go_ret
    exact ⟨rfl, rfl⟩
  · subst h
    rw [if_neg (by omega), if_neg (by omega)]
    go_enter Try.func38, Try.ntmps38
    go_wp2_with (first
      | (go_at_call 50; refine (nan _ _).mono ?_; rintro e w1 ⟨rfl, rfl⟩))
    go_ret
    exact ⟨rfl, rfl⟩
  · have h' : ¬ x < y := by omega
    rw [if_neg h', if_pos h]
    go_enter Try.func38, Try.ntmps38
    go_wp2_with (first
      | (go_at_call 50; refine (nan _ _).mono ?_; rintro e w1 ⟨rfl, rfl⟩))
    go_ret
    exact ⟨rfl, rfl⟩
def cmpF (x y : Dn) : Int := cmpZ x.fr y.fr
def cmpT (x y : Dn) : Int := cmpZ x.to y.to
def orZ (p q : Int) : Int := if p ≠ 0 then p else q
def cmpP (x y : Dn) : Int := orZ (cmpZ x.who y.who) (cmpZ x.place y.place)
theorem grow_two (w : World) (a b : Obj) : ∃ os, (w.alloc a).alloc b = grow w os := ⟨#[a] ++ #[b], by rw [alloc_eq_grow, alloc_eq_grow, grow_grow]⟩
theorem kByFrom (x y : Dn) (w : World) : Calls Try.prog 33 #[.agg #[.int .i64 x.who, .int .i64 x.place, .int .i64 x.op, .int .i64 x.f, .int .i64 x.a, .int .i64 x.b, .int .i64 x.e, .slice x.A x.m x.c, .int .i64 x.n, .int .u64 x.v, .int .i64 x.fr, .int .i64 x.to], .agg #[.int .i64 y.who, .int .i64 y.place, .int .i64 y.op, .int .i64 y.f, .int .i64 y.a, .int .i64 y.b, .int .i64 y.e, .slice y.A y.m y.c, .int .i64 y.n, .int .u64 y.v, .int .i64 y.fr, .int .i64 y.to]] w fun e w' => e = .returned (.int .i64 (cmpF x y)) ∧ ∃ q os, w' = grow (w.drewN q) os := by
  have cp := Lib.hid (fun V => sCmp x.fr y.fr V)
  have BX := box2 w x y 41
  have G := Lib.hid (grow_two w (.cells #[.int .i64 x.who, .int .i64 x.place, .int .i64 x.op, .int .i64 x.f, .int .i64 x.a, .int .i64 x.b, .int .i64 x.e, .slice x.A x.m x.c, .int .i64 x.n, .int .u64 x.v, .int .i64 x.fr, .int .i64 x.to] 41) (.cells #[.int .i64 y.who, .int .i64 y.place, .int .i64 y.op, .int .i64 y.f, .int .i64 y.a, .int .i64 y.b, .int .i64 y.e, .slice y.A y.m y.c, .int .i64 y.n, .int .u64 y.v, .int .i64 y.fr, .int .i64 y.to] 41))
  obtain ⟨x0, x1, x2, x3, x4, x5, x6, x7, x8, x9, x10, x11⟩ := (BX.out.2 _ (Only.refl _ _)).1; (try simp only [Nat.zero_add] at x0 x1 x2 x3 x4 x5 x6 x7 x8 x9 x10 x11)
  obtain ⟨y0, y1, y2, y3, y4, y5, y6, y7, y8, y9, y10, y11⟩ := (BX.out.2 _ (Only.refl _ _)).2; (try simp only [Nat.zero_add] at y0 y1 y2 y3 y4 y5 y6 y7 y8 y9 y10 y11)
  go_enter Try.func33, Try.ntmps33
  go_upto_region 1 with fail
  generalize (w.alloc (.cells #[.int .i64 x.who, .int .i64 x.place, .int .i64 x.op, .int .i64 x.f, .int .i64 x.a, .int .i64 x.b, .int .i64 x.e, .slice x.A x.m x.c, .int .i64 x.n, .int .u64 x.v, .int .i64 x.fr, .int .i64 x.to] 41)).alloc (.cells #[.int .i64 y.who, .int .i64 y.place, .int .i64 y.op, .int .i64 y.f, .int .i64 y.a, .int .i64 y.b, .int .i64 y.e, .slice y.A y.m y.c, .int .i64 y.n, .int .u64 y.v, .int .i64 y.fr, .int .i64 y.to] 41) = W at *
  go_wp2_with fail
  refine (cp.out _).mono ?_
  rintro e w1 ⟨rfl, hw1⟩
  rw [hw1]
  clear hw1
  go_wp2_with fail
  go_ret
  obtain ⟨os, e⟩ := G.out
  exact ⟨rfl, 0, os, e⟩
theorem kByTo (x y : Dn) (w : World) : Calls Try.prog 34 #[.agg #[.int .i64 x.who, .int .i64 x.place, .int .i64 x.op, .int .i64 x.f, .int .i64 x.a, .int .i64 x.b, .int .i64 x.e, .slice x.A x.m x.c, .int .i64 x.n, .int .u64 x.v, .int .i64 x.fr, .int .i64 x.to], .agg #[.int .i64 y.who, .int .i64 y.place, .int .i64 y.op, .int .i64 y.f, .int .i64 y.a, .int .i64 y.b, .int .i64 y.e, .slice y.A y.m y.c, .int .i64 y.n, .int .u64 y.v, .int .i64 y.fr, .int .i64 y.to]] w fun e w' => e = .returned (.int .i64 (cmpT x y)) ∧ ∃ q os, w' = grow (w.drewN q) os := by
  have cp := Lib.hid (fun V => sCmp x.to y.to V)
  have BX := box2 w x y 41
  have G := Lib.hid (grow_two w (.cells #[.int .i64 x.who, .int .i64 x.place, .int .i64 x.op, .int .i64 x.f, .int .i64 x.a, .int .i64 x.b, .int .i64 x.e, .slice x.A x.m x.c, .int .i64 x.n, .int .u64 x.v, .int .i64 x.fr, .int .i64 x.to] 41) (.cells #[.int .i64 y.who, .int .i64 y.place, .int .i64 y.op, .int .i64 y.f, .int .i64 y.a, .int .i64 y.b, .int .i64 y.e, .slice y.A y.m y.c, .int .i64 y.n, .int .u64 y.v, .int .i64 y.fr, .int .i64 y.to] 41))
  obtain ⟨x0, x1, x2, x3, x4, x5, x6, x7, x8, x9, x10, x11⟩ := (BX.out.2 _ (Only.refl _ _)).1; (try simp only [Nat.zero_add] at x0 x1 x2 x3 x4 x5 x6 x7 x8 x9 x10 x11)
  obtain ⟨y0, y1, y2, y3, y4, y5, y6, y7, y8, y9, y10, y11⟩ := (BX.out.2 _ (Only.refl _ _)).2; (try simp only [Nat.zero_add] at y0 y1 y2 y3 y4 y5 y6 y7 y8 y9 y10 y11)
  go_enter Try.func34, Try.ntmps34
  go_upto_region 1 with fail
  generalize (w.alloc (.cells #[.int .i64 x.who, .int .i64 x.place, .int .i64 x.op, .int .i64 x.f, .int .i64 x.a, .int .i64 x.b, .int .i64 x.e, .slice x.A x.m x.c, .int .i64 x.n, .int .u64 x.v, .int .i64 x.fr, .int .i64 x.to] 41)).alloc (.cells #[.int .i64 y.who, .int .i64 y.place, .int .i64 y.op, .int .i64 y.f, .int .i64 y.a, .int .i64 y.b, .int .i64 y.e, .slice y.A y.m y.c, .int .i64 y.n, .int .u64 y.v, .int .i64 y.fr, .int .i64 y.to] 41) = W at *
  go_wp2_with fail
  refine (cp.out _).mono ?_
  rintro e w1 ⟨rfl, hw1⟩
  rw [hw1]
  clear hw1
  go_wp2_with fail
  go_ret
  obtain ⟨os, e⟩ := G.out
  exact ⟨rfl, 0, os, e⟩
/-- cmp.Or of two. -/
theorem kOr (g : Nat) (p q : Int) (w : World) (h0 : w.cell? ⟨g, 0, none⟩ = some (.int .i64 p)) (h1 : w.cell? ⟨g, 1, none⟩ = some (.int .i64 q)) :
    Calls Try.prog 37 #[.slice (some ⟨g, 0, none⟩) 2 2] w fun e w' => e = .returned (.int .i64 (orZ p q)) ∧ w' = w := by
  have H0 := Lib.hid h0
  have H1 := Lib.hid h1
  have Ep : Hid (∀ v, p = v → v ≠ 0 → orZ p q = v) := fun v e h => by unfold orZ; rw [if_pos (by omega)]; exact e
  have Eq : Hid (p = 0 → orZ p q = q) := fun e => by unfold orZ; rw [if_neg (by omega)]
  clear h0 h1
  go_enter Try.func37, Try.ntmps37
  go_wp2_with fail
  go_loopg [8] 3 (fun gk si wr => ∃ k : Nat, si = .int .i64 (k : Int) ∧ k ≤ 2 ∧ 3 ≤ gk + k ∧ Hid (wr = w) ∧ Hid (0 < k → p = 0) ∧ Hid (1 < k → q = 0))
  case atStart => exact ⟨0, rfl, by omega, by omega, rfl, fun h => absurd h (by omega), fun h => absurd h (by omega)⟩
  case round =>
    obtain ⟨k, rfl, hk, hg, ew, hp, hq⟩ := hrel
    by_cases hk2 : k < 2
    · have h1 : (k : Int) < 2 := by omega
      obtain ⟨v, hv, hz, hnz⟩ : ∃ v : Int, wr.cell? ⟨g, k, none⟩ = some (.int .i64 v) ∧ (v = 0 → (0 < k + 1 → p = 0) ∧ (1 < k + 1 → q = 0)) ∧ (v ≠ 0 → orZ p q = v) := by
        rw [ew.out]
        rcases (show k = 0 ∨ k = 1 by omega) with rfl | rfl
        · exact ⟨p, H0.out, fun e => ⟨fun _ => e, fun h => absurd h (by omega)⟩, fun e => Ep.out p rfl e⟩
        · exact ⟨q, H1.out, fun e => ⟨fun _ => hp.out (by omega), fun _ => e⟩, fun e => Eq.out (hp.out (by omega))⟩
      have HZ := Lib.hid hz
      have HN := Lib.hid hnz
      clear hz hnz
      by_cases hv0 : v = 0
      · have b1 : (v != 0) = false := by simp [hv0]
        have Z := Lib.hid hv0
        clear hv0
        go_wp2_with fail
        go_roundg (3 - (k + 1))
        case measure => omega
        case rel => exact ⟨k + 1, by simp, by omega, by omega, ew.out, (HZ.out Z.out).1, (HZ.out Z.out).2⟩
      · have b1 : (v != 0) = true := by simp [hv0]
        have Z := Lib.hid hv0
        clear hv0
        go_wp2_with fail
        go_ret
        exact ⟨by rw [HN.out Z.out]; rfl, ew.out⟩
    · have h1 : ¬ ((k : Int) < 2) := by omega
      have h3 : decide ((k : Int) < 2) = false := decide_eq_false h1
      have F : Hid (orZ p q = 0) := by
        show _ = _
        rw [Eq.out (hp.out (by omega))]
        exact hq.out (by omega)
      go_wp2_with fail
      go_ret
      exact ⟨by rw [F.out]; rfl, ew.out⟩
theorem kByPlace (x y : Dn) (w : World) : Calls Try.prog 25 #[.agg #[.int .i64 x.who, .int .i64 x.place, .int .i64 x.op, .int .i64 x.f, .int .i64 x.a, .int .i64 x.b, .int .i64 x.e, .slice x.A x.m x.c, .int .i64 x.n, .int .u64 x.v, .int .i64 x.fr, .int .i64 x.to], .agg #[.int .i64 y.who, .int .i64 y.place, .int .i64 y.op, .int .i64 y.f, .int .i64 y.a, .int .i64 y.b, .int .i64 y.e, .slice y.A y.m y.c, .int .i64 y.n, .int .u64 y.v, .int .i64 y.fr, .int .i64 y.to]] w fun e w' => e = .returned (.int .i64 (cmpP x y)) ∧ ∃ q os, w' = grow (w.drewN q) os := by
  have c1 := Lib.hid (fun V => sCmp x.who y.who V)
  have c2 := Lib.hid (fun V => sCmp x.place y.place V)
  have BX := box2 w x y 41
  have G := Lib.hid (grow_two w (.cells #[.int .i64 x.who, .int .i64 x.place, .int .i64 x.op, .int .i64 x.f, .int .i64 x.a, .int .i64 x.b, .int .i64 x.e, .slice x.A x.m x.c, .int .i64 x.n, .int .u64 x.v, .int .i64 x.fr, .int .i64 x.to] 41) (.cells #[.int .i64 y.who, .int .i64 y.place, .int .i64 y.op, .int .i64 y.f, .int .i64 y.a, .int .i64 y.b, .int .i64 y.e, .slice y.A y.m y.c, .int .i64 y.n, .int .u64 y.v, .int .i64 y.fr, .int .i64 y.to] 41))
  obtain ⟨p, ep⟩ : ∃ p, cmpZ x.who y.who = p := ⟨_, rfl⟩
  obtain ⟨q, eq⟩ : ∃ q, cmpZ x.place y.place = q := ⟨_, rfl⟩
  have E : Hid (cmpP x y = orZ p q) := by show _ = _; rw [← ep, ← eq]; rfl
  rw [ep] at c1
  rw [eq] at c2
  clear ep eq
  obtain ⟨x0, x1, x2, x3, x4, x5, x6, x7, x8, x9, x10, x11⟩ := (BX.out.2 _ (Only.refl _ _)).1; (try simp only [Nat.zero_add] at x0 x1 x2 x3 x4 x5 x6 x7 x8 x9 x10 x11)
  obtain ⟨y0, y1, y2, y3, y4, y5, y6, y7, y8, y9, y10, y11⟩ := (BX.out.2 _ (Only.refl _ _)).2; (try simp only [Nat.zero_add] at y0 y1 y2 y3 y4 y5 y6 y7 y8 y9 y10 y11)
  clear x2 x3 x4 x5 x6 x7 x8 x9 x10 x11 y2 y3 y4 y5 y6 y7 y8 y9 y10 y11
  go_enter Try.func25, Try.ntmps25
  go_upto_region 1 with fail
  generalize (w.alloc (.cells #[.int .i64 x.who, .int .i64 x.place, .int .i64 x.op, .int .i64 x.f, .int .i64 x.a, .int .i64 x.b, .int .i64 x.e, .slice x.A x.m x.c, .int .i64 x.n, .int .u64 x.v, .int .i64 x.fr, .int .i64 x.to] 41)).alloc (.cells #[.int .i64 y.who, .int .i64 y.place, .int .i64 y.op, .int .i64 y.f, .int .i64 y.a, .int .i64 y.b, .int .i64 y.e, .slice y.A y.m y.c, .int .i64 y.n, .int .u64 y.v, .int .i64 y.fr, .int .i64 y.to] 41) = W at *
  have G1 : Hid (∃ os, W = grow w os) := G.out
  have kor := Lib.hid (kOr W.heap.size p q (W.drew.alloc (.cells #[.int .i64 p, .int .i64 q] 3)) (by have h := heap_alloc_new W.drew (.cells #[.int .i64 p, .int .i64 q] 3); exact cell_of_row _ _ _ _ _ (0, 0) h) (by have h := heap_alloc_new W.drew (.cells #[.int .i64 p, .int .i64 q] 3); exact cell_of_row _ _ _ _ _ (0, 0) h))
  have al := Only.alloc (Only.refl [] W.drew) (.cells #[.int .i64 p, .int .i64 q] 3)
  have KA : Hid (((W.drew.alloc (.cells #[.int .i64 p, .int .i64 q] 3)).cell? ⟨w.heap.size, 0, none⟩ = some (.int .i64 x.who) ∧ (W.drew.alloc (.cells #[.int .i64 p, .int .i64 q] 3)).cell? ⟨w.heap.size, 1, none⟩ = some (.int .i64 x.place)) ∧ (W.drew.alloc (.cells #[.int .i64 p, .int .i64 q] 3)).cell? ⟨w.heap.size + 1, 0, none⟩ = some (.int .i64 y.who) ∧ (W.drew.alloc (.cells #[.int .i64 p, .int .i64 q] 3)).cell? ⟨w.heap.size + 1, 1, none⟩ = some (.int .i64 y.place)) := ⟨⟨al.kp x0, al.kp x1⟩, al.kp y0, al.kp y1⟩
  clear al
  refine wp_region_held_drew (S := (fun u' => (u'.cell? ⟨w.heap.size, 0, none⟩ = some (.int .i64 x.who) ∧ u'.cell? ⟨w.heap.size, 1, none⟩ = some (.int .i64 x.place)) ∧ u'.cell? ⟨w.heap.size + 1, 0, none⟩ = some (.int .i64 y.who) ∧ u'.cell? ⟨w.heap.size + 1, 1, none⟩ = some (.int .i64 y.place))) (by kernel_rfl) ⟨⟨x0, x1⟩, y0, y1⟩ (fun hHeld => ?_)
  refine takeH (i := 0) (v := ?_) rfl (by kernel_rfl) (by kernel_rfl) (by kernel_rfl) (fun _ _ _ h => h) (Or.inl ⟨by rfl, ?_⟩) (by assumption) ?_
  rotate_left 1
  · (intro w hSw; (try dsimp only at hSw); go_simp; try (with_reducible rfl))
  try simp only [Act.put, List.setIfInBounds_toArray, List.set_cons_zero, List.set_cons_succ]
  refine takeH (i := 1) (v := ?_) rfl (by kernel_rfl) (by kernel_rfl) (by kernel_rfl) (fun _ _ _ h => h) (Or.inl ⟨by rfl, ?_⟩) (by assumption) ?_
  rotate_left 1
  · (intro w hSw; (try dsimp only at hSw); go_simp; try (with_reducible rfl))
  try simp only [Act.put, List.setIfInBounds_toArray, List.set_cons_zero, List.set_cons_succ]
  refine takeH (i := 2) (v := ?_) rfl (by kernel_rfl) (by kernel_rfl) (by kernel_rfl) (fun _ _ _ h => h) (Or.inl ⟨by rfl, ?_⟩) (by assumption) ?_
  rotate_left 1
  · (intro w hSw; (try dsimp only at hSw); go_simp; try (with_reducible rfl))
  try simp only [Act.put, List.setIfInBounds_toArray, List.set_cons_zero, List.set_cons_succ]
  refine takeH (i := 3) (v := ?_) rfl (by kernel_rfl) (by kernel_rfl) (by kernel_rfl) (fun _ _ _ h => h) (Or.inl ⟨by rfl, ?_⟩) (by assumption) ?_
  rotate_left 1
  · (intro w hSw; (try dsimp only at hSw); go_simp; try (with_reducible rfl))
  try simp only [Act.put, List.setIfInBounds_toArray, List.set_cons_zero, List.set_cons_succ]
  refine takeH (i := 5) (v := ?_) rfl (by kernel_rfl) (by kernel_rfl) (by kernel_rfl) (fun _ _ _ h => h) (Or.inl ⟨by rfl, ?_⟩) (by assumption) ?_
  rotate_left 1
  · (intro w hSw; (try dsimp only at hSw); go_simp; try (with_reducible rfl))
  try simp only [Act.put, List.setIfInBounds_toArray, List.set_cons_zero, List.set_cons_succ]
  refine takeH (i := 6) (v := ?_) rfl (by kernel_rfl) (by kernel_rfl) (by kernel_rfl) (fun _ _ _ h => h) (Or.inl ⟨by rfl, ?_⟩) (by assumption) ?_
  rotate_left 1
  · (intro w hSw; (try dsimp only at hSw); go_simp; try (with_reducible rfl))
  try simp only [Act.put, List.setIfInBounds_toArray, List.set_cons_zero, List.set_cons_succ]
  refine takeH (i := 7) (v := ?_) rfl (by kernel_rfl) (by kernel_rfl) (by kernel_rfl) (fun _ _ _ h => h) (Or.inl ⟨by rfl, ?_⟩) (by assumption) ?_
  rotate_left 1
  · (intro w hSw; (try dsimp only at hSw); go_simp; try (with_reducible rfl))
  try simp only [Act.put, List.setIfInBounds_toArray, List.set_cons_zero, List.set_cons_succ]
  refine takeH (i := 8) (v := ?_) rfl (by kernel_rfl) (by kernel_rfl) (by kernel_rfl) (fun _ _ _ h => h) (Or.inl ⟨by rfl, ?_⟩) (by assumption) ?_
  rotate_left 1
  · (intro w hSw; (try dsimp only at hSw); go_simp; try (with_reducible rfl))
  try simp only [Act.put, List.setIfInBounds_toArray, List.set_cons_zero, List.set_cons_succ]
  refine wpAnyH_ready (rs := [4]) (by kernel_rfl) (by simp) ?_
  refine consH rfl (fun K hK => ?_) AllReadyH.nil
  go_simp
  refine (c1.out _).mono ?_
  rintro e v ⟨rfl, hv⟩
  rw [hv]
  clear hv
  refine hK.out _ _ ⟨⟨x0, x1⟩, y0, y1⟩ (fun hHeld2 => ?_)
  clear hK K hHeld
  have hHeld := hHeld2
  clear hHeld2
  try simp only [Act.put, List.setIfInBounds_toArray, List.set_cons_zero, List.set_cons_succ]
  refine wpAnyH_ready (rs := [9]) (by kernel_rfl) (by simp) ?_
  refine consH rfl (fun K hK => ?_) AllReadyH.nil
  go_simp
  refine (c2.out _).mono ?_
  rintro e v ⟨rfl, hv⟩
  rw [hv]
  clear hv
  refine hK.out _ _ ⟨⟨x0, x1⟩, y0, y1⟩ (fun hHeld2 => ?_)
  clear hK K hHeld
  have hHeld := hHeld2
  clear hHeld2
  try simp only [Act.put, List.setIfInBounds_toArray, List.set_cons_zero, List.set_cons_succ]
  refine wpAnyH_ready (rs := [10]) (by kernel_rfl) (by simp) ?_
  refine consH rfl (fun K hK => ?_) AllReadyH.nil
  go_simp
  
  refine hK.out _ _ KA.out (fun hHeld2 => ?_)
  clear hK K hHeld
  have hHeld := hHeld2
  clear hHeld2
  try simp only [Act.put, List.setIfInBounds_toArray, List.set_cons_zero, List.set_cons_succ]
  refine wpAnyH_ready (rs := [11]) (by kernel_rfl) (by simp) ?_
  refine consH rfl (fun K hK => ?_) AllReadyH.nil
  go_simp
  refine kor.out.mono ?_
  rintro e v ⟨rfl, hv⟩
  rw [hv]
  clear hv
  refine hK.out _ _ KA.out (fun hHeld2 => ?_)
  clear hK K hHeld
  have hHeld := hHeld2
  clear hHeld2
  try simp only [Act.put, List.setIfInBounds_toArray, List.set_cons_zero, List.set_cons_succ]
  refine takeH (i := 12) (v := ?_) rfl (by kernel_rfl) (by kernel_rfl) (by kernel_rfl) (fun _ _ _ h => h) (Or.inl ⟨by rfl, ?_⟩) (by assumption) ?_
  rotate_left 1
  · (intro w hSw; (try dsimp only at hSw); go_simp; try (with_reducible rfl))
  try simp only [Act.put, List.setIfInBounds_toArray, List.set_cons_zero, List.set_cons_succ]
  refine wpAnyH_done (by kernel_rfl) ?_ _
  go_wp2_with fail
  go_ret
  obtain ⟨os, e⟩ := G1.out
  refine ⟨by rw [E.out]; rfl, 1, os ++ #[.cells #[.int .i64 p, .int .i64 q] 3], ?_⟩
  rw [e, alloc_eq_grow, ← grow_grow]
  rfl
end Go.Proofs.Ytaaolacfhdfagaa
