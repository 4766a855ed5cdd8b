/-
  Ours: compare, slices.MinFunc at turns.
-/
import Derived.Test.YtjmnklmomdfpfaaSfqT
namespace Go.Proofs.Ytjmnklmomdfpfaa
set_option maxRecDepth 100000
open Go.RowKit
set_option linter.unusedVariables false
set_option linter.unusedSimpArgs false
set_option maxRecDepth 100000

def cmpT (x y : It) : Int := if x.lt y then -1 else if y.lt x then 1 else 0
/-- A block that holds one turn. -/
def TBox (w : World) (b : Nat) (x : It × Nat) : Prop := w.heap[b]? = some (.cells #[.int .u64 x.1.k, .int .i64 x.1.i, .pointer (some ⟨x.2, 0, none⟩)] 76 (0, 0))
theorem TBox.c {w : World} {b : Nat} {x : It × Nat} (h : TBox w b x) : w.cell? ⟨b, 0, none⟩ = some (.int .u64 x.1.k) ∧ w.cell? ⟨b, 1, none⟩ = some (.int .i64 x.1.i) ∧ w.cell? ⟨b, 2, none⟩ = some (.pointer (some ⟨x.2, 0, none⟩)) :=
  ⟨by rw [cell_of_row w b 0 _ _ _ h]; rfl, by rw [cell_of_row w b 1 _ _ _ h]; rfl, by rw [cell_of_row w b 2 _ _ _ h]; rfl⟩
theorem TBox.fr {w : World} {b : Nat} {x : It × Nat} (h : TBox w b x) (i : Nat) : w.frozen? ⟨b, i, none⟩ = false := by unfold TBox at h; simp [World.frozen?, h]
theorem TBox.lt {w : World} {b : Nat} {x : It × Nat} (h : TBox w b x) : b < w.heap.size := (Array.getElem?_eq_some_iff.1 h).1
theorem TBox.only {w w' : World} {b : Nat} {x : It × Nat} {S : List Nat} (h : TBox w b x) (ho : Only S w w') (hS : b ∉ S) : TBox w' b x := ho.get h hS
theorem TBox.new (w : World) (x : It × Nat) : TBox (w.alloc (.cells #[.int .u64 x.1.k, .int .i64 x.1.i, .pointer (some ⟨x.2, 0, none⟩)] 76)) w.heap.size x := heap_alloc_new w _
set_option maxHeartbeats 1000000 in
theorem sCompare (x y : It × Nat) (w : World) : Calls Try.prog 41 #[.agg #[.int .u64 x.1.k, .int .i64 x.1.i, .pointer (some ⟨x.2, 0, none⟩)], .agg #[.int .u64 y.1.k, .int .i64 y.1.i, .pointer (some ⟨y.2, 0, none⟩)]] w fun e w' => e = .returned (.int .i64 (cmpT x.1 y.1)) ∧ Only [] w w' := by
  unfold cmpT
  have oA : Only [] w ((w.alloc (.cells #[.int .u64 x.1.k, .int .i64 x.1.i, .pointer (some ⟨x.2, 0, none⟩)] 76)).alloc (.cells #[.int .u64 y.1.k, .int .i64 y.1.i, .pointer (some ⟨y.2, 0, none⟩)] 76)) := ((Only.refl [] w).alloc _).alloc _
  have bx : TBox ((w.alloc (.cells #[.int .u64 x.1.k, .int .i64 x.1.i, .pointer (some ⟨x.2, 0, none⟩)] 76)).alloc (.cells #[.int .u64 y.1.k, .int .i64 y.1.i, .pointer (some ⟨y.2, 0, none⟩)] 76)) w.heap.size x := (TBox.new w x).only ((Only.refl [] _).alloc _) (by simp)
  have by_ : TBox ((w.alloc (.cells #[.int .u64 x.1.k, .int .i64 x.1.i, .pointer (some ⟨x.2, 0, none⟩)] 76)).alloc (.cells #[.int .u64 y.1.k, .int .i64 y.1.i, .pointer (some ⟨y.2, 0, none⟩)] 76)) (w.heap.size + 1) y := by
    have := TBox.new (w.alloc (.cells #[.int .u64 x.1.k, .int .i64 x.1.i, .pointer (some ⟨x.2, 0, none⟩)] 76)) y
    simpa using this
  rcases h1 : x.1.lt y.1 with _ | _
  · rcases h2 : y.1.lt x.1 with _ | _
    all_goals
      go_enter Try.func41, Try.ntmps41
      go_wp2_with fail
      refine (ahead_only x.1 y.1 _).mono ?_
      rintro e w1 ⟨rfl, o1⟩
      obtain ⟨c0, c1, c2⟩ := (bx.only o1 (by simp)).c
      obtain ⟨d0, d1, d2⟩ := (by_.only o1 (by simp)).c
      have o2 := Lib.hid (oA.trans' o1)
      rw [h1]
      clear bx by_ oA o1
      go_wp2_with fail
      refine (ahead_only y.1 x.1 _).mono ?_
      rintro e w2 ⟨rfl, o3⟩
      rw [h2]
      go_wp2_with fail
      go_ret
      exact ⟨rfl, o2.out.trans' o3⟩
  · go_enter Try.func41, Try.ntmps41
    go_wp2_with fail
    refine (ahead_only x.1 y.1 _).mono ?_
    rintro e w1 ⟨rfl, o1⟩
    rw [h1]
    go_wp2_with fail
    go_ret
    exact ⟨rfl, oA.trans' o1⟩

/-- One of them, behind none. -/
def MinOf (xs : List (It × Nat)) (x : It × Nat) : Prop := x ∈ xs ∧ ∀ y ∈ xs, y.1.lt x.1 = false
/-- The cells of a turn, wherever the row is still as it was. -/
theorem trow_at {w : World} {A : Option Addr} {m cap : Nat} {xs : List (It × Nat)} (h : tE.Row w (.slice A m cap) xs) : ∀ W, Only [] w W → ∀ k x, xs[k]? = some x → ∃ g, A = some ⟨g, 0, none⟩ ∧ g < w.heap.size ∧ W.cell? ⟨g, k * 3, none⟩ = some (.int .u64 x.1.k) ∧ W.cell? ⟨g, k * 3 + 1, none⟩ = some (.int .i64 x.1.i) ∧ W.cell? ⟨g, k * 3 + 2, none⟩ = some (.pointer (some ⟨x.2, 0, none⟩)) := by
  intro W hW k x hx
  obtain ⟨g, e1, hg, hc⟩ := (h.only0 hW).cell (k := k) (x := x) hx
  subst e1
  exact ⟨g, rfl, h.lt rfl, (hc 0 _ rfl).1, (hc 1 _ rfl).1, (hc 2 _ rfl).1⟩

theorem tbox_put {w : World} {b : Nat} {a0 a1 a2 : Value} (h : w.heap[b]? = some (.cells #[a0, a1, a2] 76 (0, 0))) (y : It × Nat) :
    TBox (((w.setCell ⟨b, 0, none⟩ (.int .u64 y.1.k)).setCell ⟨b, 1, none⟩ (.int .i64 y.1.i)).setCell ⟨b, 2, none⟩ (.pointer (some ⟨y.2, 0, none⟩))) b y := by
  have h1 := heap_setCell_same w b 0 _ _ (.int .u64 y.1.k) h
  have h2 := heap_setCell_same _ b 1 _ _ (.int .i64 y.1.i) h1
  have h3 := heap_setCell_same _ b 2 _ _ (.pointer (some ⟨y.2, 0, none⟩)) h2
  simpa [TBox] using h3
theorem row3_c {w : World} {b : Nat} {a0 a1 a2 : Value} (h : w.heap[b]? = some (.cells #[a0, a1, a2] 76 (0, 0))) : w.cell? ⟨b, 0, none⟩ = some a0 ∧ w.cell? ⟨b, 1, none⟩ = some a1 ∧ w.cell? ⟨b, 2, none⟩ = some a2 ∧ ∀ j, w.frozen? ⟨b, j, none⟩ = false :=
  ⟨by rw [cell_of_row w b 0 _ _ _ h]; rfl, by rw [cell_of_row w b 1 _ _ _ h]; rfl, by rw [cell_of_row w b 2 _ _ _ h]; rfl, fun j => frozen_of_row w b j _ _ h⟩
set_option maxHeartbeats 2000000 in
theorem sMin (w : World) (A : Option Addr) (cap : Nat) (xs : List (It × Nat)) (h : tE.Row w (.slice A xs.length cap) xs) (h0 : 0 < xs.length) (hl : xs.length ≤ 1000000) :
    Calls Try.prog 42 #[.slice A xs.length cap, .func (.func 41) #[] #[]] w fun e w' => (∃ k i q, e = .returned (.agg #[.int .u64 k, .int .i64 i, .pointer (some ⟨q, 0, none⟩)]) ∧ MinOf xs (⟨k, i⟩, q)) ∧ Only [] w w' := by
  have row := Lib.hid (trow_at h)
  have hget : Hid (∀ k : Nat, k < xs.length → ∃ e : It × Nat, xs[k]? = some e) := fun k hk => ⟨_, List.getElem?_eq_getElem hk⟩
  obtain ⟨z0, hz0⟩ := hget.out 0 h0
  obtain ⟨g, rfl, hg, a0, a1, a2⟩ := row.out w (Only.refl _ _) 0 z0 hz0
  simp only [Nat.zero_mul, Nat.zero_add] at a0 a1 a2
  have hn0 : (1 : Int) ≤ (xs.length : Int) := by omega
  have HZ := Lib.hid hz0
  clear h hz0
  generalize hn : xs.length = n at *
  have HN := Lib.hid hn
  clear hn
  go_enter Try.func42, Try.ntmps42
  go_wp2_with fail
  have oA : Only [] w ((w.alloc (.cells #[.int .u64 0, .int .i64 0, .pointer none] 76)).alloc (.cells #[.int .u64 z0.1.k, .int .i64 z0.1.i, .pointer (some ⟨z0.2, 0, none⟩)] 76)) := ((Only.refl [] w).alloc _).alloc _
  have bZ : ((w.alloc (.cells #[.int .u64 0, .int .i64 0, .pointer none] 76)).alloc (.cells #[.int .u64 z0.1.k, .int .i64 z0.1.i, .pointer (some ⟨z0.2, 0, none⟩)] 76)).heap[w.heap.size]? = some (.cells #[.int .u64 0, .int .i64 0, .pointer none] 76 (0, 0)) :=
    ((Only.refl [] _).alloc _).get (heap_alloc_new w _) (by simp)
  have bM : TBox ((w.alloc (.cells #[.int .u64 0, .int .i64 0, .pointer none] 76)).alloc (.cells #[.int .u64 z0.1.k, .int .i64 z0.1.i, .pointer (some ⟨z0.2, 0, none⟩)] 76)) (w.heap.size + 1) z0 := by
    have := TBox.new (w.alloc (.cells #[.int .u64 0, .int .i64 0, .pointer none] 76)) z0
    simpa using this
  obtain ⟨N, eN⟩ : ∃ N, w.heap.size = N := ⟨_, rfl⟩
  have HW : Hid (w.heap.size = N) := eN
  rw [eN] at bZ bM hg ⊢
  clear eN
  generalize (w.alloc (.cells #[.int .u64 0, .int .i64 0, .pointer none] 76)).alloc (.cells #[.int .u64 z0.1.k, .int .i64 z0.1.i, .pointer (some ⟨z0.2, 0, none⟩)] 76) = W0 at *
  clear a0 a1 a2
  go_loopg [6] (n + 1) (fun gk si wr => ∃ (p : Nat) (x : It × Nat), si = .int .i64 (p : Int) ∧ 1 ≤ p ∧ p ≤ n ∧ n + 1 ≤ gk + p ∧ Hid (Only [] w wr) ∧ Hid (TBox wr (N + 1) x) ∧ Hid (wr.heap[N]? = some (.cells #[.int .u64 0, .int .i64 0, .pointer none] 76 (0, 0))) ∧ Hid (x ∈ xs) ∧ Hid (∀ j y, j < p → xs[j]? = some y → y.1.lt x.1 = false))
  case atStart => exact ⟨1, z0, rfl, by omega, by omega, by omega, oA, bM, bZ, List.mem_of_getElem? HZ.out, fun j y hj hy => by
    obtain rfl : j = 0 := by omega
    rw [HZ.out] at hy
    injection hy with hy
    subst hy
    exact It.irrefl _⟩
  case round =>
    obtain ⟨p, x, rfl, hp1, hp, hgk, ho, hM, hZ, hx, hL⟩ := hrel
    obtain ⟨m0, m1, m2⟩ := hM.out.c
    obtain ⟨y0, y1, y2, yf⟩ := row3_c hZ.out
    have yf0 := yf 0
    have yf1 := yf 1
    have yf2 := yf 2
    clear bM bZ oA yf
    by_cases hpl : p < n
    · have hpl' : (p : Int) < (n : Int) := by omega
      obtain ⟨z, ez⟩ := hget.out p hpl
      obtain ⟨g', e1, hg', d0, d1, d2⟩ := row.out wr ho.out p z ez
      injection e1 with e1
      injection e1 with e1
      subst e1
      have HE := Lib.hid ez
      have hc := sCompare z x
      clear ez
      go_wp2_with fail
      go_still_tail 6, (by kernel_rfl)
      change wpList _ _ _ _ _ wr.drew
      go_wp2_with fail
      refine (hc _).mono ?_
      rintro e w2 ⟨rfl, o2⟩
      have o2' : Only [] wr w2 := (Only.refl [] wr).drew.trans' o2
      have ho2 : Hid (Only [] w w2) := ho.out.trans' o2'
      have hM2 : Hid (TBox w2 (N + 1) x) := hM.out.only o2' (by simp)
      have hZ2 : Hid (w2.heap[N]? = some (.cells #[.int .u64 0, .int .i64 0, .pointer none] 76 (0, 0))) := o2'.get hZ.out (by simp)
      obtain ⟨g2, e2, hg2, q0, q1, q2⟩ := row.out w2 ho2.out p z HE.out
      injection e2 with e2
      injection e2 with e2
      subst e2
      obtain ⟨t0, t1, t2, tf⟩ := row3_c hM2.out
      have tf0 := tf 0
      have tf1 := tf 1
      have tf2 := tf 2
      clear o2 o2' m0 m1 m2 d0 d1 d2 y0 y1 y2 yf0 yf1 yf2 hc tf
      have hgN : ¬ (g = N + 1) := by omega
      rcases hz : z.1.lt x.1 with _ | _
      · have hcc : 0 ≤ cmpT z.1 x.1 := by unfold cmpT; rw [hz]; simp; split <;> omega
        generalize cmpT z.1 x.1 = c at *
        go_wp2_with fail
        go_roundg (n + 1 - (p + 1))
        case measure => omega
        case rel => exact ⟨p + 1, x, by simp, by omega, by omega, by omega, ho2, hM2, hZ2, hx, fun j y hj hy => by
          rcases Nat.lt_or_ge j p with h3 | h3
          · exact hL.out j y h3 hy
          · obtain rfl : j = p := by omega
            rw [HE.out] at hy
            injection hy with hy
            rw [← hy]; exact hz⟩
      · have hcc : cmpT z.1 x.1 = -1 := by unfold cmpT; rw [hz]; rfl
        rw [hcc]
        clear hcc
        go_wp2_with fail
        go_roundg (n + 1 - (p + 1))
        case measure => omega
        case rel =>
          have hW := HW.out
          refine ⟨p + 1, z, by simp, by omega, by omega, by omega, ?_, tbox_put hM2.out z, ?_, List.mem_of_getElem? HE.out, fun j y hj hy => ?_⟩
          · exact ((ho2.out.setCell (.inr (by simp; omega)) _).setCell (.inr (by simp; omega)) _).setCell (.inr (by simp; omega)) _
          · exact ((((Only.refl [N + 1] w2).setCell (by simp) _).setCell (by simp) _).setCell (by simp) _).get hZ2.out (by simp)
          · rcases Nat.lt_or_ge j p with h3 | h3
            · have h5 := hL.out j y h3 hy
              rcases h6 : y.1.lt z.1 with _ | _
              · rfl
              · rw [It.trans h6 hz] at h5; cases h5
            · obtain rfl : j = p := by omega
              rw [HE.out] at hy
              injection hy with hy
              rw [← hy]; exact It.irrefl _
    · have hpl' : ¬ ((p : Int) < (n : Int)) := by omega
      obtain rfl : p = n := by omega
      go_wp2_with fail
      have hR := tbox_put hZ.out x
      obtain ⟨r0, r1, r2⟩ := hR.c
      refine bodyPost_ret (v := .agg #[.int .u64 x.1.k, .int .i64 x.1.i, .pointer (some ⟨x.2, 0, none⟩)]) ?_ rfl ?_
      · rw [results_cell1 rfl]; go_simp
      · have hW := HW.out
        refine ⟨⟨_, _, _, rfl, hx.out, fun y hy => ?_⟩, ?_⟩
        · obtain ⟨j, hj⟩ := List.getElem?_of_mem hy
          have := (List.getElem?_eq_some_iff.1 hj).1
          have := HN.out
          exact hL.out j y (by omega) hj
        · exact ((ho.out.setCell (.inr (by simp; omega)) _).setCell (.inr (by simp; omega)) _).setCell (.inr (by simp; omega)) _
end Go.Proofs.Ytjmnklmomdfpfaa
