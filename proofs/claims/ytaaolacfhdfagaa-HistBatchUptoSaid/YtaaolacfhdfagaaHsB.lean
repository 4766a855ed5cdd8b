/-
  What is asked of a call, of two: ours and the document's.
-/
import Derived.Test.YtaaolacfhdfagaaHsA
namespace Go.Proofs.Ytaaolacfhdfagaa
set_option maxRecDepth 100000
open Go.RowKit
set_option linter.unusedVariables false
set_option linter.unusedSimpArgs false
set_option maxRecDepth 100000

set_option maxHeartbeats 1000000
def opn (x : Dn) : Bool := x.to == -1
def backB (x : Dn) : Bool := !opn x && decide (x.to < x.fr)
def aheadD (x y : Dn) : Bool := !opn x && decide (x.to < y.fr)
def wrongB (x : Dn) : Bool := decide (x.who < 0) || decide (x.place < 0) || decide (x.fr < 0) || backB x
def clashB (x y : Dn) : Bool := x.who == y.who && (x.place == y.place || !aheadD x y)
def divB (x : Dn) : Bool := x.op == 5 && !opn x && (x.e == 0 || x.e == 10)
theorem kOpen (x : Dn) (w : World) : Calls Try.prog 18 #[.agg #[.int .i64 x.who, .int .i64 x.place, .int .i64 x.op, .int .i64 x.f, .int .i64 x.a, .int .i64 x.b, .int .i64 x.e, .slice x.A x.m x.c, .int .i64 x.n, .int .u64 x.v, .int .i64 x.fr, .int .i64 x.to]] w fun e w' => e = .returned (.bool (opn x)) ∧ Only [] w w' := by
  unfold opn
  go_enter Try.func18, Try.ntmps18
  go_wp2
  go_ret
  exact ⟨rfl, (Only.refl _ _).alloc _⟩
/-- A box, whatever comes behind. -/
theorem box1 (w : World) (x : Dn) (t : TypeId) : Hid (Only [] w (w.alloc (.cells #[.int .i64 x.who, .int .i64 x.place, .int .i64 x.op, .int .i64 x.f, .int .i64 x.a, .int .i64 x.b, .int .i64 x.e, .slice x.A x.m x.c, .int .i64 x.n, .int .u64 x.v, .int .i64 x.fr, .int .i64 x.to] t)) ∧ ∀ V, Only [] (w.alloc (.cells #[.int .i64 x.who, .int .i64 x.place, .int .i64 x.op, .int .i64 x.f, .int .i64 x.a, .int .i64 x.b, .int .i64 x.e, .slice x.A x.m x.c, .int .i64 x.n, .int .u64 x.v, .int .i64 x.fr, .int .i64 x.to] t)) V → DnAt V w.heap.size 0 x) :=
  ⟨(Only.refl [] w).alloc _, fun V o => (DnAt.box w x t).only0 o⟩
theorem box2 (w : World) (x y : Dn) (t : TypeId) : Hid (Only [] w ((w.alloc (.cells #[.int .i64 x.who, .int .i64 x.place, .int .i64 x.op, .int .i64 x.f, .int .i64 x.a, .int .i64 x.b, .int .i64 x.e, .slice x.A x.m x.c, .int .i64 x.n, .int .u64 x.v, .int .i64 x.fr, .int .i64 x.to] t)).alloc (.cells #[.int .i64 y.who, .int .i64 y.place, .int .i64 y.op, .int .i64 y.f, .int .i64 y.a, .int .i64 y.b, .int .i64 y.e, .slice y.A y.m y.c, .int .i64 y.n, .int .u64 y.v, .int .i64 y.fr, .int .i64 y.to] t)) ∧ ∀ V, Only [] ((w.alloc (.cells #[.int .i64 x.who, .int .i64 x.place, .int .i64 x.op, .int .i64 x.f, .int .i64 x.a, .int .i64 x.b, .int .i64 x.e, .slice x.A x.m x.c, .int .i64 x.n, .int .u64 x.v, .int .i64 x.fr, .int .i64 x.to] t)).alloc (.cells #[.int .i64 y.who, .int .i64 y.place, .int .i64 y.op, .int .i64 y.f, .int .i64 y.a, .int .i64 y.b, .int .i64 y.e, .slice y.A y.m y.c, .int .i64 y.n, .int .u64 y.v, .int .i64 y.fr, .int .i64 y.to] t)) V → DnAt V w.heap.size 0 x ∧ DnAt V (w.heap.size + 1) 0 y) :=
  ⟨((Only.refl [] w).alloc _).alloc _, fun V o => ⟨(DnAt.boxes w x y t).1.only0 o, (DnAt.boxes w x y t).2.only0 o⟩⟩
theorem kBack (x : Dn) (w : World) : Calls Try.prog 31 #[.agg #[.int .i64 x.who, .int .i64 x.place, .int .i64 x.op, .int .i64 x.f, .int .i64 x.a, .int .i64 x.b, .int .i64 x.e, .slice x.A x.m x.c, .int .i64 x.n, .int .u64 x.v, .int .i64 x.fr, .int .i64 x.to]] w fun e w' => e = .returned (.bool (backB x)) ∧ Only [] w w' := by
  have op := Lib.hid (fun V => kOpen x V)
  have BX := box1 w x 41
  have E : Hid (backB x = (!opn x && decide (x.to < x.fr))) := rfl
  obtain ⟨x0, x1, x2, x3, x4, x5, x6, x7, x8, x9, x10, x11⟩ := BX.out.2 _ (Only.refl _ _); (try simp only [Nat.zero_add] at x0 x1 x2 x3 x4 x5 x6 x7 x8 x9 x10 x11)
  go_enter Try.func31, Try.ntmps31
  go_upto_region 1 with fail
  generalize w.alloc (.cells #[.int .i64 x.who, .int .i64 x.place, .int .i64 x.op, .int .i64 x.f, .int .i64 x.a, .int .i64 x.b, .int .i64 x.e, .slice x.A x.m x.c, .int .i64 x.n, .int .u64 x.v, .int .i64 x.fr, .int .i64 x.to] 41) = W at *
  rcases h1 : opn x
  all_goals
    rw [h1] at op
    have E1 := Lib.hid h1
    go_wp2_with fail
    refine (op.out _).mono ?_
    rintro e w1 ⟨rfl, o1⟩
    have O1 := Lib.hid o1
    clear x0 x1 x2 x3 x4 x5 x6 x7 x8 x9 x10 x11 o1
    obtain ⟨x0, x1, x2, x3, x4, x5, x6, x7, x8, x9, x10, x11⟩ := BX.out.2 _ O1.out; (try simp only [Nat.zero_add] at x0 x1 x2 x3 x4 x5 x6 x7 x8 x9 x10 x11)
    go_wp2_with fail
    go_ret
    exact ⟨by rw [E.out, E1.out]; rfl, BX.out.1.trans' O1.out⟩
theorem kAhead (x y : Dn) (w : World) : Calls Try.prog 22 #[.agg #[.int .i64 x.who, .int .i64 x.place, .int .i64 x.op, .int .i64 x.f, .int .i64 x.a, .int .i64 x.b, .int .i64 x.e, .slice x.A x.m x.c, .int .i64 x.n, .int .u64 x.v, .int .i64 x.fr, .int .i64 x.to], .agg #[.int .i64 y.who, .int .i64 y.place, .int .i64 y.op, .int .i64 y.f, .int .i64 y.a, .int .i64 y.b, .int .i64 y.e, .slice y.A y.m y.c, .int .i64 y.n, .int .u64 y.v, .int .i64 y.fr, .int .i64 y.to]] w fun e w' => e = .returned (.bool (aheadD x y)) ∧ Only [] w w' := by
  have op := Lib.hid (fun V => kOpen x V)
  have BX := box2 w x y 41
  have E : Hid (aheadD x y = (!opn x && decide (x.to < y.fr))) := rfl
  obtain ⟨x0, x1, x2, x3, x4, x5, x6, x7, x8, x9, x10, x11⟩ := (BX.out.2 _ (Only.refl _ _)).1; (try simp only [Nat.zero_add] at x0 x1 x2 x3 x4 x5 x6 x7 x8 x9 x10 x11)
  go_enter Try.func22, Try.ntmps22
  go_upto_region 1 with fail
  generalize (w.alloc (.cells #[.int .i64 x.who, .int .i64 x.place, .int .i64 x.op, .int .i64 x.f, .int .i64 x.a, .int .i64 x.b, .int .i64 x.e, .slice x.A x.m x.c, .int .i64 x.n, .int .u64 x.v, .int .i64 x.fr, .int .i64 x.to] 41)).alloc (.cells #[.int .i64 y.who, .int .i64 y.place, .int .i64 y.op, .int .i64 y.f, .int .i64 y.a, .int .i64 y.b, .int .i64 y.e, .slice y.A y.m y.c, .int .i64 y.n, .int .u64 y.v, .int .i64 y.fr, .int .i64 y.to] 41) = W at *
  rcases h1 : opn x
  all_goals
    rw [h1] at op
    have E1 := Lib.hid h1
    go_wp2_with fail
    refine (op.out _).mono ?_
    rintro e w1 ⟨rfl, o1⟩
    have O1 := Lib.hid o1
    clear x0 x1 x2 x3 x4 x5 x6 x7 x8 x9 x10 x11 o1
    obtain ⟨x0, x1, x2, x3, x4, x5, x6, x7, x8, x9, x10, x11⟩ := (BX.out.2 _ O1.out).1; (try simp only [Nat.zero_add] at x0 x1 x2 x3 x4 x5 x6 x7 x8 x9 x10 x11)
    obtain ⟨y0, y1, y2, y3, y4, y5, y6, y7, y8, y9, y10, y11⟩ := (BX.out.2 _ O1.out).2; (try simp only [Nat.zero_add] at y0 y1 y2 y3 y4 y5 y6 y7 y8 y9 y10 y11)
    go_wp2_with fail
    go_ret
    exact ⟨by rw [E.out, E1.out]; rfl, BX.out.1.trans' O1.out⟩
theorem kWrong (x : Dn) (w : World) : Calls Try.prog 27 #[.agg #[.int .i64 x.who, .int .i64 x.place, .int .i64 x.op, .int .i64 x.f, .int .i64 x.a, .int .i64 x.b, .int .i64 x.e, .slice x.A x.m x.c, .int .i64 x.n, .int .u64 x.v, .int .i64 x.fr, .int .i64 x.to]] w fun e w' => e = .returned (.bool (wrongB x)) ∧ Only [] w w' := by
  have bk := Lib.hid (fun V => kBack x V)
  have BX := box1 w x 41
  have E : Hid (wrongB x = (decide (x.who < 0) || decide (x.place < 0) || decide (x.fr < 0) || backB x)) := rfl
  obtain ⟨x0, x1, x2, x3, x4, x5, x6, x7, x8, x9, x10, x11⟩ := BX.out.2 _ (Only.refl _ _); (try simp only [Nat.zero_add] at x0 x1 x2 x3 x4 x5 x6 x7 x8 x9 x10 x11)
  go_enter Try.func27, Try.ntmps27
  go_upto_region 1 with fail
  generalize w.alloc (.cells #[.int .i64 x.who, .int .i64 x.place, .int .i64 x.op, .int .i64 x.f, .int .i64 x.a, .int .i64 x.b, .int .i64 x.e, .slice x.A x.m x.c, .int .i64 x.n, .int .u64 x.v, .int .i64 x.fr, .int .i64 x.to] 41) = W at *
  have O0 : Hid (Only [] w W) := BX.out.1
  rcases h1 : decide (x.who < 0) <;> rcases h2 : decide (x.place < 0) <;> rcases h3 : decide (x.fr < 0)
  all_goals
    have E1 := Lib.hid (And.intro h1 (And.intro h2 h3))
    go_wp2_with (go_at_call 31; refine (bk.out _).mono ?_; rintro e w1 ⟨rfl, o1⟩; have O1 := Lib.hid (O0.out.trans' o1); clear o1)
    go_ret
    exact ⟨by rw [E.out]; simp only [E1.out]; rfl, by first | exact O1.out | exact O0.out⟩
theorem kClash (x y : Dn) (w : World) : Calls Try.prog 29 #[.agg #[.int .i64 x.who, .int .i64 x.place, .int .i64 x.op, .int .i64 x.f, .int .i64 x.a, .int .i64 x.b, .int .i64 x.e, .slice x.A x.m x.c, .int .i64 x.n, .int .u64 x.v, .int .i64 x.fr, .int .i64 x.to], .agg #[.int .i64 y.who, .int .i64 y.place, .int .i64 y.op, .int .i64 y.f, .int .i64 y.a, .int .i64 y.b, .int .i64 y.e, .slice y.A y.m y.c, .int .i64 y.n, .int .u64 y.v, .int .i64 y.fr, .int .i64 y.to]] w fun e w' => e = .returned (.bool (clashB x y)) ∧ Only [] w w' := by
  have ah := Lib.hid (fun V => kAhead x y V)
  have BX := box2 w x y 41
  have E : Hid (clashB x y = (x.who == y.who && (x.place == y.place || !aheadD x y))) := rfl
  obtain ⟨x0, x1, x2, x3, x4, x5, x6, x7, x8, x9, x10, x11⟩ := (BX.out.2 _ (Only.refl _ _)).1; (try simp only [Nat.zero_add] at x0 x1 x2 x3 x4 x5 x6 x7 x8 x9 x10 x11)
  obtain ⟨y0, y1, y2, y3, y4, y5, y6, y7, y8, y9, y10, y11⟩ := (BX.out.2 _ (Only.refl _ _)).2; (try simp only [Nat.zero_add] at y0 y1 y2 y3 y4 y5 y6 y7 y8 y9 y10 y11)
  go_enter Try.func29, Try.ntmps29
  go_upto_region 1 with fail
  generalize (w.alloc (.cells #[.int .i64 x.who, .int .i64 x.place, .int .i64 x.op, .int .i64 x.f, .int .i64 x.a, .int .i64 x.b, .int .i64 x.e, .slice x.A x.m x.c, .int .i64 x.n, .int .u64 x.v, .int .i64 x.fr, .int .i64 x.to] 41)).alloc (.cells #[.int .i64 y.who, .int .i64 y.place, .int .i64 y.op, .int .i64 y.f, .int .i64 y.a, .int .i64 y.b, .int .i64 y.e, .slice y.A y.m y.c, .int .i64 y.n, .int .u64 y.v, .int .i64 y.fr, .int .i64 y.to] 41) = W at *
  have O0 : Hid (Only [] w W) := BX.out.1
  rcases h1 : (x.who == y.who) <;> rcases h2 : (x.place == y.place)
  all_goals
    have E1 := Lib.hid (And.intro h1 h2)
    go_wp2_with (go_at_call 22; refine (ah.out _).mono ?_; rintro e w1 ⟨rfl, o1⟩; have O1 := Lib.hid (O0.out.trans' o1); clear o1)
    go_ret
    exact ⟨by rw [E.out]; simp only [E1.out]; rfl, by first | exact O1.out | exact O0.out⟩
theorem kDiv (x : Dn) (w : World) : Calls Try.prog 10 #[.agg #[.int .i64 x.who, .int .i64 x.place, .int .i64 x.op, .int .i64 x.f, .int .i64 x.a, .int .i64 x.b, .int .i64 x.e, .slice x.A x.m x.c, .int .i64 x.n, .int .u64 x.v, .int .i64 x.fr, .int .i64 x.to]] w fun e w' => e = .returned (.bool (divB x)) ∧ Only [] w w' := by
  have op := Lib.hid (fun V => kOpen x V)
  have BX := box1 w x 41
  have E : Hid (divB x = (x.op == 5 && !opn x && (x.e == 0 || x.e == 10))) := rfl
  obtain ⟨x0, x1, x2, x3, x4, x5, x6, x7, x8, x9, x10, x11⟩ := BX.out.2 _ (Only.refl _ _); (try simp only [Nat.zero_add] at x0 x1 x2 x3 x4 x5 x6 x7 x8 x9 x10 x11)
  go_enter Try.func10, Try.ntmps10
  go_upto_region 1 with fail
  generalize w.alloc (.cells #[.int .i64 x.who, .int .i64 x.place, .int .i64 x.op, .int .i64 x.f, .int .i64 x.a, .int .i64 x.b, .int .i64 x.e, .slice x.A x.m x.c, .int .i64 x.n, .int .u64 x.v, .int .i64 x.fr, .int .i64 x.to] 41) = W at *
  have O0 : Hid (Only [] w W) := BX.out.1
  rcases h1 : (x.op == 5)
  · have E1 := Lib.hid h1
    go_wp2_with fail
    go_ret
    exact ⟨by rw [E.out, E1.out]; rfl, O0.out⟩
  · rcases h2 : opn x <;> rcases h3 : (x.e == 0)
    all_goals
      rw [h2] at op
      have E1 := Lib.hid (And.intro h1 (And.intro h2 h3))
      go_wp2_with fail
      refine (op.out _).mono ?_
      rintro e w1 ⟨rfl, o1⟩
      have O1 := Lib.hid o1
      clear x0 x1 x2 x3 x4 x5 x6 x7 x8 x9 x10 x11 o1
      obtain ⟨x0, x1, x2, x3, x4, x5, x6, x7, x8, x9, x10, x11⟩ := BX.out.2 _ O1.out; (try simp only [Nat.zero_add] at x0 x1 x2 x3 x4 x5 x6 x7 x8 x9 x10 x11)
      go_wp2_with fail
      go_ret
      exact ⟨by rw [E.out]; simp only [E1.out]; rfl, O0.out.trans' O1.out⟩
/-- hist.Ahead. -/
theorem cAhead (x y : Dn) (w : World) : Calls Try.prog 14 #[.agg #[.int .i64 x.who, .int .i64 x.place, .int .i64 x.op, .int .i64 x.f, .int .i64 x.a, .int .i64 x.b, .int .i64 x.e, .slice x.A x.m x.c, .int .i64 x.n, .int .u64 x.v, .int .i64 x.fr, .int .i64 x.to], .agg #[.int .i64 y.who, .int .i64 y.place, .int .i64 y.op, .int .i64 y.f, .int .i64 y.a, .int .i64 y.b, .int .i64 y.e, .slice y.A y.m y.c, .int .i64 y.n, .int .u64 y.v, .int .i64 y.fr, .int .i64 y.to]] w fun e w' => e = .returned (.bool (aheadD x y)) ∧ Only [] w w' := by
  have ah := Lib.hid (fun V => kAhead x y V)
  have BX := box2 w x y 30
  obtain ⟨x0, x1, x2, x3, x4, x5, x6, x7, x8, x9, x10, x11⟩ := (BX.out.2 _ (Only.refl _ _)).1; (try simp only [Nat.zero_add] at x0 x1 x2 x3 x4 x5 x6 x7 x8 x9 x10 x11)
  obtain ⟨y0, y1, y2, y3, y4, y5, y6, y7, y8, y9, y10, y11⟩ := (BX.out.2 _ (Only.refl _ _)).2; (try simp only [Nat.zero_add] at y0 y1 y2 y3 y4 y5 y6 y7 y8 y9 y10 y11)
  go_enter Try.func14, Try.ntmps14
  go_upto_region 1 with fail
  generalize (w.alloc (.cells #[.int .i64 x.who, .int .i64 x.place, .int .i64 x.op, .int .i64 x.f, .int .i64 x.a, .int .i64 x.b, .int .i64 x.e, .slice x.A x.m x.c, .int .i64 x.n, .int .u64 x.v, .int .i64 x.fr, .int .i64 x.to] 30)).alloc (.cells #[.int .i64 y.who, .int .i64 y.place, .int .i64 y.op, .int .i64 y.f, .int .i64 y.a, .int .i64 y.b, .int .i64 y.e, .slice y.A y.m y.c, .int .i64 y.n, .int .u64 y.v, .int .i64 y.fr, .int .i64 y.to] 30) = W at *
  go_wp2_with fail
  refine (ah.out _).mono ?_
  rintro e w1 ⟨rfl, o1⟩
  have O1 := Lib.hid (BX.out.1.trans' o1)
  clear o1
  go_wp2_with fail
  go_ret
  exact ⟨rfl, O1.out⟩
end Go.Proofs.Ytaaolacfhdfagaa
