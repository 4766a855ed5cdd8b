/-
  weighbridgelaw14.HistAll returns true for every input, and leaves its arguments as they were. No condition but that the arguments are values of their types.
-/
import Derived.Test.YtocokmjobbmodaaRows
import Derived.Test.YtocokmjobbmodaaHsW
import Derived.Test.YtocokmjobbmodaaHsX
import Derived.Test.YtocokmjobbmodaaHsI
import Derived.Test.YtocokmjobbmodaaHsH
import Derived.Test.YtocokmjobbmodaaHsS
import Derived.WalkKit
import Derived.ProofKit
import Derived.OpenShut
import Derived.ChangeOld
import Derived.Below
import Derived.Carry
namespace Go.Proofs.Ytocokmjobbmodaa.histAll
open Go.ChangeShapes Go.WideShapes Go.ChangeAt Go.RowKit
set_option linter.unusedVariables false
set_option linter.unusedSimpArgs false
set_option maxRecDepth 100000

set_option maxHeartbeats 4000000
theorem walk (a0 : Option Addr) (len0 cap0 : Nat) (z0 : Nat → Dn) (p0 : Nat → List Pk) (x1 : Dn) (p1 : List Pk) (x2 : Dn) (p2 : List Pk) (w : World) (w0 : InDns w a0 len0 z0) (q0 : ∀ k, k < len0 → InPk w (z0 k) (p0 k)) (q1 : InPk w x1 p1) (q2 : InPk w x2 p2) :
    Calls Try.prog 3 #[.slice a0 len0 cap0, .agg #[.int .i64 x1.who, .int .i64 x1.place, .int .i64 x1.op, .int .i64 x1.f, .int .i64 x1.a, .int .i64 x1.b, .int .i64 x1.e, .slice x1.A x1.m x1.c, .int .i64 x1.n, .int .u64 x1.v, .int .i64 x1.fr, .int .i64 x1.to], .agg #[.int .i64 x2.who, .int .i64 x2.place, .int .i64 x2.op, .int .i64 x2.f, .int .i64 x2.a, .int .i64 x2.b, .int .i64 x2.e, .slice x2.A x2.m x2.c, .int .i64 x2.n, .int .u64 x2.v, .int .i64 x2.fr, .int .i64 x2.to]] w fun e w' => e = .returned (.bool true) ∧ Below w.heap.size w w' := by
  have BX := box2 w x1 x2 31
  have sm := lSome w a0 len0 cap0 z0 w0
  go_enter Try.func3, Try.ntmps3
  go_upto_region 1 with fail
  have OB : Hid (Only [] w ((w.alloc (.cells #[.int .i64 x1.who, .int .i64 x1.place, .int .i64 x1.op, .int .i64 x1.f, .int .i64 x1.a, .int .i64 x1.b, .int .i64 x1.e, .slice x1.A x1.m x1.c, .int .i64 x1.n, .int .u64 x1.v, .int .i64 x1.fr, .int .i64 x1.to] 31)).alloc (.cells #[.int .i64 x2.who, .int .i64 x2.place, .int .i64 x2.op, .int .i64 x2.f, .int .i64 x2.a, .int .i64 x2.b, .int .i64 x2.e, .slice x2.A x2.m x2.c, .int .i64 x2.n, .int .u64 x2.v, .int .i64 x2.fr, .int .i64 x2.to] 31))) := BX.out.1
  have B0 : Hid (∀ V, Only [] ((w.alloc (.cells #[.int .i64 x1.who, .int .i64 x1.place, .int .i64 x1.op, .int .i64 x1.f, .int .i64 x1.a, .int .i64 x1.b, .int .i64 x1.e, .slice x1.A x1.m x1.c, .int .i64 x1.n, .int .u64 x1.v, .int .i64 x1.fr, .int .i64 x1.to] 31)).alloc (.cells #[.int .i64 x2.who, .int .i64 x2.place, .int .i64 x2.op, .int .i64 x2.f, .int .i64 x2.a, .int .i64 x2.b, .int .i64 x2.e, .slice x2.A x2.m x2.c, .int .i64 x2.n, .int .u64 x2.v, .int .i64 x2.fr, .int .i64 x2.to] 31)) V → DnAt V w.heap.size 0 x1 ∧ DnAt V (w.heap.size + 1) 0 x2) := BX.out.2
  have w0' := Lib.hid (w0.only0 OB.out)
  clear BX sm
  generalize (w.alloc (.cells #[.int .i64 x1.who, .int .i64 x1.place, .int .i64 x1.op, .int .i64 x1.f, .int .i64 x1.a, .int .i64 x1.b, .int .i64 x1.e, .slice x1.A x1.m x1.c, .int .i64 x1.n, .int .u64 x1.v, .int .i64 x1.fr, .int .i64 x1.to] 31)).alloc (.cells #[.int .i64 x2.who, .int .i64 x2.place, .int .i64 x2.op, .int .i64 x2.f, .int .i64 x2.a, .int .i64 x2.b, .int .i64 x2.e, .slice x2.A x2.m x2.c, .int .i64 x2.n, .int .u64 x2.v, .int .i64 x2.fr, .int .i64 x2.to] 31) = W0 at *
  generalize w.heap.size + 1 = b2 at *
  obtain ⟨b1, hb1⟩ : ∃ b, w.heap.size = b := ⟨_, rfl⟩
  rw [hb1] at B0 ⊢
  clear hb1
  have sm := lSome W0 a0 len0 cap0 z0 w0'.out
  go_wp2_with fail
  refine sm.mono ?_
  rintro e W ⟨A2, c2, rfl, hfr⟩
  have LEN : Hid ((someL z0 len0).length = min len0 40 ∧ min len0 40 ≤ 1000000) := ⟨someL_len _ _, by omega⟩
  have FR := Lib.hid hfr
  have CEL : Hid (∀ V, Only [] W V → (V.cell? ⟨b1, 0, none⟩ = some (.int .i64 x1.who) ∧ V.cell? ⟨b1, 0 + 1, none⟩ = some (.int .i64 x1.place) ∧ V.cell? ⟨b1, 0 + 2, none⟩ = some (.int .i64 x1.op) ∧ V.cell? ⟨b1, 0 + 3, none⟩ = some (.int .i64 x1.f) ∧ V.cell? ⟨b1, 0 + 4, none⟩ = some (.int .i64 x1.a) ∧ V.cell? ⟨b1, 0 + 5, none⟩ = some (.int .i64 x1.b) ∧ V.cell? ⟨b1, 0 + 6, none⟩ = some (.int .i64 x1.e) ∧ V.cell? ⟨b1, 0 + 7, none⟩ = some (.slice x1.A x1.m x1.c) ∧ V.cell? ⟨b1, 0 + 8, none⟩ = some (.int .i64 x1.n) ∧ V.cell? ⟨b1, 0 + 9, none⟩ = some (.int .u64 x1.v) ∧ V.cell? ⟨b1, 0 + 10, none⟩ = some (.int .i64 x1.fr) ∧ V.cell? ⟨b1, 0 + 11, none⟩ = some (.int .i64 x1.to)) ∧ (V.cell? ⟨b2, 0, none⟩ = some (.int .i64 x2.who) ∧ V.cell? ⟨b2, 0 + 1, none⟩ = some (.int .i64 x2.place) ∧ V.cell? ⟨b2, 0 + 2, none⟩ = some (.int .i64 x2.op) ∧ V.cell? ⟨b2, 0 + 3, none⟩ = some (.int .i64 x2.f) ∧ V.cell? ⟨b2, 0 + 4, none⟩ = some (.int .i64 x2.a) ∧ V.cell? ⟨b2, 0 + 5, none⟩ = some (.int .i64 x2.b) ∧ V.cell? ⟨b2, 0 + 6, none⟩ = some (.int .i64 x2.e) ∧ V.cell? ⟨b2, 0 + 7, none⟩ = some (.slice x2.A x2.m x2.c) ∧ V.cell? ⟨b2, 0 + 8, none⟩ = some (.int .i64 x2.n) ∧ V.cell? ⟨b2, 0 + 9, none⟩ = some (.int .u64 x2.v) ∧ V.cell? ⟨b2, 0 + 10, none⟩ = some (.int .i64 x2.fr) ∧ V.cell? ⟨b2, 0 + 11, none⟩ = some (.int .i64 x2.to))) := fun V o => B0.out V (hfr.only.trans' o)
  simp only [Nat.zero_add] at CEL
  clear sm hfr
  generalize someL z0 len0 = L at *
  generalize min len0 40 = n at *
  have kR := Lib.hid (fun (V : World) (o : Only [] W V) => cRight A2 n c2 L V LEN.out.1 LEN.out.2 (FR.out.dns.only0 o))
  have kr := Lib.hid (fun (V : World) (o : Only [] W V) => rRight A2 n c2 L V LEN.out.1 LEN.out.2 (FR.out.dns.only0 o))
  have kE := Lib.hid (fun (V : World) (o : Only [] W V) => cEnded A2 n c2 L V LEN.out.1 LEN.out.2 (FR.out.dns.only0 o))
  have ke := Lib.hid (fun (V : World) (o : Only [] W V) => rEnded A2 n c2 L V LEN.out.1 LEN.out.2 (FR.out.dns.only0 o))
  have kM := Lib.hid (fun (V : World) (o : Only [] W V) => cMost A2 n c2 L V LEN.out.1 LEN.out.2 (FR.out.dns.only0 o))
  have km := Lib.hid (fun (V : World) (o : Only [] W V) => rMost A2 n c2 L V LEN.out.1 LEN.out.2 (FR.out.dns.only0 o))
  generalize rightB L = bR at *
  generalize (!L.any opn) = bE at *
  generalize mostL L = nM at *
  go_upto_region 2 with fail
  refine wp_region_held_drew (S := (fun u' => (u'.cell? ⟨b1, 0, none⟩ = some (.int .i64 x1.who) ∧ u'.cell? ⟨b1, 1, none⟩ = some (.int .i64 x1.place) ∧ u'.cell? ⟨b1, 2, none⟩ = some (.int .i64 x1.op) ∧ u'.cell? ⟨b1, 3, none⟩ = some (.int .i64 x1.f) ∧ u'.cell? ⟨b1, 4, none⟩ = some (.int .i64 x1.a) ∧ u'.cell? ⟨b1, 5, none⟩ = some (.int .i64 x1.b) ∧ u'.cell? ⟨b1, 6, none⟩ = some (.int .i64 x1.e) ∧ u'.cell? ⟨b1, 7, none⟩ = some (.slice x1.A x1.m x1.c) ∧ u'.cell? ⟨b1, 8, none⟩ = some (.int .i64 x1.n) ∧ u'.cell? ⟨b1, 9, none⟩ = some (.int .u64 x1.v) ∧ u'.cell? ⟨b1, 10, none⟩ = some (.int .i64 x1.fr) ∧ u'.cell? ⟨b1, 11, none⟩ = some (.int .i64 x1.to)) ∧ (u'.cell? ⟨b2, 0, none⟩ = some (.int .i64 x2.who) ∧ u'.cell? ⟨b2, 1, none⟩ = some (.int .i64 x2.place) ∧ u'.cell? ⟨b2, 2, none⟩ = some (.int .i64 x2.op) ∧ u'.cell? ⟨b2, 3, none⟩ = some (.int .i64 x2.f) ∧ u'.cell? ⟨b2, 4, none⟩ = some (.int .i64 x2.a) ∧ u'.cell? ⟨b2, 5, none⟩ = some (.int .i64 x2.b) ∧ u'.cell? ⟨b2, 6, none⟩ = some (.int .i64 x2.e) ∧ u'.cell? ⟨b2, 7, none⟩ = some (.slice x2.A x2.m x2.c) ∧ u'.cell? ⟨b2, 8, none⟩ = some (.int .i64 x2.n) ∧ u'.cell? ⟨b2, 9, none⟩ = some (.int .u64 x2.v) ∧ u'.cell? ⟨b2, 10, none⟩ = some (.int .i64 x2.fr) ∧ u'.cell? ⟨b2, 11, none⟩ = some (.int .i64 x2.to)))) (by kernel_rfl) (CEL.out _ ((Only.refl [] W).drew)) (fun hHeld => ?_)
  refine wpAnyH_ready (rs := [0]) (by kernel_rfl) (by simp) ?_
  refine consH rfl (fun K hK => ?_) AllReadyH.nil
  go_simp
  refine (lAwake _).mono ?_
  rintro e v0 ⟨rfl, o⟩
  have O0 := Lib.hid ((Only.drew (Only.refl [] W)).trans' o)
  clear o
  refine hK.out _ _ (CEL.out _ O0.out) (fun hHeld2 => ?_)
  clear hK K hHeld
  have hHeld := hHeld2
  clear hHeld2
  try simp only [Act.put, List.setIfInBounds_toArray, List.set_cons_zero, List.set_cons_succ]
  refine takeH (i := 1) (v := ?_) rfl (by kernel_rfl) (by kernel_rfl) (by kernel_rfl) (fun _ _ _ h => h) (Or.inl ⟨by rfl, ?_⟩) (by assumption) ?_
  rotate_left 1
  · (intro w hSw; (try dsimp only at hSw); go_simp; try (with_reducible rfl))
  try simp only [Act.put, List.setIfInBounds_toArray, List.set_cons_zero, List.set_cons_succ]
  refine takeH (i := 2) (v := ?_) rfl (by kernel_rfl) (by kernel_rfl) (by kernel_rfl) (fun _ _ _ h => h) (Or.inl ⟨by rfl, ?_⟩) (by assumption) ?_
  rotate_left 1
  · (intro w hSw; (try dsimp only at hSw); go_simp; try (with_reducible rfl))
  try simp only [Act.put, List.setIfInBounds_toArray, List.set_cons_zero, List.set_cons_succ]
  refine takeH (i := 4) (v := ?_) rfl (by kernel_rfl) (by kernel_rfl) (by kernel_rfl) (fun _ _ _ h => h) (Or.inl ⟨by rfl, ?_⟩) (by assumption) ?_
  rotate_left 1
  · (intro w hSw; (try dsimp only at hSw); go_simp; try (with_reducible rfl))
  try simp only [Act.put, List.setIfInBounds_toArray, List.set_cons_zero, List.set_cons_succ]
  refine wpAnyH_ready (rs := [3]) (by kernel_rfl) (by simp) ?_
  refine consH rfl (fun K hK => ?_) AllReadyH.nil
  go_simp
  refine (kR.out _ O0.out).mono ?_
  rintro e v3 ⟨rfl, o⟩
  have O3 := Lib.hid (O0.out.trans' o)
  clear o
  refine hK.out _ _ (CEL.out _ O3.out) (fun hHeld2 => ?_)
  clear hK K hHeld
  have hHeld := hHeld2
  clear hHeld2
  try simp only [Act.put, List.setIfInBounds_toArray, List.set_cons_zero, List.set_cons_succ]
  refine wpAnyH_ready (rs := [5]) (by kernel_rfl) (by simp) ?_
  refine consH rfl (fun K hK => ?_) AllReadyH.nil
  go_simp
  refine (kr.out _ O3.out).mono ?_
  rintro e v5 ⟨rfl, o⟩
  have O5 := Lib.hid (O3.out.trans' o)
  clear o
  refine hK.out _ _ (CEL.out _ O5.out) (fun hHeld2 => ?_)
  clear hK K hHeld
  have hHeld := hHeld2
  clear hHeld2
  try simp only [Act.put, List.setIfInBounds_toArray, List.set_cons_zero, List.set_cons_succ]
  refine takeH (i := 6) (v := ?_) rfl (by kernel_rfl) (by kernel_rfl) (by kernel_rfl) (fun _ _ _ h => h) (Or.inl ⟨by rfl, ?_⟩) (by assumption) ?_
  rotate_left 1
  · (intro w hSw; (try dsimp only at hSw); go_simp; try (with_reducible rfl))
  try simp only [Act.put, List.setIfInBounds_toArray, List.set_cons_zero, List.set_cons_succ]
  refine takeH (i := 7) (v := ?_) rfl (by kernel_rfl) (by kernel_rfl) (by kernel_rfl) (fun _ _ _ h => h) (Or.inl ⟨by rfl, ?_⟩) (by assumption) ?_
  rotate_left 1
  · (intro w hSw; (try dsimp only at hSw); go_simp; try (with_reducible rfl))
  try simp only [Act.put, List.setIfInBounds_toArray, List.set_cons_zero, List.set_cons_succ]
  refine takeH (i := 8) (v := ?_) rfl (by kernel_rfl) (by kernel_rfl) (by kernel_rfl) (fun _ _ _ h => h) (Or.inl ⟨by rfl, ?_⟩) (by assumption) ?_
  rotate_left 1
  · (intro w hSw; (try dsimp only at hSw); go_simp; try (with_reducible rfl))
  try simp only [Act.put, List.setIfInBounds_toArray, List.set_cons_zero, List.set_cons_succ]
  refine takeH (i := 9) (v := ?_) rfl (by kernel_rfl) (by kernel_rfl) (by kernel_rfl) (fun _ _ _ h => h) (Or.inl ⟨by rfl, ?_⟩) (by assumption) ?_
  rotate_left 1
  · (intro w hSw; (try dsimp only at hSw); go_simp; try (with_reducible rfl))
  try simp only [Act.put, List.setIfInBounds_toArray, List.set_cons_zero, List.set_cons_succ]
  refine takeH (i := 11) (v := ?_) rfl (by kernel_rfl) (by kernel_rfl) (by kernel_rfl) (fun _ _ _ h => h) (Or.inl ⟨by rfl, ?_⟩) (by assumption) ?_
  rotate_left 1
  · (intro w hSw; (try dsimp only at hSw); go_simp; try (with_reducible rfl))
  try simp only [Act.put, List.setIfInBounds_toArray, List.set_cons_zero, List.set_cons_succ]
  refine wpAnyH_ready (rs := [10]) (by kernel_rfl) (by simp) ?_
  refine consH rfl (fun K hK => ?_) AllReadyH.nil
  go_simp
  refine (kE.out _ O5.out).mono ?_
  rintro e v10 ⟨rfl, o⟩
  have O10 := Lib.hid (O5.out.trans' o)
  clear o
  refine hK.out _ _ (CEL.out _ O10.out) (fun hHeld2 => ?_)
  clear hK K hHeld
  have hHeld := hHeld2
  clear hHeld2
  try simp only [Act.put, List.setIfInBounds_toArray, List.set_cons_zero, List.set_cons_succ]
  refine wpAnyH_ready (rs := [12]) (by kernel_rfl) (by simp) ?_
  refine consH rfl (fun K hK => ?_) AllReadyH.nil
  go_simp
  refine (ke.out _ O10.out).mono ?_
  rintro e v12 ⟨rfl, o⟩
  have O12 := Lib.hid (O10.out.trans' o)
  clear o
  refine hK.out _ _ (CEL.out _ O12.out) (fun hHeld2 => ?_)
  clear hK K hHeld
  have hHeld := hHeld2
  clear hHeld2
  try simp only [Act.put, List.setIfInBounds_toArray, List.set_cons_zero, List.set_cons_succ]
  refine takeH (i := 13) (v := ?_) rfl (by kernel_rfl) (by kernel_rfl) (by kernel_rfl) (fun _ _ _ h => h) (Or.inl ⟨by rfl, ?_⟩) (by assumption) ?_
  rotate_left 1
  · (intro w hSw; (try dsimp only at hSw); go_simp; try (with_reducible rfl))
  try simp only [Act.put, List.setIfInBounds_toArray, List.set_cons_zero, List.set_cons_succ]
  refine takeH (i := 14) (v := ?_) rfl (by kernel_rfl) (by kernel_rfl) (by kernel_rfl) (fun _ _ _ h => h) (Or.inl ⟨by rfl, ?_⟩) (by assumption) ?_
  rotate_left 1
  · (intro w hSw; (try dsimp only at hSw); go_simp; try (with_reducible rfl))
  try simp only [Act.put, List.setIfInBounds_toArray, List.set_cons_zero, List.set_cons_succ]
  refine takeH (i := 15) (v := ?_) rfl (by kernel_rfl) (by kernel_rfl) (by kernel_rfl) (fun _ _ _ h => h) (Or.inl ⟨by rfl, ?_⟩) (by assumption) ?_
  rotate_left 1
  · (intro w hSw; (try dsimp only at hSw); go_simp; try (with_reducible rfl))
  try simp only [Act.put, List.setIfInBounds_toArray, List.set_cons_zero, List.set_cons_succ]
  refine takeH (i := 16) (v := ?_) rfl (by kernel_rfl) (by kernel_rfl) (by kernel_rfl) (fun _ _ _ h => h) (Or.inl ⟨by rfl, ?_⟩) (by assumption) ?_
  rotate_left 1
  · (intro w hSw; (try dsimp only at hSw); go_simp; try (with_reducible rfl))
  try simp only [Act.put, List.setIfInBounds_toArray, List.set_cons_zero, List.set_cons_succ]
  refine takeH (i := 18) (v := ?_) rfl (by kernel_rfl) (by kernel_rfl) (by kernel_rfl) (fun _ _ _ h => h) (Or.inl ⟨by rfl, ?_⟩) (by assumption) ?_
  rotate_left 1
  · (intro w hSw; (try dsimp only at hSw); go_simp; try (with_reducible rfl))
  try simp only [Act.put, List.setIfInBounds_toArray, List.set_cons_zero, List.set_cons_succ]
  refine wpAnyH_ready (rs := [17]) (by kernel_rfl) (by simp) ?_
  refine consH rfl (fun K hK => ?_) AllReadyH.nil
  go_simp
  refine (kM.out _ O12.out).mono ?_
  rintro e v17 ⟨rfl, o⟩
  have O17 := Lib.hid (O12.out.trans' o)
  clear o
  refine hK.out _ _ (CEL.out _ O17.out) (fun hHeld2 => ?_)
  clear hK K hHeld
  have hHeld := hHeld2
  clear hHeld2
  try simp only [Act.put, List.setIfInBounds_toArray, List.set_cons_zero, List.set_cons_succ]
  refine wpAnyH_ready (rs := [19]) (by kernel_rfl) (by simp) ?_
  refine consH rfl (fun K hK => ?_) AllReadyH.nil
  go_simp
  refine (km.out _ O17.out).mono ?_
  rintro e v19 ⟨rfl, o⟩
  have O19 := Lib.hid (O17.out.trans' o)
  clear o
  refine hK.out _ _ (CEL.out _ O19.out) (fun hHeld2 => ?_)
  clear hK K hHeld
  have hHeld := hHeld2
  clear hHeld2
  try simp only [Act.put, List.setIfInBounds_toArray, List.set_cons_zero, List.set_cons_succ]
  refine takeH (i := 20) (v := ?_) rfl (by kernel_rfl) (by kernel_rfl) (by kernel_rfl) (fun _ _ _ h => h) (Or.inl ⟨by rfl, ?_⟩) (by assumption) ?_
  rotate_left 1
  · (intro w hSw; (try dsimp only at hSw); go_simp; try (with_reducible rfl))
  try simp only [Act.put, List.setIfInBounds_toArray, List.set_cons_zero, List.set_cons_succ]
  refine takeH (i := 21) (v := ?_) rfl (by kernel_rfl) (by kernel_rfl) (by kernel_rfl) (fun _ _ _ h => h) (Or.inl ⟨by rfl, ?_⟩) (by assumption) ?_
  rotate_left 1
  · (intro w hSw; (try dsimp only at hSw); go_simp; try (with_reducible rfl))
  try simp only [Act.put, List.setIfInBounds_toArray, List.set_cons_zero, List.set_cons_succ]
  refine takeH (i := 22) (v := ?_) rfl (by kernel_rfl) (by kernel_rfl) (by kernel_rfl) (fun _ _ _ h => h) (Or.inl ⟨by rfl, ?_⟩) (by assumption) ?_
  rotate_left 1
  · (intro w hSw; (try dsimp only at hSw); go_simp; try (with_reducible rfl))
  try simp only [Act.put, List.setIfInBounds_toArray, List.set_cons_zero, List.set_cons_succ]
  refine takeH (i := 23) (v := ?_) rfl (by kernel_rfl) (by kernel_rfl) (by kernel_rfl) (fun _ _ _ h => h) (Or.inl ⟨by rfl, ?_⟩) (by assumption) ?_
  rotate_left 1
  · (intro w hSw; (try dsimp only at hSw); go_simp; try (with_reducible rfl))
  try simp only [Act.put, List.setIfInBounds_toArray, List.set_cons_zero, List.set_cons_succ]
  refine takeH (i := 24) (v := ?_) rfl (by kernel_rfl) (by kernel_rfl) (by kernel_rfl) (fun _ _ _ h => h) (Or.inl ⟨by rfl, ?_⟩) (by assumption) ?_
  rotate_left 1
  · (intro w hSw; (try dsimp only at hSw); go_simp; try (with_reducible rfl))
  try simp only [Act.put, List.setIfInBounds_toArray, List.set_cons_zero, List.set_cons_succ]
  refine takeH (i := 26) (v := ?_) rfl (by kernel_rfl) (by kernel_rfl) (by kernel_rfl) (fun _ _ _ h => h) (Or.inl ⟨by rfl, ?_⟩) (by assumption) ?_
  rotate_left 1
  · (intro w hSw; (try dsimp only at hSw); go_simp; try (with_reducible rfl))
  try simp only [Act.put, List.setIfInBounds_toArray, List.set_cons_zero, List.set_cons_succ]
  refine takeH (i := 27) (v := ?_) rfl (by kernel_rfl) (by kernel_rfl) (by kernel_rfl) (fun _ _ _ h => h) (Or.inl ⟨by rfl, ?_⟩) (by assumption) ?_
  rotate_left 1
  · (intro w hSw; (try dsimp only at hSw); go_simp; try (with_reducible rfl))
  try simp only [Act.put, List.setIfInBounds_toArray, List.set_cons_zero, List.set_cons_succ]
  refine wpAnyH_ready (rs := [25]) (by kernel_rfl) (by simp) ?_
  refine consH rfl (fun K hK => ?_) AllReadyH.nil
  go_simp
  refine (cAhead x1 x2 _).mono ?_
  rintro e v25 ⟨rfl, o⟩
  have O25 := Lib.hid (O19.out.trans' o)
  clear o
  refine hK.out _ _ (CEL.out _ O25.out) (fun hHeld2 => ?_)
  clear hK K hHeld
  have hHeld := hHeld2
  clear hHeld2
  try simp only [Act.put, List.setIfInBounds_toArray, List.set_cons_zero, List.set_cons_succ]
  refine wpAnyH_ready (rs := [28]) (by kernel_rfl) (by simp) ?_
  refine consH rfl (fun K hK => ?_) AllReadyH.nil
  go_simp
  refine (rAhead x1 x2 _).mono ?_
  rintro e v28 ⟨rfl, o⟩
  have O28 := Lib.hid (O25.out.trans' o)
  clear o
  refine hK.out _ _ (CEL.out _ O28.out) (fun hHeld2 => ?_)
  clear hK K hHeld
  have hHeld := hHeld2
  clear hHeld2
  try simp only [Act.put, List.setIfInBounds_toArray, List.set_cons_zero, List.set_cons_succ]
  refine takeH (i := 29) (v := ?_) rfl (by kernel_rfl) (by kernel_rfl) (by kernel_rfl) (fun _ _ _ h => h) (Or.inl ⟨by rfl, ?_⟩) (by assumption) ?_
  rotate_left 1
  · (intro w hSw; (try dsimp only at hSw); go_simp; try (with_reducible rfl))
  try simp only [Act.put, List.setIfInBounds_toArray, List.set_cons_zero, List.set_cons_succ]
  refine takeH (i := 30) (v := ?_) rfl (by kernel_rfl) (by kernel_rfl) (by kernel_rfl) (fun _ _ _ h => h) (Or.inl ⟨by rfl, ?_⟩) (by assumption) ?_
  rotate_left 1
  · (intro w hSw; (try dsimp only at hSw); go_simp; try (with_reducible rfl))
  try simp only [Act.put, List.setIfInBounds_toArray, List.set_cons_zero, List.set_cons_succ]
  refine takeH (i := 31) (v := ?_) rfl (by kernel_rfl) (by kernel_rfl) (by kernel_rfl) (fun _ _ _ h => h) (Or.inl ⟨by rfl, ?_⟩) (by assumption) ?_
  rotate_left 1
  · (intro w hSw; (try dsimp only at hSw); go_simp; try (with_reducible rfl))
  try simp only [Act.put, List.setIfInBounds_toArray, List.set_cons_zero, List.set_cons_succ]
  refine takeH (i := 32) (v := ?_) rfl (by kernel_rfl) (by kernel_rfl) (by kernel_rfl) (fun _ _ _ h => h) (Or.inl ⟨by rfl, ?_⟩) (by assumption) ?_
  rotate_left 1
  · (intro w hSw; (try dsimp only at hSw); go_simp; try (with_reducible rfl))
  try simp only [Act.put, List.setIfInBounds_toArray, List.set_cons_zero, List.set_cons_succ]
  refine takeH (i := 34) (v := ?_) rfl (by kernel_rfl) (by kernel_rfl) (by kernel_rfl) (fun _ _ _ h => h) (Or.inl ⟨by rfl, ?_⟩) (by assumption) ?_
  rotate_left 1
  · (intro w hSw; (try dsimp only at hSw); go_simp; try (with_reducible rfl))
  try simp only [Act.put, List.setIfInBounds_toArray, List.set_cons_zero, List.set_cons_succ]
  refine takeH (i := 37) (v := ?_) rfl (by kernel_rfl) (by kernel_rfl) (by kernel_rfl) (fun _ _ _ h => h) (Or.inl ⟨by rfl, ?_⟩) (by assumption) ?_
  rotate_left 1
  · (intro w hSw; (try dsimp only at hSw); go_simp; try (with_reducible rfl))
  try simp only [Act.put, List.setIfInBounds_toArray, List.set_cons_zero, List.set_cons_succ]
  refine takeH (i := 39) (v := ?_) rfl (by kernel_rfl) (by kernel_rfl) (by kernel_rfl) (fun _ _ _ h => h) (Or.inl ⟨by rfl, ?_⟩) (by assumption) ?_
  rotate_left 1
  · (intro w hSw; (try dsimp only at hSw); go_simp; try (with_reducible rfl))
  try simp only [Act.put, List.setIfInBounds_toArray, List.set_cons_zero, List.set_cons_succ]
  refine wpAnyH_ready (rs := [33]) (by kernel_rfl) (by simp) ?_
  refine consH rfl (fun K hK => ?_) AllReadyH.nil
  go_simp
  refine (lNear x1 _).mono ?_
  rintro e v33 ⟨rfl, o⟩
  have O33 := Lib.hid (O28.out.trans' o)
  clear o
  refine hK.out _ _ (CEL.out _ O33.out) (fun hHeld2 => ?_)
  clear hK K hHeld
  have hHeld := hHeld2
  clear hHeld2
  try simp only [Act.put, List.setIfInBounds_toArray, List.set_cons_zero, List.set_cons_succ]
  refine wpAnyH_ready (rs := [35]) (by kernel_rfl) (by simp) ?_
  refine consH rfl (fun K hK => ?_) AllReadyH.nil
  go_simp
  refine (lNear x2 _).mono ?_
  rintro e v35 ⟨rfl, o⟩
  have O35 := Lib.hid (O33.out.trans' o)
  clear o
  refine hK.out _ _ (CEL.out _ O35.out) (fun hHeld2 => ?_)
  clear hK K hHeld
  have hHeld := hHeld2
  clear hHeld2
  try simp only [Act.put, List.setIfInBounds_toArray, List.set_cons_zero, List.set_cons_succ]
  refine wpAnyH_ready (rs := [36]) (by kernel_rfl) (by simp) ?_
  refine consH rfl (fun K hK => ?_) AllReadyH.nil
  go_simp
  refine (cAhead (nearD x1) (nearD x2) _).mono ?_
  rintro e v36 ⟨rfl, o⟩
  have O36 := Lib.hid (O35.out.trans' o)
  clear o
  refine hK.out _ _ (CEL.out _ O36.out) (fun hHeld2 => ?_)
  clear hK K hHeld
  have hHeld := hHeld2
  clear hHeld2
  try simp only [Act.put, List.setIfInBounds_toArray, List.set_cons_zero, List.set_cons_succ]
  refine wpAnyH_ready (rs := [38]) (by kernel_rfl) (by simp) ?_
  refine consH rfl (fun K hK => ?_) AllReadyH.nil
  go_simp
  refine (lNear x1 _).mono ?_
  rintro e v38 ⟨rfl, o⟩
  have O38 := Lib.hid (O36.out.trans' o)
  clear o
  refine hK.out _ _ (CEL.out _ O38.out) (fun hHeld2 => ?_)
  clear hK K hHeld
  have hHeld := hHeld2
  clear hHeld2
  try simp only [Act.put, List.setIfInBounds_toArray, List.set_cons_zero, List.set_cons_succ]
  refine wpAnyH_ready (rs := [40]) (by kernel_rfl) (by simp) ?_
  refine consH rfl (fun K hK => ?_) AllReadyH.nil
  go_simp
  refine (lNear x2 _).mono ?_
  rintro e v40 ⟨rfl, o⟩
  have O40 := Lib.hid (O38.out.trans' o)
  clear o
  refine hK.out _ _ (CEL.out _ O40.out) (fun hHeld2 => ?_)
  clear hK K hHeld
  have hHeld := hHeld2
  clear hHeld2
  try simp only [Act.put, List.setIfInBounds_toArray, List.set_cons_zero, List.set_cons_succ]
  refine wpAnyH_ready (rs := [41]) (by kernel_rfl) (by simp) ?_
  refine consH rfl (fun K hK => ?_) AllReadyH.nil
  go_simp
  refine (rAhead (nearD x1) (nearD x2) _).mono ?_
  rintro e v41 ⟨rfl, o⟩
  have O41 := Lib.hid (O40.out.trans' o)
  clear o
  refine hK.out _ _ (CEL.out _ O41.out) (fun hHeld2 => ?_)
  clear hK K hHeld
  have hHeld := hHeld2
  clear hHeld2
  try simp only [Act.put, List.setIfInBounds_toArray, List.set_cons_zero, List.set_cons_succ]
  refine takeH (i := 42) (v := ?_) rfl (by kernel_rfl) (by kernel_rfl) (by kernel_rfl) (fun _ _ _ h => h) (Or.inl ⟨by rfl, ?_⟩) (by assumption) ?_
  rotate_left 1
  · (intro w hSw; (try dsimp only at hSw); go_simp; try (with_reducible rfl))
  try simp only [Act.put, List.setIfInBounds_toArray, List.set_cons_zero, List.set_cons_succ]
  refine takeH (i := 43) (v := ?_) rfl (by kernel_rfl) (by kernel_rfl) (by kernel_rfl) (fun _ _ _ h => h) (Or.inl ⟨by rfl, ?_⟩) (by assumption) ?_
  rotate_left 1
  · (intro w hSw; (try dsimp only at hSw); go_simp; try (with_reducible rfl))
  try simp only [Act.put, List.setIfInBounds_toArray, List.set_cons_zero, List.set_cons_succ]
  refine takeH (i := 44) (v := ?_) rfl (by kernel_rfl) (by kernel_rfl) (by kernel_rfl) (fun _ _ _ h => h) (Or.inl ⟨by rfl, ?_⟩) (by assumption) ?_
  rotate_left 1
  · (intro w hSw; (try dsimp only at hSw); go_simp; try (with_reducible rfl))
  try simp only [Act.put, List.setIfInBounds_toArray, List.set_cons_zero, List.set_cons_succ]
  refine wpAnyH_done (by kernel_rfl) ?_ _
  have OF := Lib.hid ((OB.out.trans' FR.out.only).trans' O41.out)
  go_wp2_with fail
  go_ret
  exact ⟨by simp, OF.out.toBelow⟩

/-! ### The step from the walk to the statement -/
set_option maxRecDepth 100000 in
theorem contract (H : Type) (enc : TypeId × Value → H) (W : World) (base : Nat) (args : Array Value) (ds gs : List (DataW H)) (before : List MemPlace)
    (hval0 : ∀ (j : Nat) t v, Try.f3.params[j]? = some t → args[j]? = some v → Value.okWide Try.prog W .any base t v)
    (hW : DataW.Whole enc Try.prog Try.f3.params.toList Rows.histAllSpec.vars false W args.toList ds gs before) :
    Calls Try.prog 3 args W fun e W' => ∃ v, e = .returned v ∧ Rows.histAllSpec.post enc Try.prog Try.f3 false true false false W args v W' := by
  have hval : ∀ (j : Nat) t v, Try.f3.params[j]? = some t → args[j]? = some v → Value.okWide Try.prog W .any base t v := hval0
  have hW' := hW
  obtain ⟨p, q, hA0, hV, rfl, hfz, hnd⟩ := hW
  have hA : DataW.TrodAll enc Try.prog W 0 (fun _ => true) true Try.f3.params.toList args.toList ds p := hA0
  rw [Try.params3] at hA hval
  obtain ⟨v0, vs0, d0, ds0, pl0, ql0, hargs, rfl, rfl, h0, r0⟩ := trodAll_cons hA
  obtain ⟨v1, vs1, d1, ds1, pl1, ql1, rfl, rfl, rfl, h1, r1⟩ := trodAll_cons r0
  obtain ⟨v2, vs2, d2, ds2, pl2, ql2, rfl, rfl, rfl, h2, r2⟩ := trodAll_cons r1
  obtain ⟨rfl, rfl, rfl⟩ := trodAll_nil r2
  obtain rfl : args = #[v0, v1, v2] := by cases args; simp_all
  obtain ⟨rfl, rfl⟩ := trodVars_none hV
  obtain ⟨a0, len0, cap0, rfl⟩ := okWide_slice Try.underlying22 (hval 0 22 v0 rfl rfl)
  have k0 := h0
  have lt0 : ∀ x ∈ pl0, x.block < W.heap.size := by obtain ⟨m, hm⟩ := k0; exact DataW.trod_lt m _ _ _ hm
  obtain ⟨z0, p0, w0, q0, sb0⟩ : ∃ (z : Nat → Dn) (p : Nat → List Pk), InDns W a0 len0 z ∧ (∀ k, k < len0 → InPk W (z k) (p k)) ∧ ∀ k, k < len0 → (z k).m ≤ Rows.uptoBulk d0 := by
    obtain ⟨fuel, hf⟩ := h0
    exact open_dones hf
  have k1 := h1
  have lt1 : ∀ x ∈ pl1, x.block < W.heap.size := by obtain ⟨m, hm⟩ := k1; exact DataW.trod_lt m _ _ _ hm
  obtain ⟨x1, p1, rfl, q1, sb1⟩ := open_doneV (hval 1 31 v1 rfl rfl) h1
  have k2 := h2
  have lt2 : ∀ x ∈ pl2, x.block < W.heap.size := by obtain ⟨m, hm⟩ := k2; exact DataW.trod_lt m _ _ _ hm
  obtain ⟨x2, p2, rfl, q2, sb2⟩ := open_doneV (hval 2 31 v2 rfl rfl) h2
  clear hA0 hval0
  refine (walk a0 len0 cap0 z0 p0 x1 p1 x2 p2 W w0 q0 q1 q2).mono fun e W' ⟨he, bel⟩ => ?_
  subst he
  exact ⟨_, rfl, _, _, _, [], _, [], hW', trodAll_mk1 (shut_bool Try.underlying4 _), (trodAll_cons_mk (Below.trod laidOut (by kernel_rfl) (of_decide_eq_true (by kernel_rfl)) k0 bel lt0) (trodAll_cons_mk (Below.trod laidOut (by kernel_rfl) (of_decide_eq_true (by kernel_rfl)) k1 bel lt1) (trodAll_cons_mk (Below.trod laidOut (by kernel_rfl) (of_decide_eq_true (by kernel_rfl)) k2 bel lt2) trodAll_mk0))), rfl, bel.frame _, fun h => by cases h⟩

set_option maxRecDepth 100000 in
theorem lifted (os : Os) (started : os.Started) (H : Type) (enc : TypeId × Value → H) :
    ReturnsInHanded {} Try.checked os 3 .any (Rows.histAllSpec.pre6 enc Try.prog Try.f3 Rows.histAllRow.domain false) (Rows.histAllSpec.post enc Try.prog Try.f3 false true false false) := by
  refine returnsInHanded_of_change (C := Try.checked) own started (by kernel_rfl) Try.func3
    (ChangeSpec.witness6 (enc := enc) (C := Try.checked) false ⟨#[], #[.slice none 0 0, .agg #[.int .i64 0, .int .i64 0, .int .i64 0, .int .i64 0, .int .i64 0, .int .i64 0, .int .i64 0, .slice none 0 0, .int .i64 0, .int .u64 0, .int .i64 0, .int .i64 0], .agg #[.int .i64 0, .int .i64 0, .int .i64 0, .int .i64 0, .int .i64 0, .int .i64 0, .int .i64 0, .slice none 0 0, .int .i64 0, .int .u64 0, .int .i64 0, .int .i64 0]], []⟩ 8 (by kernel_rfl) (by kernel_rfl) (by kernel_rfl) (by kernel_rfl)) ?_
  intro W base args ds gs before hval0 hW hcnd _
  exact contract H enc W base args ds gs before hval0 hW
theorem over : Rows.histAllRow.holds Try.pinned (OpenSpec.ofChange Rows.histAllSpec) :=
  OpenClaim.holds_of_wide 3 Try.f3 rfl rfl rfl rfl rfl rfl rfl ⟨rfl, rfl, rfl, rfl, rfl⟩ rfl rfl rfl rfl rfl (by kernel_rfl) Try.func3 (by kernel_rfl)
    (of_decide_eq_true (by kernel_rfl)) (by unfold Func.isWrapper; first | (rw [if_pos (by decide +kernel)]; kernel_rfl) | (rw [if_neg (by decide +kernel)]; exact ⟨rfl, rfl⟩))
    (fun os started H enc _ => lifted os started H enc)

/-- The statement. -/
theorem proved : Rows.HistAllSaid := over
#print axioms proved
end Go.Proofs.Ytocokmjobbmodaa.histAll
