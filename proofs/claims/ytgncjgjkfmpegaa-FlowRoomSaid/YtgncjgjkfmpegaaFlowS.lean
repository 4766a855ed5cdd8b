/-
  step.
-/
import Derived.Test.YtgncjgjkfmpegaaFlowH
namespace Go.Proofs.Ytgncjgjkfmpegaa
set_option maxRecDepth 100000
open Go.RowKit
set_option linter.unusedVariables false
set_option linter.unusedSimpArgs false
set_option maxRecDepth 100000

/-- A block that holds one act. -/
def ABox (w : World) (b : Nat) (a : Ak) : Prop := w.heap[b]? = some (.cells #[.int .i64 a.k, .int .u64 a.v, .int .i64 a.p.f, .int .i64 a.p.l, .int .i64 a.p.m] 34 (0, 0))
theorem ABox.c {w : World} {b : Nat} {a : Ak} (h : ABox w b a) : w.cell? ⟨b, 0, none⟩ = some (.int .i64 a.k) ∧ w.cell? ⟨b, 1, none⟩ = some (.int .u64 a.v) ∧ w.cell? ⟨b, 2, none⟩ = some (.int .i64 a.p.f) ∧ w.cell? ⟨b, 3, none⟩ = some (.int .i64 a.p.l) ∧ w.cell? ⟨b, 4, none⟩ = some (.int .i64 a.p.m) :=
  ⟨by rw [cell_of_row w b 0 _ _ _ h]; rfl, by rw [cell_of_row w b 1 _ _ _ h]; rfl, by rw [cell_of_row w b 2 _ _ _ h]; rfl, by rw [cell_of_row w b 3 _ _ _ h]; rfl, by rw [cell_of_row w b 4 _ _ _ h]; rfl⟩
theorem ABox.only {w w' : World} {b : Nat} {a : Ak} {S : List Nat} (h : ABox w b a) (ho : Only S w w') (hS : b ∉ S) : ABox w' b a := ho.get h hS
theorem ABox.new (w : World) (a : Ak) : ABox (w.alloc (.cells #[.int .i64 a.k, .int .u64 a.v, .int .i64 a.p.f, .int .i64 a.p.l, .int .i64 a.p.m] 34)) w.heap.size a := heap_alloc_new w _

section
variable {V W U : World} {N b c : Nat} {a : Ak} {F F' : Fl} {O P : List Nat}
/-- Ahead of the first Arrive; between the two; behind both. -/
def StA (V : World) (N b c : Nat) (a : Ak) (F : Fl) (O P : List Nat) (W : World) : Prop := ABox W N a ∧ Duo W b c F O P ∧ Only [] V W
def StB (V : World) (N b c : Nat) (a : Ak) (F F' : Fl) (O P : List Nat) (W : World) : Prop := ABox W N a ∧ ∃ O', FlowOf W b F' O' ∧ RefOf W c 0 F P ∧ (∀ k ∈ O', k ∉ P) ∧ Went V O W O'
def StC (V : World) (N b c : Nat) (a : Ak) (F' : Fl) (O P : List Nat) (W : World) : Prop := ABox W N a ∧ ∃ O' P', Duo W b c F' O' P' ∧ Went V (O ++ P) W (O' ++ P')
theorem StA.only (h : StA V N b c a F O P W) (ho : Only [] W U) : StA V N b c a F O P U := ⟨h.1.only ho (by simp), h.2.1.only0 ho, h.2.2.trans' ho⟩
theorem StB.only (h : StB V N b c a F F' O P W) (ho : Only [] W U) : StB V N b c a F F' O P U := by
  obtain ⟨h1, O', h2, h3, h4, h5⟩ := h
  exact ⟨h1.only ho (by simp), O', h2.only0 ho, h3.only0 ho, h4, h5.trans (Went.still ho O')⟩
theorem StA.arrive (h : StA V N b c a F O P W) (hN : N ∉ O) (hf : FTo W b O F' U) : StB V N b c a F F' O P U := by
  obtain ⟨h1, h2, h3⟩ := h
  obtain ⟨O', f1, f2⟩ := hf
  obtain ⟨r1, r2⟩ := h2.rf.beside f2 h2.ap
  exact ⟨h1.only f2.1 hN, O', f1, r1, r2, (Went.still h3 O).trans f2⟩
theorem StB.arrive (h : StB V N b c a F F' O P W) (hN : N ∉ P) (hf : RTo W c 0 P F' U) : StC V N b c a F' O P U := by
  obtain ⟨h1, O', h2, h3, h4, h5⟩ := h
  obtain ⟨P', f1, f2⟩ := hf
  obtain ⟨r1, r2⟩ := h2.beside f2 h4
  exact ⟨h1.only f2.1 hN, O', P', ⟨r1, f1, r2⟩, h5.two f2⟩
end
set_option maxHeartbeats 4000000 in
theorem fStep (w : World) (b c : Nat) (F : Fl) (O P : List Nat) (h : Duo w b c F O P) (a : Ak) (ha : a.ok) :
    Calls Try.prog 12 #[.pointer (some ⟨b, 0, none⟩), .pointer (some ⟨c, 0, none⟩), .agg #[.int .i64 a.k, .int .u64 a.v, .int .i64 a.p.f, .int .i64 a.p.l, .int .i64 a.p.m]] w fun e w' => e = .returned (.bool true) ∧ ∃ F' O' P', Duo w' b c F' O' P' ∧ Went w (O ++ P) w' (O' ++ P') := by
  obtain ⟨q, hq, m1⟩ := fModN a.k 5 (by omega) (by omega)
  change ∀ w, Calls _ _ #[.int .i64 a.k, .int .i64 5] w _ at m1
  have o0 : Only [] w (w.alloc (.cells #[.int .i64 a.k, .int .u64 a.v, .int .i64 a.p.f, .int .i64 a.p.l, .int .i64 a.p.m] 34)) := (Only.refl [] w).alloc _
  have ba := ABox.new w a
  have hNO : w.heap.size ∉ O := fun hk => Nat.lt_irrefl _ (h.fl.lt _ hk)
  have hNP : w.heap.size ∉ P := fun hk => Nat.lt_irrefl _ (h.rf.lt _ hk)
  by_cases h3 : q < 3
  · have h3' : (q : Int) < 3 := by omega
    obtain ⟨vt, hvt, hv⟩ := aV a ha
    obtain ⟨p, hp, hpk⟩ := aPacket a ha
    have hA : Hid (∀ W, StA w w.heap.size b c a F O P W → Calls Try.prog 14 #[.pointer (some ⟨b, 0, none⟩), .int .u64 vt, .agg #[.int .i64 p.f, .int .i64 p.l, .int .i64 p.m]] W fun e U => e = .returned (.bool F.takes) ∧ StB w w.heap.size b c a F (F.arr vt p) O P U) := fun W hW =>
      (flArrive W b F O hW.2.1.fl vt hvt p hp).mono fun e U hU => ⟨hU.1, hW.arrive hNO hU.2⟩
    have hX : Hid (∀ W, StB w w.heap.size b c a F (F.arr vt p) O P W → Calls Try.prog 29 #[.pointer (some ⟨c, 0, none⟩), .int .u64 vt, .agg #[.int .i64 p.f, .int .i64 p.l, .int .i64 p.m]] W fun e U => e = .returned (.bool F.takes) ∧ StC w w.heap.size b c a (F.arr vt p) O P U) := fun W hW => by
      have hW2 := hW
      obtain ⟨_, O', _, hr, _, _⟩ := hW2
      exact (rlArrive W c 0 F P hr vt hvt p hp).mono fun e U hU => ⟨hU.1, hW.arrive hNP hU.2⟩
    have st : Hid (StA w w.heap.size b c a F O P (w.alloc (.cells #[.int .i64 a.k, .int .u64 a.v, .int .i64 a.p.f, .int .i64 a.p.l, .int .i64 a.p.m] 34))) := ⟨ba, h.only0 o0, o0⟩
    have hv := Lib.hid hv
    have hpk := Lib.hid hpk
    clear h o0 ba hNO hNP
    go_enter Try.func12, Try.ntmps12
    go_wp2_with fail
    refine (m1 _).mono ?_
    rintro e w1 ⟨rfl, rfl⟩
    go_wp2_with fail
    generalize w.alloc (.cells #[.int .i64 a.k, .int .u64 a.v, .int .i64 a.p.f, .int .i64 a.p.l, .int .i64 a.p.m] 34) = V at *
    obtain ⟨a0, a1, a2, a3, a4⟩ := st.out.1.c
    have st : Hid (StA w w.heap.size b c a F O P V.drew) := st.out.only (Only.refl [] V).drew
    clear m1
    go_region_held3 (fun w' => w'.cell? ⟨w.heap.size, 0, none⟩ = some (.int .i64 a.k) ∧ w'.cell? ⟨w.heap.size, 1, none⟩ = some (.int .u64 a.v) ∧ w'.cell? ⟨w.heap.size, 2, none⟩ = some (.int .i64 a.p.f) ∧ w'.cell? ⟨w.heap.size, 3, none⟩ = some (.int .i64 a.p.l) ∧ w'.cell? ⟨w.heap.size, 4, none⟩ = some (.int .i64 a.p.m))
      (first | (exact st.out.1.c) | go_keep)
      (first
        | (go_at_call 19; refine (hv.out _).mono ?_; rintro e u ⟨rfl, o⟩; first | (have st := Lib.hid (StA.only st.out o)) | (have st := Lib.hid (StB.only st.out o)))
        | (go_at_call 20; refine (hpk.out _).mono ?_; rintro e u ⟨rfl, o⟩; first | (have st := Lib.hid (StA.only st.out o)) | (have st := Lib.hid (StB.only st.out o)))
        | (go_at_call 14; refine (hA.out _ st.out).mono ?_; rintro e u ⟨rfl, o⟩; have st := Lib.hid o; clear o)
        | (go_at_call 29; refine (hX.out _ st.out).mono ?_; rintro e u ⟨rfl, o⟩; have st := Lib.hid o; clear o))
    all_goals
      go_wp2_with fail
      go_ret
      obtain ⟨_, O', P', d1, d2⟩ := st.out
      exact ⟨by simp, _, O', P', d1, d2⟩
  · have h3' : ¬ ((q : Int) < 3) := by omega
    have hg := pk_guard
    have he := pk_eql F.hd F.hd
    simp only [decide_true] at he
    have k1 := flServe _ b F O (h.only0 o0).fl
    have H := Lib.hid (And.intro h o0)
    clear h o0 ba
    go_enter Try.func12, Try.ntmps12
    go_wp2_with fail
    refine (m1 _).mono ?_
    rintro e w1 ⟨rfl, rfl⟩
    go_wp2_with fail
    refine k1.mono ?_
    rintro e w2 ⟨rfl, O2, f2, g2⟩
    obtain ⟨r2, ap2⟩ := ((H.out.1.only0 H.out.2).rf).beside g2 H.out.1.ap
    have o3 : Only [] w2 (w2.alloc (.cells #[.int .i64 F.hd.f, .int .i64 F.hd.l, .int .i64 F.hd.m] 32)) := (Only.refl [] w2).alloc _
    have bx := PBox.new w2 F.hd
    have k2 := rlServe _ c 0 F P (r2.only0 o3)
    have hNP2 : w2.heap.size ∉ P := fun hk => Nat.lt_irrefl _ (r2.lt _ hk)
    have R2 := Lib.hid (And.intro f2 (And.intro ap2 (And.intro ((Went.still H.out.2 O).trans g2) o3)))
    clear k1 f2 g2 r2 ap2 o3
    go_wp2_with fail
    refine k2.mono ?_
    rintro e w4 ⟨rfl, P2, f4, g4⟩
    have bx4 := bx.only g4.1 hNP2
    obtain ⟨x0, x1, x2⟩ := bx4.c
    have bx5 := bx4.only (w' := w4.alloc (.cells #[.int .i64 F.hd.f, .int .i64 F.hd.l, .int .i64 F.hd.m] 32)) ((Only.refl [] w4).alloc _) (by simp)
    obtain ⟨y0, y1, y2⟩ := bx5.c
    have R4 := Lib.hid (And.intro f4 g4)
    clear k2 f4 g4 bx4 bx5 bx
    go_wp2_with fail
    go_ret
    obtain ⟨f2, ap2, g2, o3⟩ := R2.out
    obtain ⟨f4, g4⟩ := R4.out
    have o5 : Only [] w4 (w4.alloc (.cells #[.int .i64 F.hd.f, .int .i64 F.hd.l, .int .i64 F.hd.m] 32)) := (Only.refl [] w4).alloc _
    obtain ⟨d1, d2⟩ := (f2.only0 o3).beside g4 ap2
    refine ⟨by simp, F.srv, O2, P2, (⟨d1, f4, d2⟩ : Duo w4 b c F.srv O2 P2).only0 o5, ?_⟩
    exact ((g2.trans (Went.still o3 O2)).two g4).trans (Went.still o5 _)
end Go.Proofs.Ytgncjgjkfmpegaa
