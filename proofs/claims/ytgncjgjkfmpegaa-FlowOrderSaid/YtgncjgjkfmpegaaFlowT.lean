/-
  What walks keep: a flow alone (FOne), two flows each beside the document's (FTwo); lengths and tags of a flow as numbers.
-/
import Derived.Test.YtgncjgjkfmpegaaFlowX
namespace Go.Proofs.Ytgncjgjkfmpegaa
set_option maxRecDepth 100000
open Go.RowKit
set_option linter.unusedVariables false
set_option linter.unusedSimpArgs false
set_option maxRecDepth 100000

/-! ### numbers -/
theorem Fl.arr_full {F : Fl} (h : F.takes = false) (v : Int) (x : Pk) : F.arr v x = F := by
  unfold Fl.takes at h
  unfold Fl.arr
  rw [if_pos (by simpa using h)]
theorem Fl.arr_in {F : Fl} (h : F.takes = true) (v : Int) (x : Pk) : F.arr v x = ⟨F.r, F.n, if F.l = [] then max v F.e else F.s, F.e, F.l ++ [x]⟩ := by
  unfold Fl.takes at h
  unfold Fl.arr
  rw [if_neg (by simpa using h)]
theorem Fl.takes_lt {F : Fl} (h : F.ok) (hl : F.l.length < F.n) : F.takes = true := by unfold Fl.takes; simp; omega
theorem Fl.takes_eq {F : Fl} (hl : F.l.length = F.n) : F.takes = false := by unfold Fl.takes; simp [hl]
theorem Fl.any_nil {F : Fl} (h : F.l = []) : F.any = false := by unfold Fl.any; rw [h]; rfl
theorem Fl.any_cons {F : Fl} (h : F.l ≠ []) : F.any = true := by
  unfold Fl.any
  rcases hl : F.l with _ | ⟨x, t⟩
  · exact absurd hl h
  · rfl
theorem Fl.srv_nil {F : Fl} (h : F.l = []) : F.srv = F := by unfold Fl.srv; rw [if_pos h]
theorem Fl.srv_cons {F : Fl} {x : Pk} {t : List Pk} (h : F.l = x :: t) : F.srv = ⟨F.r, F.n, F.fin, F.fin, t⟩ := by unfold Fl.srv; rw [if_neg (by rw [h]; simp), h]; rfl

/-! ### a flow alone -/
structure FOne (w0 wr : World) (b : Nat) (F : Fl) (O : List Nat) : Prop where
  fl : FlowOf wr b F O
  new : ∀ k ∈ O, w0.heap.size ≤ k
  only : Only [] w0 wr
section
variable {w0 wr w' : World} {b c : Nat} {F F' : Fl} {O P O' P' : List Nat}
theorem FOne.only0 (h : FOne w0 wr b F O) (ho : Only [] wr w') : FOne w0 w' b F O := ⟨h.fl.only0 ho, h.new, h.only.trans' ho⟩
theorem FOne.to (h : FOne w0 wr b F O) (ht : FTo wr b O F' w') : ∃ O', FOne w0 w' b F' O' ∧ Went wr O w' O' := by
  obtain ⟨O', h1, h2⟩ := ht
  exact ⟨O', ⟨h1, fun k hk => (h2.2 k hk).elim (h.new k) (fun h3 => Nat.le_trans h.only.size h3), h.only.trans h2.1 (fun k hk => .inr (h.new k hk))⟩, h2⟩
theorem FSound.one (h : FSound w0 wr b c F O P) : FOne w0 wr b F O := ⟨h.duo.fl, fun k hk => h.new k (by simp [hk]), h.only⟩
theorem FOne.len (h : FOne w0 wr b F O) : Calls Try.prog 15 #[.pointer (some ⟨b, 0, none⟩)] wr fun e w' => e = .returned (.int .i64 (F.l.length : Int)) ∧ w' = wr := flLen wr b F O h.fl
theorem FOne.finish (h : FOne w0 wr b F O) : Calls Try.prog 22 #[.pointer (some ⟨b, 0, none⟩)] wr fun e w' => e = .returned (.int .u64 F.e) ∧ w' = wr := flFinish wr b F O h.fl
theorem FOne.start (h : FOne w0 wr b F O) : Calls Try.prog 21 #[.pointer (some ⟨b, 0, none⟩)] wr fun e w' => e = .returned (.tuple #[.int .u64 F.st, .bool F.any]) ∧ w' = wr := flStart wr b F O h.fl
theorem FOne.serve (h : FOne w0 wr b F O) : Calls Try.prog 16 #[.pointer (some ⟨b, 0, none⟩)] wr fun e w' => e = .returned (.tuple #[.agg #[.int .i64 F.hd.f, .int .i64 F.hd.l, .int .i64 F.hd.m], .int .u64 F.out, .bool F.any]) ∧ ∃ O', FOne w0 w' b F.srv O' ∧ Went wr O w' O' :=
  (flServe wr b F O h.fl).mono fun e w' q => ⟨q.1, h.to q.2⟩
theorem FOne.arrive (h : FOne w0 wr b F O) (vt : Int) (hvt : U64 vt) (x : Pk) (hx : x.ok) : Calls Try.prog 14 #[.pointer (some ⟨b, 0, none⟩), .int .u64 vt, .agg #[.int .i64 x.f, .int .i64 x.l, .int .i64 x.m]] wr fun e w' => e = .returned (.bool F.takes) ∧ ∃ O', FOne w0 w' b (F.arr vt x) O' ∧ Went wr O w' O' :=
  (flArrive wr b F O h.fl vt hvt x hx).mono fun e w' q => ⟨q.1, h.to q.2⟩
end
theorem new_one (w : World) (r most : Int) (hr : U64 r) :
    Calls Try.prog 13 #[.int .u64 r, .int .i64 most] w fun e w' => e = .returned (.pointer (some ⟨w.heap.size, 0, none⟩)) ∧ FOne w w' w.heap.size (Fl.new r (room most)) [w.heap.size] :=
  (flNew w r most hr).mono fun e w' q => ⟨q.1, q.2.1, by simp, q.2.2⟩

/-! ### two, each beside the document's -/
structure FTwo (w0 wr : World) (b c : Nat) (F : Fl) (O P : List Nat) (b' c' : Nat) (F' : Fl) (O' P' : List Nat) : Prop where
  a : FSound w0 wr b c F O P
  z : FSound w0 wr b' c' F' O' P'
  ap : ∀ k ∈ O ++ P, k ∉ O' ++ P'
section
variable {w0 wr w' : World} {b c b' c' : Nat} {F F' : Fl} {O P O' P' : List Nat}
theorem FTwo.looksA (h : FTwo w0 wr b c F O P b' c' F' O' P') : Calls Try.prog 11 #[.pointer (some ⟨b, 0, none⟩), .pointer (some ⟨c, 0, none⟩)] wr fun e w' => e = .returned (.bool true) ∧ FTwo w0 w' b c F O P b' c' F' O' P' :=
  (fLooks wr b c F O P h.a.duo).mono fun e w' q => ⟨q.1, h.a.only0 q.2, h.z.only0 q.2, h.ap⟩
theorem FTwo.looksZ (h : FTwo w0 wr b c F O P b' c' F' O' P') : Calls Try.prog 11 #[.pointer (some ⟨b', 0, none⟩), .pointer (some ⟨c', 0, none⟩)] wr fun e w' => e = .returned (.bool true) ∧ FTwo w0 w' b c F O P b' c' F' O' P' :=
  (fLooks wr b' c' F' O' P' h.z.duo).mono fun e w' q => ⟨q.1, h.a.only0 q.2, h.z.only0 q.2, h.ap⟩
theorem FTwo.turnA {F2 : Fl} {O2 P2 : List Nat} (h : FTwo w0 wr b c F O P b' c' F' O' P') (hd : Duo w' b c F2 O2 P2) (hw : Went wr (O ++ P) w' (O2 ++ P2)) : FTwo w0 w' b c F2 O2 P2 b' c' F' O' P' := by
  have ha := h.a.went hd hw
  refine ⟨ha, ⟨h.z.duo.only hw.1 (fun k hk hk2 => h.ap k hk2 hk), h.z.new, ha.only⟩, fun k hk hk2 => ?_⟩
  rcases hw.2 k hk with h1 | h1
  · exact h.ap k h1 hk2
  · have := h.z.duo.lt k hk2; omega
theorem FTwo.swap (h : FTwo w0 wr b c F O P b' c' F' O' P') : FTwo w0 wr b' c' F' O' P' b c F O P := ⟨h.z, h.a, fun k hk hk2 => h.ap k hk2 hk⟩
theorem FTwo.stepA (h : FTwo w0 wr b c F O P b' c' F' O' P') (a : Ak) (ha : a.ok) :
    Calls Try.prog 12 #[.pointer (some ⟨b, 0, none⟩), .pointer (some ⟨c, 0, none⟩), .agg #[.int .i64 a.k, .int .u64 a.v, .int .i64 a.p.f, .int .i64 a.p.l, .int .i64 a.p.m]] wr fun e w' => e = .returned (.bool true) ∧ ∃ F2 O2 P2, FTwo w0 w' b c F2 O2 P2 b' c' F' O' P' :=
  (fStep wr b c F O P h.a.duo a ha).mono fun e w' q => by
    obtain ⟨q1, F2, O2, P2, q2, q3⟩ := q
    exact ⟨q1, F2, O2, P2, h.turnA q2 q3⟩
theorem FTwo.stepZ (h : FTwo w0 wr b c F O P b' c' F' O' P') (a : Ak) (ha : a.ok) :
    Calls Try.prog 12 #[.pointer (some ⟨b', 0, none⟩), .pointer (some ⟨c', 0, none⟩), .agg #[.int .i64 a.k, .int .u64 a.v, .int .i64 a.p.f, .int .i64 a.p.l, .int .i64 a.p.m]] wr fun e w' => e = .returned (.bool true) ∧ ∃ F2 O2 P2, FTwo w0 w' b c F O P b' c' F2 O2 P2 :=
  (h.swap.stepA a ha).mono fun e w' q => by
    obtain ⟨q1, F2, O2, P2, q2⟩ := q
    exact ⟨q1, F2, O2, P2, q2.swap⟩
/-- Copies of both. -/
theorem FSound.copy (h : FSound w0 wr b c F O P) :
    Calls Try.prog 25 #[.pointer (some ⟨b, 0, none⟩)] wr fun e w1 => e = .returned (.pointer (some ⟨wr.heap.size, 0, none⟩)) ∧ ∃ O', FSound w0 w1 b c F O P ∧ FlowOf w1 wr.heap.size F O' ∧ (∀ k ∈ O', wr.heap.size ≤ k) ∧ wr.heap.size ≤ w1.heap.size :=
  (flCopy wr b F O h.duo.fl).mono fun e w1 q => by
    obtain ⟨q1, O', q2, q3, q4⟩ := q
    exact ⟨q1, O', h.only0 q3, q2, q4, q3.size⟩
theorem FSound.copyRef {B : Nat} {O' : List Nat} (h : FSound w0 wr b c F O P) (hf : FlowOf wr B F O') (hB : ∀ k ∈ O', ∀ j ∈ O ++ P, j < k) (hn : ∀ k ∈ O', w0.heap.size ≤ k) :
    Calls Try.prog 26 #[.pointer (some ⟨c, 0, none⟩)] wr fun e w1 => e = .returned (.pointer (some ⟨wr.heap.size, 0, none⟩)) ∧ ∃ P', FTwo w0 w1 b c F O P B wr.heap.size F O' P' :=
  (rlCopy wr c 0 F P h.duo.rf).mono fun e w1 q => by
    obtain ⟨q1, P', q2, q3, q4⟩ := q
    refine ⟨q1, P', h.only0 q3, ⟨⟨hf.only0 q3, q2, fun k hk hk2 => ?_⟩, fun k hk => ?_, h.only.trans' q3⟩, fun k hk hk2 => ?_⟩
    · have a1 := hf.lt k hk; have a2 := q4 k hk2; omega
    · rcases List.mem_append.1 hk with hk | hk
      · exact hn k hk
      · exact Nat.le_trans h.only.size (q4 k hk)
    · rcases List.mem_append.1 hk2 with hk2 | hk2
      · exact Nat.lt_irrefl _ (hB k hk2 k hk)
      · have a1 := h.duo.lt k hk; have a2 := q4 k hk2; omega
end
end Go.Proofs.Ytgncjgjkfmpegaa
