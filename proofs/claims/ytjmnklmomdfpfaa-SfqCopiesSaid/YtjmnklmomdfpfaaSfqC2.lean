/-
  Two pairs side by side; a copy; what is told, written over.
-/
import Derived.Test.YtjmnklmomdfpfaaSfqX
namespace Go.Proofs.Ytjmnklmomdfpfaa
set_option maxRecDepth 100000
open Go.RowKit
set_option linter.unusedVariables false
set_option linter.unusedSimpArgs false
set_option maxRecDepth 100000

structure Q2 (w0 wr : World) (b c : Nat) (S : Sq) (O P : List Nat) (b' c' : Nat) (S' : Sq) (O' P' : List Nat) : Prop where
  one : QSnd w0 wr b c S O P
  two : QSnd w0 wr b' c' S' O' P'
  ap : ∀ k ∈ O ++ P, k ∉ O' ++ P'
section
variable {w0 wr w' : World} {b c b' c' : Nat} {S S' T : Sq} {O P O' P' : List Nat}
theorem Q2.swap (h : Q2 w0 wr b c S O P b' c' S' O' P') : Q2 w0 wr b' c' S' O' P' b c S O P := ⟨h.two, h.one, fun k hk hk2 => h.ap k hk2 hk⟩
theorem Q2.only0 (h : Q2 w0 wr b c S O P b' c' S' O' P') (ho : Only [] wr w') : Q2 w0 w' b c S O P b' c' S' O' P' := ⟨h.one.only0 ho, h.two.only0 ho, h.ap⟩
theorem Q2.fin (h : Q2 w0 wr b c S O P b' c' S' O' P') (hf : Fin2 wr b c T O P w') : ∃ O2 P2, Q2 w0 w' b c T O2 P2 b' c' S' O' P' := by
  obtain ⟨O2, P2, h1, h2⟩ := hf
  have t1 := h.one.went h1 h2
  refine ⟨O2, P2, t1, ⟨h.two.duo.only h2.1 (fun k hk hk2 => h.ap k hk2 hk), h.two.new, t1.only⟩, fun k hk hk2 => ?_⟩
  rcases h2.2 k hk with h3 | h3
  · exact h.ap k h3 hk2
  · have := h.two.duo.lt k hk2; omega
theorem Q2.step1 (h : Q2 w0 wr b c S O P b' c' S' O' P') (a : Ax) (ha : a.ok) (hl : S.l.length < 1000) :
    Calls Try.prog 13 #[.pointer (some ⟨b, 0, none⟩), .pointer (some ⟨c, 0, none⟩), .agg #[.int .i64 a.k, .int .i64 a.f, .int .i64 a.m, .int .u64 a.r, .int .i64 a.p.f, .int .i64 a.p.l, .int .i64 a.p.m]] wr fun e w' => e = .returned (.bool true) ∧ ∃ O2 P2, Q2 w0 w' b c (a.act S) O2 P2 b' c' S' O' P' :=
  (sStep wr b c S O P h.one.duo a ha hl).mono fun e w' q => ⟨q.1, h.fin q.2⟩
theorem Q2.step2 (h : Q2 w0 wr b c S O P b' c' S' O' P') (a : Ax) (ha : a.ok) (hl : S'.l.length < 1000) :
    Calls Try.prog 13 #[.pointer (some ⟨b', 0, none⟩), .pointer (some ⟨c', 0, none⟩), .agg #[.int .i64 a.k, .int .i64 a.f, .int .i64 a.m, .int .u64 a.r, .int .i64 a.p.f, .int .i64 a.p.l, .int .i64 a.p.m]] wr fun e w' => e = .returned (.bool true) ∧ ∃ O2 P2, Q2 w0 w' b c S O P b' c' (a.act S') O2 P2 :=
  (h.swap.step1 a ha hl).mono fun e w' ⟨q, O2, P2, h2⟩ => ⟨q, O2, P2, h2.swap⟩
theorem Q2.looks1 (h : Q2 w0 wr b c S O P b' c' S' O' P') : Calls Try.prog 14 #[.pointer (some ⟨b, 0, none⟩), .pointer (some ⟨c, 0, none⟩)] wr fun e w' => e = .returned (.bool true) ∧ Q2 w0 w' b c S O P b' c' S' O' P' :=
  (sLooks wr b c S O P h.one.duo).mono fun e w' q => ⟨q.1, h.only0 q.2⟩
theorem Q2.looks2 (h : Q2 w0 wr b c S O P b' c' S' O' P') : Calls Try.prog 14 #[.pointer (some ⟨b', 0, none⟩), .pointer (some ⟨c', 0, none⟩)] wr fun e w' => e = .returned (.bool true) ∧ Q2 w0 w' b c S O P b' c' S' O' P' :=
  (sLooks wr b' c' S' O' P' h.two.duo).mono fun e w' q => ⟨q.1, h.only0 q.2⟩
/-- Something new is written over. -/
theorem QSnd.spoil {u w2 : World} (h : QSnd w0 wr b c S O P) {v : Value} (o : Only [] wr u) (hv : ∀ k, v.ownBlock = Option.some k → wr.heap.size ≤ k) (hs : Only v.ownBlock.toList u w2) : QSnd w0 w2 b c S O P := by
  have hu := h.only0 o
  refine ⟨hu.duo.only hs (fun k hk hk2 => ?_), h.new, hu.only.trans hs (fun k hk => .inr (Nat.le_trans h.only.size (hv k (Option.mem_toList.1 hk))))⟩
  have := h.duo.lt k hk
  have := hv k (Option.mem_toList.1 hk2)
  omega
/-- A copy of both. -/
theorem QSnd.copied {u1 u2 : World} {nb nc : Nat} {O1 P1 : List Nat} (h : QSnd w0 wr b c S O P) (h1 : SqOf u1 nb S O1) (o1 : Only [] wr u1) (n1 : ∀ k ∈ O1, wr.heap.size ≤ k) (h2 : RqOf u2 nc S P1) (o2 : Only [] u1 u2) (n2 : ∀ k ∈ P1, u1.heap.size ≤ k) : Q2 w0 u2 b c S O P nb nc S O1 P1 := by
  have s0 := h.only.size
  have s1 := o1.size
  refine ⟨(h.only0 o1).only0 o2, ⟨⟨h1.only0 o2, h2, fun k hk hk2 => ?_⟩, fun k hk => ?_, (h.only.trans' o1).trans' o2⟩, fun k hk hk2 => ?_⟩
  · have := h1.lt k hk; have := n2 k hk2; omega
  · rcases List.mem_append.1 hk with hk | hk
    · have := n1 k hk; omega
    · have := n2 k hk; omega
  · have := h.duo.lt k hk
    rcases List.mem_append.1 hk2 with hk2 | hk2
    · have := n1 k hk2; omega
    · have := n2 k hk2; omega
end
end Go.Proofs.Ytjmnklmomdfpfaa
