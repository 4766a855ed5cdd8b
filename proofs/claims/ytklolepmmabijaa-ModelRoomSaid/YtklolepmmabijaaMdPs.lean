/-
  Flows of one shard: what the walk of ModelRoom keeps.
-/
import Derived.Test.YtklolepmmabijaaMdPr
namespace Go.Proofs.Ytklolepmmabijaa
set_option maxRecDepth 100000
open Go.RowKit
set_option linter.unusedVariables false
set_option linter.unusedSimpArgs false
set_option maxRecDepth 100000

theorem inSh_len (s sh : Int) (n : Nat) : (inSh s sh n).length = n := by unfold inSh; simp
theorem inSh1_len (s sh : Int) (n : Nat) : (inSh1 s sh n).length = n := by unfold inSh1; simp
section
variable {s sh : Int} (h0 : 0 ≤ s) (h1 : s < sh)
include h0 h1
theorem taken_in (n : Nat) : takenI (inSh s sh n) sh s = n := by
  rw [takenI_all, inSh_len]
  intro x hx
  obtain ⟨j, _, rfl⟩ := inSh_mem.1 hx
  exact fall h0 h1 (by omega)
theorem taken_in1 (n : Nat) : takenI (inSh1 s sh n) sh s = n := by
  rw [takenI_all, inSh1_len]
  intro x hx
  obtain ⟨j, _, rfl⟩ := inSh1_mem.1 hx
  exact fall h0 h1 (by omega)
theorem far_in {n : Nat} {t : Int} (ht : (n : Int) ≤ t) : s + t * sh ∉ inSh s sh n := fun hx => by
  obtain ⟨j, hj, e⟩ := inSh_mem.1 hx
  have := fall_inj (by omega) e
  omega
theorem far_in1 {n : Nat} {t : Int} (ht : (n : Int) < t) : s + t * sh ∉ inSh1 s sh n := fun hx => by
  obtain ⟨j, hj, e⟩ := inSh1_mem.1 hx
  have := fall_inj (by omega) e
  omega
theorem self_in1 (n : Nat) : s ∉ inSh1 s sh n := fun hx => by
  obtain ⟨j, hj, e⟩ := inSh1_mem.1 hx
  have e2 : s + ((j : Int) + 1) * sh = s + 0 * sh := by omega
  have := fall_inj (by omega) e2
  omega
theorem other_in {y : Int} (hy : y.tmod sh ≠ s) (n : Nat) : y ∉ inSh s sh n ∧ y ∉ inSh1 s sh n := by
  refine ⟨fun hx => ?_, fun hx => ?_⟩
  · obtain ⟨j, hj, e⟩ := inSh_mem.1 hx
    exact hy (by rw [← e]; exact fall h0 h1 (by omega))
  · obtain ⟨j, hj, e⟩ := inSh1_mem.1 hx
    exact hy (by rw [← e]; exact fall h0 h1 (by omega))
theorem taken_other {y : Int} (hy : y ≠ s) (n : Nat) : takenI (inSh s sh n) sh y = 0 := by
  refine takenI_none fun x hx e => ?_
  obtain ⟨j, _, rfl⟩ := inSh_mem.1 hx
  rw [fall h0 h1 (by omega)] at e
  exact hy e.symm
end
theorem small_mul {p sh : Int} (h0 : 0 ≤ p) (hp : p ≤ 1010) (h1 : 1 ≤ sh) (h4 : sh ≤ 4) : 0 ≤ p * sh ∧ p * sh ≤ 4040 := by
  have a := Int.mul_nonneg h0 (by omega : 0 ≤ sh)
  have b := Int.mul_le_mul_of_nonneg_left h4 h0
  omega
/-- The next shard. -/
theorem next_shard {s sh : Int} (h0 : 0 ≤ s) (h1 : s < sh) (h2 : 1 < sh) : ∃ y, (s + 1).tmod sh = y ∧ 0 ≤ y ∧ y < sh ∧ y ≠ s ∧ y.tmod sh = y := by
  refine ⟨_, rfl, ?_⟩
  rw [Int.tmod_eq_emod_of_nonneg (by omega)]
  have a := Int.emod_nonneg (s + 1) (by omega : sh ≠ 0)
  have b := Int.emod_lt_of_pos (s + 1) (by omega : 0 < sh)
  refine ⟨a, b, ?_, ?_⟩
  · by_cases e : s + 1 = sh
    · rw [e, Int.emod_self]; omega
    · rw [Int.emod_eq_of_lt (by omega) (by omega)]; omega
  · rw [Int.tmod_eq_emod_of_nonneg a]
    exact Int.emod_eq_of_lt a b

/-- The model, the config's box and the call's box. -/
structure Rm (w0 wr : World) (b N NG : Nat) (d : Cf) (M : Md) (I : List Int) (f : Int) (k j : Nat) (O : List Nat) : Prop where
  mo : Mo w0 wr b M O
  em : Em M I
  ok : M.ok k j
  c : M.c = d
  g : GBox wr N d
  r : CBox wr NG ⟨1, f, 1, 1⟩
  gO : N ∉ O
  rO : NG ∉ O
  ne : N ≠ NG
  new : w0.heap.size ≤ NG
section
variable {w0 wr w' : World} {b N NG k j k' j' : Nat} {d : Cf} {M M' : Md} {I I' : List Int} {f : Int} {O : List Nat} {v : Value} {ps : List Pk}
theorem Rm.on (h : Rm w0 wr b N NG d M I f k j O) (ho : Only [] wr w') : Rm w0 w' b N NG d M I f k j O := ⟨h.mo.on ho, h.em, h.ok, h.c, h.g.only0 ho, h.r.only0 ho, h.gO, h.rO, h.ne, h.new⟩
theorem Rm.flow (h : Rm w0 wr b N NG d M I f k j O) (y : Int) : Rm w0 (wr.setCell ⟨NG, 1, none⟩ (.int .i64 y)) b N NG d M I y k j O := by
  have ho : Only [NG] wr (wr.setCell ⟨NG, 1, none⟩ (.int .i64 y)) := (Only.refl [NG] wr).setCell (by simp) _
  exact ⟨⟨(rep_md b M).only h.mo.fl ho (fun k hk hk2 => by simp at hk2; subst hk2; exact h.rO hk), h.mo.new, h.mo.only.trans ho (fun k hk => by simp at hk; subst hk; exact .inr h.new)⟩, h.em, h.ok, h.c, h.g.only ho (by simpa using h.ne), h.r.set1 y, h.gO, h.rO, h.ne, h.new⟩
theorem Rm.did (h : Rm w0 wr b N NG d M I f k j O) (t : Tl (MdOf b M') wr O v ps w') (em : Em M' I') (hc : M'.c = M.c) (hok : M'.ok k' j') : ∃ O', Rm w0 w' b N NG d M' I' f k' j' O' := by
  obtain ⟨O', r, hw, _, _⟩ := t
  have out : ∀ q, q < wr.heap.size → q ∉ O → q ∉ O' := fun q h1 h2 h3 => by
    rcases hw.2 q h3 with h4 | h4
    · exact h2 h4
    · omega
  exact ⟨O', h.mo.went r hw, em, hok, hc.trans h.c, h.g.only hw.1 h.gO, h.r.only hw.1 h.rO, out N h.g.lt h.gO, out NG h.r.lt h.rO, h.ne, h.new⟩
/-- Do, what it tells known. -/
theorem Rm.do (h : Rm w0 wr b N NG d M I f k j O) (cl : Cl) (hc : cl.ok) (hk : k < 1000) (hj : j + 16 ≤ 1000000) {e0 : Int} (ht : M.todo cl = (M', Rt.code e0)) (em : Em M' I') (hcc : M'.c = M.c) :
    Calls Try.prog 16 #[.pointer (some ⟨b, 0, none⟩), .agg #[.int .i64 cl.op, .int .i64 cl.f, .int .i64 cl.a, .int .i64 cl.b]] wr fun e w' => ∃ A cap, e = .returned (.agg #[.int .i64 e0, .slice A 0 cap, .int .i64 0, .int .u64 0]) ∧ ∃ O', Rm w0 w' b N NG d M' I' f (k + 1) (j + 16) O' := by
  refine (mDo wr b M O h.mo.fl cl hc k j h.ok hk hj).mono fun e w' q => ?_
  have hok := h.ok.todo hc hk
  unfold Told at q
  rw [ht] at q hok
  obtain ⟨A, cap, e1, t⟩ := q
  exact ⟨A, cap, e1, h.did t em hcc hok⟩
end
end Go.Proofs.Ytklolepmmabijaa
