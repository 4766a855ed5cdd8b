/-
  The statements' words: a scheduler beside the document's; acts, near, Mod.
  Plain and Spoil at ints; looks.
-/
import Derived.Test.YtklolepmmabijaaGmU
import Derived.Test.YtklolepmmabijaaSfqS
import Derived.Test.YtklolepmmabijaaSfqW
import Derived.Test.YtklolepmmabijaaSfqRC
import Derived.Test.YtklolepmmabijaaSfqRD
import Derived.Test.YtklolepmmabijaaSfqRE
import Derived.Test.YtklolepmmabijaaSfqRF
import Derived.Test.YtklolepmmabijaaGmC
import Derived.Test.YtklolepmmabijaaGmI
namespace Go.Proofs.Ytklolepmmabijaa
set_option maxRecDepth 100000
open Go.RowKit
set_option linter.unusedVariables false
set_option linter.unusedSimpArgs false
set_option maxRecDepth 100000

/-- A scheduler beside the document's, both the same as numbers. -/
structure Dq (w : World) (b c : Nat) (S : Sq) (O P : List Nat) : Prop where
  fl : SqOf w b S O
  rf : RqOf w c S P
  ap : ∀ k ∈ O, k ∉ P
section
variable {w w' : World} {b c : Nat} {S S' : Sq} {O P O' P' : List Nat}
theorem Dq.only {T : List Nat} (h : Dq w b c S O P) (ho : Only T w w') (hT : ∀ k ∈ O ++ P, k ∉ T) : Dq w' b c S O P :=
  ⟨h.fl.only ho (fun k hk => hT k (by simp [hk])), h.rf.only ho (fun k hk => hT k (by simp [hk])), h.ap⟩
theorem Dq.only0 (h : Dq w b c S O P) (ho : Only [] w w') : Dq w' b c S O P := h.only ho (by simp)
theorem Dq.lt (h : Dq w b c S O P) : ∀ k ∈ O ++ P, k < w.heap.size := by
  intro k hk
  rcases List.mem_append.1 hk with hk | hk
  · exact h.fl.lt k hk
  · exact h.rf.lt k hk
theorem RqOf.beside (h : RqOf w c S P) (hw : Went w O w' O') (ha : ∀ k ∈ O, k ∉ P) : RqOf w' c S P ∧ ∀ k ∈ O', k ∉ P := by
  refine ⟨h.only hw.1 (fun k hk hO => ha k hO hk), fun k hk hP => ?_⟩
  rcases hw.2 k hk with h1 | h1
  · exact ha k h1 hP
  · have := h.lt k hP; omega
theorem SqOf.beside (h : SqOf w b S O) (hw : Went w P w' P') (ha : ∀ k ∈ O, k ∉ P) : SqOf w' b S O ∧ ∀ k ∈ O, k ∉ P' := by
  refine ⟨h.only hw.1 ha, fun k hk hP => ?_⟩
  rcases hw.2 k hP with h1 | h1
  · exact ha k hk h1
  · have := h.lt k hk; omega
/-- Behind ours; behind both. -/
def Mid (w : World) (b c : Nat) (S S' : Sq) (O P : List Nat) (W : World) : Prop := ∃ O', SqOf W b S' O' ∧ RqOf W c S P ∧ (∀ k ∈ O', k ∉ P) ∧ Went w O W O'
def Fin2 (w : World) (b c : Nat) (S' : Sq) (O P : List Nat) (W : World) : Prop := ∃ O' P', Dq W b c S' O' P' ∧ Went w (O ++ P) W (O' ++ P')
theorem Dq.mid (h : Dq w b c S O P) (hf : STo w b O S' w') : Mid w b c S S' O P w' := by
  obtain ⟨O', f1, f2⟩ := hf
  obtain ⟨r1, r2⟩ := h.rf.beside f2 h.ap
  exact ⟨O', f1, r1, r2, f2⟩
theorem Mid.fin {W U : World} (h : Mid w b c S S' O P W) (hf : QTo W c P S' U) : Fin2 w b c S' O P U := by
  obtain ⟨O', h2, h3, h4, h5⟩ := h
  obtain ⟨P', f1, f2⟩ := hf
  obtain ⟨r1, r2⟩ := h2.beside f2 h4
  exact ⟨O', P', ⟨r1, f1, r2⟩, h5.two f2⟩
theorem Mid.only {W U : World} (h : Mid w b c S S' O P W) (ho : Only [] W U) : Mid w b c S S' O P U := by
  obtain ⟨O', h2, h3, h4, h5⟩ := h
  exact ⟨O', h2.only0 ho, h3.only0 ho, h4, h5.trans (Went.still ho O')⟩
theorem Mid.rf {W : World} (h : Mid w b c S S' O P W) : RqOf W c S P := by
  obtain ⟨O', h2, h3, h4, h5⟩ := h
  exact h3
theorem Mid.from {W V : World} (ho : Only [] w V) (h : Mid V b c S S' O P W) : Mid w b c S S' O P W := by
  obtain ⟨O', h2, h3, h4, h5⟩ := h
  exact ⟨O', h2, h3, h4, (Went.still ho O).trans h5⟩
theorem Fin2.only {W U : World} (h : Fin2 w b c S' O P W) (ho : Only [] W U) : Fin2 w b c S' O P U := by
  obtain ⟨O', P', h1, h2⟩ := h
  exact ⟨O', P', h1.only0 ho, h2.trans (Went.still ho _)⟩
end
/-- What a walk keeps: both in new memory; all that was there is as it was. -/
structure QSnd (w0 wr : World) (b c : Nat) (S : Sq) (O P : List Nat) : Prop where
  duo : Dq wr b c S O P
  new : ∀ k ∈ O ++ P, w0.heap.size ≤ k
  only : Only [] w0 wr
section
variable {w0 wr w' : World} {b c : Nat} {S S' : Sq} {O P O' P' : List Nat}
theorem QSnd.only0 (h : QSnd w0 wr b c S O P) (ho : Only [] wr w') : QSnd w0 w' b c S O P := ⟨h.duo.only0 ho, h.new, h.only.trans' ho⟩
theorem QSnd.went (h : QSnd w0 wr b c S O P) (hd : Dq w' b c S' O' P') (hw : Went wr (O ++ P) w' (O' ++ P')) : QSnd w0 w' b c S' O' P' :=
  ⟨hd, fun k hk => (hw.2 k hk).elim (h.new k) (fun h2 => Nat.le_trans h.only.size h2), h.only.trans hw.1 (fun k hk => .inr (h.new k hk))⟩
theorem QSnd.fin (h : QSnd w0 wr b c S O P) (hf : Fin2 wr b c S' O P w') : ∃ O' P', QSnd w0 w' b c S' O' P' := by
  obtain ⟨O', P', h1, h2⟩ := hf
  exact ⟨O', P', h.went h1 h2⟩
end

/-! ### Mod -/
def modI (v n : Int) : Int := (v % 18446744073709551616) % n
theorem modI_lt (v : Int) {n : Int} (h : 0 < n) : 0 ≤ modI v n ∧ modI v n < n := ⟨Int.emod_nonneg _ (by omega), Int.emod_lt_of_pos _ h⟩
theorem sMod (v n : Int) (h : 0 < n) (hn : n ≤ 1000000) (w : World) : Calls Try.prog 5 #[.int .i64 v, .int .i64 n] w fun e w' => e = .returned (.int .i64 (modI v n)) ∧ w' = w := by
  obtain ⟨x, h0, hx, ex⟩ := rem_is v n h
  have em : modI v n = x := by
    rw [← ex]
    unfold modI
    rw [show IntKind.u64.wrap v = v % 18446744073709551616 from IntKind.wrap_u64 v]
    rw [Int.tmod_eq_emod_of_nonneg (Int.emod_nonneg _ (by decide))]
  have hw : wrap64 x = x := by unfold wrap64; omega
  have hne' : ¬ (n = 0) := by omega
  have hwn : IntKind.u64.wrap n = n := by rw [IntKind.wrap_u64]; omega
  rw [em]
  go_enter Try.func5, Try.ntmps5
  go_wp2
  go_ret
  exact ⟨by simp [ex, hw], rfl⟩

/-! ### acts -/
structure Ax where
  k : Int
  f : Int
  m : Int
  r : Int
  p : Pk
deriving Inhabited
def Ax.ok (a : Ax) : Prop := i64ok a.k ∧ i64ok a.f ∧ i64ok a.m ∧ U64 a.r ∧ a.p.ok
/-- near, as numbers. -/
def Ax.near (a : Ax) : Ax :=
  let f := if modI a.f 21 ≠ 20 then modI a.f 5 else a.f
  ⟨a.k, f, if 0 < modI a.m 5 then modI a.m 10 else a.m, if a.r % 9 < 7 then 1 + a.r % 12 else a.r, ⟨f, if modI a.p.l 13 ≠ 12 then modI a.p.l 12 else a.p.l, a.p.m⟩⟩
theorem i64_mod (v : Int) {n : Int} (h : 0 < n) (hn : n ≤ 1000000) : i64ok (modI v n) := i64_of (by have := modI_lt v h; omega)
theorem Ax.ok.near {a : Ax} (h : a.ok) : a.near.ok := by
  obtain ⟨h1, h2, h3, h4, h5, h6, h7⟩ := h
  have hf : i64ok (if modI a.f 21 ≠ 20 then modI a.f 5 else a.f) := by
    split
    · exact i64_mod _ (by decide) (by decide)
    · exact h2
  refine ⟨h1, hf, ?_, ?_, hf, ?_, h7⟩
  · show i64ok (if 0 < modI a.m 5 then modI a.m 10 else a.m)
    split
    · exact i64_mod _ (by decide) (by decide)
    · exact h3
  · show U64 (if a.r % 9 < 7 then 1 + a.r % 12 else a.r)
    split
    · unfold U64; omega
    · exact h4
  · show i64ok (if modI a.p.l 13 ≠ 12 then modI a.p.l 12 else a.p.l)
    split
    · exact i64_mod _ (by decide) (by decide)
    · exact h6
def Ax.cells (a : Ax) : Array Value := #[.int .i64 a.k, .int .i64 a.f, .int .i64 a.m, .int .u64 a.r, .int .i64 a.p.f, .int .i64 a.p.l, .int .i64 a.p.m]
end Go.Proofs.Ytklolepmmabijaa

namespace Go.Proofs.Ytklolepmmabijaa
set_option maxRecDepth 100000
open Go.RowKit
set_option linter.unusedVariables false
set_option linter.unusedSimpArgs false
set_option maxRecDepth 100000

theorem irow_at {w : World} {A : Option Addr} {m cap : Nat} {xs : List Int} (h : iE.Row w (.slice A m cap) xs) : ∀ W, Only [] w W → ∀ k x, xs[k]? = some x → ∃ g, A = some ⟨g, 0, none⟩ ∧ W.cell? ⟨g, k, none⟩ = some (.int .i64 x) := by
  intro W hW k x hx
  obtain ⟨g, e1, _, hc⟩ := (h.only0 hW).cell (k := k) (x := x) hx
  subst e1
  have h0 := (hc 0 _ rfl).1
  simp only [Nat.mul_one, Nat.add_zero] at h0
  exact ⟨g, rfl, h0⟩
/-! ### looks -/
def LK (w : World) (b c : Nat) (S : Sq) (O P : List Nat) (W : World) : Prop := Dq W b c S O P ∧ Only [] w W
theorem LK.on {w W U : World} {b c : Nat} {S : Sq} {O P : List Nat} (h : LK w b c S O P W) (ho : Only [] W U) : LK w b c S O P U := ⟨h.1.only0 ho, h.2.trans' ho⟩
theorem LK.c {w W : World} {b c : Nat} {S : Sq} {O P : List Nat} (h : LK w b c S O P W) : W.cell? ⟨c, 1, none⟩ = some (.int .u64 S.v) ∧ W.cell? ⟨c, 2, none⟩ = some (.int .u64 S.m) := by
  obtain ⟨u, es, h1, _⟩ := h.1.rf
  exact ⟨h1.blk.c.2.1, h1.blk.c.2.2⟩
theorem starts_len {S : Sq} (h : S.ok) : (startsK S.l).length ≤ 1000 := by
  rw [(startsK_perm S.l).length_eq]
  unfold itemsK
  rw [List.length_map]
  exact Nat.le_trans (List.length_filter_le _ _) h.len
end Go.Proofs.Ytklolepmmabijaa
