/-
  The statements' words: a scheduler beside the document's; acts, near, Mod.
  Plain and Spoil at ints; looks.
-/
import Derived.Test.YtklolepmmabijaaGreatGmU
import Derived.Test.YtklolepmmabijaaGreatSfqS
import Derived.Test.YtklolepmmabijaaGreatSfqW
import Derived.Test.YtklolepmmabijaaGreatSfqRC
import Derived.Test.YtklolepmmabijaaGreatSfqRD
import Derived.Test.YtklolepmmabijaaGreatSfqRE
import Derived.Test.YtklolepmmabijaaGreatSfqRF
import Derived.Test.YtklolepmmabijaaGreatGmC
import Derived.Test.YtklolepmmabijaaGreatGmI
namespace Go.Proofs.YtklolepmmabijaaGreat
set_option maxRecDepth 100000
open Go.RowKit
set_option linter.unusedVariables false
set_option linter.unusedSimpArgs false
set_option maxRecDepth 100000

/-- A scheduler beside the document's, both the same as numbers. -/
structure Dq (w : World) (b c : Nat) (S : Sq) (O P : List Nat) : Prop where
  fl : SqOf w b S O
  rf : RqOf w c S P
  ap : ∀ k ∈ O, k ∉ P
section
variable {w w' : World} {b c : Nat} {S S' : Sq} {O P O' P' : List Nat}
theorem Dq.only {T : List Nat} (h : Dq w b c S O P) (ho : Only T w w') (hT : ∀ k ∈ O ++ P, k ∉ T) : Dq w' b c S O P :=
  ⟨h.fl.only ho (fun k hk => hT k (by simp [hk])), h.rf.only ho (fun k hk => hT k (by simp [hk])), h.ap⟩
theorem Dq.only0 (h : Dq w b c S O P) (ho : Only [] w w') : Dq w' b c S O P := h.only ho (by simp)
theorem Dq.lt (h : Dq w b c S O P) : ∀ k ∈ O ++ P, k < w.heap.size := by
  intro k hk
  rcases List.mem_append.1 hk with hk | hk
  · exact h.fl.lt k hk
  · exact h.rf.lt k hk
theorem RqOf.beside (h : RqOf w c S P) (hw : Went w O w' O') (ha : ∀ k ∈ O, k ∉ P) : RqOf w' c S P ∧ ∀ k ∈ O', k ∉ P := by
  refine ⟨h.only hw.1 (fun k hk hO => ha k hO hk), fun k hk hP => ?_⟩
  rcases hw.2 k hk with h1 | h1
  · exact ha k h1 hP
  · have := h.lt k hP; omega
theorem SqOf.beside (h : SqOf w b S O) (hw : Went w P w' P') (ha : ∀ k ∈ O, k ∉ P) : SqOf w' b S O ∧ ∀ k ∈ O, k ∉ P' := by
  refine ⟨h.only hw.1 ha, fun k hk hP => ?_⟩
  rcases hw.2 k hP with h1 | h1
  · exact ha k hk h1
  · have := h.lt k hk; omega
/-- Behind ours; behind both. -/
def Mid (w : World) (b c : Nat) (S S' : Sq) (O P : List Nat) (W : World) : Prop := ∃ O', SqOf W b S' O' ∧ RqOf W c S P ∧ (∀ k ∈ O', k ∉ P) ∧ Went w O W O'
def Fin2 (w : World) (b c : Nat) (S' : Sq) (O P : List Nat) (W : World) : Prop := ∃ O' P', Dq W b c S' O' P' ∧ Went w (O ++ P) W (O' ++ P')
theorem Dq.mid (h : Dq w b c S O P) (hf : STo w b O S' w') : Mid w b c S S' O P w' := by
  obtain ⟨O', f1, f2⟩ := hf
  obtain ⟨r1, r2⟩ := h.rf.beside f2 h.ap
  exact ⟨O', f1, r1, r2, f2⟩
theorem Mid.fin {W U : World} (h : Mid w b c S S' O P W) (hf : QTo W c P S' U) : Fin2 w b c S' O P U := by
  obtain ⟨O', h2, h3, h4, h5⟩ := h
  obtain ⟨P', f1, f2⟩ := hf
  obtain ⟨r1, r2⟩ := h2.beside f2 h4
  exact ⟨O', P', ⟨r1, f1, r2⟩, h5.two f2⟩
theorem Mid.only {W U : World} (h : Mid w b c S S' O P W) (ho : Only [] W U) : Mid w b c S S' O P U := by
  obtain ⟨O', h2, h3, h4, h5⟩ := h
  exact ⟨O', h2.only0 ho, h3.only0 ho, h4, h5.trans (Went.still ho O')⟩
theorem Mid.rf {W : World} (h : Mid w b c S S' O P W) : RqOf W c S P := by
  obtain ⟨O', h2, h3, h4, h5⟩ := h
  exact h3
theorem Mid.from {W V : World} (ho : Only [] w V) (h : Mid V b c S S' O P W) : Mid w b c S S' O P W := by
  obtain ⟨O', h2, h3, h4, h5⟩ := h
  exact ⟨O', h2, h3, h4, (Went.still ho O).trans h5⟩
theorem Fin2.only {W U : World} (h : Fin2 w b c S' O P W) (ho : Only [] W U) : Fin2 w b c S' O P U := by
  obtain ⟨O', P', h1, h2⟩ := h
  exact ⟨O', P', h1.only0 ho, h2.trans (Went.still ho _)⟩
end
/-- What a walk keeps: both in new memory; all that was there is as it was. -/
structure QSnd (w0 wr : World) (b c : Nat) (S : Sq) (O P : List Nat) : Prop where
  duo : Dq wr b c S O P
  new : ∀ k ∈ O ++ P, w0.heap.size ≤ k
  only : Only [] w0 wr
section
variable {w0 wr w' : World} {b c : Nat} {S S' : Sq} {O P O' P' : List Nat}
theorem QSnd.only0 (h : QSnd w0 wr b c S O P) (ho : Only [] wr w') : QSnd w0 w' b c S O P := ⟨h.duo.only0 ho, h.new, h.only.trans' ho⟩
theorem QSnd.went (h : QSnd w0 wr b c S O P) (hd : Dq w' b c S' O' P') (hw : Went wr (O ++ P) w' (O' ++ P')) : QSnd w0 w' b c S' O' P' :=
  ⟨hd, fun k hk => (hw.2 k hk).elim (h.new k) (fun h2 => Nat.le_trans h.only.size h2), h.only.trans hw.1 (fun k hk => .inr (h.new k hk))⟩
theorem QSnd.fin (h : QSnd w0 wr b c S O P) (hf : Fin2 wr b c S' O P w') : ∃ O' P', QSnd w0 w' b c S' O' P' := by
  obtain ⟨O', P', h1, h2⟩ := hf
  exact ⟨O', P', h.went h1 h2⟩
end

/-! ### Mod -/
def modI (v n : Int) : Int := (v % 18446744073709551616) % n
theorem modI_lt (v : Int) {n : Int} (h : 0 < n) : 0 ≤ modI v n ∧ modI v n < n := ⟨Int.emod_nonneg _ (by omega), Int.emod_lt_of_pos _ h⟩
theorem sMod (v n : Int) (h : 0 < n) (hn : n ≤ 1000000) (w : World) : Calls Tryz.prog 14 #[.int .i64 v, .int .i64 n] w fun e w' => e = .returned (.int .i64 (modI v n)) ∧ w' = w := by
  obtain ⟨x, h0, hx, ex⟩ := rem_is v n h
  have em : modI v n = x := by
    rw [← ex]
    unfold modI
    rw [show IntKind.u64.wrap v = v % 18446744073709551616 from IntKind.wrap_u64 v]
    rw [Int.tmod_eq_emod_of_nonneg (Int.emod_nonneg _ (by decide))]
  have hw : wrap64 x = x := by unfold wrap64; omega
  have hne' : ¬ (n = 0) := by omega
  have hwn : IntKind.u64.wrap n = n := by rw [IntKind.wrap_u64]; omega
  rw [em]
  go_enter Tryz.func14, Tryz.ntmps14
  go_wp2
  go_ret
  exact ⟨by simp [ex, hw], rfl⟩

/-! ### acts -/
structure Ax where
  k : Int
  f : Int
  m : Int
  r : Int
  p : Pk
deriving Inhabited
def Ax.ok (a : Ax) : Prop := i64ok a.k ∧ i64ok a.f ∧ i64ok a.m ∧ U64 a.r ∧ a.p.ok
/-- near, as numbers. -/
def Ax.near (a : Ax) : Ax :=
  let f := if modI a.f 21 ≠ 20 then modI a.f 5 else a.f
  ⟨a.k, f, if 0 < modI a.m 5 then modI a.m 10 else a.m, if a.r % 9 < 7 then 1 + a.r % 12 else a.r, ⟨f, if modI a.p.l 13 ≠ 12 then modI a.p.l 12 else a.p.l, a.p.m⟩⟩
theorem i64_mod (v : Int) {n : Int} (h : 0 < n) (hn : n ≤ 1000000) : i64ok (modI v n) := i64_of (by have := modI_lt v h; omega)
theorem Ax.ok.near {a : Ax} (h : a.ok) : a.near.ok := by
  obtain ⟨h1, h2, h3, h4, h5, h6, h7⟩ := h
  have hf : i64ok (if modI a.f 21 ≠ 20 then modI a.f 5 else a.f) := by
    split
    · exact i64_mod _ (by decide) (by decide)
    · exact h2
  refine ⟨h1, hf, ?_, ?_, hf, ?_, h7⟩
  · show i64ok (if 0 < modI a.m 5 then modI a.m 10 else a.m)
    split
    · exact i64_mod _ (by decide) (by decide)
    · exact h3
  · show U64 (if a.r % 9 < 7 then 1 + a.r % 12 else a.r)
    split
    · unfold U64; omega
    · exact h4
  · show i64ok (if modI a.p.l 13 ≠ 12 then modI a.p.l 12 else a.p.l)
    split
    · exact i64_mod _ (by decide) (by decide)
    · exact h6
def Ax.cells (a : Ax) : Array Value := #[.int .i64 a.k, .int .i64 a.f, .int .i64 a.m, .int .u64 a.r, .int .i64 a.p.f, .int .i64 a.p.l, .int .i64 a.p.m]
end Go.Proofs.YtklolepmmabijaaGreat

namespace Go.Proofs.YtklolepmmabijaaGreat
set_option maxRecDepth 100000
open Go.RowKit
set_option linter.unusedVariables false
set_option linter.unusedSimpArgs false
set_option maxRecDepth 100000

theorem irow_at {w : World} {A : Option Addr} {m cap : Nat} {xs : List Int} (h : iE.Row w (.slice A m cap) xs) : ∀ W, Only [] w W → ∀ k x, xs[k]? = some x → ∃ g, A = some ⟨g, 0, none⟩ ∧ W.cell? ⟨g, k, none⟩ = some (.int .i64 x) := by
  intro W hW k x hx
  obtain ⟨g, e1, _, hc⟩ := (h.only0 hW).cell (k := k) (x := x) hx
  subst e1
  have h0 := (hc 0 _ rfl).1
  simp only [Nat.mul_one, Nat.add_zero] at h0
  exact ⟨g, rfl, h0⟩
theorem ieq_any (x y : Int) (w : World) : Calls Tryz.prog 57 #[.int .i64 x, .int .i64 y] w fun e w' => e = .returned (.bool (x == y)) ∧ w' = w := by
  go_enter Tryz.func57, Tryz.ntmps57
  go_wp2
  go_ret
  exact ⟨rfl, rfl⟩
set_option maxHeartbeats 1000000 in
theorem iSame (w : World) (A A' : Option Addr) (n c c' : Nat) (l : List Int) (hn : l.length = n) (hm : n ≤ 1000000) (h : iE.Row w (.slice A n c) l) (h' : iE.Row w (.slice A' n c') l) :
    Calls Tryz.prog 56 #[.slice A n c, .slice A' n c', .func (.func 57) #[] #[]] w fun e w' => e = .returned (.bool true) ∧ Only [] w w' := by
  have R1 := Lib.hid (irow_at h)
  have R2 := Lib.hid (irow_at h')
  have hget : Hid (∀ k : Nat, k < n → ∃ x, l[k]? = some x) := fun k hk => ⟨_, List.getElem?_eq_getElem (by omega)⟩
  clear h h' hn
  go_enter Tryz.func56, Tryz.ntmps56
  go_wp2_with fail
  go_loopg [7] (n + 1) (fun gk si wr => ∃ k : Nat, si = .int .i64 (k : Int) ∧ k ≤ n ∧ n + 1 ≤ gk + k ∧ Hid (Only [] w wr))
  case atStart => exact ⟨0, rfl, by omega, by omega, Only.refl [] w⟩
  case round =>
    obtain ⟨k, rfl, hk, hg, O⟩ := hrel
    by_cases hlt : k < n
    · have hlt' : (k : Int) < (n : Int) := by omega
      obtain ⟨x, hx⟩ := hget.out k hlt
      obtain ⟨g, rfl, c1⟩ := R1.out wr O.out k x hx
      obtain ⟨g', rfl, c2⟩ := R2.out wr O.out k x hx
      clear hx
      go_wp2_with fail
      go_quiet (first | (go_at_call 57; exact Calls.quiet_of_same (ieq_any _ _ _)))
      have O5 : Hid (Only [] w (wr.drewN nq)) := O.out.drewN nq
      generalize wr.drewN nq = w5 at *
      go_wp2_with fail
      go_roundg (n + 1 - (k + 1))
      case measure => omega
      case rel => exact ⟨k + 1, by simp, by omega, by omega, O5⟩
    · have hpl' : decide ((k : Int) < (n : Int)) = false := decide_eq_false (by omega)
      have hpl'' : ¬ ((k : Int) < (n : Int)) := by omega
      go_wp2_with fail
      go_ret
      exact ⟨rfl, O.out⟩
theorem iPlain (w : World) (A A' : Option Addr) (n c c' : Nat) (l : List Int) (hn : l.length = n) (hm : n ≤ 1000000) (h : iE.Row w (.slice A n c) l) (h' : iE.Row w (.slice A' n c') l) :
    Calls Tryz.prog 24 #[.slice A n c, .slice A' n c'] w fun e w' => e = .returned (.bool true) ∧ Only [] w w' := by
  have hs := iSame w A A' n c c' l hn hm h h'
  clear h h'
  go_enter Tryz.func24, Tryz.ntmps24
  go_wp2_with fail
  refine hs.mono ?_
  rintro e w2 ⟨rfl, o2⟩
  go_wp2_with fail
  go_ret
  exact ⟨rfl, o2⟩
set_option maxHeartbeats 1000000 in
/-- Spoil: the row alone turns. -/
theorem iSpoil (w : World) (A : Option Addr) (n c : Nat) (l : List Int) (hn : l.length = n) (hm : n ≤ 1000000) (h : iE.Row w (.slice A n c) l) :
    Calls Tryz.prog 28 #[.slice A n c] w fun e w' => e = .returned (.tuple #[]) ∧ Only (Value.slice A n c).ownBlock.toList w w' := by
  have H := Lib.hid (And.intro h hn)
  clear h hn
  go_enter Tryz.func28, Tryz.ntmps28
  go_wp2_with fail
  go_loopg [3] (n + 1) (fun gk si wr => ∃ (p : Nat) (bs : List Int), si = .int .i64 (p : Int) ∧ p ≤ n ∧ n + 1 ≤ gk + p ∧ Hid (iE.Row wr (.slice A n c) bs ∧ bs.length = n ∧ Only (Value.slice A n c).ownBlock.toList w wr))
  case atStart => exact ⟨0, l, rfl, by omega, by omega, H.out.1, H.out.2, Only.refl _ w⟩
  case round =>
    obtain ⟨p, bs, rfl, hp, hg, R⟩ := hrel
    by_cases hpl : p < n
    · have hpl' : (p : Int) < (n : Int) := by omega
      obtain ⟨x, hx⟩ : ∃ x, bs[p]? = some x := ⟨_, List.getElem?_eq_getElem (by rw [R.out.2.1]; exact hpl)⟩
      obtain ⟨g, rfl, _, hc⟩ := R.out.1.cell hx
      obtain ⟨y0, yf0⟩ := hc 0 _ rfl
      simp only [Nat.mul_one, Nat.add_zero] at y0 yf0
      clear hc hx
      go_wp2_with fail
      go_roundg (n + 1 - (p + 1))
      case measure => omega
      case rel =>
        obtain ⟨r1, r2, r4⟩ := R.out
        exact ⟨p + 1, bs.set p 0, by simp, by omega, by omega, r1.store1 p 0 _ rfl, by simpa using r2, r4.setCell (.inl (by simp [Value.ownBlock])) _⟩
    · have hpl' : decide ((p : Int) < (n : Int)) = false := decide_eq_false (by omega)
      have hpl'' : ¬ ((p : Int) < (n : Int)) := by omega
      go_wp2_with fail
      go_end0
      exact ⟨rfl, R.out.2.2⟩

/-! ### looks -/
def LK (w : World) (b c : Nat) (S : Sq) (O P : List Nat) (W : World) : Prop := Dq W b c S O P ∧ Only [] w W
theorem LK.on {w W U : World} {b c : Nat} {S : Sq} {O P : List Nat} (h : LK w b c S O P W) (ho : Only [] W U) : LK w b c S O P U := ⟨h.1.only0 ho, h.2.trans' ho⟩
theorem LK.c {w W : World} {b c : Nat} {S : Sq} {O P : List Nat} (h : LK w b c S O P W) : W.cell? ⟨c, 1, none⟩ = some (.int .u64 S.v) ∧ W.cell? ⟨c, 2, none⟩ = some (.int .u64 S.m) := by
  obtain ⟨u, es, h1, _⟩ := h.1.rf
  exact ⟨h1.blk.c.2.1, h1.blk.c.2.2⟩
theorem starts_len {S : Sq} (h : S.ok) : (startsK S.l).length ≤ 1000 := by
  rw [(startsK_perm S.l).length_eq]
  unfold itemsK
  rw [List.length_map]
  exact Nat.le_trans (List.length_filter_le _ _) h.len
end Go.Proofs.YtklolepmmabijaaGreat
