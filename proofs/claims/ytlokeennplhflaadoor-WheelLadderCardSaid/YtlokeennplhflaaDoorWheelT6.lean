/-
  Where the items of a walk's wheel lie; what its first bitmaps tell.
-/
import Derived.Test.YtlokeennplhflaaDoorWheelT5
namespace Go.Proofs.YtlokeennplhflaaDoor
open Go.RowKit Go.ChangeMaps Go.MapKept
set_option linter.unusedVariables false
set_option linter.unusedSimpArgs false

theorem upTo_head {m b : Nat} (hb : m.testBit b = true) (h : ∀ j, j < b → m.testBit j = false) : ∀ n, b < n → ∃ r, upTo m n = b :: r
  | 0, hn => absurd hn (Nat.not_lt_zero b)
  | n + 1, hn => by
    rcases Nat.lt_or_ge b n with h1 | h1
    · obtain ⟨r, hr⟩ := upTo_head hb h n h1
      rw [upTo_succ, hr]
      split
      · exact ⟨r ++ [n], rfl⟩
      · exact ⟨r, rfl⟩
    · have e : n = b := by omega
      subst e
      refine ⟨[], ?_⟩
      rw [upTo_next m 0 n (Nat.zero_le _) hb (fun j _ hj => h j hj)]
      rfl
/-- An item's level and bucket. -/
structure Place (wd : Nat) (base k : Int) (L b : Nat) : Prop where
  l3 : L < 3
  b64 : b < 64
  lev : levM wd base k = (L : Int)
  bkt : bkM wd k L = (b : Int)
theorem place {wd : Nat} {base : Int} {x : It} (h : reach wd base x.k) : ∃ L b : Nat, Place wd base x.k L b ∧ pl wd base x = L * 64 + b := by
  obtain ⟨L, hL, e1, b, hb, e2, e3⟩ := pos_is h
  exact ⟨L, b, ⟨hL, hb, e1, e2⟩, e3⟩
theorem Lies.le {wd : Nat} {base : Int} {l : List It} (h : Lies wd base l) {i j : Nat} (hij : i < j) (hj : j < l.length) : pl wd base (gOf l i) ≤ pl wd base (gOf l j) := by
  have hs := List.pairwise_iff_getElem.1 h.sorted i j (by omega) hj hij
  rw [gOf_get hj, gOf_get (show i < l.length by omega)]
  exact hs
theorem Lies.first_le {wd : Nat} {base : Int} {l : List It} (h : Lies wd base l) {x : It} (hx : x ∈ l) : pl wd base (gOf l 0) ≤ pl wd base x := by
  obtain ⟨j, hj, e⟩ := List.mem_iff_getElem.1 hx
  rcases Nat.eq_zero_or_pos j with h0 | h0
  · subst h0; rw [gOf_get hj, e]; exact Nat.le_refl _
  · have := h.le h0 hj
    rw [gOf_get hj, e] at this
    exact this
theorem map_low {wd : Nat} {base : Int} {l : List It} (h : Lies wd base l) {L b : Nat} (hp : pl wd base (gOf l 0) = L * 64 + b) {L' m : Nat} (hl : L' < L) (hm : mapM wd base l L' m) : m = 0 := by
  apply Nat.eq_of_testBit_eq
  intro i
  rw [Nat.zero_testBit]
  rcases Nat.lt_or_ge i 64 with hi | hi
  · rw [hm.2 i hi, part_nil_iff.2]
    · rfl
    · intro x hx e
      have := h.first_le hx
      omega
  · exact upper_bit m i hm.1 hi
theorem map_here {wd : Nat} {base : Int} {l : List It} (h : Lies wd base l) (h0 : 0 < l.length) {L b : Nat} (hb : b < 64) (hp : pl wd base (gOf l 0) = L * 64 + b) {m : Nat} (hm : mapM wd base l L m) : ∃ r, upTo m 64 = b :: r := by
  refine upTo_head ?_ (fun j hj => ?_) 64 hb
  · rw [hm.2 b hb]
    have : gOf l 0 ∈ part (pl wd base) (L * 64 + b) l := mem_part.2 ⟨by rw [gOf_get h0]; exact List.getElem_mem h0, hp⟩
    cases hq : part (pl wd base) (L * 64 + b) l with
    | nil => rw [hq] at this; simp at this
    | cons x r => rfl
  · rw [hm.2 j (by omega), part_nil_iff.2]
    · rfl
    · intro x hx e
      have := h.first_le hx
      omega
/-- The wheels of a walk beside the row that All told. -/
structure Beside (w wr : World) (wb : Nat) (S : List Nat) (xb : Nat) (T : List Nat) (wd : Nat) (base : Int) (l : List It) (v : Value) : Prop where
  sound : Sound w wr wb S xb T wd base l
  row : RowIs wr v l
section
variable {w wr : World} {wb xb wd : Nat} {S T : List Nat} {base : Int} {l : List It} {v : Value}
theorem Beside.only0 {w2 : World} (h : Beside w wr wb S xb T wd base l v) (ho : Only [] wr w2) : Beside w w2 wb S xb T wd base l v :=
  ⟨h.sound.only0 ho, h.row.keep (fun g hg => ho.block g (h.row.lt hg) (by simp))⟩
theorem Beside.key {g n cap i : Nat} (h : Beside w wr wb S xb T wd base l (.slice (some ⟨g, 0, none⟩) n cap)) (hi : i < l.length) : wr.cell? ⟨g, i * 2, none⟩ = some (.int .u64 (gOf l i).k) := by
  obtain ⟨g', cap', e, -, -, -, -, hc⟩ := h.row.at_ (by omega)
  cases e
  exact (hc i hi).1
theorem Beside.lies (h : Beside w wr wb S xb T wd base l v) : Lies wd base l := h.sound.pair.ours.lies
theorem Beside.placed (h : Beside w wr wb S xb T wd base l v) {i : Nat} (hi : i < l.length) : ∃ k L b, (gOf l i).k = k ∧ 0 ≤ k ∧ k ≤ 18446744073709551615 ∧ Place wd base k L b ∧ pl wd base (gOf l i) = L * 64 + b := by
  have hm : gOf l i ∈ l := by rw [gOf_get hi]; exact List.getElem_mem hi
  have hk := u64ok_to (h.sound.pair.ours.fit _ hm).1
  obtain ⟨L, b, hp, e⟩ := place (h.lies.near _ hm)
  exact ⟨_, L, b, rfl, hk.1, hk.2, hp, e⟩
theorem Beside.level (h : Beside w wr wb S xb T wd base l v) {k : Int} (k0 : 0 ≤ k) (k1 : k ≤ 18446744073709551615) {L b : Nat} (hp : Place wd base k L b) (W : World) : Calls Tryd.prog 14 #[.int .u64 base, .int .u64 k, .int .i64 (wd : Int)] W fun e w' => e = .returned (.int .i64 (L : Int)) ∧ w' = W := by
  have hO := h.sound.pair.ours
  have := level_any base k (wd : Int) hO.bases.1 hO.bases.2 k0 k1 W
  rw [wid_nat hO.wd40, hp.lev] at this
  exact this.mono fun _ _ q => ⟨q.1, q.2.symm⟩
theorem Beside.bucket (h : Beside w wr wb S xb T wd base l v) {k : Int} (k0 : 0 ≤ k) (k1 : k ≤ 18446744073709551615) {L b : Nat} (hp : Place wd base k L b) (W : World) : Calls Tryd.prog 16 #[.int .u64 k, .int .i64 (L : Int), .int .i64 (wd : Int)] W fun e w' => e = .returned (.int .i64 (b : Int)) ∧ w' = W := by
  have hO := h.sound.pair.ours
  have := bucket_in k (wd : Int) L hp.l3 k0 k1 W
  rw [wid_nat hO.wd40, hp.bkt] at this
  exact this.mono fun _ _ q => ⟨q.1, q.2.symm⟩
theorem Beside.low (h : Beside w wr wb S xb T wd base l v) {L b : Nat} (hL : L < 3) (hp : pl wd base (gOf l 0) = L * 64 + b) {L' : Nat} (hl : L' < L) (W : World) (hW : Only [] wr W) : Calls Tryd.prog 20 #[.pointer (some ⟨wb, 0, none⟩), .int .i64 (L' : Int)] W fun e w' => e = .returned (.int .u64 0) ∧ w' = W := by
  obtain ⟨m, hm, hc⟩ := wMapOf wr wb S wd base l h.sound.pair.ours L' (by omega)
  have e := map_low h.lies hp hl hm
  subst e
  exact hc W hW
theorem Beside.here (h : Beside w wr wb S xb T wd base l v) (h0 : 0 < l.length) {L b : Nat} (hL : L < 3) (hb : b < 64) (hp : pl wd base (gOf l 0) = L * 64 + b) (W : World) (hW : Only [] wr W) : Calls Tryd.prog 20 #[.pointer (some ⟨wb, 0, none⟩), .int .i64 (L : Int)] W fun e w' => ∃ m : Nat, e = .returned (.int .u64 (m : Int)) ∧ w' = W ∧
    Calls Tryd.prog 28 #[.int .u64 (m : Int)] W fun e w' => ∃ g n cap, e = .returned (.slice (some ⟨g, 0, none⟩) (n + 1) cap) ∧ w'.cell? ⟨g, 0, none⟩ = some (.int .i64 (b : Int)) ∧ Only [] W w' := by
  obtain ⟨m, hm, hc⟩ := wMapOf wr wb S wd base l h.sound.pair.ours L hL
  obtain ⟨r, hr⟩ := map_here h.lies h0 hb hp hm
  refine (hc W hW).mono ?_
  rintro e w' ⟨rfl, rfl⟩
  refine ⟨m, rfl, rfl, (rbits_any m w' hm.1).mono ?_⟩
  rintro e w2 ⟨a, cap, rfl, hcell, hbel⟩
  rw [hr] at hcell
  obtain ⟨g, rfl, hg, hcs⟩ := hcell (by simp)
  refine ⟨g, r.length, cap, by rw [hr]; rfl, ?_, Only.of_below hbel⟩
  have := hcs 0 (by simp)
  simpa using this
end
end Go.Proofs.YtlokeennplhflaaDoor
