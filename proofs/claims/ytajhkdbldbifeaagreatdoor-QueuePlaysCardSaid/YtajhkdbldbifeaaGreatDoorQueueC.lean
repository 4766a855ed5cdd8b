/-
  The document's queue in memory; contracts of its Push, first, Min, Pop, Drop.
-/
import Derived.Test.YtajhkdbldbifeaaGreatDoorQueueR
namespace Go.Proofs.YtajhkdbldbifeaaGreatDoor
set_option maxRecDepth 100000
open Go.RowKit Go.ChangeMaps Go.MapKept
set_option linter.unusedVariables false
set_option linter.unusedSimpArgs false

/-- The document's queue: its struct, the pointers to its wheels, the wheels. -/
structure RQIs (w : World) (xb ab n cap : Nat) (P : Nat → Nat) (TT : Nat → List Nat) (wd : Nat) (B : Nat → Int) (L : Nat → List It) : Prop where
  blk : Arr w xb 44 [.slice (some ⟨ab, 0, none⟩) n cap]
  ptr : ∃ vs, Arr w ab 50 vs ∧ ∀ i, i < n → vs[i]? = some (.pointer (some ⟨P i, 0, none⟩))
  sh : ∀ i, i < n → RefOf w (P i) (TT i) wd (B i) (L i)
  dis : ∀ i j, i < n → j < n → i ≠ j → ∀ b ∈ TT i, b ∉ TT j
  out : ∀ i, i < n → ∀ b ∈ TT i, b ∉ [xb, ab]
  n1 : 1 ≤ n
  n16 : n ≤ 16
def rown (xb ab n : Nat) (TT : Nat → List Nat) : List Nat := [xb, ab] ++ catN TT n
theorem mem_rown {xb ab n b : Nat} {TT : Nat → List Nat} : b ∈ rown xb ab n TT ↔ b ∈ [xb, ab] ∨ ∃ i, i < n ∧ b ∈ TT i := by
  unfold rown; rw [List.mem_append, mem_catN]
section
variable {w w' : World} {xb ab n cap wd : Nat} {P : Nat → Nat} {TT : Nat → List Nat} {B : Nat → Int} {L : Nat → List It} {T : List Nat}
theorem RQIs.c0 (h : RQIs w xb ab n cap P TT wd B L) : w.cell? ⟨xb, 0, none⟩ = some (.slice (some ⟨ab, 0, none⟩) n cap) := by rw [h.blk.cell]; rfl
theorem RQIs.at_ (h : RQIs w xb ab n cap P TT wd B L) {i : Nat} (hi : i < n) : w.cell? ⟨ab, i, none⟩ = some (.pointer (some ⟨P i, 0, none⟩)) := by
  obtain ⟨vs, h1, h2⟩ := h.ptr
  rw [h1.cell]; exact h2 i hi
theorem RQIs.lt (h : RQIs w xb ab n cap P TT wd B L) : ∀ b ∈ rown xb ab n TT, b < w.heap.size := fun b hb => by
  rcases mem_rown.1 hb with h1 | ⟨i, hi, h1⟩
  · simp only [List.mem_cons, List.not_mem_nil, or_false] at h1
    rcases h1 with rfl | rfl
    · exact h.blk.lt
    · obtain ⟨vs, h1, h2⟩ := h.ptr
      exact h1.lt
  · exact (h.sh i hi).lt b h1
theorem RQIs.only (h : RQIs w xb ab n cap P TT wd B L) (ho : Only T w w') (hT : ∀ b ∈ rown xb ab n TT, b ∉ T) : RQIs w' xb ab n cap P TT wd B L := by
  obtain ⟨vs, h1, h2⟩ := h.ptr
  exact ⟨h.blk.only ho (hT _ (mem_rown.2 (.inl (by simp)))), ⟨vs, h1.only ho (hT _ (mem_rown.2 (.inl (by simp)))), h2⟩, fun i hi => (h.sh i hi).only ho fun b hb => hT b (mem_rown.2 (.inr ⟨i, hi, hb⟩)), h.dis, h.out, h.n1, h.n16⟩
theorem RQIs.only0 (h : RQIs w xb ab n cap P TT wd B L) (ho : Only [] w w') : RQIs w' xb ab n cap P TT wd B L := h.only ho (by simp)
/-- One wheel moved. -/
theorem RQIs.wheel (h : RQIs w xb ab n cap P TT wd B L) {i : Nat} (hi : i < n) {T' : List Nat} {b' : Int} {l' : List It} (hw : RefOf w' (P i) T' wd b' l') (hm : Moved w (TT i) w' T') :
    RQIs w' xb ab n cap P (fup TT i T') wd (fup B i b') (fup L i l') ∧ Moved w (rown xb ab n TT) w' (rown xb ab n (fup TT i T')) := by
  have hlt := h.lt
  have hout : ∀ b ∈ [xb, ab], b ∉ TT i := fun b hb hc => h.out i hi b hc hb
  have hS' : ∀ b ∈ T', b ∈ TT i ∨ w.heap.size ≤ b := hm.2
  obtain ⟨vs, hp1, hp2⟩ := h.ptr
  refine ⟨⟨h.blk.only hm.1 (hout _ (by simp)), ⟨vs, hp1.only hm.1 (hout _ (by simp)), hp2⟩, fun k hk => ?_, fun k j hk hj hne b hb => ?_, fun k hk b hb hc => ?_, h.n1, h.n16⟩, hm.1.mono fun k hk => .inl (mem_rown.2 (.inr ⟨i, hi, hk⟩)), fun b hb => ?_⟩
  · by_cases e : k = i
    · subst e; rw [fup_same, fup_same, fup_same]; exact hw
    · rw [fup_other _ _ e, fup_other _ _ e, fup_other _ _ e]
      exact (h.sh k hk).only hm.1 fun b hb => h.dis k i hk hi e b hb
  · by_cases e : k = i
    · subst e
      rw [fup_same] at hb
      rw [fup_other _ _ (Ne.symm hne)]
      intro hc
      rcases hS' b hb with h1 | h1
      · exact h.dis k j hk hj hne b h1 hc
      · have := (h.sh j hj).lt b hc; omega
    · rw [fup_other _ _ e] at hb
      by_cases e2 : j = i
      · subst e2
        rw [fup_same]
        intro hc
        rcases hS' b hc with h1 | h1
        · exact h.dis k j hk hj hne b hb h1
        · have := (h.sh k hk).lt b hb; omega
      · rw [fup_other _ _ e2]; exact h.dis k j hk hj hne b hb
  · by_cases e : k = i
    · subst e
      rw [fup_same] at hb
      rcases hS' b hb with h1 | h1
      · exact h.out k hk b h1 hc
      · have := hlt b (mem_rown.2 (.inl hc)); omega
    · rw [fup_other _ _ e] at hb; exact h.out k hk b hb hc
  · rcases mem_rown.1 hb with h1 | ⟨k, hk, h1⟩
    · exact .inl (mem_rown.2 (.inl h1))
    · by_cases e : k = i
      · subst e
        rw [fup_same] at h1
        rcases hS' b h1 with h2 | h2
        · exact .inl (mem_rown.2 (.inr ⟨k, hk, h2⟩))
        · exact .inr h2
      · rw [fup_other _ _ e] at h1; exact .inl (mem_rown.2 (.inr ⟨k, hk, h1⟩))
end
/-- The document's queue at xb. -/
def RQOf (w : World) (xb : Nat) (T : List Nat) (n wd : Nat) (B : Nat → Int) (L : Nat → List It) : Prop := ∃ ab cap P TT, T = rown xb ab n TT ∧ RQIs w xb ab n cap P TT wd B L
section
variable {w w' : World} {xb n wd : Nat} {S T : List Nat} {B : Nat → Int} {L : Nat → List It}
theorem RQOf.only (h : RQOf w xb S n wd B L) (ho : Only T w w') (hT : ∀ b ∈ S, b ∉ T) : RQOf w' xb S n wd B L := by
  obtain ⟨ab, cap, P, TT, rfl, h1⟩ := h
  exact ⟨ab, cap, P, TT, rfl, h1.only ho hT⟩
theorem RQOf.only0 (h : RQOf w xb S n wd B L) (ho : Only [] w w') : RQOf w' xb S n wd B L := h.only ho (by simp)
theorem RQOf.lt (h : RQOf w xb S n wd B L) : ∀ b ∈ S, b < w.heap.size := by
  obtain ⟨ab, cap, P, TT, rfl, h1⟩ := h
  exact h1.lt
end

set_option maxHeartbeats 4000000 in
theorem rqPush (w : World) (xb : Nat) (T : List Nat) (n wd : Nat) (B : Nat → Int) (L : Nat → List It) (h : RQOf w xb T n wd B L) (hwd : wd ≤ 40) (hb : ∀ i, i < n → 0 ≤ B i ∧ B i ≤ 18446744073709551615) (x : It) (hx : x.ok) (hroom : ∀ i, i < n → (L i).length < 1000000) :
    Calls Tryz.prog 35 #[.pointer (some ⟨xb, 0, none⟩), .agg #[.int .u64 x.k, .int .i64 x.i]] w fun e w' => e = .returned (.bool (pushB L n B x)) ∧ ∃ T', RQOf w' xb T' n wd B (pushL L n B x) ∧ Moved w T w' T' := by
  obtain ⟨ab, cap, P, TT, rfl, h⟩ := h
  have oA : Only [] w (w.alloc (.cells #[.int .u64 x.k, .int .i64 x.i] 40)) := (Only.refl [] w).alloc _
  have bX : Box _ w.heap.size x := Box.new w x
  have n1 := h.n1
  have n16 := h.n16
  obtain ⟨V, eV⟩ : ∃ V, w.alloc (.cells #[.int .u64 x.k, .int .i64 x.i] 40) = V := ⟨_, rfl⟩
  rw [eV] at oA bX
  have x0 := bX.c0
  have x1 := bX.c1
  have H := Lib.hid (And.intro h oA)
  by_cases h0 : 0 ≤ x.i
  · obtain ⟨i, hi, hm, ht⟩ := home_at h0 n1
    have eh : homeN x.i n = i := homeN_at hm
    have hQ := h.only0 oA
    have hQ2 := hQ.only0 (Only.refl [] V).drew
    have hpu := rPush V.drew (P i) (TT i) wd (B i) (L i) (hQ2.sh i hi) hwd (hb i hi).1 (hb i hi).2 x hx (hroom i hi)
    have d0 := hQ.c0
    have di := hQ.at_ hi
    have hI : (0 : Int) ≤ (i : Int) ∧ (i : Int) < (n : Int) := by omega
    have hn0 : ¬ (n : Int) = 0 := by omega
    have hn0' : ¬ n = 0 := by omega
    have hneg : ¬ x.i < 0 := by omega
    obtain ⟨bb, ebb⟩ : ∃ bb, (!hasId x.i (L i) && decide (B i ≤ x.k)) = bb := ⟨_, rfl⟩
    have epb : pushB L n B x = bb := by unfold pushB; rw [eh, decide_eq_true h0, Bool.true_and, ebb]
    have epl : pushL L n B x = fup L i (if bb = true then ins x (L i) else L i) := by
      unfold pushL; rw [epb, eh]
      cases bb
      · simp [fup_id]
      · simp
    rw [epb, epl]
    rw [ebb] at hpu
    generalize (if bb = true then ins x (L i) else L i) = l' at *
    have HQ := Lib.hid hQ2
    clear h oA bX hQ hQ2 epb epl ebb hm eh hroom hb hwd
    go_enter Tryz.func35, Tryz.ntmps35
    go_wp2_with (simp only [eV])
    go_still_tail 15, (by kernel_rfl)
    change wpList _ _ _ _ _ V.drew
    go_wp2_with fail
    refine hpu.mono ?_
    rintro e w3 ⟨rfl, T3, q1, q2⟩
    have q3 := HQ.out.wheel hi q1 q2
    rw [fup_id] at q3
    have Q3 := Lib.hid q3
    clear q1 q2 q3 hpu
    go_wp2_with fail
    go_ret
    exact ⟨rfl, _, ⟨ab, cap, P, _, rfl, Q3.out.1⟩, (Moved.of_only H.out.2.drew).trans Q3.out.2⟩
  · have epb : pushB L n B x = false := by unfold pushB; rw [decide_eq_false h0]; rfl
    have epl : pushL L n B x = L := by unfold pushL; rw [epb]; rfl
    rw [epb, epl]
    have hneg : x.i < 0 := by omega
    clear h oA bX epb epl hroom hb hwd
    go_enter Tryz.func35, Tryz.ntmps35
    go_wp2_with (simp only [eV])
    go_ret
    exact ⟨rfl, _, ⟨ab, cap, P, TT, rfl, H.out.1.only0 H.out.2⟩, Moved.of_only H.out.2⟩

theorem refOf_row {w : World} {xb wd : Nat} {T : List Nat} {base : Int} {l : List It} (h : RefOf w xb T wd base l) : ∃ A cap, w.cell? ⟨xb, 0, none⟩ = some (.slice A l.length cap) ∧ RowIs w (.slice A l.length cap) l := by
  obtain ⟨v, -, h1, -⟩ := h
  obtain ⟨A, cap, ev⟩ := h1.row.form
  have c0 := h1.c0
  have hr := h1.row
  rw [ev] at c0 hr
  exact ⟨A, cap, c0, hr⟩
/-- The first item of a wheel, by its cells. -/
theorem refOf_first {w : World} {xb wd : Nat} {T : List Nat} {base : Int} {l : List It} (h : RefOf w xb T wd base l) (hne : l ≠ []) : ∃ g cap, w.cell? ⟨xb, 0, none⟩ = some (.slice (some ⟨g, 0, none⟩) l.length cap) ∧ w.cell? ⟨g, 0, none⟩ = some (.int .u64 (first l).k) ∧ w.cell? ⟨g, 1, none⟩ = some (.int .i64 (first l).i) := by
  obtain ⟨A, cap, c0, hr⟩ := refOf_row h
  have h0 : 0 < l.length := List.length_pos_iff.2 hne
  obtain ⟨g, cap', e, -, -, -, -, hc⟩ := hr.at_ h0
  injection e with e1 e2 e3
  subst e1
  have := hc 0 h0
  have ef : gOf l 0 = first l := by cases l with | nil => exact absurd rfl hne | cons x t => rfl
  rw [ef] at this
  exact ⟨g, cap, c0, by simpa using this.1, by simpa using this.2.1⟩

theorem refBest_ge (P : Nat → Bool) (g : Nat → It) (m : Nat) : -1 ≤ refBest P g m ∧ refBest P g m < (m : Int) := by
  rcases refBest_range P g m with h | ⟨i, h1, _, h2⟩ <;> omega

set_option maxHeartbeats 4000000 in
theorem rqFirst (w : World) (xb : Nat) (T : List Nat) (n wd : Nat) (B : Nat → Int) (L : Nat → List It) (h : RQOf w xb T n wd B L) (hroom : ∀ i, i < n → (L i).length < 1000000) :
    Calls Tryz.prog 62 #[.pointer (some ⟨xb, 0, none⟩)] w fun e w' => e = .returned (.int .i64 (bestL L n)) ∧ Only [] w w' := by
  obtain ⟨ab, cap, P, TT, rfl, h⟩ := h
  have n16 := h.n16
  have H := Lib.hid h
  have HR := Lib.hid hroom
  unfold bestL
  clear h hroom
  go_enter Tryz.func62, Tryz.ntmps62
  go_wp2_with fail
  go_loopg [3, 4] (n + 1) (fun gk sb si wr => ∃ p : Nat, sb = .int .i64 (refBest (hasL L) (firL L) p) ∧ si = .int .i64 (p : Int) ∧ p ≤ n ∧ n + 1 ≤ gk + p ∧ Hid (Only [] w wr))
  case atStart => exact ⟨0, rfl, rfl, by omega, by omega, Only.refl [] w⟩
  case round =>
    obtain ⟨p, rfl, rfl, hp, hg, O⟩ := hrel
    have hQ := H.out.only0 O.out
    have c0 := hQ.c0
    by_cases hpl : p < n
    · have hpl' : (p : Int) < (n : Int) := by omega
      have di := hQ.at_ hpl
      have hl6 := HR.out p hpl
      have hst : refBest (hasL L) (firL L) (p + 1) = if hasL L p = true ∧ (refBest (hasL L) (firL L) p < 0 ∨ (firL L p).lt (firL L (refBest (hasL L) (firL L) p).toNat) = true) then (p : Int) else refBest (hasL L) (firL L) p := rfl
      by_cases hne : L p = []
      · have e1 : hasL L p = false := by simp [hasL, hne]
        obtain ⟨A, c, k0, -⟩ := refOf_row (hQ.sh p hpl)
        rw [hne] at k0
        simp only [List.length_nil] at k0
        rw [e1] at hst
        simp only [Bool.false_eq_true, false_and, if_false] at hst
        have HS := Lib.hid hst
        obtain ⟨bst, eb⟩ : ∃ bst, refBest (hasL L) (firL L) p = bst := ⟨_, rfl⟩
        rw [eb] at HS ⊢
        clear hst hQ eb
        go_wp2_with fail
        go_quiet (fail)
        have O5 : Hid (Only [] w (wr.drewN nq)) := O.out.drewN nq
        generalize wr.drewN nq = w5 at *
        go_wp2_with fail
        go_roundg (n + 1 - (p + 1))
        case measure => omega
        case rel => exact ⟨p + 1, by rw [HS.out], by simp, by omega, by omega, O5⟩
      · have e1 : hasL L p = true := by simp [hasL, hne]
        obtain ⟨g1, c1, k0, k1, k2⟩ := refOf_first (hQ.sh p hpl) hne
        have hlen : 0 < (L p).length := List.length_pos_iff.2 hne
        have hlen' : (0 : Int) < ((L p).length : Int) := by omega
        rw [e1] at hst
        simp only [true_and] at hst
        rcases refBest_range (hasL L) (firL L) p with eb | ⟨j, hj, hbj, eb⟩
        · rw [eb] at hst ⊢
          rw [if_pos (.inl (by omega))] at hst
          have HS := Lib.hid hst
          clear hst hQ eb
          go_wp2_with fail
          go_quiet (fail)
          have O5 : Hid (Only [] w (wr.drewN nq)) := O.out.drewN nq
          generalize wr.drewN nq = w5 at *
          go_wp2_with fail
          go_roundg (n + 1 - (p + 1))
          case measure => omega
          case rel => exact ⟨p + 1, by rw [HS.out], by simp, by omega, by omega, O5⟩
        · have hjn : j < n := by omega
          have hnej : L j ≠ [] := by simpa [hasL] using hbj
          obtain ⟨g2, c2, m0, m1, m2⟩ := refOf_first (hQ.sh j hjn) hnej
          have hlenj : 0 < (L j).length := List.length_pos_iff.2 hnej
          have dj := hQ.at_ hjn
          rw [eb] at hst ⊢
          rw [Int.toNat_natCast] at hst
          have hj0 : ¬ ((j : Int) < 0) := by omega
          have hj0' : decide ((j : Int) < 0) = false := decide_eq_false hj0
          have hjI : (0 : Int) ≤ (j : Int) ∧ (j : Int) < (n : Int) := by omega
          have hah := rahead_only (first (L p)) (first (L j))
          have ef1 : firL L p = first (L p) := rfl
          have ef2 : firL L j = first (L j) := rfl
          rw [ef1, ef2] at hst
          generalize first (L p) = x at *
          generalize first (L j) = y at *
          generalize (L p).length = a at *
          generalize (L j).length = b at *
          rcases hl : x.lt y with _ | _
          · rw [hl] at hah hst
            rw [if_neg (by rintro (h3 | h3); exact hj0 h3; cases h3)] at hst
            have HS := Lib.hid hst
            clear hst hQ eb hl ef1 ef2 hbj hnej hne
            go_wp2_with fail
            go_still_tail 23, (by kernel_rfl)
            change wpList _ _ _ _ _ wr.drew
            go_wp2_with (go_at_call 55; refine (hah _).mono ?_; rintro e w5 ⟨rfl, o5⟩)
            have O5 : Hid (Only [] w w5) := O.out.drew.trans' o5
            go_roundg (n + 1 - (p + 1))
            case measure => omega
            case rel => exact ⟨p + 1, by rw [HS.out], by simp, by omega, by omega, O5⟩
          · rw [hl] at hah hst
            rw [if_pos (.inr rfl)] at hst
            have HS := Lib.hid hst
            clear hst hQ eb hl ef1 ef2 hbj hnej hne
            go_wp2_with fail
            go_still_tail 23, (by kernel_rfl)
            change wpList _ _ _ _ _ wr.drew
            go_wp2_with (go_at_call 55; refine (hah _).mono ?_; rintro e w5 ⟨rfl, o5⟩)
            have O5 : Hid (Only [] w w5) := O.out.drew.trans' o5
            go_roundg (n + 1 - (p + 1))
            case measure => omega
            case rel => exact ⟨p + 1, by rw [HS.out], by simp, by omega, by omega, O5⟩
    · have hpe : p = n := by omega
      subst hpe
      have hpl' : ¬ ((p : Int) < (p : Int)) := by omega
      go_wp2_with fail
      go_ret
      exact ⟨rfl, O.out⟩
end Go.Proofs.YtajhkdbldbifeaaGreatDoor
