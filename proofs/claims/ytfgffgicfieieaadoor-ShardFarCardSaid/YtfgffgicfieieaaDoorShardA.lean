/-
  Contract of the shard's All; of the document's Over.
-/
import Derived.Test.YtfgffgicfieieaaDoorShardR
import Derived.Test.YtfgffgicfieieaaDoorHpK
import Derived.Test.YtfgffgicfieieaaDoorShardC
namespace Go.Proofs.YtfgffgicfieieaaDoor
set_option maxRecDepth 100000
open Go.RowKit Go.ChangeMaps Go.MapKept
set_option linter.unusedVariables false
set_option linter.unusedSimpArgs false

set_option maxRecDepth 100000 in
set_option maxHeartbeats 2000000 in
theorem sAll (w : World) (sb : Nat) (S : List Nat) (wd : Nat) (base : Int) (l : List It) (h : ShardOf w sb S wd base l) (hT : Tab w) :
    Calls Tryd.prog 15 #[.pointer (some ⟨sb, 0, none⟩)] w fun e w' => ∃ A cap, e = .returned (.slice A l.length cap) ∧ RowIs w' (.slice A l.length cap) l ∧ (∀ k, (Value.slice A l.length cap).ownBlock = some k → w.heap.size ≤ k) ∧ Only [] w w' := by
  obtain ⟨wb, hb, Sn, Sf, rfl, h1, h2⟩ := h
  have c0 := h1.c0
  have c1 := h1.c1
  have hall := h2.all (wd := wd)
  have hlen := parts_len wd base l
  have hsm := h2.small
  have ha1 : Hid (Calls Tryd.prog 38 #[.pointer (some ⟨wb, 0, none⟩)] w.drew fun e w' => ∃ A cap, e = .returned (.slice A (nears wd base l).length cap) ∧ RowIs w' (.slice A (nears wd base l).length cap) (nears wd base l) ∧ (∀ k, (Value.slice A (nears wd base l).length cap).ownBlock = some k → w.heap.size ≤ k) ∧ Only [] w.drew w') :=
    wAll w.drew wb Sn wd base _ (h1.wh.only0 (Only.refl [] w).drew) (hT.only0 (Only.refl [] w).drew) fun W oW => wLenOf W wb Sn wd base _ ((h1.wh.only0 (Only.refl [] w).drew).only0 oW)
  have ha2 : Hid (∀ W, Only [] w W → Calls Tryd.prog 39 #[.pointer (some ⟨hb, 0, none⟩)] W fun e w' => ∃ A cap, e = .returned (.slice A (fars wd base l).length cap) ∧ RowIs w' (.slice A (fars wd base l).length cap) (fars wd base l) ∧ (∀ k, (Value.slice A (fars wd base l).length cap).ownBlock = some k → W.heap.size ≤ k) ∧ Only [] W w') := fun W o => hAll W hb Sf _ (h1.hp.only0 o)
  have HW : Hid (∀ W, Only [] w W → W.cell? ⟨sb, 0, none⟩ = some (.pointer (some ⟨wb, 0, none⟩)) ∧ W.cell? ⟨sb, 1, none⟩ = some (.pointer (some ⟨hb, 0, none⟩))) := fun W o => ⟨(h1.only0 o).c0, (h1.only0 o).c1⟩
  generalize nears wd base l = n at *
  generalize fars wd base l = f at *
  have HL := Lib.hid (And.intro hall hlen)
  clear h1 h2 hT hall
  go_enter Tryd.func15, Tryd.ntmps15
  go_wp2_with fail
  go_region_held3 (fun w' => w'.cell? ⟨sb, 0, none⟩ = some (.pointer (some ⟨wb, 0, none⟩)) ∧ w'.cell? ⟨sb, 1, none⟩ = some (.pointer (some ⟨hb, 0, none⟩)))
    (first | go_keep | (exact k0) | (exact k1) | (exact k2))
    (first
      | (go_at_call 38; refine ha1.out.mono ?_; rintro e u1 ⟨A1, cap1, rfl, r1, v1, o1⟩; have oo1 := (Only.refl [] w).drew.trans' o1; have k0 := HW.out u1 oo1; have R1 := Lib.hid (And.intro r1 (And.intro v1 oo1)); clear r1 v1 o1 oo1)
      | (go_at_call 39; refine (ha2.out _ R1.out.2.2).mono ?_; rintro e u2 ⟨A2, cap2, rfl, r2, v2, o2⟩; have oo2 := R1.out.2.2.trans' o2; have k1 := HW.out u2 oo2; have R2 := Lib.hid (And.intro (R1.out.1.keep (w' := u2) (fun g hg => o2.block g (R1.out.1.lt hg) (by simp))) (And.intro (Src.of_row r2) (And.intro R1.out.2.1 oo2))); clear r2 v2 o2 oo2)
      | (refine step_append_row rfl _ _ rfl _ n rfl (by exact R2.out.1) _ _ _ f rfl rfl (by exact R2.out.2.1) l.length (by exact HL.out.2) (by omega) ?_; intro A3 cap3 u3 hr3 hg3 hl3; have oo3 := R2.out.2.2.2.grown hg3 (fun k hk => .inr (R2.out.2.2.1 k hk)); have k2 := HW.out u3 oo3; have R3 := Lib.hid (And.intro hr3 (And.intro hl3 oo3)); clear hr3 hg3 hl3 oo3))
  all_goals
    go_wp2_with fail
    go_ret
    obtain ⟨hr3, hl3, oo3⟩ := R3.out
    rw [HL.out.1] at hr3
    refine ⟨A3, cap3, rfl, hr3, fun k hk => ?_, oo3⟩
    rcases hl3 with h9 | h9
    · exact R2.out.2.2.1 k (h9.symm.trans hk)
    · rw [hk] at h9
      injection h9 with h9
      have := R2.out.2.2.2.size
      omega

theorem fars_take {wd : Nat} {base : Int} {l : List It} {p : Nat} (hp : p < l.length) : (fars wd base (l.take (p + 1))).length = (fars wd base (l.take p)).length + (if inR wd base (gOf l p).k then 0 else 1) := by
  have et : l.take (p + 1) = l.take p ++ [gOf l p] := by rw [List.take_add_one, gOf_get hp, List.getElem?_eq_getElem hp]; rfl
  rw [et]
  unfold fars
  rw [List.filter_append, List.length_append]
  rcases hin : inR wd base (gOf l p).k with _ | _ <;> simp [hin]
theorem lev_far {wd : Nat} {base k : Int} (h : base ≤ k) : (levM wd base k == 3) = !inR wd base k := by
  unfold inR
  rcases levM_cases wd base k with ⟨_, _⟩ | ⟨_, h | h | h | h⟩
  · omega
  all_goals (rw [h.1]; decide)
set_option maxRecDepth 100000 in
set_option maxHeartbeats 2000000 in
theorem rOver (w : World) (xb : Nat) (T : List Nat) (wd : Nat) (base : Int) (l : List It) (h : RefOf w xb T wd base l) (hs : Sits base l) (hwd : wd ≤ 40) :
    Calls Tryd.prog 13 #[.pointer (some ⟨xb, 0, none⟩)] w fun e w' => e = .returned (.int .i64 ((fars wd base l).length : Int)) ∧ Only [] w w' := by
  obtain ⟨c1, c2, -, -⟩ := h.cells
  obtain ⟨v, -, h1, -⟩ := h
  obtain ⟨A, cap, ev⟩ := h1.row.form
  have c0 := h1.c0
  rw [ev] at c0
  have hat : Hid (∀ k, k < l.length → ∃ g, A = some ⟨g, 0, none⟩ ∧ w.cell? ⟨g, k * 2, none⟩ = some (.int .u64 (gOf l k).k)) := fun k hk => by
    obtain ⟨g, cap', e, -, -, -, -, hc⟩ := h1.row.at_ (by omega)
    rw [ev] at e
    injection e with e1 e2 e3
    exact ⟨g, e1, (hc k hk).1⟩
  have HS := Lib.hid hs
  have hb0 := hs.b0
  have hb1 := hs.b1
  have hsm := hs.small
  have hfin : Hid (fars wd base (l.take l.length) = fars wd base l) := by show _ = _; rw [List.take_length]
  have hle : Hid (∀ p, (fars wd base (l.take p)).length ≤ p) := fun p => Nat.le_trans (fars_sub wd base _).length_le (by rw [List.length_take]; omega)
  clear hs h1 ev
  go_enter Tryd.func13, Tryd.ntmps13
  go_wp2_with fail
  go_loopg [3, 4] (l.length + 1) (fun gk sn si wr => ∃ p : Nat, sn = .int .i64 ((fars wd base (l.take p)).length : Int) ∧ si = .int .i64 (p : Int) ∧ p ≤ l.length ∧ l.length + 1 ≤ gk + p ∧ Hid (Only [] w wr))
  case atStart => exact ⟨0, rfl, rfl, by omega, by omega, Only.refl [] w⟩
  case round =>
    obtain ⟨p, rfl, rfl, hp, hg, O⟩ := hrel
    have d0 := O.out.stay c0
    by_cases hpl : p < l.length
    · obtain ⟨g, rfl, hc⟩ := hat.out p hpl
      have hpl' : (p : Int) < (l.length : Int) := by omega
      have d1 := O.out.stay c1
      have d2 := O.out.stay c2
      have d3 := O.out.stay hc
      have hmem : gOf l p ∈ l := by rw [gOf_get hpl]; exact List.getElem_mem _
      have hk := key_le (HS.out.fit _ hmem)
      have hlf := lev_far (wd := wd) (HS.out.up _ hmem)
      have htk := fars_take (wd := wd) (base := base) hpl
      have hle1 := hle.out p
      generalize (gOf l p).k = k at *
      have hlv := fun W => rlevel_any base k (wd : Int) hb0 hb1 hk.1 hk.2 W
      rw [wid_nat hwd] at hlv
      generalize levM wd base k = lv at *
      generalize (fars wd base (l.take p)).length = m at *
      obtain ⟨m1, em1⟩ : ∃ m1, (fars wd base (l.take (p + 1))).length = m1 := ⟨_, rfl⟩
      rw [em1] at htk
      have HM := Lib.hid em1
      clear em1
      clear hc c0 c1 c2 hmem
      go_wp2_with fail
      go_quiet (first | (go_at_call 34; exact Calls.quiet_of_same ((hlv _).mono fun _ _ q => ⟨q.1, q.2.symm⟩)))
      have O5 : Hid (Only [] w (wr.drewN nq)) := O.out.drewN nq
      generalize wr.drewN nq = w5 at *
      rcases hin : inR wd base k with _ | _
      · rw [hin] at hlf htk
        simp only [Bool.not_false] at hlf
        simp only [Bool.false_eq_true, if_false] at htk
        go_wp2_with fail
        go_roundg (l.length + 1 - (p + 1))
        case measure => omega
        case rel => exact ⟨p + 1, by first | (rw [HM.out, htk]; done) | (rw [HM.out, htk]; simp), by simp, by omega, by omega, O5⟩
      · rw [hin] at hlf htk
        simp only [Bool.not_true] at hlf
        simp only [if_true, Nat.add_zero] at htk
        go_wp2_with fail
        go_roundg (l.length + 1 - (p + 1))
        case measure => omega
        case rel => exact ⟨p + 1, by first | (rw [HM.out, htk]; done) | (rw [HM.out, htk]; simp), by simp, by omega, by omega, O5⟩
    · have hpe : p = l.length := by omega
      subst hpe
      rw [hfin.out]
      have hpl' : ¬ ((l.length : Int) < (l.length : Int)) := by omega
      go_wp2_with fail
      go_ret
      exact ⟨rfl, O.out⟩
end Go.Proofs.YtfgffgicfieieaaDoor
