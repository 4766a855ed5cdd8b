/-
  The document's: register.
-/
import Derived.Test.YtklolepmmabijaaMdY
namespace Go.Proofs.Ytklolepmmabijaa
set_option maxRecDepth 100000
open Go.RowKit
set_option linter.unusedVariables false
set_option linter.unusedSimpArgs false
set_option maxRecDepth 100000

def Md.regM (M : Md) (c : Cl) : Md := if M.regE c = 0 then M.reg c else M
theorem regM_no {M : Md} {c : Cl} (h : M.regE c ≠ 0) : M.regM c = M := by unfold Md.regM; rw [if_neg h]
theorem regM_yes {M : Md} {c : Cl} (h : M.regE c = 0) : M.regM c = M.reg c := by unfold Md.regM; rw [if_pos h]
/-- A call in its block, beside the document's model, all as it was. -/
structure NSt (w : World) (N b : Nat) (c : Cl) (M : Md) (s : Nat) (Q : List Nat) (u : Value) (es : List En) (W : World) : Prop where
  box : CBox W N c
  blk : NBlk W b M.c s M.n
  rq : RqIs W s M.S u es
  md : NdIs W b M s Q
  only : Only [] w W
section
variable {w W U : World} {N b s : Nat} {c : Cl} {M : Md} {Q : List Nat} {u : Value} {es : List En}
theorem NSt.on (h : NSt w N b c M s Q u es W) (ho : Only [] W U) : NSt w N b c M s Q u es U := ⟨h.box.only0 ho, h.blk.only ho (by simp), h.rq.only0 ho, h.md.only0 ho, h.only.trans' ho⟩
theorem NSt.start (h : NdIs w b M s Q) (hr : RqIs w s M.S u es) (c : Cl) : NSt w w.heap.size b c M s Q u es (w.alloc (.cells #[.int .i64 c.op, .int .i64 c.f, .int .i64 c.a, .int .i64 c.b] 44)) := by
  have o : Only [] w (w.alloc (.cells #[.int .i64 c.op, .int .i64 c.f, .int .i64 c.a, .int .i64 c.b] 44)) := (Only.refl [] w).alloc _
  exact ⟨CBox.new w c, h.blk.only o (by simp), hr.only0 o, h.only0 o, o⟩
end
theorem idsOf_at {S : Sq} {es : List En} (hk : es.map En.key = S.l) {i : Nat} {e : En} (hi : es[i]? = some e) : (idsOf S.l)[i]? = some e.id := by
  unfold idsOf
  rw [List.getElem?_map, key_at hk hi]
  rfl
section
variable (w : World) (b : Nat) (M : Md) (O : List Nat) (h : NdOf b M w O)
include h
set_option maxHeartbeats 2000000 in
theorem nRegister (c : Cl) (hc : c.ok) (k j : Nat) (hM : M.ok k j) (hk : k < 1000) : Calls Try.prog 37 #[.pointer (some ⟨b, 0, none⟩), .agg #[.int .i64 c.op, .int .i64 c.f, .int .i64 c.a, .int .i64 c.b]] w fun e w' =>
    e = .returned (.int .i64 (M.regE c)) ∧ ∃ O', NdOf b (M.regM c) w' O' ∧ Went w O w' O' := by
  obtain ⟨s, Q, h, rfl⟩ := h
  obtain ⟨u, es, hr, eQ⟩ := h.sq
  have st0 := NSt.start h hr c
  have st := Lib.hid st0
  obtain ⟨x0, x1, x2, x3⟩ := st0.box.c
  obtain ⟨_, _, _, _, _, c5, _⟩ := st0.blk.c
  have hlO := Lib.hid h.lt
  have HM := Lib.hid (And.intro hM (And.intro hc hk))
  have hs1 := hM.c.sh1
  have hne : ¬ (M.c.sh = 0) := by omega
  have hne' : (M.c.sh == 0) = false := by simpa using hne
  have END : Hid (∀ W, M.regE c ≠ 0 → NdIs W b M s Q → Only [] w W → ∃ O', NdOf b (M.regM c) W O' ∧ Went w (b :: Q) W O') := fun W he hW hO => by
    rw [regM_no he]
    exact ⟨_, ⟨s, Q, hW, rfl⟩, Went.still hO _⟩
  clear h hM hc hk st0 hr eQ
  go_enter Try.func37, Try.ntmps37
  by_cases h1 : c.f < 0 ∨ 1048576 < c.f
  · have ER : Hid (M.regE c = 1) := by show M.regE c = 1; unfold Md.regE; rw [if_pos (by omega)]
    rcases h1 with h1 | h1
    · have d1 : decide (c.f < 0) = true := decide_eq_true h1
      go_wp2_with fail
      go_ret
      exact ⟨by rw [ER.out]; rfl, END.out _ (by rw [ER.out]; decide) st.out.md st.out.only⟩
    · have h1' : ¬ (c.f < 0) := by omega
      have d1 : decide (c.f < 0) = false := decide_eq_false h1'
      have d2 : decide (1048576 < c.f) = true := decide_eq_true h1
      go_wp2_with fail
      go_ret
      exact ⟨by rw [ER.out]; rfl, END.out _ (by rw [ER.out]; decide) st.out.md st.out.only⟩
  · have g1 : ¬ (c.f < 0) := by omega
    have g2 : ¬ (1048576 < c.f) := by omega
    have H1 : Hid (0 ≤ c.f ∧ c.f ≤ 1048576) := by show _ ∧ _; omega
    clear h1
    by_cases h2 : c.a < 1 ∨ 65536 < c.a
    · have ER : Hid (M.regE c = 4) := by show M.regE c = 4; unfold Md.regE; rw [if_neg (by simpa using H1.out), if_pos (by omega)]
      rcases h2 with h2 | h2
      · have d1 : decide (c.a < 1) = true := decide_eq_true h2
        go_wp2_with fail
        go_ret
        exact ⟨by rw [ER.out]; rfl, END.out _ (by rw [ER.out]; decide) st.out.md st.out.only⟩
      · have h2' : ¬ (c.a < 1) := by omega
        have d1 : decide (c.a < 1) = false := decide_eq_false h2'
        have d2 : decide (65536 < c.a) = true := decide_eq_true h2
        go_wp2_with fail
        go_ret
        exact ⟨by rw [ER.out]; rfl, END.out _ (by rw [ER.out]; decide) st.out.md st.out.only⟩
    · have g3 : ¬ (c.a < 1) := by omega
      have g4 : ¬ (65536 < c.a) := by omega
      have H2 : Hid (1 ≤ c.a ∧ c.a ≤ 65536) := by show _ ∧ _; omega
      clear h2
      by_cases h3 : c.b < 1 ∨ 8 < c.b
      · have ER : Hid (M.regE c = 1) := by show M.regE c = 1; unfold Md.regE; rw [if_neg (by simpa using H1.out), if_neg (by simpa using H2.out), if_pos (by omega)]
        rcases h3 with h3 | h3
        · have d1 : decide (c.b < 1) = true := decide_eq_true h3
          go_wp2_with fail
          go_ret
          exact ⟨by rw [ER.out]; rfl, END.out _ (by rw [ER.out]; decide) st.out.md st.out.only⟩
        · have h3' : ¬ (c.b < 1) := by omega
          have d1 : decide (c.b < 1) = false := decide_eq_false h3'
          have d2 : decide (8 < c.b) = true := decide_eq_true h3
          go_wp2_with fail
          go_ret
          exact ⟨by rw [ER.out]; rfl, END.out _ (by rw [ER.out]; decide) st.out.md st.out.only⟩
      · have g5 : ¬ (c.b < 1) := by omega
        have g6 : ¬ (8 < c.b) := by omega
        have H3 : Hid (1 ≤ c.b ∧ c.b ≤ 8) := by show _ ∧ _; omega
        clear h3
        go_wp2_with fail
        generalize w.alloc (.cells #[.int .i64 c.op, .int .i64 c.f, .int .i64 c.a, .int .i64 c.b] 44) = W at *
        obtain ⟨N, eN⟩ : ∃ N, w.heap.size = N := ⟨_, rfl⟩
        rw [eN] at x0 x1 x2 x3 st ⊢
        have HN := Lib.hid eN
        clear eN g1 g2 g3 g4 g5 g6
        go_still_tail 6, (by kernel_rfl)
        change wpList _ _ _ _ _ W.drew
        have st1 := st.out.on (Only.refl [] W).drew
        have kA := zAt W.drew s M.S u es st1.rq c.f
        rcases hh : hasK M.S.l c.f with _ | _
        · rw [atK_not hh] at kA
          have HH := Lib.hid hh
          clear hh
          go_wp2_with fail
          refine kA.mono ?_
          rintro e W1 ⟨rfl, e1⟩
          rw [← e1] at st1
          have st := Lib.hid st1
          obtain ⟨A, cap, ev⟩ := st1.rq.row.form
          rw [List.length_map] at ev
          subst ev
          have hl1 : es.length ≤ 1000 := by have := st1.rq.ok.len; have := key_len st1.rq.key; omega
          have hget : Hid (∀ k : Nat, k < es.length → ∃ e : En, es[k]? = some e) := fun k hk => ⟨_, List.getElem?_eq_getElem hk⟩
          clear kA e1 x0 x1 x2 x3 c5 st1
          obtain ⟨n, en⟩ : ∃ n, es.length = n := ⟨_, rfl⟩
          rw [en] at hl1 hget st
          have HE := Lib.hid en
          clear en
          have lT : Hid ((idsOf M.S.l).length = n) := by
            show _ = _
            unfold idsOf
            rw [List.length_map, ← HE.out, key_len st.out.rq.key]
          obtain ⟨x0, x1, x2, x3⟩ := st.out.box.c
          obtain ⟨c0, _, _, _, _, c5, _⟩ := st.out.blk.c
          obtain ⟨q0, _, _⟩ := st.out.rq.blk.c
          go_wp2_with fail
          go_loopg [5, 6] (n + 1) (fun gk sn si wr => ∃ p : Nat, sn = .int .i64 (takenI ((idsOf M.S.l).take p) M.c.sh (c.f.tmod M.c.sh) : Int) ∧ si = .int .i64 (p : Int) ∧ p ≤ n ∧ n + 1 ≤ gk + p ∧ Hid (NSt w N b c M s Q (.slice A n cap) es wr))
          case atStart => exact ⟨0, by simp [takenI], rfl, by omega, by omega, st⟩
          case round =>
            clear st
            obtain ⟨p, rfl, rfl, hp, hg, st⟩ := hrel
            obtain ⟨x0, x1, x2, x3⟩ := st.out.box.c
            obtain ⟨c0, c1, _, _, _, c5, _⟩ := st.out.blk.c
            obtain ⟨q0, _, _⟩ := st.out.rq.blk.c
            have hT : Hid (takenI ((idsOf M.S.l).take p) M.c.sh (c.f.tmod M.c.sh) ≤ p) := by
              have h1 := takenI_le ((idsOf M.S.l).take p) M.c.sh (c.f.tmod M.c.sh)
              rw [List.length_take] at h1
              show _ ≤ _
              omega
            by_cases hpl : p < n
            · have hpl' : (p : Int) < (n : Int) := by omega
              obtain ⟨e, he⟩ := hget.out p hpl
              obtain ⟨g, rfl, hgl, d0⟩ := prow_at st.out.rq.row wr (Only.refl _ _) p e he
              obtain ⟨k0, _, _⟩ := ref_c (st.out.rq.fam.each e (List.mem_of_getElem? he))
              have hS := Lib.hid (takenI_step (idsOf_at st.out.rq.key he) M.c.sh (c.f.tmod M.c.sh))
              clear he
              obtain ⟨T, eT⟩ : ∃ T, takenI ((idsOf M.S.l).take p) M.c.sh (c.f.tmod M.c.sh) = T := ⟨_, rfl⟩
              rw [eT] at hS hT ⊢
              have hT' : T ≤ p := hT.out
              clear eT
              go_wp2_with fail
              go_still_tail 27, (by kernel_rfl)
              change wpList _ _ _ _ _ wr.drew
              have st2 := Lib.hid (st.out.on (Only.refl [] wr).drew)
              generalize wr.drew = W2 at *
              by_cases hxr : (e.id.tmod M.c.sh == c.f.tmod M.c.sh) = true
              · have hS1 : Hid (takenI ((idsOf M.S.l).take (p + 1)) M.c.sh (c.f.tmod M.c.sh) = T + 1) := by have := hS.out; rw [if_pos hxr] at this; exact this
                go_wp2_with fail
                go_roundg (n + 1 - (p + 1))
                case measure => omega
                case rel => exact ⟨p + 1, by rw [hS1.out]; simp, by simp, by omega, by omega, st2⟩
              · have hS1 : Hid (takenI ((idsOf M.S.l).take (p + 1)) M.c.sh (c.f.tmod M.c.sh) = T) := by have := hS.out; rw [if_neg hxr] at this; exact this
                have hxr' : (e.id.tmod M.c.sh == c.f.tmod M.c.sh) = false := by simpa using hxr
                go_wp2_with fail
                go_roundg (n + 1 - (p + 1))
                case measure => omega
                case rel => exact ⟨p + 1, by rw [hS1.out], by simp, by omega, by omega, st2⟩
            · have hpl' : ¬ ((p : Int) < (n : Int)) := by omega
              obtain rfl : p = n := by omega
              have eL : (idsOf M.S.l).take p = idsOf M.S.l := List.take_of_length_le (by rw [lT.out]; exact Nat.le_refl _)
              rw [eL] at hT ⊢
              obtain ⟨T, eT⟩ : ∃ T, takenI (idsOf M.S.l) M.c.sh (c.f.tmod M.c.sh) = T := ⟨_, rfl⟩
              have eR : M.regE c = if M.c.sl ≤ (T : Int) then 7 else 0 := by
                unfold Md.regE
                rw [if_neg (by simpa using H1.out), if_neg (by simpa using H2.out), if_neg (by simpa using H3.out), if_neg (by simp [HH.out]), eT]
              rw [eT]
              clear eT hT hget
              by_cases h7 : M.c.sl ≤ (T : Int)
              · have ER := Lib.hid (eR.trans (if_pos h7))
                clear eR
                go_wp2_with fail
                go_ret
                exact ⟨by rw [ER.out]; rfl, END.out _ (by rw [ER.out]; decide) st.out.md st.out.only⟩
              · have ER := Lib.hid (eR.trans (if_neg h7))
                obtain ⟨ga, gb⟩ := H2.out
                have KI := Lib.hid (fun W => rinv_ok M.c.un c.a W HM.out.1.c.un1 HM.out.1.c.un2 ga gb)
                have hu := Lib.hid (invM_u64 M.c.un c.a HM.out.1.c.un1 HM.out.1.c.un2 ga)
                have st2 := Lib.hid (st.out.on (Only.refl [] wr).drew)
                have hcells : Hid (wr.drew.cell? ⟨b, 4, none⟩ = some (.int .u64 M.c.un) ∧ wr.drew.cell? ⟨N, 2, none⟩ = some (.int .i64 c.a)) := ⟨st2.out.blk.c.2.2.2.2.1, st2.out.box.c.2.2.1⟩
                obtain ⟨_, _, _, _, c4, _, _⟩ := st.out.blk.c
                clear eR ga gb
                go_wp2_with fail
                go_region_held3 (fun w' => w'.cell? ⟨b, 4, none⟩ = some (.int .u64 M.c.un) ∧ w'.cell? ⟨N, 2, none⟩ = some (.int .i64 c.a))
                  (first | (exact hcells.out) | go_keep)
                  (first | (go_at_call 53; refine (KI.out _).mono ?_; rintro e u ⟨rfl, rfl⟩))
                all_goals
                  clear x0 x1 x2 x3 c0 c1 c4 c5 q0 st hcells KI
                  generalize wr.drew = W2 at *
                  have kB := zAdd W2.drew s M.S Q (st2.out.on (Only.refl [] W2).drew).md.sq c.f (invM M.c.un c.a) c.b HM.out.2.1.2.1 hu.out (by have := HM.out.1.len; have := HM.out.2.2; omega)
                  rw [HH.out] at kB
                  obtain ⟨x0, x1, x2, x3⟩ := st2.out.box.c
                  obtain ⟨_, _, _, _, _, c5, _⟩ := st2.out.blk.c
                  go_wp2_with fail
                  go_still_tail 9, (by kernel_rfl)
                  change wpList _ _ _ _ _ W2.drew
                  go_wp2_with fail
                  refine kB.mono ?_
                  rintro e W3 ⟨rfl, t3⟩
                  have st3 := st2.out.on (Only.refl [] W2).drew
                  obtain ⟨Q', m3, w3⟩ := st3.md.turn t3
                  have FIN : Hid (∃ O', NdOf b (M.regM c) W3 O' ∧ Went w (b :: Q) W3 O') := by
                    rw [regM_yes ER.out]
                    exact ⟨_, ⟨s, Q', m3, rfl⟩, (Went.still st3.only _).trans w3⟩
                  clear kB t3 st3 m3 w3
                  go_wp2_with fail
                  go_ret
                  exact ⟨by rw [ER.out]; rfl, FIN.out⟩
        · rw [atK_has hh] at kA
          have ER : Hid (M.regE c = 6) := by show M.regE c = 6; unfold Md.regE; rw [if_neg (by simpa using H1.out), if_neg (by simpa using H2.out), if_neg (by simpa using H3.out), if_pos hh]
          have hp : (0 : Int) ≤ (posK M.S.l c.f : Int) := by omega
          clear hh
          go_wp2_with fail
          refine kA.mono ?_
          rintro e W1 ⟨rfl, e1⟩
          rw [← e1] at st1
          clear e1 kA
          go_wp2_with fail
          go_ret
          exact ⟨by rw [ER.out]; rfl, END.out _ (by rw [ER.out]; decide) st1.md st1.only⟩
end
end Go.Proofs.Ytklolepmmabijaa
