/-
  The document's First.
-/
import Derived.Test.YtmgmfihjojhilaaRcJ
namespace Go.Proofs.Ytmgmfihjojhilaa
set_option maxRecDepth 100000
open Go.RowKit
set_option linter.unusedVariables false
set_option linter.unusedSimpArgs false
set_option maxRecDepth 100000

set_option maxHeartbeats 1000000 in
theorem rFirstNo (A : Option Addr) (m c : Nat) (xs : List Ev) (w : World) (hm : xs.length = m) (hb : m ≤ 100) (h : Evs w A xs) (hok : okL xs = false) :
    Calls Try.prog 13 #[.slice A m c] w fun e w' => e = .returned (.tuple #[.int .i64 0, .int .i64 0, .bool false]) ∧ Only [] w w' := by
  have k := rClocksNo A m c xs w hm hb h hok
  clear hok h hm
  go_enter Try.func13, Try.ntmps13
  go_wp2_with fail
  refine k.mono ?_
  rintro e w1 ⟨rfl, o1⟩
  have O1 := Lib.hid o1
  clear k o1
  go_wp2_with fail
  go_loopg [6] 1 (fun gk si wr => si = .int .i64 0 ∧ Hid (Only [] w wr))
  case atStart => exact ⟨rfl, O1.out⟩
  case round =>
    obtain ⟨rfl, O⟩ := hrel
    go_wp2_with fail
    refine bodyPost_ret (v := .tuple #[.int .i64 0, .int .i64 0, .bool false]) ?_ rfl ?_
    · simp [results, Try.f13, go_sem]
    · exact ⟨rfl, O.out⟩
set_option maxHeartbeats 8000000 in
theorem rFirstOk (A : Option Addr) (m c : Nat) (xs : List Ev) (w : World) (ra rb : Int) (rk : Bool) (hm : xs.length = m) (hb : m ≤ 100) (h : Evs w A xs) (hok : okL xs = true) (hF : FirstIs (evs xs) m ra rb rk) :
    Calls Try.prog 13 #[.slice A m c] w fun e w' => e = .returned (.tuple #[.int .i64 ra, .int .i64 rb, .bool rk]) ∧ Only [] w w' := by
  have hO : ∀ i, i < m → okE (evs xs i) = true := fun i hi => okL_iff.1 hok i (by omega)
  have k := Lib.hid (rClocks A m c xs w hm hb h hok)
  have H64 : Hid (∀ k, k < m → (clk (evs xs) k).length ≤ 64) := fun k hk => (clk_fits hO (by omega) hk).1
  have HK : Hid (∀ i, i < m → 1 ≤ (evs xs i).kind ∧ (evs xs i).kind ≤ 6) := fun i hi => (okE_iff.1 (hO i hi)).2.2
  have HE := Lib.hid h
  have HM := Lib.hid hm
  have HF := Lib.hid hF
  clear hok h hm hF hO
  go_enter Try.func13, Try.ntmps13
  go_wp2_with fail
  refine k.out.mono ?_
  rintro e w1 ⟨A2, c2, rfl, hs, F1⟩
  have CR := Lib.hid F1
  have EV : Hid (Evs w1 A xs) := HE.out.only0 F1.only
  clear k F1
  go_wp2_with fail
  go_loopg [6] (m + 1) (fun gk sj wr => ∃ j : Nat, sj = .int .i64 (j : Int) ∧ j ≤ m ∧ m + 1 ≤ gk + j ∧ Hid (∀ j', j' < j → ∀ i', i' < j' → raceB (evs xs) i' j' = false) ∧ Hid (Only [] w1 wr))
  case atStart => exact ⟨0, rfl, by omega, by omega, fun j hj => absurd hj (by omega), Only.refl _ _⟩
  case round =>
    obtain ⟨j, rfl, hj, hg, hn, O⟩ := hrel
    by_cases hjm : j < m
    · have h1 : (j : Int) < (m : Int) := by omega
      go_wp2_with fail
      go_loopg [7] (j + 1) (fun gk si wr => ∃ i : Nat, si = .int .i64 (i : Int) ∧ i ≤ j ∧ j + 1 ≤ gk + i ∧ Hid (∀ i', i' < i → raceB (evs xs) i' j = false) ∧ Hid (Only [] w1 wr))
      case atStart => exact ⟨0, rfl, by omega, by omega, fun i hi => absurd hi (by omega), O.out⟩
      case round =>
        obtain ⟨i, rfl, hi, hg2, hni, O2⟩ := hrel
        clear O
        by_cases hij : i < j
        · have h2 : (i : Int) < (j : Int) := by omega
          have him : i < m := by omega
          obtain ⟨gv, ea, _⟩ := EV.out.at_ (k := i) (by have := HM.out; omega)
          obtain ⟨gr, g1, ⟨B1, n1, q1⟩, ea2, _, hs1, t1⟩ := CR.out.row.at_ him
          obtain ⟨gr', g2, ⟨B2, n2, q2⟩, ea3, _, hs2, t2⟩ := CR.out.row.at_ hjm
          subst ea ea2
          have lq := Lib.hid (fun (u' : World) (o : Only [] w1 u') => rLeq B1 n1 q1 (clk (evs xs) i) B2 n2 q2 (clk (evs xs) j) u' t1.len t2.len (by have h9 := H64.out i him; have h8 : _ = n1 := t1.len; omega) (by have h9 := H64.out j hjm; have h8 : _ = n2 := t2.len; omega) (t1.nums.zero.only0 o) (t2.nums.zero.only0 o))
          have cel : Hid (∀ u' : World, Only [] w1 u' → u'.cell? ⟨gv, i * 5, none⟩ = some (.int .i64 (evs xs i).who) ∧ u'.cell? ⟨gv, i * 5 + 1, none⟩ = some (.int .i64 (evs xs i).kind) ∧ u'.cell? ⟨gv, i * 5 + 2, none⟩ = some (.int .i64 (evs xs i).lc.k) ∧ u'.cell? ⟨gv, i * 5 + 3, none⟩ = some (.int .i64 (evs xs i).lc.a) ∧ u'.cell? ⟨gv, i * 5 + 4, none⟩ = some (.int .i64 (evs xs i).lc.b) ∧ u'.cell? ⟨gv, j * 5, none⟩ = some (.int .i64 (evs xs j).who) ∧ u'.cell? ⟨gv, j * 5 + 1, none⟩ = some (.int .i64 (evs xs j).kind) ∧ u'.cell? ⟨gv, j * 5 + 2, none⟩ = some (.int .i64 (evs xs j).lc.k) ∧ u'.cell? ⟨gv, j * 5 + 3, none⟩ = some (.int .i64 (evs xs j).lc.a) ∧ u'.cell? ⟨gv, j * 5 + 4, none⟩ = some (.int .i64 (evs xs j).lc.b) ∧ u'.cell? ⟨gr, i, none⟩ = some (.slice B1 n1 q1) ∧ u'.cell? ⟨gr, j, none⟩ = some (.slice B2 n2 q2)) := fun u' o => by
            obtain ⟨gx, eg, a0, a1, a2, a3, a4⟩ := (EV.out.only0 o).at_ (k := i) (by have := HM.out; omega)
            obtain ⟨gy, eg2, b0, b1, b2, b3, b4⟩ := (EV.out.only0 o).at_ (k := j) (by have := HM.out; omega)
            obtain ⟨gz, g3, s3, ea4, c3, hs3, _⟩ := (CR.out.row.only0 o).at_ him
            obtain ⟨gw, g4, s4, ea5, c4, hs4, _⟩ := (CR.out.row.only0 o).at_ hjm
            injection eg with eg
            injection eg with eg
            injection eg2 with eg2
            injection eg2 with eg2
            injection ea4 with ea4
            injection ea4 with ea4
            injection ea5 with ea5
            injection ea5 with ea5
            subst eg eg2 ea4 ea5
            rw [hs1] at hs3
            rw [hs2] at hs4
            injection hs3 with hs3
            injection hs4 with hs4
            subst hs3 hs4
            exact ⟨a0, a1, a2, a3, a4, b0, b1, b2, b3, b4, c3, c4⟩
          have cf := Lib.hid (fun (u' : World) => rConf (evs xs i) (evs xs j) (HK.out i him) (HK.out j hjm) u')
          have E : Hid (raceB (evs xs) i j = (confB (evs xs i) (evs xs j) && !leqB (clk (evs xs) i) (clk (evs xs) j))) := rfl
          clear t1 t2 hs1 hs2 ea3
          generalize leqB (clk (evs xs) i) (clk (evs xs) j) = lb at *
          generalize confB (evs xs i) (evs xs j) = cb at *
          generalize evs xs i = e1 at *
          generalize evs xs j = e2 at *
          have st : Hid (Only [] w1 wr.drew) := O2.out.drew
          go_wp2_with fail
          rcases cb
          · -- no conflict
            refine wp_region_held_drew (S := (fun u' => u'.cell? ⟨gv, i * 5, none⟩ = some (.int .i64 e1.who) ∧ u'.cell? ⟨gv, i * 5 + 1, none⟩ = some (.int .i64 e1.kind) ∧ u'.cell? ⟨gv, i * 5 + 2, none⟩ = some (.int .i64 e1.lc.k) ∧ u'.cell? ⟨gv, i * 5 + 3, none⟩ = some (.int .i64 e1.lc.a) ∧ u'.cell? ⟨gv, i * 5 + 4, none⟩ = some (.int .i64 e1.lc.b) ∧ u'.cell? ⟨gv, j * 5, none⟩ = some (.int .i64 e2.who) ∧ u'.cell? ⟨gv, j * 5 + 1, none⟩ = some (.int .i64 e2.kind) ∧ u'.cell? ⟨gv, j * 5 + 2, none⟩ = some (.int .i64 e2.lc.k) ∧ u'.cell? ⟨gv, j * 5 + 3, none⟩ = some (.int .i64 e2.lc.a) ∧ u'.cell? ⟨gv, j * 5 + 4, none⟩ = some (.int .i64 e2.lc.b) ∧ u'.cell? ⟨gr, i, none⟩ = some (.slice B1 n1 q1) ∧ u'.cell? ⟨gr, j, none⟩ = some (.slice B2 n2 q2))) (by kernel_rfl) (cel.out _ st.out) (fun hHeld => ?_)
            refine takeH (i := 0) (v := ?_) rfl (by kernel_rfl) (by kernel_rfl) (by kernel_rfl) (fun _ _ _ h => h) (Or.inl ⟨by rfl, ?_⟩) (by assumption) ?_
            rotate_left 1
            · (intro w hSw; (try dsimp only at hSw); go_simp; try (with_reducible rfl))
            try simp only [Act.put, List.setIfInBounds_toArray, List.set_cons_zero, List.set_cons_succ]
            refine takeH (i := 1) (v := ?_) rfl (by kernel_rfl) (by kernel_rfl) (by kernel_rfl) (fun _ _ _ h => h) (Or.inl ⟨by rfl, ?_⟩) (by assumption) ?_
            rotate_left 1
            · (intro w hSw; (try dsimp only at hSw); go_simp; try (with_reducible rfl))
            try simp only [Act.put, List.setIfInBounds_toArray, List.set_cons_zero, List.set_cons_succ]
            refine takeH (i := 2) (v := ?_) rfl (by kernel_rfl) (by kernel_rfl) (by kernel_rfl) (fun _ _ _ h => h) (Or.inl ⟨by rfl, ?_⟩) (by assumption) ?_
            rotate_left 1
            · (intro w hSw; (try dsimp only at hSw); go_simp; try (with_reducible rfl))
            try simp only [Act.put, List.setIfInBounds_toArray, List.set_cons_zero, List.set_cons_succ]
            refine takeH (i := 3) (v := ?_) rfl (by kernel_rfl) (by kernel_rfl) (by kernel_rfl) (fun _ _ _ h => h) (Or.inl ⟨by rfl, ?_⟩) (by assumption) ?_
            rotate_left 1
            · (intro w hSw; (try dsimp only at hSw); go_simp; try (with_reducible rfl))
            try simp only [Act.put, List.setIfInBounds_toArray, List.set_cons_zero, List.set_cons_succ]
            refine takeH (i := 4) (v := ?_) rfl (by kernel_rfl) (by kernel_rfl) (by kernel_rfl) (fun _ _ _ h => h) (Or.inl ⟨by rfl, ?_⟩) (by assumption) ?_
            rotate_left 1
            · (intro w hSw; (try dsimp only at hSw); go_simp; try (with_reducible rfl))
            try simp only [Act.put, List.setIfInBounds_toArray, List.set_cons_zero, List.set_cons_succ]
            refine takeH (i := 5) (v := ?_) rfl (by kernel_rfl) (by kernel_rfl) (by kernel_rfl) (fun _ _ _ h => h) (Or.inl ⟨by rfl, ?_⟩) (by assumption) ?_
            rotate_left 1
            · (intro w hSw; (try dsimp only at hSw); go_simp; try (with_reducible rfl))
            try simp only [Act.put, List.setIfInBounds_toArray, List.set_cons_zero, List.set_cons_succ]
            refine takeH (i := 6) (v := ?_) rfl (by kernel_rfl) (by kernel_rfl) (by kernel_rfl) (fun _ _ _ h => h) (Or.inl ⟨by rfl, ?_⟩) (by assumption) ?_
            rotate_left 1
            · (intro w hSw; (try dsimp only at hSw); go_simp; try (with_reducible rfl))
            try simp only [Act.put, List.setIfInBounds_toArray, List.set_cons_zero, List.set_cons_succ]
            refine takeH (i := 7) (v := ?_) rfl (by kernel_rfl) (by kernel_rfl) (by kernel_rfl) (fun _ _ _ h => h) (Or.inl ⟨by rfl, ?_⟩) (by assumption) ?_
            rotate_left 1
            · (intro w hSw; (try dsimp only at hSw); go_simp; try (with_reducible rfl))
            try simp only [Act.put, List.setIfInBounds_toArray, List.set_cons_zero, List.set_cons_succ]
            refine wpAnyH_ready (rs := [8]) (by kernel_rfl) (by simp) ?_
            refine consH rfl (fun K hK => ?_) AllReadyH.nil
            go_simp
            refine (cf.out _).mono ?_
            rintro e v ⟨rfl, o⟩
            have st := Lib.hid (st.out.trans' o)
            clear o
            refine hK.out _ _ (cel.out _ st.out) (fun hHeld2 => ?_)
            clear hK K hHeld
            have hHeld := hHeld2
            clear hHeld2
            try simp only [Act.put, List.setIfInBounds_toArray, List.set_cons_zero, List.set_cons_succ]
            refine takeH (i := 9) (v := ?_) rfl (by kernel_rfl) (by kernel_rfl) (by kernel_rfl) (fun _ _ _ h => h) (Or.inl ⟨by rfl, ?_⟩) (by assumption) ?_
            rotate_left 1
            · (intro w hSw; (try dsimp only at hSw); go_simp; try (with_reducible rfl))
            try simp only [Act.put, List.setIfInBounds_toArray, List.set_cons_zero, List.set_cons_succ]
            refine takeH (i := 10) (v := undef) rfl (by kernel_rfl) (by kernel_rfl) (by kernel_rfl) (fun _ _ _ h => h) (Or.inr ⟨by rfl, rfl⟩) (by assumption) ?_
            try simp only [Act.put, List.setIfInBounds_toArray, List.set_cons_zero, List.set_cons_succ]
            refine takeH (i := 11) (v := undef) rfl (by kernel_rfl) (by kernel_rfl) (by kernel_rfl) (fun _ _ _ h => h) (Or.inr ⟨by rfl, rfl⟩) (by assumption) ?_
            try simp only [Act.put, List.setIfInBounds_toArray, List.set_cons_zero, List.set_cons_succ]
            refine takeH (i := 12) (v := undef) rfl (by kernel_rfl) (by kernel_rfl) (by kernel_rfl) (fun _ _ _ h => h) (Or.inr ⟨by rfl, rfl⟩) (by assumption) ?_
            try simp only [Act.put, List.setIfInBounds_toArray, List.set_cons_zero, List.set_cons_succ]
            refine takeH (i := 13) (v := undef) rfl (by kernel_rfl) (by kernel_rfl) (by kernel_rfl) (fun _ _ _ h => h) (Or.inr ⟨by rfl, rfl⟩) (by assumption) ?_
            try simp only [Act.put, List.setIfInBounds_toArray, List.set_cons_zero, List.set_cons_succ]
            refine takeH (i := 14) (v := undef) rfl (by kernel_rfl) (by kernel_rfl) (by kernel_rfl) (fun _ _ _ h => h) (Or.inr ⟨by rfl, rfl⟩) (by assumption) ?_
            try simp only [Act.put, List.setIfInBounds_toArray, List.set_cons_zero, List.set_cons_succ]
            refine takeH (i := 15) (v := undef) rfl (by kernel_rfl) (by kernel_rfl) (by kernel_rfl) (fun _ _ _ h => h) (Or.inr ⟨by rfl, rfl⟩) (by assumption) ?_
            try simp only [Act.put, List.setIfInBounds_toArray, List.set_cons_zero, List.set_cons_succ]
            refine takeH (i := 16) (v := undef) rfl (by kernel_rfl) (by kernel_rfl) (by kernel_rfl) (fun _ _ _ h => h) (Or.inr ⟨by rfl, rfl⟩) (by assumption) ?_
            try simp only [Act.put, List.setIfInBounds_toArray, List.set_cons_zero, List.set_cons_succ]
            refine takeH (i := 17) (v := undef) rfl (by kernel_rfl) (by kernel_rfl) (by kernel_rfl) (fun _ _ _ h => h) (Or.inr ⟨by rfl, rfl⟩) (by assumption) ?_
            try simp only [Act.put, List.setIfInBounds_toArray, List.set_cons_zero, List.set_cons_succ]
            refine takeH (i := 18) (v := undef) rfl (by kernel_rfl) (by kernel_rfl) (by kernel_rfl) (fun _ _ _ h => h) (Or.inr ⟨by rfl, rfl⟩) (by assumption) ?_
            try simp only [Act.put, List.setIfInBounds_toArray, List.set_cons_zero, List.set_cons_succ]
            refine takeH (i := 19) (v := undef) rfl (by kernel_rfl) (by kernel_rfl) (by kernel_rfl) (fun _ _ _ h => h) (Or.inr ⟨by rfl, rfl⟩) (by assumption) ?_
            try simp only [Act.put, List.setIfInBounds_toArray, List.set_cons_zero, List.set_cons_succ]
            refine takeH (i := 20) (v := ?_) rfl (by kernel_rfl) (by kernel_rfl) (by kernel_rfl) (fun _ _ _ h => h) (Or.inl ⟨by rfl, ?_⟩) (by assumption) ?_
            rotate_left 1
            · (intro w hSw; (try dsimp only at hSw); go_simp; try (with_reducible rfl))
            try simp only [Act.put, List.setIfInBounds_toArray, List.set_cons_zero, List.set_cons_succ]
            refine wpAnyH_done (by kernel_rfl) ?_ _
            have N2 : Hid (∀ i', i' < i + 1 → raceB (evs xs) i' j = false) := fun i' hi' => by
              by_cases e9 : i' = i
              · subst e9; rw [E.out]; rfl
              · exact hni.out i' (by omega)
            go_wp2_with fail
            go_roundg (j + 1 - (i + 1))
            case measure => omega
            case rel => exact ⟨i + 1, by simp, by omega, by omega, N2, st⟩
          · rcases lb
            · -- a race
              refine wp_region_held_drew (S := (fun u' => u'.cell? ⟨gv, i * 5, none⟩ = some (.int .i64 e1.who) ∧ u'.cell? ⟨gv, i * 5 + 1, none⟩ = some (.int .i64 e1.kind) ∧ u'.cell? ⟨gv, i * 5 + 2, none⟩ = some (.int .i64 e1.lc.k) ∧ u'.cell? ⟨gv, i * 5 + 3, none⟩ = some (.int .i64 e1.lc.a) ∧ u'.cell? ⟨gv, i * 5 + 4, none⟩ = some (.int .i64 e1.lc.b) ∧ u'.cell? ⟨gv, j * 5, none⟩ = some (.int .i64 e2.who) ∧ u'.cell? ⟨gv, j * 5 + 1, none⟩ = some (.int .i64 e2.kind) ∧ u'.cell? ⟨gv, j * 5 + 2, none⟩ = some (.int .i64 e2.lc.k) ∧ u'.cell? ⟨gv, j * 5 + 3, none⟩ = some (.int .i64 e2.lc.a) ∧ u'.cell? ⟨gv, j * 5 + 4, none⟩ = some (.int .i64 e2.lc.b) ∧ u'.cell? ⟨gr, i, none⟩ = some (.slice B1 n1 q1) ∧ u'.cell? ⟨gr, j, none⟩ = some (.slice B2 n2 q2))) (by kernel_rfl) (cel.out _ st.out) (fun hHeld => ?_)
              refine takeH (i := 0) (v := ?_) rfl (by kernel_rfl) (by kernel_rfl) (by kernel_rfl) (fun _ _ _ h => h) (Or.inl ⟨by rfl, ?_⟩) (by assumption) ?_
              rotate_left 1
              · (intro w hSw; (try dsimp only at hSw); go_simp; try (with_reducible rfl))
              try simp only [Act.put, List.setIfInBounds_toArray, List.set_cons_zero, List.set_cons_succ]
              refine takeH (i := 1) (v := ?_) rfl (by kernel_rfl) (by kernel_rfl) (by kernel_rfl) (fun _ _ _ h => h) (Or.inl ⟨by rfl, ?_⟩) (by assumption) ?_
              rotate_left 1
              · (intro w hSw; (try dsimp only at hSw); go_simp; try (with_reducible rfl))
              try simp only [Act.put, List.setIfInBounds_toArray, List.set_cons_zero, List.set_cons_succ]
              refine takeH (i := 2) (v := ?_) rfl (by kernel_rfl) (by kernel_rfl) (by kernel_rfl) (fun _ _ _ h => h) (Or.inl ⟨by rfl, ?_⟩) (by assumption) ?_
              rotate_left 1
              · (intro w hSw; (try dsimp only at hSw); go_simp; try (with_reducible rfl))
              try simp only [Act.put, List.setIfInBounds_toArray, List.set_cons_zero, List.set_cons_succ]
              refine takeH (i := 3) (v := ?_) rfl (by kernel_rfl) (by kernel_rfl) (by kernel_rfl) (fun _ _ _ h => h) (Or.inl ⟨by rfl, ?_⟩) (by assumption) ?_
              rotate_left 1
              · (intro w hSw; (try dsimp only at hSw); go_simp; try (with_reducible rfl))
              try simp only [Act.put, List.setIfInBounds_toArray, List.set_cons_zero, List.set_cons_succ]
              refine takeH (i := 4) (v := ?_) rfl (by kernel_rfl) (by kernel_rfl) (by kernel_rfl) (fun _ _ _ h => h) (Or.inl ⟨by rfl, ?_⟩) (by assumption) ?_
              rotate_left 1
              · (intro w hSw; (try dsimp only at hSw); go_simp; try (with_reducible rfl))
              try simp only [Act.put, List.setIfInBounds_toArray, List.set_cons_zero, List.set_cons_succ]
              refine takeH (i := 5) (v := ?_) rfl (by kernel_rfl) (by kernel_rfl) (by kernel_rfl) (fun _ _ _ h => h) (Or.inl ⟨by rfl, ?_⟩) (by assumption) ?_
              rotate_left 1
              · (intro w hSw; (try dsimp only at hSw); go_simp; try (with_reducible rfl))
              try simp only [Act.put, List.setIfInBounds_toArray, List.set_cons_zero, List.set_cons_succ]
              refine takeH (i := 6) (v := ?_) rfl (by kernel_rfl) (by kernel_rfl) (by kernel_rfl) (fun _ _ _ h => h) (Or.inl ⟨by rfl, ?_⟩) (by assumption) ?_
              rotate_left 1
              · (intro w hSw; (try dsimp only at hSw); go_simp; try (with_reducible rfl))
              try simp only [Act.put, List.setIfInBounds_toArray, List.set_cons_zero, List.set_cons_succ]
              refine takeH (i := 7) (v := ?_) rfl (by kernel_rfl) (by kernel_rfl) (by kernel_rfl) (fun _ _ _ h => h) (Or.inl ⟨by rfl, ?_⟩) (by assumption) ?_
              rotate_left 1
              · (intro w hSw; (try dsimp only at hSw); go_simp; try (with_reducible rfl))
              try simp only [Act.put, List.setIfInBounds_toArray, List.set_cons_zero, List.set_cons_succ]
              refine wpAnyH_ready (rs := [8]) (by kernel_rfl) (by simp) ?_
              refine consH rfl (fun K hK => ?_) AllReadyH.nil
              go_simp
              refine (cf.out _).mono ?_
              rintro e v ⟨rfl, o⟩
              have st := Lib.hid (st.out.trans' o)
              clear o
              refine hK.out _ _ (cel.out _ st.out) (fun hHeld2 => ?_)
              clear hK K hHeld
              have hHeld := hHeld2
              clear hHeld2
              try simp only [Act.put, List.setIfInBounds_toArray, List.set_cons_zero, List.set_cons_succ]
              refine takeH (i := 9) (v := ?_) rfl (by kernel_rfl) (by kernel_rfl) (by kernel_rfl) (fun _ _ _ h => h) (Or.inl ⟨by rfl, ?_⟩) (by assumption) ?_
              rotate_left 1
              · (intro w hSw; (try dsimp only at hSw); go_simp; try (with_reducible rfl))
              try simp only [Act.put, List.setIfInBounds_toArray, List.set_cons_zero, List.set_cons_succ]
              refine takeH (i := 10) (v := ?_) rfl (by kernel_rfl) (by kernel_rfl) (by kernel_rfl) (fun _ _ _ h => h) (Or.inl ⟨by rfl, ?_⟩) (by assumption) ?_
              rotate_left 1
              · (intro w hSw; (try dsimp only at hSw); go_simp; try (with_reducible rfl))
              try simp only [Act.put, List.setIfInBounds_toArray, List.set_cons_zero, List.set_cons_succ]
              refine takeH (i := 11) (v := ?_) rfl (by kernel_rfl) (by kernel_rfl) (by kernel_rfl) (fun _ _ _ h => h) (Or.inl ⟨by rfl, ?_⟩) (by assumption) ?_
              rotate_left 1
              · (intro w hSw; (try dsimp only at hSw); go_simp; try (with_reducible rfl))
              try simp only [Act.put, List.setIfInBounds_toArray, List.set_cons_zero, List.set_cons_succ]
              refine takeH (i := 12) (v := ?_) rfl (by kernel_rfl) (by kernel_rfl) (by kernel_rfl) (fun _ _ _ h => h) (Or.inl ⟨by rfl, ?_⟩) (by assumption) ?_
              rotate_left 1
              · (intro w hSw; (try dsimp only at hSw); go_simp; try (with_reducible rfl))
              try simp only [Act.put, List.setIfInBounds_toArray, List.set_cons_zero, List.set_cons_succ]
              refine takeH (i := 13) (v := ?_) rfl (by kernel_rfl) (by kernel_rfl) (by kernel_rfl) (fun _ _ _ h => h) (Or.inl ⟨by rfl, ?_⟩) (by assumption) ?_
              rotate_left 1
              · (intro w hSw; (try dsimp only at hSw); go_simp; try (with_reducible rfl))
              try simp only [Act.put, List.setIfInBounds_toArray, List.set_cons_zero, List.set_cons_succ]
              refine takeH (i := 14) (v := ?_) rfl (by kernel_rfl) (by kernel_rfl) (by kernel_rfl) (fun _ _ _ h => h) (Or.inl ⟨by rfl, ?_⟩) (by assumption) ?_
              rotate_left 1
              · (intro w hSw; (try dsimp only at hSw); go_simp; try (with_reducible rfl))
              try simp only [Act.put, List.setIfInBounds_toArray, List.set_cons_zero, List.set_cons_succ]
              refine takeH (i := 15) (v := ?_) rfl (by kernel_rfl) (by kernel_rfl) (by kernel_rfl) (fun _ _ _ h => h) (Or.inl ⟨by rfl, ?_⟩) (by assumption) ?_
              rotate_left 1
              · (intro w hSw; (try dsimp only at hSw); go_simp; try (with_reducible rfl))
              try simp only [Act.put, List.setIfInBounds_toArray, List.set_cons_zero, List.set_cons_succ]
              refine takeH (i := 16) (v := ?_) rfl (by kernel_rfl) (by kernel_rfl) (by kernel_rfl) (fun _ _ _ h => h) (Or.inl ⟨by rfl, ?_⟩) (by assumption) ?_
              rotate_left 1
              · (intro w hSw; (try dsimp only at hSw); go_simp; try (with_reducible rfl))
              try simp only [Act.put, List.setIfInBounds_toArray, List.set_cons_zero, List.set_cons_succ]
              refine takeH (i := 17) (v := ?_) rfl (by kernel_rfl) (by kernel_rfl) (by kernel_rfl) (fun _ _ _ h => h) (Or.inl ⟨by rfl, ?_⟩) (by assumption) ?_
              rotate_left 1
              · (intro w hSw; (try dsimp only at hSw); go_simp; try (with_reducible rfl))
              try simp only [Act.put, List.setIfInBounds_toArray, List.set_cons_zero, List.set_cons_succ]
              refine wpAnyH_ready (rs := [18]) (by kernel_rfl) (by simp) ?_
              refine consH rfl (fun K hK => ?_) AllReadyH.nil
              go_simp
              refine (lq.out _ st.out).mono ?_
              rintro e v ⟨rfl, hv⟩
              have st : Hid (Only [] w1 v) := by rw [hv]; exact st.out
              clear hv
              refine hK.out _ _ (cel.out _ st.out) (fun hHeld2 => ?_)
              clear hK K hHeld
              have hHeld := hHeld2
              clear hHeld2
              try simp only [Act.put, List.setIfInBounds_toArray, List.set_cons_zero, List.set_cons_succ]
              refine takeH (i := 19) (v := ?_) rfl (by kernel_rfl) (by kernel_rfl) (by kernel_rfl) (fun _ _ _ h => h) (Or.inl ⟨by rfl, ?_⟩) (by assumption) ?_
              rotate_left 1
              · (intro w hSw; (try dsimp only at hSw); go_simp; try (with_reducible rfl))
              try simp only [Act.put, List.setIfInBounds_toArray, List.set_cons_zero, List.set_cons_succ]
              refine takeH (i := 20) (v := ?_) rfl (by kernel_rfl) (by kernel_rfl) (by kernel_rfl) (fun _ _ _ h => h) (Or.inl ⟨by rfl, ?_⟩) (by assumption) ?_
              rotate_left 1
              · (intro w hSw; (try dsimp only at hSw); go_simp; try (with_reducible rfl))
              try simp only [Act.put, List.setIfInBounds_toArray, List.set_cons_zero, List.set_cons_succ]
              refine wpAnyH_done (by kernel_rfl) ?_ _
              have U := Lib.hid (HF.out.unique (.inr ⟨rfl, i, j, rfl, rfl, hij, hjm, by rw [E.out]; rfl, hn.out, hni.out⟩))
              go_wp2_with fail
              refine bodyPost_ret (v := .tuple #[.int .i64 (i : Int), .int .i64 (j : Int), .bool true]) ?_ rfl ?_
              · simp [results, Try.f13, go_sem]
              · exact ⟨by rw [U.out.1, U.out.2.1, U.out.2.2], CR.out.only.trans' st.out⟩
            · -- in order
              refine wp_region_held_drew (S := (fun u' => u'.cell? ⟨gv, i * 5, none⟩ = some (.int .i64 e1.who) ∧ u'.cell? ⟨gv, i * 5 + 1, none⟩ = some (.int .i64 e1.kind) ∧ u'.cell? ⟨gv, i * 5 + 2, none⟩ = some (.int .i64 e1.lc.k) ∧ u'.cell? ⟨gv, i * 5 + 3, none⟩ = some (.int .i64 e1.lc.a) ∧ u'.cell? ⟨gv, i * 5 + 4, none⟩ = some (.int .i64 e1.lc.b) ∧ u'.cell? ⟨gv, j * 5, none⟩ = some (.int .i64 e2.who) ∧ u'.cell? ⟨gv, j * 5 + 1, none⟩ = some (.int .i64 e2.kind) ∧ u'.cell? ⟨gv, j * 5 + 2, none⟩ = some (.int .i64 e2.lc.k) ∧ u'.cell? ⟨gv, j * 5 + 3, none⟩ = some (.int .i64 e2.lc.a) ∧ u'.cell? ⟨gv, j * 5 + 4, none⟩ = some (.int .i64 e2.lc.b) ∧ u'.cell? ⟨gr, i, none⟩ = some (.slice B1 n1 q1) ∧ u'.cell? ⟨gr, j, none⟩ = some (.slice B2 n2 q2))) (by kernel_rfl) (cel.out _ st.out) (fun hHeld => ?_)
              refine takeH (i := 0) (v := ?_) rfl (by kernel_rfl) (by kernel_rfl) (by kernel_rfl) (fun _ _ _ h => h) (Or.inl ⟨by rfl, ?_⟩) (by assumption) ?_
              rotate_left 1
              · (intro w hSw; (try dsimp only at hSw); go_simp; try (with_reducible rfl))
              try simp only [Act.put, List.setIfInBounds_toArray, List.set_cons_zero, List.set_cons_succ]
              refine takeH (i := 1) (v := ?_) rfl (by kernel_rfl) (by kernel_rfl) (by kernel_rfl) (fun _ _ _ h => h) (Or.inl ⟨by rfl, ?_⟩) (by assumption) ?_
              rotate_left 1
              · (intro w hSw; (try dsimp only at hSw); go_simp; try (with_reducible rfl))
              try simp only [Act.put, List.setIfInBounds_toArray, List.set_cons_zero, List.set_cons_succ]
              refine takeH (i := 2) (v := ?_) rfl (by kernel_rfl) (by kernel_rfl) (by kernel_rfl) (fun _ _ _ h => h) (Or.inl ⟨by rfl, ?_⟩) (by assumption) ?_
              rotate_left 1
              · (intro w hSw; (try dsimp only at hSw); go_simp; try (with_reducible rfl))
              try simp only [Act.put, List.setIfInBounds_toArray, List.set_cons_zero, List.set_cons_succ]
              refine takeH (i := 3) (v := ?_) rfl (by kernel_rfl) (by kernel_rfl) (by kernel_rfl) (fun _ _ _ h => h) (Or.inl ⟨by rfl, ?_⟩) (by assumption) ?_
              rotate_left 1
              · (intro w hSw; (try dsimp only at hSw); go_simp; try (with_reducible rfl))
              try simp only [Act.put, List.setIfInBounds_toArray, List.set_cons_zero, List.set_cons_succ]
              refine takeH (i := 4) (v := ?_) rfl (by kernel_rfl) (by kernel_rfl) (by kernel_rfl) (fun _ _ _ h => h) (Or.inl ⟨by rfl, ?_⟩) (by assumption) ?_
              rotate_left 1
              · (intro w hSw; (try dsimp only at hSw); go_simp; try (with_reducible rfl))
              try simp only [Act.put, List.setIfInBounds_toArray, List.set_cons_zero, List.set_cons_succ]
              refine takeH (i := 5) (v := ?_) rfl (by kernel_rfl) (by kernel_rfl) (by kernel_rfl) (fun _ _ _ h => h) (Or.inl ⟨by rfl, ?_⟩) (by assumption) ?_
              rotate_left 1
              · (intro w hSw; (try dsimp only at hSw); go_simp; try (with_reducible rfl))
              try simp only [Act.put, List.setIfInBounds_toArray, List.set_cons_zero, List.set_cons_succ]
              refine takeH (i := 6) (v := ?_) rfl (by kernel_rfl) (by kernel_rfl) (by kernel_rfl) (fun _ _ _ h => h) (Or.inl ⟨by rfl, ?_⟩) (by assumption) ?_
              rotate_left 1
              · (intro w hSw; (try dsimp only at hSw); go_simp; try (with_reducible rfl))
              try simp only [Act.put, List.setIfInBounds_toArray, List.set_cons_zero, List.set_cons_succ]
              refine takeH (i := 7) (v := ?_) rfl (by kernel_rfl) (by kernel_rfl) (by kernel_rfl) (fun _ _ _ h => h) (Or.inl ⟨by rfl, ?_⟩) (by assumption) ?_
              rotate_left 1
              · (intro w hSw; (try dsimp only at hSw); go_simp; try (with_reducible rfl))
              try simp only [Act.put, List.setIfInBounds_toArray, List.set_cons_zero, List.set_cons_succ]
              refine wpAnyH_ready (rs := [8]) (by kernel_rfl) (by simp) ?_
              refine consH rfl (fun K hK => ?_) AllReadyH.nil
              go_simp
              refine (cf.out _).mono ?_
              rintro e v ⟨rfl, o⟩
              have st := Lib.hid (st.out.trans' o)
              clear o
              refine hK.out _ _ (cel.out _ st.out) (fun hHeld2 => ?_)
              clear hK K hHeld
              have hHeld := hHeld2
              clear hHeld2
              try simp only [Act.put, List.setIfInBounds_toArray, List.set_cons_zero, List.set_cons_succ]
              refine takeH (i := 9) (v := ?_) rfl (by kernel_rfl) (by kernel_rfl) (by kernel_rfl) (fun _ _ _ h => h) (Or.inl ⟨by rfl, ?_⟩) (by assumption) ?_
              rotate_left 1
              · (intro w hSw; (try dsimp only at hSw); go_simp; try (with_reducible rfl))
              try simp only [Act.put, List.setIfInBounds_toArray, List.set_cons_zero, List.set_cons_succ]
              refine takeH (i := 10) (v := ?_) rfl (by kernel_rfl) (by kernel_rfl) (by kernel_rfl) (fun _ _ _ h => h) (Or.inl ⟨by rfl, ?_⟩) (by assumption) ?_
              rotate_left 1
              · (intro w hSw; (try dsimp only at hSw); go_simp; try (with_reducible rfl))
              try simp only [Act.put, List.setIfInBounds_toArray, List.set_cons_zero, List.set_cons_succ]
              refine takeH (i := 11) (v := ?_) rfl (by kernel_rfl) (by kernel_rfl) (by kernel_rfl) (fun _ _ _ h => h) (Or.inl ⟨by rfl, ?_⟩) (by assumption) ?_
              rotate_left 1
              · (intro w hSw; (try dsimp only at hSw); go_simp; try (with_reducible rfl))
              try simp only [Act.put, List.setIfInBounds_toArray, List.set_cons_zero, List.set_cons_succ]
              refine takeH (i := 12) (v := ?_) rfl (by kernel_rfl) (by kernel_rfl) (by kernel_rfl) (fun _ _ _ h => h) (Or.inl ⟨by rfl, ?_⟩) (by assumption) ?_
              rotate_left 1
              · (intro w hSw; (try dsimp only at hSw); go_simp; try (with_reducible rfl))
              try simp only [Act.put, List.setIfInBounds_toArray, List.set_cons_zero, List.set_cons_succ]
              refine takeH (i := 13) (v := ?_) rfl (by kernel_rfl) (by kernel_rfl) (by kernel_rfl) (fun _ _ _ h => h) (Or.inl ⟨by rfl, ?_⟩) (by assumption) ?_
              rotate_left 1
              · (intro w hSw; (try dsimp only at hSw); go_simp; try (with_reducible rfl))
              try simp only [Act.put, List.setIfInBounds_toArray, List.set_cons_zero, List.set_cons_succ]
              refine takeH (i := 14) (v := ?_) rfl (by kernel_rfl) (by kernel_rfl) (by kernel_rfl) (fun _ _ _ h => h) (Or.inl ⟨by rfl, ?_⟩) (by assumption) ?_
              rotate_left 1
              · (intro w hSw; (try dsimp only at hSw); go_simp; try (with_reducible rfl))
              try simp only [Act.put, List.setIfInBounds_toArray, List.set_cons_zero, List.set_cons_succ]
              refine takeH (i := 15) (v := ?_) rfl (by kernel_rfl) (by kernel_rfl) (by kernel_rfl) (fun _ _ _ h => h) (Or.inl ⟨by rfl, ?_⟩) (by assumption) ?_
              rotate_left 1
              · (intro w hSw; (try dsimp only at hSw); go_simp; try (with_reducible rfl))
              try simp only [Act.put, List.setIfInBounds_toArray, List.set_cons_zero, List.set_cons_succ]
              refine takeH (i := 16) (v := ?_) rfl (by kernel_rfl) (by kernel_rfl) (by kernel_rfl) (fun _ _ _ h => h) (Or.inl ⟨by rfl, ?_⟩) (by assumption) ?_
              rotate_left 1
              · (intro w hSw; (try dsimp only at hSw); go_simp; try (with_reducible rfl))
              try simp only [Act.put, List.setIfInBounds_toArray, List.set_cons_zero, List.set_cons_succ]
              refine takeH (i := 17) (v := ?_) rfl (by kernel_rfl) (by kernel_rfl) (by kernel_rfl) (fun _ _ _ h => h) (Or.inl ⟨by rfl, ?_⟩) (by assumption) ?_
              rotate_left 1
              · (intro w hSw; (try dsimp only at hSw); go_simp; try (with_reducible rfl))
              try simp only [Act.put, List.setIfInBounds_toArray, List.set_cons_zero, List.set_cons_succ]
              refine wpAnyH_ready (rs := [18]) (by kernel_rfl) (by simp) ?_
              refine consH rfl (fun K hK => ?_) AllReadyH.nil
              go_simp
              refine (lq.out _ st.out).mono ?_
              rintro e v ⟨rfl, hv⟩
              have st : Hid (Only [] w1 v) := by rw [hv]; exact st.out
              clear hv
              refine hK.out _ _ (cel.out _ st.out) (fun hHeld2 => ?_)
              clear hK K hHeld
              have hHeld := hHeld2
              clear hHeld2
              try simp only [Act.put, List.setIfInBounds_toArray, List.set_cons_zero, List.set_cons_succ]
              refine takeH (i := 19) (v := ?_) rfl (by kernel_rfl) (by kernel_rfl) (by kernel_rfl) (fun _ _ _ h => h) (Or.inl ⟨by rfl, ?_⟩) (by assumption) ?_
              rotate_left 1
              · (intro w hSw; (try dsimp only at hSw); go_simp; try (with_reducible rfl))
              try simp only [Act.put, List.setIfInBounds_toArray, List.set_cons_zero, List.set_cons_succ]
              refine takeH (i := 20) (v := ?_) rfl (by kernel_rfl) (by kernel_rfl) (by kernel_rfl) (fun _ _ _ h => h) (Or.inl ⟨by rfl, ?_⟩) (by assumption) ?_
              rotate_left 1
              · (intro w hSw; (try dsimp only at hSw); go_simp; try (with_reducible rfl))
              try simp only [Act.put, List.setIfInBounds_toArray, List.set_cons_zero, List.set_cons_succ]
              refine wpAnyH_done (by kernel_rfl) ?_ _
              have N2 : Hid (∀ i', i' < i + 1 → raceB (evs xs) i' j = false) := fun i' hi' => by
                by_cases e9 : i' = i
                · subst e9; rw [E.out]; rfl
                · exact hni.out i' (by omega)
              go_wp2_with fail
              go_roundg (j + 1 - (i + 1))
              case measure => omega
              case rel => exact ⟨i + 1, by simp, by omega, by omega, N2, st⟩
        · have h2 : ¬ ((i : Int) < (j : Int)) := by omega
          have h3 : decide ((i : Int) < (j : Int)) = false := decide_eq_false h2
          obtain rfl : i = j := by omega
          have N3 : Hid (∀ j', j' < i + 1 → ∀ i', i' < j' → raceB (evs xs) i' j' = false) := fun j' hj' i' hi' => by
            by_cases e9 : j' = i
            · subst e9; exact hni.out i' hi'
            · exact hn.out j' (by omega) i' hi'
          go_wp2_with fail
          go_roundg (m + 1 - (i + 1))
          case measure => omega
          case rel => exact ⟨i + 1, by simp, by omega, by omega, N3, O2⟩
    · have h2 : ¬ ((j : Int) < (m : Int)) := by omega
      have h3 : decide ((j : Int) < (m : Int)) = false := decide_eq_false h2
      obtain rfl : j = m := by omega
      have U := Lib.hid (HF.out.unique (.inl ⟨rfl, rfl, rfl, hn.out⟩))
      go_wp2_with fail
      refine bodyPost_ret (v := .tuple #[.int .i64 0, .int .i64 0, .bool false]) ?_ rfl ?_
      · simp [results, Try.f13, go_sem]
      · exact ⟨by rw [U.out.1, U.out.2.1, U.out.2.2], CR.out.only.trans' O.out⟩
end Go.Proofs.Ytmgmfihjojhilaa
