/-
  Contract of the document's Items.Push.
-/
import Derived.Test.YtppkbokjnocoeaaHeapI
namespace Go.Proofs.Ytppkbokjnocoeaa
open Go.RowKit
set_option linter.unusedVariables false
set_option linter.unusedSimpArgs false

theorem fOf_neg (l : List It) (id : Int) : ((fOf l id).getD (-1) ≥ 0) ↔ hasId id l = true := by
  rw [← fOf_has]
  rcases h : fOf l id with _ | q
  · simp
  · have : 0 ≤ q := by
      unfold fOf at h
      rw [Option.map_eq_some_iff] at h
      obtain ⟨k, _, rfl⟩ := h
      exact Int.natCast_nonneg k
    simpa using this
theorem takeWhile_of {l : List It} {y : It} {p : Nat} (hp : p ≤ l.length) (h1 : ∀ j, j < p → (gOf l j).lt y = true) (h2 : p < l.length → (gOf l p).lt y = false) :
    l.takeWhile (fun x => x.lt y) = l.take p ∧ l.dropWhile (fun x => x.lt y) = l.drop p := by
  induction p generalizing l with
  | zero =>
    cases l with
    | nil => simp
    | cons x l =>
      have : x.lt y = false := h2 (by simp)
      simp [List.takeWhile_cons, List.dropWhile_cons, this]
  | succ p ih =>
    cases l with
    | nil => simp at hp
    | cons x l =>
      have hx : x.lt y = true := h1 0 (by omega)
      obtain ⟨a, b⟩ := ih (l := l) (by simpa using hp) (fun j hj => h1 (j + 1) (by omega)) (fun hlt => h2 (by simpa using hlt))
      simp [List.takeWhile_cons, List.dropWhile_cons, hx, a, b]

theorem own_fresh {v v' : Value} {W : World} {B : Nat} (l : v'.ownBlock = v.ownBlock ∨ v'.ownBlock = some W.heap.size) (hv : ∀ k, v.ownBlock = some k → B ≤ k) (hW : B ≤ W.heap.size) : ∀ k, v'.ownBlock = some k → B ≤ k := fun k hk => by
  rcases l with e | e
  · rw [e] at hk; exact hv k hk
  · rw [e] at hk; injection hk with hk; omega
theorem store_mid {w w3 : World} {xb : Nat} {v v3 : Value} {l ys : List It} (h : ItemsIs w xb v l) (o3 : Only [] w w3) (r3 : RowIs w3 v3 ys) (hv : ∀ k, v3.ownBlock = some k → w.heap.size ≤ k) :
    ItemsIs (w3.setCell ⟨xb, 0, none⟩ v3) xb v3 ys ∧ Moved w (iown xb v) (w3.setCell ⟨xb, 0, none⟩ v3) (iown xb v3) := by
  have hxb : xb < w.heap.size := h.lt xb (by simp [iown])
  have b2 := (h.only0 o3).blk
  refine ⟨⟨?_, r3.keep fun g hg => Below.heap_setCell _ _ _ _ (fun e => ?_)⟩, ⟨?_, fun b hb => ?_⟩⟩
  · simp [World.setCell, Array.getElem?_modify, b2]
  · have := hv g hg; simp only at e; omega
  · exact (o3.mono (T := iown xb v) (by simp)).setCell (by simp [iown]) _
  · simp only [iown, List.mem_cons, Option.mem_toList] at hb ⊢
    rcases hb with e | e
    · exact .inl (.inl e)
    · exact .inr (hv b e)

set_option maxRecDepth 100000 in
set_option maxHeartbeats 4000000 in
theorem xPush (w : World) (xb : Nat) (S : List Nat) (l : List It) (h : ItemsOf w xb S l) (y : It) (hroom : l.length < 1000000) :
    Calls Try.prog 19 #[.pointer (some ⟨xb, 0, none⟩), y.val] w fun e w' => e = .returned (.bool (!hasId y.i l)) ∧ ∃ S', ItemsOf w' xb S' (if hasId y.i l then l else ins y l) ∧ Moved w S w' S' := by
  obtain ⟨v, rfl, h1, h5⟩ := h
  have oA : Only [] w (w.alloc (.cells #[.int .u64 y.k, .int .i64 y.i] 37)) := (Only.refl [] w).alloc _
  have hat := xAt _ xb v l (h1.only0 oA) h5 y.i
  have bY : Box _ w.heap.size y := Box.new w y
  have hge := fOf_neg l y.i
  unfold It.val
  rcases hid : hasId y.i l with _ | _
  · rw [hid] at hge
    have hge' : ¬ ((fOf l y.i).getD (-1) ≥ 0) := by rw [hge]; simp
    have hge2 : (fOf l y.i).getD (-1) < 0 := by omega
    generalize (fOf l y.i).getD (-1) = q at *
    obtain ⟨A, cap, ev⟩ := h1.row.form
    have hxb : xb < w.heap.size := h1.lt xb (by simp [iown])
    have hat2 : Hid (∀ W, Only [] w W → W.cell? ⟨xb, 0, none⟩ = some (.slice A l.length cap) ∧ W.frozen? ⟨xb, 0, none⟩ = false ∧ ∀ k, k < l.length → ∃ g, A = some ⟨g, 0, none⟩ ∧ W.cell? ⟨g, k * 2, none⟩ = some (.int .u64 (gOf l k).k) ∧ W.cell? ⟨g, k * 2 + 1, none⟩ = some (.int .i64 (gOf l k).i)) := fun W hW => by
      have h2 := h1.only0 hW
      refine ⟨by rw [← ev]; exact h2.c0, h2.fr 0, fun k hk => ?_⟩
      obtain ⟨g, cap', e, -, -, -, -, hc⟩ := h2.row.at_ (by omega)
      rw [ev] at e
      injection e with e1 e2 e3
      exact ⟨g, e1, (hc k hk).1, (hc k hk).2.1⟩
    have H1 := Lib.hid h1
    clear h1
    go_enter Try.func19, Try.ntmps19
    go_wp2_with fail
    refine hat.mono ?_
    rintro e w1 ⟨rfl, rfl⟩
    clear hat hge hge'
    generalize hW1 : w.alloc (.cells #[.int .u64 y.k, .int .i64 y.i] 37) = W1 at *
    have hN1 : w.heap.size < W1.heap.size := bY.lt
    obtain ⟨N, eN⟩ : ∃ N, w.heap.size = N := ⟨_, rfl⟩
    have HN := Lib.hid eN
    rw [eN] at bY hxb hN1 ⊢
    clear hW1 eN
    go_wp2_with fail
    go_loopg [5] (l.length + 1) (fun gk si wr => ∃ p : Nat, si = .int .i64 (p : Int) ∧ p ≤ l.length ∧ l.length + 1 ≤ gk + p ∧ Hid (Only [] w wr) ∧ Hid (Box wr N y) ∧ Hid (∀ k, k < p → (gOf l k).lt y = true))
    case atStart => exact ⟨0, rfl, by omega, by omega, oA, bY, fun k hk => absurd hk (by omega)⟩
    case round =>
      obtain ⟨p, rfl, hp, hg, ho, hB, HK⟩ := hrel
      obtain ⟨c0, fr, hcell⟩ := hat2.out wr ho.out
      have y0 := hB.out.c0
      have y1 := hB.out.c1
      by_cases hpl : p < l.length
      · obtain ⟨g, rfl, d0, d1⟩ := hcell p hpl
        have hpl' : (p : Int) < (l.length : Int) := by omega
        clear hcell oA bY
        obtain ⟨z, ez⟩ : ∃ z, gOf l p = z := ⟨_, rfl⟩
        rw [ez] at d0 d1
        have HZ := Lib.hid ez
        clear ez
        go_wp2_with fail
        go_still_tail 16, (by kernel_rfl)
        change wpList _ _ _ _ _ wr.drew
        go_wp2_with fail
        refine (rahead_only z y _).mono ?_
        rintro e wl ⟨rfl, o2⟩
        have ho2 : Hid (Only [] w wl) := ho.out.drew.trans' o2
        have hB2 : Hid (Box wl N y) := hB.out.only ((Only.refl [] wr).drew.trans' o2) (by simp)
        clear o2
        rcases hz : z.lt y with _ | _
        · have hTW := Lib.hid (takeWhile_of (y := y) hp HK.out (fun _ => by rw [HZ.out]; exact hz))
          have EV := Lib.hid ev
          clear c0 fr y0 y1 d0 d1 ev
          obtain ⟨c0, fr, -⟩ := hat2.out wl ho2.out
          replace ho := ho2
          replace hB := hB2
          have y0 := hB.out.c0
          have y1 := hB.out.c1
          clear ho2 hB2
          have HA : Hid ((l.take p).length = p) := by show _ = _; simp; omega
          have HD : Hid ((l.drop p).length = l.length - p) := by show _ = _; simp
          have HR : Hid (RowIs wl (.slice (some ⟨g, 0, none⟩) l.length cap) l) := by
            have := (H1.out.only0 ho.out).row
            rw [EV.out] at this
            exact this
          have hcl : l.length ≤ cap := by
            rcases HR.out.2 with ⟨e, _⟩ | ⟨g', cap', cur, e, _, _, hn, _⟩
            · cases e
            · injection e with _ _ e; omega
          have hc : ¬ cap = p := by omega
          go_wp2_with (first
            | (at_builtin
               refine wpList_append_row rfl (.const (.slice none 0 0)) (.tmp 37) rfl (.slice none 0 0) [] rfl (RowIs.nil _) _ p _ (l.take p) rfl HA.out (Src.take HR.out p) p (by simp) (by omega) ?_
               intro A1 cap1 w1 r1 g1 l1
               have q1 : Only [] wl w1 := (Only.refl [] wl).grown g1 (by simp [Value.ownBlock])
               have bY1 := hB.out.only q1 (by simp)
               have v1 := own_fresh (B := wl.heap.size) l1 (by simp [Value.ownBlock]) (Nat.le_refl _)
               obtain ⟨c01, fr1, -⟩ := hat2.out w1 (ho.out.trans' q1)
               obtain ⟨c01a, -, -⟩ := hat2.out _ ((ho.out.trans' q1).alloc (.cells #[.int .u64 y.k, .int .i64 y.i] 37))
               have y01 := bY1.c0
               have y11 := bY1.c1
               have R1 := Lib.hid (And.intro r1 (And.intro q1 v1))
               clear r1 g1 l1 q1 v1 bY1))
          go_region_law
            (first
             | (refine step_append_row rfl (.tmp 40) (.tmp 42) rfl (.slice A1 p cap1) ([] ++ l.take p) (by simp [Act.eval, Act.put]) (by exact (R1.out.1.keep fun g' hg' => Below.heap_alloc _ _ _ (R1.out.1.lt hg'))) (some ⟨w1.heap.size, 0, none⟩) 1 1 [y] (by simp [Act.eval, Act.put]) rfl (by exact src_box w1 y) (p + 1) (by have := HA.out; simp only [List.nil_append]; omega) (by omega) ?_
                intro A2 cap2 w2 r2 g2 l2
                have q2 : Only [] wl w2 := Only.grown (by first | exact ((R1.out.2.1.drew).alloc _) | exact ((R1.out.2.1.alloc _).drew)) g2 (fun k hk => .inr (R1.out.2.2 k hk))
                have v2 := own_fresh (B := wl.heap.size) l2 R1.out.2.2 (by have := R1.out.2.1.size; simp; omega)
                obtain ⟨c02, fr2, -⟩ := hat2.out w2 (ho.out.trans' q2)
                have R2 := Lib.hid (And.intro r2 (And.intro q2 v2))
                clear r2 g2 l2 q2 v2)
             | (refine step_append_row rfl (.tmp 43) (.tmp 49) rfl (.slice A2 (p + 1) cap2) ([] ++ l.take p ++ [y]) (by simp [Act.eval, Act.put]) (by exact R2.out.1) _ _ _ (l.drop p) rfl HD.out (by first | exact (Src.drop HR.out p).only R2.out.2.1 (by simp) | (have e : l.drop p = [] := List.drop_eq_nil_of_le (by omega); rw [e]; exact Src.nil _ _)) (l.length + 1) (by have := HA.out; simp only [List.nil_append, List.length_append, List.length_singleton]; omega) (by omega) ?_
                intro A3 cap3 w3 r3 g3 l3
                have q3 : Only [] wl w3 := R2.out.2.1.grown g3 (fun k hk => .inr (R2.out.2.2 k hk))
                have v3 := own_fresh (B := wl.heap.size) l3 R2.out.2.2 R2.out.2.1.size
                obtain ⟨c03, fr3, -⟩ := hat2.out w3 (ho.out.trans' q3)
                have R3 := Lib.hid (store_mid H1.out (ho.out.trans' q3) r3 (fun k hk => Nat.le_trans ho.out.size (v3 k hk)))
                clear r3 g3 l3 q3 v3))
          all_goals
            have e9 : Hid ([] ++ l.take p ++ [y] ++ l.drop p = ins y l) := by
              show _ = _
              unfold ins
              rw [hTW.out.1, hTW.out.2]
              simp
            have e8 : Hid ((ins y l).length ≤ 1000000) := by
              show _ ≤ _
              have := (ins_perm y l).length_eq
              simp at this
              omega
            go_wp2_with fail
            go_ret
            obtain ⟨k1, k2⟩ := R3.out
            rw [e9.out] at k1
            exact ⟨rfl, _, ⟨_, rfl, k1, e8.out⟩, k2⟩
        · go_wp2_with fail
          go_roundg (l.length + 1 - (p + 1))
          case measure => omega
          case rel => exact ⟨p + 1, by simp, by omega, by omega, ho2, hB2, fun k hk => by
            rcases Nat.lt_or_ge k p with h1 | h1
            · exact HK.out k h1
            · have : k = p := by omega
              subst this
              rw [HZ.out]; exact hz⟩
      · have hpe : Hid (p = l.length) := by show _ = _; omega
        have hpl' : decide ((p : Int) < (l.length : Int)) = false := decide_eq_false (by omega)
        have hTW := Lib.hid (takeWhile_of (y := y) hp HK.out (fun hlt => absurd hlt hpl))
        clear hcell oA bY
        have EV := Lib.hid ev
        clear ev
        go_wp2_with fail
        go_quiet (fail)
        have ho2 : Hid (Only [] w (wr.drewN _)) := ho.out.drewN nq
        have hB2 : Hid (Box (wr.drewN _) N y) := hB.out.only ((Only.refl [] wr).drewN nq) (by simp)
        generalize wr.drewN nq = wl at *
        clear c0 fr y0 y1
        obtain ⟨c0, fr, -⟩ := hat2.out wl ho2.out
        replace ho := ho2
        replace hB := hB2
        have y0 := hB.out.c0
        have y1 := hB.out.c1
        clear ho2 hB2
        rcases A with _ | ad
        · have hl0 : l = [] := by
            rcases H1.out.row.2 with ⟨e, e2⟩ | ⟨g', cap', cur, e, _⟩
            · exact List.length_eq_zero_iff.1 e2
            · rw [EV.out] at e; cases e
          have hcap0 : cap = 0 := by
            rcases H1.out.row.2 with ⟨e, e2⟩ | ⟨g', cap', cur, e, _⟩
            · rw [EV.out] at e; injection e
            · rw [EV.out] at e; cases e
          subst hl0 hcap0
          have hp0 : p = 0 := hpe.out
          subst hp0
          go_wp2_with fail
          have bY1 := hB.out
          obtain ⟨c01a, -, -⟩ := hat2.out _ (ho.out.alloc (.cells #[.int .u64 y.k, .int .i64 y.i] 37))
          go_region_law
            (first
             | (refine step_append_row rfl (.tmp 40) (.tmp 42) rfl (.slice none 0 0) [] (by simp [Act.eval, Act.put]) (RowIs.nil _) (some ⟨wl.heap.size, 0, none⟩) 1 1 [y] (by simp [Act.eval, Act.put]) rfl (by exact src_box wl y) 1 rfl (by omega) ?_
                intro A2 cap2 w2 r2 g2 l2
                have q2 : Only [] wl w2 := Only.grown (by first | exact (((Only.refl [] wl).drew).alloc _) | exact (((Only.refl [] wl).alloc _).drew)) g2 (by simp [Value.ownBlock])
                have v2 := own_fresh (B := wl.heap.size) l2 (by simp [Value.ownBlock]) (by simp)
                obtain ⟨c02, fr2, -⟩ := hat2.out w2 (ho.out.trans' q2)
                have R2 := Lib.hid (And.intro r2 (And.intro q2 v2))
                clear r2 g2 l2 q2 v2)
             | (refine step_append_row rfl (.tmp 43) (.tmp 49) rfl (.slice A2 1 cap2) ([] ++ [y]) (by simp [Act.eval, Act.put]) (by exact R2.out.1) none 0 0 [] (by simp [Act.eval, Act.put]) rfl (Src.nil _ _) 1 rfl (by omega) ?_
                intro A3 cap3 w3 r3 g3 l3
                have q3 : Only [] wl w3 := R2.out.2.1.grown g3 (fun k hk => .inr (R2.out.2.2 k hk))
                have v3 := own_fresh (B := wl.heap.size) l3 R2.out.2.2 R2.out.2.1.size
                obtain ⟨c03, fr3, -⟩ := hat2.out w3 (ho.out.trans' q3)
                have R3 := Lib.hid (store_mid H1.out (ho.out.trans' q3) r3 (fun k hk => Nat.le_trans ho.out.size (v3 k hk)))
                clear r3 g3 l3 q3 v3))
          all_goals
            have e9 : Hid ([] ++ [y] ++ [] = ins y []) := rfl
            go_wp2_with fail
            go_ret
            obtain ⟨k1, k2⟩ := R3.out
            rw [e9.out] at k1
            exact ⟨rfl, _, ⟨_, rfl, k1, by simp [ins]⟩, k2⟩
        · obtain ⟨g, rfl⟩ : ∃ g, ad = ⟨g, 0, none⟩ := by
            rcases H1.out.row.2 with ⟨e, e2⟩ | ⟨g', cap', cur, e, _⟩
            · rw [EV.out] at e; cases e
            · rw [EV.out] at e; injection e with e _ _; injection e with e; exact ⟨g', e⟩
          have HA : Hid ((l.take p).length = p) := by show _ = _; simp; omega
          have HD : Hid ((l.drop p).length = l.length - p) := by show _ = _; simp
          have HR : Hid (RowIs wl (.slice (some ⟨g, 0, none⟩) l.length cap) l) := by
            have := (H1.out.only0 ho.out).row
            rw [EV.out] at this
            exact this
          have hcl : l.length ≤ cap := by
            rcases HR.out.2 with ⟨e, _⟩ | ⟨g', cap', cur, e, _, _, hn, _⟩
            · cases e
            · injection e with _ _ e; omega
          by_cases hc : cap = p
          all_goals
            go_wp2_with (first
              | (at_builtin
                 refine wpList_append_row rfl (.const (.slice none 0 0)) (.tmp 37) rfl (.slice none 0 0) [] rfl (RowIs.nil _) _ p _ (l.take p) rfl HA.out (Src.take HR.out p) p (by simp) (by omega) ?_
                 intro A1 cap1 w1 r1 g1 l1
                 have q1 : Only [] wl w1 := (Only.refl [] wl).grown g1 (by simp [Value.ownBlock])
                 have bY1 := hB.out.only q1 (by simp)
                 have v1 := own_fresh (B := wl.heap.size) l1 (by simp [Value.ownBlock]) (Nat.le_refl _)
                 obtain ⟨c01, fr1, -⟩ := hat2.out w1 (ho.out.trans' q1)
                 obtain ⟨c01a, -, -⟩ := hat2.out _ ((ho.out.trans' q1).alloc (.cells #[.int .u64 y.k, .int .i64 y.i] 37))
                 have y01 := bY1.c0
                 have y11 := bY1.c1
                 have R1 := Lib.hid (And.intro r1 (And.intro q1 v1))
                 clear r1 g1 l1 q1 v1 bY1))
            go_region_law
              (first
               | (refine step_append_row rfl (.tmp 40) (.tmp 42) rfl (.slice A1 p cap1) ([] ++ l.take p) (by simp [Act.eval, Act.put]) (by exact (R1.out.1.keep fun g' hg' => Below.heap_alloc _ _ _ (R1.out.1.lt hg'))) (some ⟨w1.heap.size, 0, none⟩) 1 1 [y] (by simp [Act.eval, Act.put]) rfl (by exact src_box w1 y) (p + 1) (by have := HA.out; simp only [List.nil_append]; omega) (by omega) ?_
                  intro A2 cap2 w2 r2 g2 l2
                  have q2 : Only [] wl w2 := Only.grown (by first | exact ((R1.out.2.1.drew).alloc _) | exact ((R1.out.2.1.alloc _).drew)) g2 (fun k hk => .inr (R1.out.2.2 k hk))
                  have v2 := own_fresh (B := wl.heap.size) l2 R1.out.2.2 (by have := R1.out.2.1.size; simp; omega)
                  obtain ⟨c02, fr2, -⟩ := hat2.out w2 (ho.out.trans' q2)
                  have R2 := Lib.hid (And.intro r2 (And.intro q2 v2))
                  clear r2 g2 l2 q2 v2)
               | (refine step_append_row rfl (.tmp 43) (.tmp 49) rfl (.slice A2 (p + 1) cap2) ([] ++ l.take p ++ [y]) (by simp [Act.eval, Act.put]) (by exact R2.out.1) _ _ _ (l.drop p) rfl HD.out (by first | exact (Src.drop HR.out p).only R2.out.2.1 (by simp) | (have e : l.drop p = [] := List.drop_eq_nil_of_le (by omega); rw [e]; exact Src.nil _ _)) (l.length + 1) (by have := HA.out; simp only [List.nil_append, List.length_append, List.length_singleton]; omega) (by omega) ?_
                  intro A3 cap3 w3 r3 g3 l3
                  have q3 : Only [] wl w3 := R2.out.2.1.grown g3 (fun k hk => .inr (R2.out.2.2 k hk))
                  have v3 := own_fresh (B := wl.heap.size) l3 R2.out.2.2 R2.out.2.1.size
                  obtain ⟨c03, fr3, -⟩ := hat2.out w3 (ho.out.trans' q3)
                  have R3 := Lib.hid (store_mid H1.out (ho.out.trans' q3) r3 (fun k hk => Nat.le_trans ho.out.size (v3 k hk)))
                  clear r3 g3 l3 q3 v3))
            all_goals
              have e9 : Hid ([] ++ l.take p ++ [y] ++ l.drop p = ins y l) := by
                show _ = _
                unfold ins
                rw [hTW.out.1, hTW.out.2]
                simp
              have e8 : Hid ((ins y l).length ≤ 1000000) := by
                show _ ≤ _
                have := (ins_perm y l).length_eq
                simp at this
                omega
              go_wp2_with fail
              go_ret
              obtain ⟨k1, k2⟩ := R3.out
              rw [e9.out] at k1
              exact ⟨rfl, _, ⟨_, rfl, k1, e8.out⟩, k2⟩
  · rw [hid] at hge
    have hge' : (fOf l y.i).getD (-1) ≥ 0 := by rw [hge]
    simp only [if_true]
    have HX := Lib.hid (ItemsOf.only0 (w := w) (xb := xb) (S := iown xb v) (l := l) ⟨v, rfl, h1, h5⟩ oA)
    generalize (fOf l y.i).getD (-1) = q at *
    have hge2 : 0 ≤ q := hge'
    clear h1 hge hge'
    go_enter Try.func19, Try.ntmps19
    go_wp2_with fail
    refine hat.mono ?_
    rintro e w1 ⟨rfl, rfl⟩
    go_wp2_with fail
    go_ret
    exact ⟨rfl, _, HX.out, Moved.of_only oA⟩
end Go.Proofs.Ytppkbokjnocoeaa
