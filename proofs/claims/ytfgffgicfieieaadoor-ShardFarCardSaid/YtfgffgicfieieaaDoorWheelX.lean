/-
  Contract of the wheel's turn.
-/
import Derived.Test.YtfgffgicfieieaaDoorWheelR
import Derived.Test.YtfgffgicfieieaaDoorWheelP
namespace Go.Proofs.YtfgffgicfieieaaDoor
set_option maxRecDepth 100000
open Go.RowKit Go.ChangeMaps Go.MapKept
set_option linter.unusedVariables false
set_option linter.unusedSimpArgs false

section
variable {w w2 : World} {wb wd mb : Nat} {base : Int} {vs : Nat → Value} {ms : Nat → Nat} {f : Nat → List It} {K : Int → Option Int}
/-- The base set. -/
theorem WheelIs.rebase (h : WheelIs w wb mb vs ms wd base f K) (to : Int) : WheelIs (w.setCell ⟨wb, 1, none⟩ (.int .u64 to)) wb mb vs ms wd to f K ∧ Moved w (wown wb mb vs) (w.setCell ⟨wb, 1, none⟩ (.int .u64 to)) (wown wb mb vs) := by
  have ho : Only [wb] w (w.setCell ⟨wb, 1, none⟩ (.int .u64 to)) := (Only.refl [wb] w).setCell (.inl (by simp)) _
  refine ⟨⟨h.blk.setBase to, h.tells, fun i hi => (h.rows i hi).keep fun g hg => ho.block g ((h.rows i hi).lt hg) (by simpa using (h.wbg hi hg).symm), h.apart, h.map.keep (ho.block mb h.map.lt (by simpa using h.wbmb.symm))⟩, ho.mono (by intro k hk; simp at hk; exact .inl (mem_wown.2 (.inl hk))), fun b hb => .inl hb⟩
theorem WheelIs.nilRow (h : WheelIs w wb mb vs ms wd base f K) {i : Nat} (hi : i < 192) {ms' : Nat → Nat} (hT : Tells ms' (setN f i [])) (hb : WBlk w2 wb wd base (setN vs i (.slice none 0 0)) ms' mb) (ho2 : Only [wb] w w2) :
    WheelIs w2 wb mb (setN vs i (.slice none 0 0)) ms' wd base (setN f i []) K ∧ Moved w (wown wb mb vs) w2 (wown wb mb (setN vs i (.slice none 0 0))) := by
  refine ⟨⟨hb, hT, fun j hj => ?_, fun j k g hj hk e1 e2 => ?_, h.map.keep (ho2.block mb h.map.lt (by simpa using h.wbmb.symm))⟩, ho2.mono (by intro k hk; simp at hk; exact .inl (mem_wown.2 (.inl hk))), fun b hb' => .inl ?_⟩
  · by_cases e : j = i
    · subst e
      rw [setN_same, setN_same]
      exact RowIs.nil _
    · rw [setN_ne _ _ e, setN_ne _ _ e]
      exact (h.rows j hj).keep fun g hg => ho2.block g ((h.rows j hj).lt hg) (by simpa using (h.wbg hj hg).symm)
  · by_cases ej : j = i
    · subst ej; rw [setN_same] at e1; cases e1
    · by_cases ek : k = i
      · subst ek; rw [setN_same] at e2; cases e2
      · rw [setN_ne _ _ ej] at e1
        rw [setN_ne _ _ ek] at e2
        exact h.apart j k g hj hk e1 e2
  · rcases mem_wown.1 hb' with rfl | rfl | ⟨j, hj, e⟩
    · exact mem_wown.2 (.inl rfl)
    · exact mem_wown.2 (.inr (.inl rfl))
    · by_cases ej : j = i
      · subst ej; rw [setN_same] at e; cases e
      · rw [setN_ne _ _ ej] at e
        exact mem_wown.2 (.inr (.inr ⟨j, hj, e⟩))
end
theorem Lies.turn {wd : Nat} {base to : Int} {l : List It} (h : Lies wd base l) (h1 : base ≤ to) (h2 : ∀ x ∈ l, to ≤ x.k) : Lies wd to l :=
  ⟨by have := h.b0; omega, h.rises, h.ids, fun x hx => (pos_turn h.b0 h1 (h2 x hx) (h.near x hx)).1⟩
/-- Where nothing comes nearer. -/
theorem part_still {wd : Nat} {base to : Int} {l : List It} (h : Lies wd base l) (h1 : base ≤ to) (h2 : ∀ x ∈ l, to ≤ x.k) (hl : levM wd base to = 0 ∨ levM wd base to = 3) : (fun i => part (pl wd base) i l) = fun i => part (pl wd to) i l := by
  funext i
  apply part_congr
  intro x hx
  have hp := pos_turn h.b0 h1 (h2 x hx) (h.near x hx)
  rcases hl with e | e
  · have := hp.2.1 e
    unfold pl
    rw [this]
  · exact absurd e hp.2.2.1

set_option maxRecDepth 100000 in
set_option maxHeartbeats 1000000 in
theorem turn_still (w : World) (wb : Nat) (S : List Nat) (wd : Nat) (base : Int) (l : List It) (h : WheelOf w wb S wd base l) (to : Int) (h1 : base ≤ to) (h2 : ∀ x ∈ l, to ≤ x.k) (h3 : to ≤ 18446744073709551615) (hl : levM wd base to = 0 ∨ levM wd base to = 3) :
    Calls Tryd.prog 68 #[.pointer (some ⟨wb, 0, none⟩), .int .u64 to] w fun e w' => e = .returned (.tuple #[]) ∧ ∃ S', WheelOf w' wb S' wd to l ∧ Moved w S w' S' := by
  obtain ⟨vs, ms, mb, rfl, hW, hL, hok, hlen, hwd, hb1⟩ := h
  have hb0 := hL.b0
  have hwh := where_any w wb wd mb base vs ms hW.blk hwd to hb0 hb1 (by omega) h3
  have hps := part_still hL h1 h2 hl
  have HP := Lib.hid (And.intro hW (And.intro hL (And.intro (hL.turn h1 h2) (And.intro hok hps))))
  have hlv : ((levM wd base to) < 1) ∨ ¬ (levM wd base to < 1) ∧ levM wd base to ≥ 3 := by omega
  clear hW hL hok hps hl h2
  generalize levM wd base to = lv at *
  generalize bkW wd base to = bk at *
  go_enter Tryd.func68, Tryd.ntmps68
  go_wp2_with fail
  refine hwh.mono ?_
  rintro e w1 ⟨rfl, o1⟩
  have c1 := (HP.out.1.only0 o1).blk.c1
  have f1 := (HP.out.1.only0 o1).blk.fr 1
  have HO := Lib.hid o1
  clear hwh o1
  rcases hlv with hlv | ⟨hlv, hlv2⟩
  all_goals
    go_wp2_with fail
    (try simp only [Exit.inBlock, Exit.then])
    refine bodyPost_ret (results_none rfl _ _ _) rfl ?_
    obtain ⟨hW, hL, hL2, hok, hps⟩ := HP.out
    obtain ⟨q1, q2⟩ := (hW.only0 HO.out).rebase to
    rw [hps] at q1
    exact ⟨rfl, _, ⟨_, _, _, rfl, q1, hL2, hok, hlen, hwd, h3⟩, (Moved.of_only HO.out).trans q2⟩

/-- A part's items are none of the others'. -/
theorem parts_apart {wd : Nat} {base : Int} {l : List It} (h : Lies wd base l) (r : Nat) : ∀ i, ∀ y ∈ setN (fun i => part (pl wd base) i l) r [] i, ∀ x ∈ part (pl wd base) r l, y.i ≠ x.i := by
  intro i y hy x hx e
  by_cases ei : i = r
  · subst ei; rw [setN_same] at hy; cases hy
  · rw [setN_ne _ _ ei] at hy
    obtain ⟨hy1, hy2⟩ := mem_part.1 hy
    obtain ⟨hx1, hx2⟩ := mem_part.1 hx
    have := h.ids.eq hy1 hx1 e
    rw [this, hx2] at hy2
    exact ei hy2.symm
theorem Ids.sub {l m : List It} (h : Ids l) (hs : m.Sublist l) : Ids m := List.Nodup.sublist (hs.map It.i) h
theorem turning_small {p : It → Nat} {wd : Nat} {base : Int} {l : List It} {r k : Nat} {f : Nat → List It} (ht : Turning p (setN (fun i => part (pl wd base) i l) r []) (part (pl wd base) r l) k f) (hl : l.length ≤ 400000) (i : Nat) : (f i).length ≤ 1000000 := by
  have h1 := (ht i).2.length_eq
  have h2 : (setN (fun i => part (pl wd base) i l) r [] i).length ≤ l.length := by
    by_cases e : i = r
    · subst e; rw [setN_same]; simp
    · rw [setN_ne _ _ e]; exact part_len _ _
  have h3 : (part p i ((part (pl wd base) r l).take k)).length ≤ l.length := by
    refine Nat.le_trans (part_len _ _) (Nat.le_trans ?_ (part_len (p := pl wd base) r l))
    simp; omega
  rw [h1, List.length_append]
  omega

set_option maxRecDepth 100000 in
set_option maxHeartbeats 4000000 in
theorem turn_move (w : World) (wb : Nat) (S : List Nat) (wd : Nat) (base : Int) (l : List It) (h : WheelOf w wb S wd base l) (to : Int) (h1 : base ≤ to) (h2 : ∀ x ∈ l, to ≤ x.k) (h3 : to ≤ 18446744073709551615) (hr : reach wd base to) (L : Nat) (hL : levM wd base to = (L : Int)) (hL1 : 1 ≤ L) (hL2 : L ≤ 2) :
    Calls Tryd.prog 68 #[.pointer (some ⟨wb, 0, none⟩), .int .u64 to] w fun e w' => e = .returned (.tuple #[]) ∧ ∃ S', WheelOf w' wb S' wd to l ∧ Moved w S w' S' := by
  obtain ⟨vs, ms, mb, rfl, hW, hLi, hok, hlen, hwd, hb1⟩ := h
  have hb0 := hLi.b0
  have hwh := where_any w wb wd mb base vs ms hW.blk hwd to hb0 hb1 (by omega) h3
  obtain ⟨L', hL', eL, b, hb, eb, ep⟩ := pos_is hr
  have hbw : bkW wd base to = (b : Int) := by
    unfold bkW
    rw [if_pos (reach_iff.1 hr), eL, Int.toNat_natCast, eb]
  obtain rfl : L' = L := by omega
  rw [eL, hbw] at hwh
  have hi : L' * 64 + b < 192 := by omega
  obtain ⟨A, cap, ev⟩ := (hW.rows _ hi).form
  obtain ⟨xs, exs⟩ : ∃ xs, part (pl wd base) (L' * 64 + b) l = xs := ⟨_, rfl⟩
  obtain ⟨n, en⟩ : ∃ n, xs.length = n := ⟨_, rfl⟩
  have hn4 : n ≤ 400000 := by rw [← en, ← exs]; exact Nat.le_trans (part_len _ _) hlen
  simp only [exs, en] at ev
  have hms := (hW.tells L' hL').1
  have hto : 0 ≤ to := by omega
  have HP := Lib.hid (And.intro hW (And.intro hLi (And.intro h2 (And.intro hok (And.intro eL ep)))))
  have EV := Lib.hid ev
  have EX := Lib.hid exs
  have EN := Lib.hid en
  have hLI : (L' : Int) < 3 := by omega
  have hbI : (b : Int) < 64 := by omega
  have hg1 : ¬ ((L' : Int) < 1) := by omega
  have hg2 : ¬ ((L' : Int) ≥ 3) := by omega
  clear hW hLi hok h2 ev exs en eL eb ep hbw hr hL
  go_enter Tryd.func68, Tryd.ntmps68
  go_wp2_with fail
  refine hwh.mono ?_
  rintro e w1 ⟨rfl, o1⟩
  have hW1 := HP.out.1.only0 o1
  have c1 := hW1.blk.c1
  have f1 := hW1.blk.fr 1
  obtain ⟨q1, q2⟩ := hW1.rebase to
  obtain ⟨W2, eW2⟩ : ∃ W2, w1.setCell ⟨wb, 1, none⟩ (.int .u64 to) = W2 := ⟨_, rfl⟩
  rw [eW2] at q1 q2
  have EW2 := Lib.hid eW2
  have cl : W2.cell? ⟨wb, 2 + L' * 64 + b, none⟩ = some (.slice A n cap) := by rw [Nat.add_assoc, ← EV.out]; exact q1.blk.list hi
  have fl := q1.blk.fr (2 + L' * 64 + b)
  have HQ := Lib.hid (And.intro q1 ((Moved.of_only (S := wown wb mb vs) o1).trans q2))
  clear hwh o1 hW1 q1 q2
  go_wp2_with (simp only [eW2])
  obtain ⟨W3, eW3⟩ : ∃ W3, W2.setCell ⟨wb, 2 + L' * 64 + b, none⟩ (.slice none 0 0) = W3 := ⟨_, rfl⟩
  simp only [eW3]
  have B3 : WBlk W3 wb wd to (setN vs (L' * 64 + b) (.slice none 0 0)) ms mb := by
    rw [← eW3, Nat.add_assoc]; exact HQ.out.1.blk.setList hi _
  have o3 : Only [wb] W2 W3 := by rw [← eW3]; exact (Only.refl [wb] W2).setCell (.inl (by simp)) _
  have m0 := B3.bmap hL'
  have fm := B3.fr (194 + L')
  have hwt := fun W => without_any (ms L') (b : Int) W hms
  have HB3 := Lib.hid (And.intro B3 o3)
  clear B3 o3 eW3 eW2 cl fl c1 f1
  go_still_tail 13, (by kernel_rfl)
  still_call ((hwt _).mono fun _ _ q => ⟨q.1, q.2.symm⟩)
  repeat still_step
  refine wpStill_nil ?_
  change wpList _ _ _ _ _ W3.drew
  go_wp2_with fail
  obtain ⟨W4, eW4⟩ : ∃ W4, (W3.setCell ⟨wb, 194 + L', none⟩ (.int .u64 ((withoutM (ms L') (b : Int) : Nat) : Int))).drew = W4 := ⟨_, rfl⟩
  rw [eW4]
  have B4 : WBlk W4 wb wd to (setN vs (L' * 64 + b) (.slice none 0 0)) (setN ms L' (withoutM (ms L') (b : Int))) mb := by
    rw [← eW4]; exact (HB3.out.1.setMap hL' _).keep rfl
  have o4 : Only [wb] W2 W4 := by rw [← eW4]; exact (HB3.out.2.setCell (.inl (by simp)) _).drew
  have HW4 := Lib.hid (HQ.out.1.nilRow hi (HQ.out.1.tells.without_ hL' hb) B4 o4)
  have hrow : Hid (∀ W T, Only T W4 W → (∀ b' ∈ T, b' ∈ wown wb mb (setN vs (L' * 64 + b) (.slice none 0 0)) ∨ W4.heap.size ≤ b') → RowIs W (.slice A n cap) xs) := fun W T oT hT => by
    have hr2 := HQ.out.1.rows _ hi
    simp only [EX.out, EV.out] at hr2
    have hown : ∀ g, (Value.slice A n cap).ownBlock = some g → g ≠ wb ∧ g ∉ wown wb mb (setN vs (L' * 64 + b) (.slice none 0 0)) := fun g hg => by
      have hg' : (vs (L' * 64 + b)).ownBlock = some g := by rw [EV.out]; exact hg
      refine ⟨(HQ.out.1.wbg hi hg').symm, fun hm => ?_⟩
      rcases mem_wown.1 hm with e | e | ⟨j, hj, e⟩
      · exact (HQ.out.1.wbg hi hg') e.symm
      · exact (HQ.out.1.mbg hi hg') e.symm
      · by_cases ej : j = L' * 64 + b
        · subst ej; rw [setN_same] at e; cases e
        · rw [setN_ne _ _ ej] at e
          exact ej (HQ.out.1.apart j _ g hj hi e hg')
    have hr4 := hr2.keep (w' := W4) fun g hg => o4.block g (hr2.lt hg) (by simpa using (hown g hg).1)
    refine hr4.keep fun g hg => oT.block g (hr4.lt hg) fun hm => ?_
    rcases hT g hm with h | h
    · exact (hown g hg).2 h
    · have := hr4.lt hg; omega
  have ht0 : Hid (Turning (pl wd to) (setN (fun i => part (pl wd base) i l) (L' * 64 + b) []) xs 0 (setN (fun i => part (pl wd base) i l) (L' * 64 + b) [])) := fun i => by
    refine ⟨?_, by simp [part]⟩
    by_cases e : i = L' * 64 + b
    · subst e; rw [setN_same]; exact List.Pairwise.nil
    · rw [setN_ne _ _ e]; exact part_rises HP.out.2.1.rises i
  have hids : Hid (Ids xs) := by
    have := HP.out.2.1.ids.sub (part_sub (p := pl wd base) (L' * 64 + b) l)
    rw [EX.out] at this; exact this
  have hapt : Hid (∀ i, ∀ y ∈ setN (fun i => part (pl wd base) i l) (L' * 64 + b) [] i, ∀ x ∈ xs, y.i ≠ x.i) := by
    have := parts_apart HP.out.2.1 (L' * 64 + b)
    rw [EX.out] at this; exact this
  have hxin : Hid (∀ x ∈ xs, x.ok ∧ reach wd to x.k) := fun x hx => by
    have hx' : x ∈ l := by rw [← EX.out] at hx; exact (mem_part.1 hx).1
    exact ⟨HP.out.2.2.2.1 x hx', (pos_turn hb0 h1 (HP.out.2.2.1 x hx') (HP.out.2.1.near x hx')).1⟩
  clear B4 o4 eW4 hwt m0 fm
  go_loopg [55] (n + 1) (fun gk si wr => ∃ (k : Nat) (vsk : Nat → Value) (msk : Nat → Nat) (fk : Nat → List It), si = .int .i64 (k : Int) ∧ k ≤ n ∧ n + 1 ≤ gk + k ∧ Hid (WheelIs wr wb mb vsk msk wd to fk (keysOf l)) ∧ Hid (Turning (pl wd to) (setN (fun i => part (pl wd base) i l) (L' * 64 + b) []) xs k fk) ∧ Hid (Moved W4 (wown wb mb (setN vs (L' * 64 + b) (.slice none 0 0))) wr (wown wb mb vsk)))
  case atStart => exact ⟨0, _, _, _, rfl, by omega, by omega, HW4.out.1, ht0, Moved.refl _ _⟩
  case round =>
    obtain ⟨k, vsk, msk, fk, rfl, hk, hgk, hWk, hTk, hMk⟩ := hrel
    by_cases hkn : k < n
    · have hkn' : (k : Int) < (n : Int) := by omega
      have hr5 := hrow.out wr _ hMk.out.1 (fun b' hb' => .inl hb')
      obtain ⟨g, cap', e, -, -, -, -, hc⟩ := hr5.at_ (by rw [EN.out]; omega)
      injection e with e1 e2 e3
      subst e1
      obtain ⟨d0, d1, -, -⟩ := hc k (by rw [EN.out]; exact hkn)
      obtain ⟨z, ez⟩ : ∃ z, gOf xs k = z := ⟨_, rfl⟩
      rw [ez] at d0 d1
      have hzin : z ∈ xs := by rw [← ez, gOf_get (by rw [EN.out]; exact hkn)]; exact List.getElem_mem _
      obtain ⟨zok, zr⟩ := hxin.out z hzin
      have hput : Hid (∀ W, Only [] wr W → Calls Tryd.prog 59 #[.pointer (some ⟨wb, 0, none⟩), .agg #[.int .u64 z.k, .int .i64 z.i]] W fun e w' => e = .returned (.tuple #[]) ∧
          ∃ vs' ms', WheelIs w' wb mb vs' ms' wd to (setN fk (pl wd to z) (ins z (fk (pl wd to z)))) (keysOf l) ∧ Moved W (wown wb mb vsk) w' (wown wb mb vs')) := fun W oW =>
        wPut W wb mb wd vsk msk to fk (keysOf l) (hWk.out.only0 oW) hwd hto h3 z zok zr (hTk.out _).1 (turning_small (by rw [EX.out]; exact hTk.out) hlen _)
      have EZ := Lib.hid ez
      clear hr5 hc e2 e3 ez hzin zok zr
      go_wp2_with fail
      refine (hput.out _ ((Only.refl [] wr).alloc _)).mono ?_
      rintro e w5 ⟨rfl, vs', ms', hW5, hM5⟩
      have R5 := Lib.hid (And.intro hW5 ((hMk.out.still ((Only.refl [] wr).alloc (.cells #[.int .u64 z.k, .int .i64 z.i] 35))).trans hM5))
      clear hW5 hM5 hput d0 d1
      go_wp2_with fail
      go_roundg (n + 1 - (k + 1))
      case measure => omega
      case rel =>
        have hst := hTk.out.step (by rw [EN.out]; exact hkn) hids.out hapt.out
        rw [EZ.out] at hst
        exact ⟨k + 1, vs', ms', _, by simp, by omega, by omega, R5.out.1, hst, R5.out.2⟩
    · have hkn' : decide ((k : Int) < (n : Int)) = false := decide_eq_false (by omega)
      go_wp2_with fail
      go_end0
      obtain rfl : k = n := by omega
      obtain ⟨hW, hLi, h2, hok, eL, ep⟩ := HP.out
      have ht := hTk.out
      rw [← EN.out, ← EX.out, ← ep] at ht
      have hf := turned hLi h1 h2 eL hL1 hL2 ht
      have hWk' := hWk.out
      rw [hf] at hWk'
      exact ⟨rfl, _, ⟨_, _, _, rfl, hWk', hLi.turn h1 h2, hok, hlen, hwd, h3⟩, (HQ.out.2.trans HW4.out.2).trans hMk.out⟩
theorem wTurn (w : World) (wb : Nat) (S : List Nat) (wd : Nat) (base : Int) (l : List It) (h : WheelOf w wb S wd base l) (to : Int) (h1 : base ≤ to) (h2 : ∀ x ∈ l, to ≤ x.k) (h3 : to ≤ 18446744073709551615) :
    Calls Tryd.prog 68 #[.pointer (some ⟨wb, 0, none⟩), .int .u64 to] w fun e w' => e = .returned (.tuple #[]) ∧ ∃ S', WheelOf w' wb S' wd to l ∧ Moved w S w' S' := by
  rcases levM_cases wd base to with ⟨_, hc⟩ | ⟨_, hc | hc | hc | hc⟩
  · omega
  · exact turn_still w wb S wd base l h to h1 h2 h3 (.inl hc.1)
  · exact turn_move w wb S wd base l h to h1 h2 h3 (reach_iff.2 ⟨by omega, by omega⟩) 1 hc.1 (by omega) (by omega)
  · exact turn_move w wb S wd base l h to h1 h2 h3 (reach_iff.2 ⟨by omega, by omega⟩) 2 hc.1 (by omega) (by omega)
  · exact turn_still w wb S wd base l h to h1 h2 h3 (.inr hc.1)
end Go.Proofs.YtfgffgicfieieaaDoor
