/-
  Contract of the wheel's turn.
  Contracts of the wheel's Has, Len, Map, Base, Push, told by the list of its items.
  Contracts of the wheel's Min and All.
  Contracts of the wheel's Pop, Drop, Move.
  The wheel's New; the statements' awake.
-/
import Derived.Test.YtajhkdbldbifeaaGreatDoorGmN
namespace Go.Proofs.YtajhkdbldbifeaaGreatDoor
set_option maxRecDepth 100000
open Go.RowKit Go.ChangeMaps Go.MapKept
set_option linter.unusedVariables false
set_option linter.unusedSimpArgs false

section
variable {w w2 : World} {wb wd mb : Nat} {base : Int} {vs : Nat → Value} {ms : Nat → Nat} {f : Nat → List It} {K : Int → Option Int}
/-- The base set. -/
theorem WheelIs.rebase (h : WheelIs w wb mb vs ms wd base f K) (to : Int) : WheelIs (w.setCell ⟨wb, 1, none⟩ (.int .u64 to)) wb mb vs ms wd to f K ∧ Moved w (wown wb mb vs) (w.setCell ⟨wb, 1, none⟩ (.int .u64 to)) (wown wb mb vs) := by
  have ho : Only [wb] w (w.setCell ⟨wb, 1, none⟩ (.int .u64 to)) := (Only.refl [wb] w).setCell (.inl (by simp)) _
  refine ⟨⟨h.blk.setBase to, h.tells, fun i hi => (h.rows i hi).keep fun g hg => ho.block g ((h.rows i hi).lt hg) (by simpa using (h.wbg hi hg).symm), h.apart, h.map.keep (ho.block mb h.map.lt (by simpa using h.wbmb.symm))⟩, ho.mono (by intro k hk; simp at hk; exact .inl (mem_wown.2 (.inl hk))), fun b hb => .inl hb⟩
theorem WheelIs.nilRow (h : WheelIs w wb mb vs ms wd base f K) {i : Nat} (hi : i < 192) {ms' : Nat → Nat} (hT : Tells ms' (setN f i [])) (hb : WBlk w2 wb wd base (setN vs i (.slice none 0 0)) ms' mb) (ho2 : Only [wb] w w2) :
    WheelIs w2 wb mb (setN vs i (.slice none 0 0)) ms' wd base (setN f i []) K ∧ Moved w (wown wb mb vs) w2 (wown wb mb (setN vs i (.slice none 0 0))) := by
  refine ⟨⟨hb, hT, fun j hj => ?_, fun j k g hj hk e1 e2 => ?_, h.map.keep (ho2.block mb h.map.lt (by simpa using h.wbmb.symm))⟩, ho2.mono (by intro k hk; simp at hk; exact .inl (mem_wown.2 (.inl hk))), fun b hb' => .inl ?_⟩
  · by_cases e : j = i
    · subst e
      rw [setN_same, setN_same]
      exact RowIs.nil _
    · rw [setN_ne _ _ e, setN_ne _ _ e]
      exact (h.rows j hj).keep fun g hg => ho2.block g ((h.rows j hj).lt hg) (by simpa using (h.wbg hj hg).symm)
  · by_cases ej : j = i
    · subst ej; rw [setN_same] at e1; cases e1
    · by_cases ek : k = i
      · subst ek; rw [setN_same] at e2; cases e2
      · rw [setN_ne _ _ ej] at e1
        rw [setN_ne _ _ ek] at e2
        exact h.apart j k g hj hk e1 e2
  · rcases mem_wown.1 hb' with rfl | rfl | ⟨j, hj, e⟩
    · exact mem_wown.2 (.inl rfl)
    · exact mem_wown.2 (.inr (.inl rfl))
    · by_cases ej : j = i
      · subst ej; rw [setN_same] at e; cases e
      · rw [setN_ne _ _ ej] at e
        exact mem_wown.2 (.inr (.inr ⟨j, hj, e⟩))
end
theorem Lies.turn {wd : Nat} {base to : Int} {l : List It} (h : Lies wd base l) (h1 : base ≤ to) (h2 : ∀ x ∈ l, to ≤ x.k) : Lies wd to l :=
  ⟨by have := h.b0; omega, h.rises, h.ids, fun x hx => (pos_turn h.b0 h1 (h2 x hx) (h.near x hx)).1⟩
/-- Where nothing comes nearer. -/
theorem part_still {wd : Nat} {base to : Int} {l : List It} (h : Lies wd base l) (h1 : base ≤ to) (h2 : ∀ x ∈ l, to ≤ x.k) (hl : levM wd base to = 0 ∨ levM wd base to = 3) : (fun i => part (pl wd base) i l) = fun i => part (pl wd to) i l := by
  funext i
  apply part_congr
  intro x hx
  have hp := pos_turn h.b0 h1 (h2 x hx) (h.near x hx)
  rcases hl with e | e
  · have := hp.2.1 e
    unfold pl
    rw [this]
  · exact absurd e hp.2.2.1

set_option maxRecDepth 100000 in
set_option maxHeartbeats 1000000 in
theorem turn_still (w : World) (wb : Nat) (S : List Nat) (wd : Nat) (base : Int) (l : List It) (h : WheelOf w wb S wd base l) (to : Int) (h1 : base ≤ to) (h2 : ∀ x ∈ l, to ≤ x.k) (h3 : to ≤ 18446744073709551615) (hl : levM wd base to = 0 ∨ levM wd base to = 3) :
    Calls Tryz.prog 100 #[.pointer (some ⟨wb, 0, none⟩), .int .u64 to] w fun e w' => e = .returned (.tuple #[]) ∧ ∃ S', WheelOf w' wb S' wd to l ∧ Moved w S w' S' := by
  obtain ⟨vs, ms, mb, rfl, hW, hL, hok, hlen, hwd, hb1⟩ := h
  have hb0 := hL.b0
  have hwh := where_any w wb wd mb base vs ms hW.blk hwd to hb0 hb1 (by omega) h3
  have hps := part_still hL h1 h2 hl
  have HP := Lib.hid (And.intro hW (And.intro hL (And.intro (hL.turn h1 h2) (And.intro hok hps))))
  have hlv : ((levM wd base to) < 1) ∨ ¬ (levM wd base to < 1) ∧ levM wd base to ≥ 3 := by omega
  clear hW hL hok hps hl h2
  generalize levM wd base to = lv at *
  generalize bkW wd base to = bk at *
  go_enter Tryz.func100, Tryz.ntmps100
  go_wp2_with fail
  refine hwh.mono ?_
  rintro e w1 ⟨rfl, o1⟩
  have c1 := (HP.out.1.only0 o1).blk.c1
  have f1 := (HP.out.1.only0 o1).blk.fr 1
  have HO := Lib.hid o1
  clear hwh o1
  rcases hlv with hlv | ⟨hlv, hlv2⟩
  all_goals
    go_wp2_with fail
    (try simp only [Exit.inBlock, Exit.then])
    refine bodyPost_ret (results_none rfl _ _ _) rfl ?_
    obtain ⟨hW, hL, hL2, hok, hps⟩ := HP.out
    obtain ⟨q1, q2⟩ := (hW.only0 HO.out).rebase to
    rw [hps] at q1
    exact ⟨rfl, _, ⟨_, _, _, rfl, q1, hL2, hok, hlen, hwd, h3⟩, (Moved.of_only HO.out).trans q2⟩

/-- A part's items are none of the others'. -/
theorem parts_apart {wd : Nat} {base : Int} {l : List It} (h : Lies wd base l) (r : Nat) : ∀ i, ∀ y ∈ setN (fun i => part (pl wd base) i l) r [] i, ∀ x ∈ part (pl wd base) r l, y.i ≠ x.i := by
  intro i y hy x hx e
  by_cases ei : i = r
  · subst ei; rw [setN_same] at hy; cases hy
  · rw [setN_ne _ _ ei] at hy
    obtain ⟨hy1, hy2⟩ := mem_part.1 hy
    obtain ⟨hx1, hx2⟩ := mem_part.1 hx
    have := h.ids.eq hy1 hx1 e
    rw [this, hx2] at hy2
    exact ei hy2.symm
theorem Ids.sub {l m : List It} (h : Ids l) (hs : m.Sublist l) : Ids m := List.Nodup.sublist (hs.map It.i) h
theorem turning_small {p : It → Nat} {wd : Nat} {base : Int} {l : List It} {r k : Nat} {f : Nat → List It} (ht : Turning p (setN (fun i => part (pl wd base) i l) r []) (part (pl wd base) r l) k f) (hl : l.length ≤ 400000) (i : Nat) : (f i).length ≤ 1000000 := by
  have h1 := (ht i).2.length_eq
  have h2 : (setN (fun i => part (pl wd base) i l) r [] i).length ≤ l.length := by
    by_cases e : i = r
    · subst e; rw [setN_same]; simp
    · rw [setN_ne _ _ e]; exact part_len _ _
  have h3 : (part p i ((part (pl wd base) r l).take k)).length ≤ l.length := by
    refine Nat.le_trans (part_len _ _) (Nat.le_trans ?_ (part_len (p := pl wd base) r l))
    simp; omega
  rw [h1, List.length_append]
  omega

set_option maxRecDepth 100000 in
set_option maxHeartbeats 4000000 in
theorem turn_move (w : World) (wb : Nat) (S : List Nat) (wd : Nat) (base : Int) (l : List It) (h : WheelOf w wb S wd base l) (to : Int) (h1 : base ≤ to) (h2 : ∀ x ∈ l, to ≤ x.k) (h3 : to ≤ 18446744073709551615) (hr : reach wd base to) (L : Nat) (hL : levM wd base to = (L : Int)) (hL1 : 1 ≤ L) (hL2 : L ≤ 2) :
    Calls Tryz.prog 100 #[.pointer (some ⟨wb, 0, none⟩), .int .u64 to] w fun e w' => e = .returned (.tuple #[]) ∧ ∃ S', WheelOf w' wb S' wd to l ∧ Moved w S w' S' := by
  obtain ⟨vs, ms, mb, rfl, hW, hLi, hok, hlen, hwd, hb1⟩ := h
  have hb0 := hLi.b0
  have hwh := where_any w wb wd mb base vs ms hW.blk hwd to hb0 hb1 (by omega) h3
  obtain ⟨L', hL', eL, b, hb, eb, ep⟩ := pos_is hr
  have hbw : bkW wd base to = (b : Int) := by
    unfold bkW
    rw [if_pos (reach_iff.1 hr), eL, Int.toNat_natCast, eb]
  obtain rfl : L' = L := by omega
  rw [eL, hbw] at hwh
  have hi : L' * 64 + b < 192 := by omega
  obtain ⟨A, cap, ev⟩ := (hW.rows _ hi).form
  obtain ⟨xs, exs⟩ : ∃ xs, part (pl wd base) (L' * 64 + b) l = xs := ⟨_, rfl⟩
  obtain ⟨n, en⟩ : ∃ n, xs.length = n := ⟨_, rfl⟩
  have hn4 : n ≤ 400000 := by rw [← en, ← exs]; exact Nat.le_trans (part_len _ _) hlen
  simp only [exs, en] at ev
  have hms := (hW.tells L' hL').1
  have hto : 0 ≤ to := by omega
  have HP := Lib.hid (And.intro hW (And.intro hLi (And.intro h2 (And.intro hok (And.intro eL ep)))))
  have EV := Lib.hid ev
  have EX := Lib.hid exs
  have EN := Lib.hid en
  have hLI : (L' : Int) < 3 := by omega
  have hbI : (b : Int) < 64 := by omega
  have hg1 : ¬ ((L' : Int) < 1) := by omega
  have hg2 : ¬ ((L' : Int) ≥ 3) := by omega
  clear hW hLi hok h2 ev exs en eL eb ep hbw hr hL
  go_enter Tryz.func100, Tryz.ntmps100
  go_wp2_with fail
  refine hwh.mono ?_
  rintro e w1 ⟨rfl, o1⟩
  have hW1 := HP.out.1.only0 o1
  have c1 := hW1.blk.c1
  have f1 := hW1.blk.fr 1
  obtain ⟨q1, q2⟩ := hW1.rebase to
  obtain ⟨W2, eW2⟩ : ∃ W2, w1.setCell ⟨wb, 1, none⟩ (.int .u64 to) = W2 := ⟨_, rfl⟩
  rw [eW2] at q1 q2
  have EW2 := Lib.hid eW2
  have cl : W2.cell? ⟨wb, 2 + L' * 64 + b, none⟩ = some (.slice A n cap) := by rw [Nat.add_assoc, ← EV.out]; exact q1.blk.list hi
  have fl := q1.blk.fr (2 + L' * 64 + b)
  have HQ := Lib.hid (And.intro q1 ((Moved.of_only (S := wown wb mb vs) o1).trans q2))
  clear hwh o1 hW1 q1 q2
  go_wp2_with (simp only [eW2])
  obtain ⟨W3, eW3⟩ : ∃ W3, W2.setCell ⟨wb, 2 + L' * 64 + b, none⟩ (.slice none 0 0) = W3 := ⟨_, rfl⟩
  simp only [eW3]
  have B3 : WBlk W3 wb wd to (setN vs (L' * 64 + b) (.slice none 0 0)) ms mb := by
    rw [← eW3, Nat.add_assoc]; exact HQ.out.1.blk.setList hi _
  have o3 : Only [wb] W2 W3 := by rw [← eW3]; exact (Only.refl [wb] W2).setCell (.inl (by simp)) _
  have m0 := B3.bmap hL'
  have fm := B3.fr (194 + L')
  have hwt := fun W => without_any (ms L') (b : Int) W hms
  have HB3 := Lib.hid (And.intro B3 o3)
  clear B3 o3 eW3 eW2 cl fl c1 f1
  go_still_tail 13, (by kernel_rfl)
  still_call ((hwt _).mono fun _ _ q => ⟨q.1, q.2.symm⟩)
  repeat still_step
  refine wpStill_nil ?_
  change wpList _ _ _ _ _ W3.drew
  go_wp2_with fail
  obtain ⟨W4, eW4⟩ : ∃ W4, (W3.setCell ⟨wb, 194 + L', none⟩ (.int .u64 ((withoutM (ms L') (b : Int) : Nat) : Int))).drew = W4 := ⟨_, rfl⟩
  rw [eW4]
  have B4 : WBlk W4 wb wd to (setN vs (L' * 64 + b) (.slice none 0 0)) (setN ms L' (withoutM (ms L') (b : Int))) mb := by
    rw [← eW4]; exact (HB3.out.1.setMap hL' _).keep rfl
  have o4 : Only [wb] W2 W4 := by rw [← eW4]; exact (HB3.out.2.setCell (.inl (by simp)) _).drew
  have HW4 := Lib.hid (HQ.out.1.nilRow hi (HQ.out.1.tells.without_ hL' hb) B4 o4)
  have hrow : Hid (∀ W T, Only T W4 W → (∀ b' ∈ T, b' ∈ wown wb mb (setN vs (L' * 64 + b) (.slice none 0 0)) ∨ W4.heap.size ≤ b') → RowIs W (.slice A n cap) xs) := fun W T oT hT => by
    have hr2 := HQ.out.1.rows _ hi
    simp only [EX.out, EV.out] at hr2
    have hown : ∀ g, (Value.slice A n cap).ownBlock = some g → g ≠ wb ∧ g ∉ wown wb mb (setN vs (L' * 64 + b) (.slice none 0 0)) := fun g hg => by
      have hg' : (vs (L' * 64 + b)).ownBlock = some g := by rw [EV.out]; exact hg
      refine ⟨(HQ.out.1.wbg hi hg').symm, fun hm => ?_⟩
      rcases mem_wown.1 hm with e | e | ⟨j, hj, e⟩
      · exact (HQ.out.1.wbg hi hg') e.symm
      · exact (HQ.out.1.mbg hi hg') e.symm
      · by_cases ej : j = L' * 64 + b
        · subst ej; rw [setN_same] at e; cases e
        · rw [setN_ne _ _ ej] at e
          exact ej (HQ.out.1.apart j _ g hj hi e hg')
    have hr4 := hr2.keep (w' := W4) fun g hg => o4.block g (hr2.lt hg) (by simpa using (hown g hg).1)
    refine hr4.keep fun g hg => oT.block g (hr4.lt hg) fun hm => ?_
    rcases hT g hm with h | h
    · exact (hown g hg).2 h
    · have := hr4.lt hg; omega
  have ht0 : Hid (Turning (pl wd to) (setN (fun i => part (pl wd base) i l) (L' * 64 + b) []) xs 0 (setN (fun i => part (pl wd base) i l) (L' * 64 + b) [])) := fun i => by
    refine ⟨?_, by simp [part]⟩
    by_cases e : i = L' * 64 + b
    · subst e; rw [setN_same]; exact List.Pairwise.nil
    · rw [setN_ne _ _ e]; exact part_rises HP.out.2.1.rises i
  have hids : Hid (Ids xs) := by
    have := HP.out.2.1.ids.sub (part_sub (p := pl wd base) (L' * 64 + b) l)
    rw [EX.out] at this; exact this
  have hapt : Hid (∀ i, ∀ y ∈ setN (fun i => part (pl wd base) i l) (L' * 64 + b) [] i, ∀ x ∈ xs, y.i ≠ x.i) := by
    have := parts_apart HP.out.2.1 (L' * 64 + b)
    rw [EX.out] at this; exact this
  have hxin : Hid (∀ x ∈ xs, x.ok ∧ reach wd to x.k) := fun x hx => by
    have hx' : x ∈ l := by rw [← EX.out] at hx; exact (mem_part.1 hx).1
    exact ⟨HP.out.2.2.2.1 x hx', (pos_turn hb0 h1 (HP.out.2.2.1 x hx') (HP.out.2.1.near x hx')).1⟩
  clear B4 o4 eW4 hwt m0 fm
  go_loopg [55] (n + 1) (fun gk si wr => ∃ (k : Nat) (vsk : Nat → Value) (msk : Nat → Nat) (fk : Nat → List It), si = .int .i64 (k : Int) ∧ k ≤ n ∧ n + 1 ≤ gk + k ∧ Hid (WheelIs wr wb mb vsk msk wd to fk (keysOf l)) ∧ Hid (Turning (pl wd to) (setN (fun i => part (pl wd base) i l) (L' * 64 + b) []) xs k fk) ∧ Hid (Moved W4 (wown wb mb (setN vs (L' * 64 + b) (.slice none 0 0))) wr (wown wb mb vsk)))
  case atStart => exact ⟨0, _, _, _, rfl, by omega, by omega, HW4.out.1, ht0, Moved.refl _ _⟩
  case round =>
    obtain ⟨k, vsk, msk, fk, rfl, hk, hgk, hWk, hTk, hMk⟩ := hrel
    by_cases hkn : k < n
    · have hkn' : (k : Int) < (n : Int) := by omega
      have hr5 := hrow.out wr _ hMk.out.1 (fun b' hb' => .inl hb')
      obtain ⟨g, cap', e, -, -, -, -, hc⟩ := hr5.at_ (by rw [EN.out]; omega)
      injection e with e1 e2 e3
      subst e1
      obtain ⟨d0, d1, -, -⟩ := hc k (by rw [EN.out]; exact hkn)
      obtain ⟨z, ez⟩ : ∃ z, gOf xs k = z := ⟨_, rfl⟩
      rw [ez] at d0 d1
      have hzin : z ∈ xs := by rw [← ez, gOf_get (by rw [EN.out]; exact hkn)]; exact List.getElem_mem _
      obtain ⟨zok, zr⟩ := hxin.out z hzin
      have hput : Hid (∀ W, Only [] wr W → Calls Tryz.prog 94 #[.pointer (some ⟨wb, 0, none⟩), .agg #[.int .u64 z.k, .int .i64 z.i]] W fun e w' => e = .returned (.tuple #[]) ∧
          ∃ vs' ms', WheelIs w' wb mb vs' ms' wd to (setN fk (pl wd to z) (ins z (fk (pl wd to z)))) (keysOf l) ∧ Moved W (wown wb mb vsk) w' (wown wb mb vs')) := fun W oW =>
        wPut W wb mb wd vsk msk to fk (keysOf l) (hWk.out.only0 oW) hwd hto h3 z zok zr (hTk.out _).1 (turning_small (by rw [EX.out]; exact hTk.out) hlen _)
      have EZ := Lib.hid ez
      clear hr5 hc e2 e3 ez hzin zok zr
      go_wp2_with fail
      refine (hput.out _ ((Only.refl [] wr).alloc _)).mono ?_
      rintro e w5 ⟨rfl, vs', ms', hW5, hM5⟩
      have R5 := Lib.hid (And.intro hW5 ((hMk.out.still ((Only.refl [] wr).alloc (.cells #[.int .u64 z.k, .int .i64 z.i] 40))).trans hM5))
      clear hW5 hM5 hput d0 d1
      go_wp2_with fail
      go_roundg (n + 1 - (k + 1))
      case measure => omega
      case rel =>
        have hst := hTk.out.step (by rw [EN.out]; exact hkn) hids.out hapt.out
        rw [EZ.out] at hst
        exact ⟨k + 1, vs', ms', _, by simp, by omega, by omega, R5.out.1, hst, R5.out.2⟩
    · have hkn' : decide ((k : Int) < (n : Int)) = false := decide_eq_false (by omega)
      go_wp2_with fail
      go_end0
      obtain rfl : k = n := by omega
      obtain ⟨hW, hLi, h2, hok, eL, ep⟩ := HP.out
      have ht := hTk.out
      rw [← EN.out, ← EX.out, ← ep] at ht
      have hf := turned hLi h1 h2 eL hL1 hL2 ht
      have hWk' := hWk.out
      rw [hf] at hWk'
      exact ⟨rfl, _, ⟨_, _, _, rfl, hWk', hLi.turn h1 h2, hok, hlen, hwd, h3⟩, (HQ.out.2.trans HW4.out.2).trans hMk.out⟩
theorem wTurn (w : World) (wb : Nat) (S : List Nat) (wd : Nat) (base : Int) (l : List It) (h : WheelOf w wb S wd base l) (to : Int) (h1 : base ≤ to) (h2 : ∀ x ∈ l, to ≤ x.k) (h3 : to ≤ 18446744073709551615) :
    Calls Tryz.prog 100 #[.pointer (some ⟨wb, 0, none⟩), .int .u64 to] w fun e w' => e = .returned (.tuple #[]) ∧ ∃ S', WheelOf w' wb S' wd to l ∧ Moved w S w' S' := by
  rcases levM_cases wd base to with ⟨_, hc⟩ | ⟨_, hc | hc | hc | hc⟩
  · omega
  · exact turn_still w wb S wd base l h to h1 h2 h3 (.inl hc.1)
  · exact turn_move w wb S wd base l h to h1 h2 h3 (reach_iff.2 ⟨by omega, by omega⟩) 1 hc.1 (by omega) (by omega)
  · exact turn_move w wb S wd base l h to h1 h2 h3 (reach_iff.2 ⟨by omega, by omega⟩) 2 hc.1 (by omega) (by omega)
  · exact turn_still w wb S wd base l h to h1 h2 h3 (.inr hc.1)
end Go.Proofs.YtajhkdbldbifeaaGreatDoor

namespace Go.Proofs.YtajhkdbldbifeaaGreatDoor
set_option maxRecDepth 100000
open Go.RowKit Go.ChangeMaps Go.MapKept
set_option linter.unusedVariables false
set_option linter.unusedSimpArgs false

/-- Is a key in reach? -/
def inR (wd : Nat) (base key : Int) : Bool := decide (0 ≤ levM wd base key ∧ levM wd base key ≤ 2)
theorem inR_iff {wd : Nat} {base key : Int} : inR wd base key = true ↔ reach wd base key := by unfold inR; rw [decide_eq_true_eq]; exact reach_iff.symm
theorem wBaseOf (w : World) (wb : Nat) (S : List Nat) (wd : Nat) (base : Int) (l : List It) (h : WheelOf w wb S wd base l) : Calls Tryz.prog 68 #[.pointer (some ⟨wb, 0, none⟩)] w fun e w' => e = .returned (.int .u64 base) ∧ w' = w := by
  obtain ⟨vs, ms, mb, rfl, hW, hL, hok, hlen, hwd, hb1⟩ := h
  exact wBase w wb wd mb base vs ms hW.blk
theorem wHasOf (w : World) (wb : Nat) (S : List Nat) (wd : Nat) (base : Int) (l : List It) (h : WheelOf w wb S wd base l) (id : Int) (hid : i64ok id) : Calls Tryz.prog 85 #[.pointer (some ⟨wb, 0, none⟩), .int .i64 id] w fun e w' => e = .returned (.bool (hasId id l)) ∧ w' = w := by
  obtain ⟨vs, ms, mb, rfl, hW, hL, hok, hlen, hwd, hb1⟩ := h
  have := wHas w wb wd mb base vs ms hW.blk (keysOf l) hW.map id hid
  rw [keysOf_some] at this
  exact this
theorem find_iff {m : List It} (hm : Ids m) (id : Int) (z : It) : findId id m = some z ↔ z ∈ m ∧ z.i = id := by
  unfold findId
  constructor
  · intro e
    exact ⟨List.mem_of_find?_eq_some e, by simpa using List.find?_some e⟩
  · rintro ⟨hz, e⟩
    cases hf : m.find? (fun x => x.i == id) with
    | none =>
      have := List.find?_eq_none.1 hf z hz
      simp [e] at this
    | some u =>
      have hu := List.mem_of_find?_eq_some hf
      have hui : u.i = id := by simpa using List.find?_some hf
      rw [hm.eq hu hz (hui.trans e.symm)]
theorem map_size {w : World} {mb : Nat} {l : List It} (h : MapU w mb (keysOf l)) (hi : Ids l) : ∃ es cl, w.heap[mb]? = some (.map es cl) ∧ es.size = l.length := by
  obtain ⟨es, cl, hb, hs, h1, h2⟩ := h
  refine ⟨es, cl, hb, ?_⟩
  have n1 : (es.toList.map (·.key)).Nodup := hs.2.2
  have n2 : (l.map fun x => Value.int .i64 x.i).Nodup := by
    have : (l.map fun x => Value.int .i64 x.i) = (l.map It.i).map (Value.int .i64) := by rw [List.map_map]; rfl
    rw [this]
    exact List.Pairwise.map _ (fun a b hab e => hab (by injection e)) hi
  have hp := (List.perm_ext_iff_of_nodup n1 n2).2 fun v => by
    constructor
    · intro hv
      obtain ⟨e, he, rfl⟩ := List.mem_map.1 hv
      obtain ⟨k, z, r1, _, _, r4⟩ := h1 e he
      unfold keysOf at r4
      rw [Option.map_eq_some_iff] at r4
      obtain ⟨x, hx, _⟩ := r4
      obtain ⟨hx1, hx2⟩ := (find_iff hi k x).1 hx
      exact List.mem_map.2 ⟨x, hx1, by rw [r1, hx2]⟩
    · intro hv
      obtain ⟨x, hx, rfl⟩ := List.mem_map.1 hv
      obtain ⟨e, he, r1, _⟩ := h2 x.i x.k (by unfold keysOf; rw [(find_iff hi x.i x).2 ⟨hx, rfl⟩]; rfl)
      exact List.mem_map.2 ⟨e, he, r1⟩
  have := hp.length_eq
  simpa using this
theorem wLenOf (w : World) (wb : Nat) (S : List Nat) (wd : Nat) (base : Int) (l : List It) (h : WheelOf w wb S wd base l) : Calls Tryz.prog 66 #[.pointer (some ⟨wb, 0, none⟩)] w fun e w' => e = .returned (.int .i64 (l.length : Int)) ∧ w' = w := by
  obtain ⟨vs, ms, mb, rfl, hW, hL, hok, hlen, hwd, hb1⟩ := h
  obtain ⟨es, cl, hm, hz⟩ := map_size hW.map hL.ids
  have := wLen w wb wd mb base vs ms hW.blk es cl hm
  rw [hz] at this
  exact this
/-- What a level's bitmap is. -/
def mapM (wd : Nat) (base : Int) (l : List It) (L : Nat) (m : Nat) : Prop := m < 18446744073709551616 ∧ ∀ b, b < 64 → m.testBit b = !(part (pl wd base) (L * 64 + b) l).isEmpty
theorem Lies.ins {wd : Nat} {base : Int} {l : List It} (h : Lies wd base l) {x : It} (hr : reach wd base x.k) (hno : ∀ y ∈ l, y.i ≠ x.i) : Lies wd base (ins x l) := by
  refine ⟨h.b0, ins_rises h.rises hno, ?_, fun y hy => ?_⟩
  · have : Ids (l ++ [x]) := by
      have hi := h.ids
      unfold Ids at hi ⊢
      rw [List.map_append, List.nodup_append]
      refine ⟨hi, by simp, fun a ha b hb e => ?_⟩
      simp at hb
      obtain ⟨z, hz, rfl⟩ := List.mem_map.1 ha
      exact hno z hz (e.trans hb)
    exact this.perm (ins_perm x l).symm
  · have := (ins_perm x l).subset hy
    rcases List.mem_append.1 this with h1 | h1
    · exact h.near y h1
    · simp at h1; rw [h1]; exact hr
theorem parts_ins {wd : Nat} {base : Int} {l : List It} (h : Lies wd base l) {x : It} (hno : ∀ y ∈ l, y.i ≠ x.i) : setN (fun i => part (pl wd base) i l) (pl wd base x) (Go.Proofs.YtajhkdbldbifeaaGreatDoor.ins x (part (pl wd base) (pl wd base x) l)) = fun i => part (pl wd base) i (Go.Proofs.YtajhkdbldbifeaaGreatDoor.ins x l) := by
  funext i
  rw [part_ins h.rises hno]
  by_cases e : i = pl wd base x
  · subst e; rw [setN_same, if_pos rfl]
  · rw [setN_ne _ _ e, if_neg (fun e2 => e e2.symm)]

set_option maxRecDepth 100000 in
set_option maxHeartbeats 4000000 in
theorem wPush (w : World) (wb : Nat) (S : List Nat) (wd : Nat) (base : Int) (l : List It) (h : WheelOf w wb S wd base l) (x : It) (hx : x.ok) (hroom : l.length < 400000) :
    Calls Tryz.prog 74 #[.pointer (some ⟨wb, 0, none⟩), .agg #[.int .u64 x.k, .int .i64 x.i]] w fun e w' => e = .returned (.bool (!hasId x.i l && inR wd base x.k)) ∧ ∃ S', WheelOf w' wb S' wd base (if (!hasId x.i l && inR wd base x.k) then ins x l else l) ∧ Moved w S w' S' := by
  have H := Lib.hid h
  obtain ⟨vs, ms, mb, rfl, hW, hL, hok, hlen, hwd, hb1⟩ := h
  have hb0 := hL.b0
  have kk : 0 ≤ x.k ∧ x.k ≤ 18446744073709551615 := by
    have := hx.1
    simp [Lit.wf, IntKind.min, IntKind.max, IntKind.signed, IntKind.bits] at this
    omega
  have oA : Only [] w (w.alloc (.cells #[.int .u64 x.k, .int .i64 x.i] 40)) := (Only.refl [] w).alloc _
  have bX : Box _ w.heap.size x := Box.new w x
  have hW1 := hW.only0 oA
  have hhas : Hid (∀ n, Calls Tryz.prog 85 #[.pointer (some ⟨wb, 0, none⟩), .int .i64 x.i] ((w.alloc (.cells #[.int .u64 x.k, .int .i64 x.i] 40)).drewN n) fun e w' => e = .returned (.bool (hasId x.i l)) ∧ w' = (w.alloc (.cells #[.int .u64 x.k, .int .i64 x.i] 40)).drewN n) := fun n => wHasOf _ wb _ wd base l (H.out.only0 (oA.drewN n)) x.i hx.2
  have hlv := level_any base x.k (wd : Int) hb0 hb1 kk.1 kk.2
  rw [wid_nat hwd] at hlv
  have his := isLevel_any (levM wd base x.k)
  change ∀ w, Calls _ _ _ _ fun e w' => e = .returned (.bool (inR wd base x.k)) ∧ w = w' at his
  have c0 := hW1.blk.c0
  have c1 := hW1.blk.c1
  have c2 := hW1.blk.c2
  have x0 := bX.c0
  have x1 := bX.c1
  have HW := Lib.hid (And.intro hW1 (And.intro hL (And.intro hok (And.intro oA bX))))
  have hNlt := bX.lt
  generalize hV : w.alloc (.cells #[.int .u64 x.k, .int .i64 x.i] 40) = V at *
  clear hW hW1 hL hok oA bX
  rcases hid : hasId x.i l with _ | _
  · rw [hid] at hhas
    rcases hre : inR wd base x.k with _ | _
    · rw [hre] at his
      generalize levM wd base x.k = lv at *
      go_enter Tryz.func74, Tryz.ntmps74
      go_wp2_with (simp only [hV])
      go_quiet (first | (go_at_call 85; exact Calls.quiet_of_same (hhas.out _)) | (go_at_call 93; exact Calls.quiet_of_same ((hlv _).mono fun _ _ q => ⟨q.1, q.2.symm⟩)) | (go_at_call 92; exact Calls.quiet_of_same ((his _).mono fun _ _ q => ⟨q.1, q.2.symm⟩)))
      go_wp2_with fail
      go_ret
      exact ⟨rfl, _, H.out.only0 (HW.out.2.2.2.1.drewN _), Moved.of_only (HW.out.2.2.2.1.drewN _)⟩
    · have hre' := inR_iff.1 hre
      have hno := (hasId_not _ _).1 hid
      rw [hre] at his
      have hpu : Hid (∀ W K, WheelIs W wb mb vs ms wd base (fun i => part (pl wd base) i l) K → Calls Tryz.prog 94 #[.pointer (some ⟨wb, 0, none⟩), .agg #[.int .u64 x.k, .int .i64 x.i]] W fun e w' => e = .returned (.tuple #[]) ∧
          ∃ vs' ms', WheelIs w' wb mb vs' ms' wd base (fun i => part (pl wd base) i (ins x l)) K ∧ Moved W (wown wb mb vs) w' (wown wb mb vs')) := fun W K hWK => by
        have hL := HW.out.2.1
        have := wPut W wb mb wd vs ms base _ K hWK hwd hb0 hb1 x hx hre' (part_rises hL.rises _) (Nat.le_trans (part_len _ _) (by omega))
        rw [parts_ins hL hno] at this
        exact this
      generalize levM wd base x.k = lv at *
      go_enter Tryz.func74, Tryz.ntmps74
      go_wp2_with (simp only [hV])
      go_quiet (first | (go_at_call 85; exact Calls.quiet_of_same (hhas.out _)) | (go_at_call 93; exact Calls.quiet_of_same ((hlv _).mono fun _ _ q => ⟨q.1, q.2.symm⟩)) | (go_at_call 92; exact Calls.quiet_of_same ((his _).mono fun _ _ q => ⟨q.1, q.2.symm⟩)))
      obtain ⟨V1, eV1⟩ : ∃ V1, V.drewN nq = V1 := ⟨_, rfl⟩
      have hW2 := HW.out.1.only0 (w' := V1) (by rw [← eV1]; exact (Only.refl [] V).drewN nq)
      have bX2 := HW.out.2.2.2.2.only (w' := V1) (S := []) (by rw [← eV1]; exact (Only.refl [] V).drewN nq) (by simp)
      have o2 : Only [] w V1 := by rw [← eV1]; exact HW.out.2.2.2.1.drewN nq
      clear c0 c1 c2 x0 x1 hhas hlv his
      have c2 := hW2.blk.c2
      have x0 := bX2.c0
      have x1 := bX2.c1
      obtain ⟨V3, u3, m3, g3⟩ := (hW2.map.keep (w' := V1.drew) rfl).put hx.2 x.k 104 Tryz.underlying104
      have hW3 := (hW2.only0 (Only.refl [] V1).drew).remap m3 g3
      have b3 : Box V3 w.heap.size x := bX2.only (S := [mb]) ((Only.refl [mb] V1).drew.grown g3 (by simp)) (by
        have := H.out.lt mb (mem_wown.2 (.inr (.inl rfl)))
        simp; omega)
      have R3 := Lib.hid (And.intro hW3.1 ((Moved.of_only (S := wown wb mb vs) o2.drew).trans hW3.2))
      have HB3 := Lib.hid b3
      rw [eV1]
      clear hW2 bX2 o2 m3 g3 hW3 b3 eV1 hV
      go_wp2_with fail
      go_still_tail 8, (by kernel_rfl)
      change wpList _ _ _ _ _ V1.drew
      generalize V1.drew = V2 at u3 ⊢
      clear c2 x0 x1
      have x0 := HB3.out.c0
      have x1 := HB3.out.c1
      go_wp2_with fail
      refine (hpu.out _ _ R3.out.1).mono ?_
      rintro e V4 ⟨rfl, vs', ms', q1, q2⟩
      have R4 := Lib.hid (And.intro q1 q2)
      clear q1 q2
      go_wp2_with fail
      go_ret
      obtain ⟨q1, q2⟩ := R4.out
      obtain ⟨_, hL, hok, _, _⟩ := HW.out
      rw [← keysOf_ins hL.ids hL.rises hno] at q1
      refine ⟨rfl, _, ⟨_, _, _, rfl, q1, hL.ins hre' hno, fun y hy => ?_, ?_, hwd, hb1⟩, R3.out.2.trans q2⟩
      · have := (ins_perm x l).subset hy
        rcases List.mem_append.1 this with h1 | h1
        · exact hok y h1
        · simp at h1; rw [h1]; exact hx
      · have := (ins_perm x l).length_eq; simp at this; omega
  · rw [hid] at hhas
    go_enter Tryz.func74, Tryz.ntmps74
    go_wp2_with (simp only [hV])
    go_quiet (first | (go_at_call 85; exact Calls.quiet_of_same (hhas.out _)))
    go_wp2_with fail
    go_ret
    exact ⟨rfl, _, H.out.only0 (HW.out.2.2.2.1.drewN _), Moved.of_only (HW.out.2.2.2.1.drewN _)⟩
end Go.Proofs.YtajhkdbldbifeaaGreatDoor

namespace Go.Proofs.YtajhkdbldbifeaaGreatDoor
set_option maxRecDepth 100000
open Go.RowKit Go.ChangeMaps Go.MapKept
set_option linter.unusedVariables false
set_option linter.unusedSimpArgs false

theorem Tab.only {w w' : World} {S : List Nat} (h : Tab w) (ho : Only S w w') (hS : 0 ∉ S) : Tab w' := fun j hj =>
  (ho.cell (World.block_lt_of_cell? w _ (h j hj)) hS).trans (h j hj)
theorem Tab.only0 {w w' : World} (h : Tab w) (ho : Only [] w w') : Tab w' := h.only ho (by simp)
/-- What a bitmap's bit says. -/
theorem Tells.nil {ms : Nat → Nat} {f : Nat → List It} (h : Tells ms f) {L b : Nat} (hL : L < 3) (hb : b < 64) (hbit : (ms L).testBit b = false) : f (L * 64 + b) = [] := by
  have := (h L hL).2 b hb
  rw [hbit] at this
  cases hh : f (L * 64 + b) with
  | nil => rfl
  | cons x l => rw [hh] at this; cases this
theorem Tells.some {ms : Nat → Nat} {f : Nat → List It} (h : Tells ms f) {L b : Nat} (hL : L < 3) (hb : b < 64) (hbit : (ms L).testBit b = true) : f (L * 64 + b) ≠ [] := by
  have := (h L hL).2 b hb
  rw [hbit] at this
  intro hh
  rw [hh] at this
  cases this

set_option maxRecDepth 100000 in
set_option maxHeartbeats 2000000 in
theorem wMin (w : World) (wb : Nat) (S : List Nat) (wd : Nat) (base : Int) (l : List It) (h : WheelOf w wb S wd base l) (hT : Tab w) :
    Calls Tryz.prog 97 #[.pointer (some ⟨wb, 0, none⟩)] w fun e w' => e = .returned (.tuple #[.agg #[.int .u64 (first l).k, .int .i64 (first l).i], .bool (!l.isEmpty)]) ∧ Only [] w w' := by
  obtain ⟨vs, ms, mb, rfl, hW, hL, hok, hlen, hwd, hb1⟩ := h
  have oA : Only [] w (w.alloc (.cells #[.int .u64 0, .int .i64 0] 40)) := (Only.refl [] w).alloc _
  have bR : Box _ w.heap.size ⟨0, 0⟩ := Box.new w ⟨0, 0⟩
  have hW1 := hW.only0 oA
  have hT1 := hT.only0 oA
  obtain ⟨V, hV⟩ : ∃ V, w.alloc (.cells #[.int .u64 0, .int .i64 0] 40) = V := ⟨_, rfl⟩
  rw [hV] at hW1 oA bR hT1
  obtain ⟨N, eN⟩ : ∃ N, w.heap.size = N := ⟨_, rfl⟩
  rw [eN] at bR
  have y0 := bR.c0
  have y1 := bR.c1
  have f0 := bR.fr 0
  have f1 := bR.fr 1
  have HW := Lib.hid (And.intro hW1 (And.intro hL (And.intro hT1 oA)))
  clear hW hW1 hT hT1 oA bR hok
  go_enter Tryz.func97, Tryz.ntmps97
  go_wp2_with (simp only [hV])
  (try rw [hV])
  (try rw [eN])
  go_loopg [6] 4 (fun gk si wr => ∃ L : Nat, si = .int .i64 (L : Int) ∧ L ≤ 3 ∧ 4 ≤ gk + L ∧ wr = V ∧ Hid (∀ j, j < L * 64 → part (pl wd base) j l = []))
  case atStart => exact ⟨0, rfl, by omega, by omega, rfl, fun j hj => absurd hj (by omega)⟩
  case round =>
    obtain ⟨L, rfl, hL3, hg, rfl, hE⟩ := hrel
    by_cases hlt : L < 3
    · have hlt' : (L : Int) < 3 := by omega
      have hms := (HW.out.1.tells L hlt).1
      have m0 := HW.out.1.blk.bmap hlt
      have hnx := next_any (ms L) 0 wr hms HW.out.2.2.1
      rcases nextM_cases (ms L) 0 with ⟨e, hz⟩ | ⟨k, hk, e, hbit, -, hz⟩
      · rw [e] at hnx
        have hE' : Hid (∀ j, j < (L + 1) * 64 → part (pl wd base) j l = []) := fun j hj => by
          rcases Nat.lt_or_ge j (L * 64) with h1 | h1
          · exact hE.out j h1
          · have := HW.out.1.tells.nil hlt (b := j - L * 64) (by omega) (hz _ (by omega) (by omega))
            rw [show L * 64 + (j - L * 64) = j by omega] at this
            exact this
        clear hz e
        generalize ms L = m at *
        go_wp2_with (go_at_call 87; refine hnx.mono ?_; rintro e w' ⟨rfl, rfl⟩)
        go_roundg (4 - (L + 1))
        case measure => omega
        case rel => exact ⟨L + 1, by simp, by omega, by omega, rfl, hE'⟩
      · rw [e] at hnx
        have hi : L * 64 + k < 192 := by omega
        obtain ⟨x, r, hpx, t, hlx⟩ := part_first HW.out.2.1.sorted (i := L * 64 + k) (fun j hj => by
          rcases Nat.lt_or_ge j (L * 64) with h1 | h1
          · exact hE.out j h1
          · have := HW.out.1.tells.nil hlt (b := j - L * 64) (by omega) (hz _ (by omega) (by omega))
            rw [show L * 64 + (j - L * 64) = j by omega] at this
            exact this) (HW.out.1.tells.some hlt hk hbit)
        have hrow := HW.out.1.rows _ hi
        simp only [hpx] at hrow
        obtain ⟨g, cap, ev, -, -, -, -, hc⟩ := hrow.at_ (by simp)
        obtain ⟨d0, d1, -, -⟩ := hc 0 (by simp)
        simp [gOf] at d0 d1
        have hn : (0 : Int) < ((x :: r).length : Int) := by simp
        have cl : wr.cell? ⟨wb, 2 + L * 64 + k, none⟩ = some (.slice (some ⟨g, 0, none⟩) (x :: r).length cap) := by rw [Nat.add_assoc, ← ev]; exact HW.out.1.blk.list hi
        have hk' : (k : Int) < 64 := by omega
        have tk : ((k : Int) != -1) = true := by simp
        have HX := Lib.hid hlx
        clear hz e hbit hrow hc ev hpx hlx
        generalize (x :: r).length = n at *
        generalize ms L = m at *
        go_wp2_with (go_at_call 87; refine hnx.mono ?_; rintro e w' ⟨rfl, rfl⟩)
        (try simp only [Exit.inBlock, Exit.then])
        refine bodyPost_ret (v := .tuple #[.agg #[.int .u64 x.k, .int .i64 x.i], .bool true]) ?_ rfl ?_
        · rw [results_cell_tmp rfl]; go_simp
        · refine ⟨by rw [HX.out]; rfl, ?_⟩
          exact (HW.out.2.2.2.setCell (.inr (by rw [eN]; exact Nat.le_refl _)) _).setCell (.inr (by rw [eN]; exact Nat.le_refl _)) _
    · obtain rfl : L = 3 := by omega
      have hl0 : l = [] := by
        cases l with
        | nil => rfl
        | cons x t =>
          have := part_nil_iff.1 (hE.out (pl wd base x) (by have := HW.out.2.1.lt x (by simp); omega)) x (by simp)
          exact absurd rfl this
      have HX := Lib.hid hl0
      go_wp2_with fail
      (try simp only [Exit.inBlock, Exit.then])
      refine bodyPost_ret (v := .tuple #[.agg #[.int .u64 0, .int .i64 0], .bool false]) ?_ rfl ?_
      · rw [results_cell_tmp rfl]; go_simp
      · refine ⟨by rw [HX.out]; rfl, ?_⟩
        exact (HW.out.2.2.2.setCell (.inr (by rw [eN]; exact Nat.le_refl _)) _).setCell (.inr (by rw [eN]; exact Nat.le_refl _)) _

theorem below_le (p : It → Nat) (m : Nat) (l : List It) : (below p m l).length ≤ l.length := List.length_filter_le _ _

set_option maxRecDepth 100000 in
set_option maxHeartbeats 4000000 in
theorem wAll (w : World) (wb : Nat) (S : List Nat) (wd : Nat) (base : Int) (l : List It) (h : WheelOf w wb S wd base l) (hT : Tab w) (hlen : ∀ W, Only [] w W → Calls Tryz.prog 66 #[.pointer (some ⟨wb, 0, none⟩)] W fun e w' => e = .returned (.int .i64 (l.length : Int)) ∧ w' = W) :
    Calls Tryz.prog 70 #[.pointer (some ⟨wb, 0, none⟩)] w fun e w' => ∃ A cap, e = .returned (.slice A l.length cap) ∧ RowIs w' (.slice A l.length cap) l ∧ (∀ k, (Value.slice A l.length cap).ownBlock = some k → w.heap.size ≤ k) ∧ Only [] w w' := by
  obtain ⟨i0, hi0, hz0, hz1, hz2⟩ := info_parts item_info
  obtain ⟨vs, ms, mb, rfl, hW, hL, hok, hl4, hwd, hb1⟩ := h
  have HW := Lib.hid (And.intro hW (And.intro hL hT))
  have hle := hlen w (Only.refl [] w)
  clear hW hL hT hok hlen
  go_enter Tryz.func70, Tryz.ntmps70
  go_wp2_with (first | (go_at_call 66; refine hle.mono ?_; rintro e wz ⟨rfl, rfl⟩) | (with_reducible refine wpList_make_own _ rfl _ _ 33 rfl 0 40 i0 (.agg #[.int .u64 0, .int .i64 0]) 2 Tryz.underlying33 hi0 hz0 hz1 .i64 .i64 _ l.length rfl rfl rfl ?m1 ?m2 ?m3 ?_))
  case m1 => rw [hz2]; omega
  case m2 => unfold maxLen; omega
  case m3 => exact Nat.zero_le _
  intro w1 hown hgrow
  have o1 : Hid (Only [] wz w1) := (Only.refl [] wz).grown hgrow (by simp)
  have r1 : Hid (RowIs w1 (.slice (some ⟨wz.heap.size, 0, none⟩) (below (pl wd base) (0 * 64) l).length l.length) (below (pl wd base) (0 * 64) l)) := by
    show RowIs _ _ _
    rw [Nat.zero_mul, below_zero]
    exact hown
  have v1 : Hid (∀ g, (Value.slice (some ⟨wz.heap.size, 0, none⟩) (below (pl wd base) (0 * 64) l).length l.length).ownBlock = some g → wz.heap.size ≤ g) := fun g hg => by
    have : wz.heap.size = g := by simpa [Value.ownBlock] using hg
    omega
  have e0 : (0 : Nat) = (below (pl wd base) (0 * 64) l).length := by rw [Nat.zero_mul, below_zero]; rfl
  have hsort : Hid (l.Pairwise (fun x y => pl wd base x ≤ pl wd base y)) := HW.out.2.1.sorted
  clear hown hgrow hle hz0 hz1 hz2 hi0
  go_wp2_with fail
  go_loopg [3, 9] 4 (fun gk sl si wr => ∃ (L : Nat) (A : Option Addr) (cap : Nat), si = .int .i64 (L : Int) ∧ L ≤ 3 ∧ 4 ≤ gk + L ∧ sl = .slice A (below (pl wd base) (L * 64) l).length cap ∧ Hid (RowIs wr (.slice A (below (pl wd base) (L * 64) l).length cap) (below (pl wd base) (L * 64) l)) ∧ Hid (∀ g, (Value.slice A (below (pl wd base) (L * 64) l).length cap).ownBlock = some g → wz.heap.size ≤ g) ∧ Hid (Only [] wz wr))
  case atStart => exact ⟨0, some ⟨wz.heap.size, 0, none⟩, l.length, rfl, by omega, by omega, by rw [← e0], r1, v1, o1⟩
  case round =>
    obtain ⟨L, A, cap, rfl, hL3, hgk, rfl, hR, hV, hO⟩ := hrel
    clear r1 v1 o1 e0
    by_cases hlt : L < 3
    · have hlt' : (L : Int) < 3 := by omega
      have hms := (HW.out.1.tells L hlt).1
      have m0 := (HW.out.1.only0 hO.out).blk.bmap hlt
      have hnx : Hid (∀ W k, Only [] wz W → Calls Tryz.prog 87 #[.int .u64 ((ms L : Nat) : Int), .int .i64 k] W fun e w' => e = .returned (.int .i64 (nextM (ms L) k)) ∧ W = w') := fun W k oW => next_any (ms L) k W hms (HW.out.2.2.only0 oW)
      have e1 : L * 64 = L * 64 + 0 := rfl
      rw [e1] at hR hV
      have e2 : (below (pl wd base) (L * 64) l).length = (below (pl wd base) (L * 64 + 0) l).length := rfl
      rw [e2]
      clear e1 e2
      go_wp2_with (go_at_call 87; refine (hnx.out _ _ hO.out).mono ?_; rintro e w' ⟨rfl, rfl⟩)
      go_loopg [3, 5] 66 (fun g2 sl sb wr => ∃ (k : Nat) (A : Option Addr) (cap : Nat), sb = .int .i64 (nextM (ms L) (k : Int)) ∧ k ≤ 64 ∧ 65 ≤ g2 + k ∧ sl = .slice A (below (pl wd base) (L * 64 + k) l).length cap ∧ Hid (RowIs wr (.slice A (below (pl wd base) (L * 64 + k) l).length cap) (below (pl wd base) (L * 64 + k) l)) ∧ Hid (∀ g, (Value.slice A (below (pl wd base) (L * 64 + k) l).length cap).ownBlock = some g → wz.heap.size ≤ g) ∧ Hid (Only [] wz wr))
      case atStart => exact ⟨0, A, cap, rfl, by omega, by omega, rfl, hR, hV, hO⟩
      case round =>
        clear hR hV hO m0
        obtain ⟨k, A, cap, rfl, hk, hg2, rfl, hR, hV, hO⟩ := hrel
        have m0 := (HW.out.1.only0 hO.out).blk.bmap hlt
        rcases nextM_cases (ms L) (k : Int) with ⟨e, hz⟩ | ⟨m, hm, e, hbit, hkm, hz⟩
        · have hbl : below (pl wd base) ((L + 1) * 64) l = below (pl wd base) (L * 64 + k) l := below_skip hsort.out _ _ (by omega) fun j h1 h2 => by
            have := HW.out.1.tells.nil hlt (b := j - L * 64) (by omega) (hz _ (by omega) (by omega))
            rw [show L * 64 + (j - L * 64) = j by omega] at this
            exact this
          have HBL := Lib.hid hbl
          rw [e]
          clear e hz hbl
          go_wp2_with fail
          go_roundg (4 - (L + 1))
          case measure => omega
          case rel => exact ⟨L + 1, A, cap, by simp, by omega, by omega, by rw [HBL.out], by rw [HBL.out]; exact hR, by rw [HBL.out]; exact hV, hO⟩
        · have hi : L * 64 + m < 192 := by omega
          have hb1 : below (pl wd base) (L * 64 + m) l = below (pl wd base) (L * 64 + k) l := below_skip hsort.out _ _ (by omega) fun j h1 h2 => by
            have := HW.out.1.tells.nil hlt (b := j - L * 64) (by omega) (hz _ (by omega) (by omega))
            rw [show L * 64 + (j - L * 64) = j by omega] at this
            exact this
          have hb2 : below (pl wd base) (L * 64 + (m + 1)) l = below (pl wd base) (L * 64 + k) l ++ part (pl wd base) (L * 64 + m) l := by
            rw [← hb1, ← below_succ _ hsort.out]; rfl
          have HB2 := Lib.hid hb2
          have hrow := (HW.out.1.only0 hO.out).rows _ hi
          obtain ⟨A5, cap5, ev⟩ := hrow.form
          have cl : wr.cell? ⟨wb, 2 + L * 64 + m, none⟩ = some (.slice A5 (part (pl wd base) (L * 64 + m) l).length cap5) := by rw [Nat.add_assoc, ← ev]; exact (HW.out.1.only0 hO.out).blk.list hi
          have hsrc : Hid (Src wr A5 (part (pl wd base) (L * 64 + m) l)) := by
            rw [ev] at hrow
            exact Src.of_row hrow
          have hm' : (m : Int) < 64 := by omega
          have hNl : Hid ((below (pl wd base) (L * 64 + k) l).length + (part (pl wd base) (L * 64 + m) l).length = (below (pl wd base) (L * 64 + (m + 1)) l).length) := by
            show _ = _
            rw [hb2, List.length_append]
          have hNb := below_le (pl wd base) (L * 64 + (m + 1)) l
          rw [e]
          clear e hz hbit hb1 hb2 hrow ev
          have hkm' : k ≤ m := by omega
          have tm : ((m : Int) != -1) = true := by simp
          generalize hP : part (pl wd base) (L * 64 + m) l = P at *
          generalize hQ : (below (pl wd base) (L * 64 + (m + 1)) l).length = Q at *
          go_wp2_with (at_builtin
                       refine wpList_append_row rfl (.tmp 30) (.tmp 38) rfl _ (below (pl wd base) (L * 64 + k) l) rfl hR.out _ _ _ P rfl rfl hsrc.out Q hNl.out (by omega) ?_
                       intro A2 cap2 w2 r2 g2 l2
                       have q2 : Only [] wz w2 := hO.out.grown g2 (fun k hk => .inr (hV.out k hk))
                       have v2 := own_fresh (B := wz.heap.size) l2 hV.out hO.out.size
                       rw [← HB2.out] at r2
                       have m2 := (HW.out.1.only0 q2).blk.bmap hlt
                       have R2 := Lib.hid (And.intro r2 (And.intro v2 q2))
                       clear r2 g2 l2 q2 v2)
          refine (hnx.out _ _ R2.out.2.2).mono ?_
          rintro e w' ⟨rfl, rfl⟩
          go_wp2_with fail
          go_roundg (65 - (m + 1))
          case measure => omega
          case rel =>
            rw [← hQ] at R2
            exact ⟨m + 1, A2, cap2, by rw [Int.natCast_add]; rfl, by omega, by omega, by rw [hQ], R2.out.1, R2.out.2.1, R2.out.2.2⟩
    · obtain rfl : L = 3 := by omega
      have hful : below (pl wd base) (3 * 64) l = l := below_full HW.out.2.1.lt
      rw [hful] at hR hV ⊢
      go_wp2_with fail
      go_ret
      exact ⟨A, cap, rfl, hR.out, hV.out, hO.out⟩
end Go.Proofs.YtajhkdbldbifeaaGreatDoor

namespace Go.Proofs.YtajhkdbldbifeaaGreatDoor
set_option maxRecDepth 100000
open Go.RowKit Go.ChangeMaps Go.MapKept
set_option linter.unusedVariables false
set_option linter.unusedSimpArgs false

theorem at_mem {row : List It} (hr : Rises row) {x : It} (hx : x ∈ row) : at_ row x < row.length ∧ gOf row (at_ row x) = x := by
  obtain ⟨j, hj, e⟩ := List.getElem_of_mem hx
  have e' : gOf row j = x := by rw [gOf_get hj]; exact e
  have : at_ row x = j := at_of (by omega) (fun k hk => by rw [← e']; exact rises_lt hr hk hj) (fun _ => by rw [e']; exact It.irrefl x)
  rw [this]
  exact ⟨hj, e'⟩
theorem parts_drop {wd : Nat} {base : Int} {l : List It} (h : Lies wd base l) {x : It} (hx : x ∈ l) :
    setN (fun i => part (pl wd base) i l) (pl wd base x) ((part (pl wd base) (pl wd base x) l).eraseIdx (at_ (part (pl wd base) (pl wd base x) l) x)) = fun i => part (pl wd base) i (dropId x.i l) := by
  have hm : x ∈ part (pl wd base) (pl wd base x) l := mem_part.2 ⟨hx, rfl⟩
  obtain ⟨a1, a2⟩ := at_mem (part_rises h.rises (pl wd base x)) hm
  have hd := (drop_at (h.ids.sub (part_sub (pl wd base x) l)) a1 (id := x.i) (by rw [a2])).1
  have hf : l.find? (fun y => y.i == x.i) = some x := (find_iff h.ids x.i x).2 ⟨hx, rfl⟩
  funext i
  unfold dropId
  rw [part_erase _ i x hf]
  by_cases e : i = pl wd base x
  · subst e
    rw [setN_same, if_pos rfl, hd]
    rfl
  · rw [setN_ne _ _ e, if_neg (fun e2 => e e2.symm)]
theorem Lies.drop {wd : Nat} {base : Int} {l : List It} (h : Lies wd base l) (id : Int) : Lies wd base (dropId id l) :=
  ⟨h.b0, dropId_rises h.rises id, h.ids.sub List.eraseP_sublist, fun x hx => h.near x (List.mem_of_mem_eraseP hx)⟩
theorem wRemoveOf (w : World) (wb : Nat) (S : List Nat) (wd : Nat) (base : Int) (l : List It) (h : WheelOf w wb S wd base l) (x : It) (hx : x ∈ l) :
    Calls Tryz.prog 99 #[.pointer (some ⟨wb, 0, none⟩), .agg #[.int .u64 x.k, .int .i64 x.i]] w fun e w' => e = .returned (.tuple #[]) ∧ ∃ S', WheelOf w' wb S' wd base (dropId x.i l) ∧ Moved w S w' S' := by
  obtain ⟨vs, ms, mb, rfl, hW, hL, hok, hlen, hwd, hb1⟩ := h
  have hm : x ∈ part (pl wd base) (pl wd base x) l := mem_part.2 ⟨hx, rfl⟩
  have := wRemove w wb mb wd vs ms base _ _ hW hwd hL.b0 hb1 x (hok x hx) (hL.near x hx) (part_rises hL.rises _) (Nat.le_trans (part_len _ _) (by omega)) (at_mem (part_rises hL.rises _) hm).1
  rw [parts_drop hL hx, ← keysOf_drop hL.ids] at this
  refine this.mono ?_
  rintro e w' ⟨rfl, vs', ms', q1, q2⟩
  exact ⟨rfl, _, ⟨_, _, _, rfl, q1, hL.drop x.i, fun y hy => hok y (List.mem_of_mem_eraseP hy), Nat.le_trans (List.eraseP_sublist).length_le hlen, hwd, hb1⟩, q2⟩

theorem Box.moved {w w' : World} {b : Nat} {x : It} {S S' : List Nat} (h : Box w b x) (hm : Moved w S w' S') (hb : b ∉ S) : Box w' b x ∧ b ∉ S' :=
  ⟨h.only hm.1 hb, fun hc => by rcases hm.2 b hc with h1 | h1; exact hb h1; have := h.lt; omega⟩

set_option maxRecDepth 100000 in
set_option maxHeartbeats 2000000 in
theorem wPop (w : World) (wb : Nat) (S : List Nat) (wd : Nat) (base : Int) (l : List It) (h : WheelOf w wb S wd base l) (hT : Tab w) :
    Calls Tryz.prog 77 #[.pointer (some ⟨wb, 0, none⟩)] w fun e w' => e = .returned (.tuple #[(first l).val, .bool (!l.isEmpty)]) ∧ ∃ S', WheelOf w' wb S' wd (if l.isEmpty then base else (first l).k) l.tail ∧ Moved w S w' S' := by
  have oA : Only [] w (w.alloc (.cells #[.int .u64 0, .int .i64 0] 40)) := (Only.refl [] w).alloc _
  have bR : Box _ w.heap.size ⟨0, 0⟩ := Box.new w ⟨0, 0⟩
  have hmin := wMin _ wb S wd base l (h.only0 oA) (hT.only0 oA)
  have HL : Hid (∀ b ∈ S, b < w.heap.size) := h.lt
  have H := Lib.hid (And.intro h (And.intro oA bR))
  clear h oA bR hT
  unfold It.val
  cases l with
  | nil =>
    go_enter Tryz.func77, Tryz.ntmps77
    go_wp2_with fail
    refine hmin.mono ?_
    rintro e w2 ⟨rfl, o2⟩
    have b2 := H.out.2.2.only o2 (by simp)
    have oT := Lib.hid (H.out.2.1.trans' o2)
    have hlt : w.heap.size < w2.heap.size := b2.lt
    have y0 := b2.c0
    have y1 := b2.c1
    have f0 := b2.fr 0
    have f1 := b2.fr 1
    clear b2 hmin o2
    generalize hN : w.heap.size = N at *
    unfold first
    simp only [List.isEmpty_nil, Bool.not_true, List.headD_nil]
    go_wp2_with fail
    (try simp only [Exit.inBlock, Exit.then])
    refine bodyPost_ret (v := .tuple #[.agg #[.int .u64 0, .int .i64 0], .bool false]) ?_ rfl ?_
    · rw [results_cell_tmp rfl]; go_simp
    · have o9 : Only [] w (((w2.setCell ⟨N, 0, none⟩ (.int .u64 0)).setCell ⟨N, 1, none⟩ (.int .i64 0)).alloc (.cells #[.int .u64 0, .int .i64 0] 40)) := ((oT.out.setCell (.inr (by rw [hN]; exact Nat.le_refl _)) _).setCell (.inr (by rw [hN]; exact Nat.le_refl _)) _).alloc _
      exact ⟨rfl, S, H.out.1.only0 o9, Moved.of_only o9⟩
  | cons x t =>
    have hx : x ∈ x :: t := by simp
    have hxf : first (x :: t) = x := rfl
    rw [hxf] at hmin ⊢
    simp only [List.isEmpty_cons, Bool.not_false, List.tail_cons, if_false] at hmin ⊢
    simp only [Bool.false_eq_true, if_false]
    have hdt : dropId x.i (x :: t) = t := by unfold dropId; rw [List.eraseP_cons_of_pos (by simp)]
    have hok := H.out.1.fit x hx
    have hk1 : x.k ≤ 18446744073709551615 := by
      have := hok.1
      simp [Lit.wf, IntKind.min, IntKind.max, IntKind.signed, IntKind.bits] at this
      omega
    have hli := H.out.1.lies
    have hbx : base ≤ x.k := (hli.near x hx).1
    have htk : ∀ y ∈ t, x.k ≤ y.k := fun y hy => by
      have := (List.pairwise_cons.1 hli.rises).1 y hy
      rcases (It.lt_iff x y).1 this with h | ⟨h, _⟩ <;> omega
    have HK := Lib.hid (And.intro hdt (And.intro hbx (And.intro htk hk1)))
    clear hdt hok hk1 hli hbx htk
    go_enter Tryz.func77, Tryz.ntmps77
    go_wp2_with fail
    refine hmin.mono ?_
    rintro e w2 ⟨rfl, o2⟩
    have b2 := H.out.2.2.only o2 (by simp)
    have oT := Lib.hid (H.out.2.1.trans' o2)
    have hlt : w.heap.size < w2.heap.size := b2.lt
    have y0 := b2.c0
    have y1 := b2.c1
    have f0 := b2.fr 0
    have f1 := b2.fr 1
    have HB2 := Lib.hid b2
    clear b2 hmin o2
    generalize hN : w.heap.size = N at *
    have hNS : N ∉ S := fun hc => by have := HL.out N hc; omega
    have h2S : w2.heap.size ∉ S := fun hc => by have := HL.out _ hc; omega
    have hrm := wRemoveOf _ wb S wd base (x :: t) (H.out.1.only0 (oT.out.alloc (.cells #[.int .u64 x.k, .int .i64 x.i] 40))) x hx
    rw [HK.out.1] at hrm
    have bX3 : Hid (Box (w2.alloc (.cells #[.int .u64 x.k, .int .i64 x.i] 40)) w2.heap.size x) := Box.new w2 x
    have bR3 : Hid (Box (w2.alloc (.cells #[.int .u64 x.k, .int .i64 x.i] 40)) N ⟨0, 0⟩) := HB2.out.only ((Only.refl [] w2).alloc _) (by simp)
    have o3 : Hid (Only [] w (w2.alloc (.cells #[.int .u64 x.k, .int .i64 x.i] 40))) := oT.out.alloc _
    go_wp2_with fail
    refine hrm.mono ?_
    rintro e w4 ⟨rfl, S4, q1, q2⟩
    obtain ⟨bX4, nX4⟩ := bX3.out.moved q2 h2S
    obtain ⟨bR4, nR4⟩ := bR3.out.moved q2 hNS
    have htn := wTurn w4 wb S4 wd base t q1 x.k HK.out.2.1 HK.out.2.2.1 HK.out.2.2.2
    have R4 := Lib.hid (And.intro (And.intro bX4 nX4) (And.intro (And.intro bR4 nR4) ((Moved.of_only (S := S) o3.out).trans q2)))
    have x0 := bX4.c0
    have x1 := bX4.c1
    clear hrm q1 q2 bX4 nX4 bR4 nR4 y0 y1 f0 f1
    generalize hN2 : w2.heap.size = N2 at *
    go_wp2_with fail
    refine htn.mono ?_
    rintro e w5 ⟨rfl, S5, q1, q2⟩
    obtain ⟨bX5, nX5⟩ := R4.out.1.1.moved q2 R4.out.1.2
    obtain ⟨bR5, nR5⟩ := R4.out.2.1.1.moved q2 R4.out.2.1.2
    have y0 := bR5.c0
    have y1 := bR5.c1
    have f0 := bR5.fr 0
    have f1 := bR5.fr 1
    clear x0 x1 htn
    have x0 := bX5.c0
    have x1 := bX5.c1
    have R5 := Lib.hid (And.intro q1 (And.intro (R4.out.2.2.trans q2) nR5))
    have hlt5 : N < w5.heap.size := bR5.lt
    clear q1 q2 bX5 nX5 bR5 nR5
    go_wp2_with fail
    (try simp only [Exit.inBlock, Exit.then])
    refine bodyPost_ret (v := .tuple #[.agg #[.int .u64 x.k, .int .i64 x.i], .bool true]) ?_ rfl ?_
    · rw [results_cell_tmp rfl]; go_simp
    · obtain ⟨q1, q2, nR⟩ := R5.out
      have o6 : Only [N] w5 ((w5.setCell ⟨N, 0, none⟩ (.int .u64 x.k)).setCell ⟨N, 1, none⟩ (.int .i64 x.i)) := ((Only.refl _ _).setCell (by simp) _).setCell (by simp) _
      exact ⟨rfl, S5, q1.only o6 (fun b hb e => by simp at e; subst e; exact nR hb), q2.1.trans o6 (by simp; exact .inr (by omega)), q2.2⟩

set_option maxRecDepth 100000 in
set_option maxHeartbeats 2000000 in
theorem wDrop (w : World) (wb : Nat) (S : List Nat) (wd : Nat) (base : Int) (l : List It) (h : WheelOf w wb S wd base l) (id : Int) (hid : i64ok id) :
    Calls Tryz.prog 80 #[.pointer (some ⟨wb, 0, none⟩), .int .i64 id] w fun e w' => e = .returned (.tuple #[((findId id l).getD ⟨0, 0⟩).val, .bool (findId id l).isSome]) ∧ ∃ S', WheelOf w' wb S' wd base (dropId id l) ∧ Moved w S w' S' := by
  have oA : Only [] w (w.alloc (.cells #[.int .u64 0, .int .i64 0] 40)) := (Only.refl [] w).alloc _
  have bR : Box _ w.heap.size ⟨0, 0⟩ := Box.new w ⟨0, 0⟩
  have HL : Hid (∀ b ∈ S, b < w.heap.size) := h.lt
  have H := Lib.hid (And.intro h (And.intro oA bR))
  obtain ⟨vs, ms, mb, eS, hW, -⟩ := h.only0 oA
  have lk := hW.map.look hid 104 Tryz.underlying104
  have c2 := hW.blk.c2
  have hids := h.lies.ids
  clear h oA hW bR eS
  unfold It.val
  rcases hf : findId id l with _ | x
  · have hk : keysOf l id = none := by unfold keysOf; rw [hf]; rfl
    have hno : hasId id l = false := by rw [← keysOf_some, hk]; rfl
    rw [(dropId_none hno).1]
    rw [hk] at lk
    clear hf hk hno
    simp only [Option.getD_none, Option.isSome_none] at lk ⊢
    go_enter Tryz.func80, Tryz.ntmps80
    go_wp2_with fail
    (try simp only [Exit.inBlock, Exit.then])
    refine bodyPost_ret (v := .tuple #[.agg #[.int .u64 0, .int .i64 0], .bool false]) ?_ rfl ?_
    · rw [results_cell_tmp rfl]; go_simp
    · first
        | exact ⟨rfl, S, H.out.1.only0 H.out.2.1, Moved.of_only H.out.2.1⟩
        | (have o9 := (H.out.2.1.setCell (p := ⟨w.heap.size, 0, none⟩) (.inr (Nat.le_refl _)) (.int .u64 0)).setCell (p := ⟨w.heap.size, 1, none⟩) (.inr (Nat.le_refl _)) (.int .i64 0)
           exact ⟨rfl, S, H.out.1.only0 o9, Moved.of_only o9⟩)
  · obtain ⟨hx, hxi⟩ := (find_iff hids id x).1 hf
    have hk : keysOf l id = some x.k := by unfold keysOf; rw [hf]; rfl
    rw [hk] at lk
    simp only [Option.getD_some, Option.isSome_some] at lk ⊢
    subst hxi
    have hNS : w.heap.size ∉ S := fun hc => by have := HL.out _ hc; omega
    obtain ⟨V, eV⟩ : ∃ V, w.alloc (.cells #[.int .u64 0, .int .i64 0] 40) = V := ⟨_, rfl⟩
    rw [eV] at lk c2 H
    have hsz : V.heap.size = w.heap.size + 1 := by rw [← eV]; simp
    have h2S : V.heap.size ∉ S := fun hc => by have := HL.out _ hc; omega
    have hrm := wRemoveOf _ wb S wd base l (H.out.1.only0 (H.out.2.1.alloc (.cells #[.int .u64 x.k, .int .i64 x.i] 40))) x hx
    have bX3 : Hid (Box (V.alloc (.cells #[.int .u64 x.k, .int .i64 x.i] 40)) V.heap.size x) := Box.new V x
    have bR3 : Hid (Box (V.alloc (.cells #[.int .u64 x.k, .int .i64 x.i] 40)) w.heap.size ⟨0, 0⟩) := H.out.2.2.only ((Only.refl [] V).alloc _) (by simp)
    have o3 : Hid (Only [] w (V.alloc (.cells #[.int .u64 x.k, .int .i64 x.i] 40))) := H.out.2.1.alloc _
    have hVlt : w.heap.size < V.heap.size := by omega
    clear hf hk hids hsz
    go_enter Tryz.func80, Tryz.ntmps80
    go_wp2_with (simp only [eV])
    refine hrm.mono ?_
    rintro e w4 ⟨rfl, S4, q1, q2⟩
    obtain ⟨bX4, nX4⟩ := bX3.out.moved q2 h2S
    obtain ⟨bR4, nR4⟩ := bR3.out.moved q2 hNS
    have x0 := bX4.c0
    have x1 := bX4.c1
    have y0 := bR4.c0
    have y1 := bR4.c1
    have f0 := bR4.fr 0
    have f1 := bR4.fr 1
    have R5 := Lib.hid (And.intro q1 (And.intro ((Moved.of_only (S := S) o3.out).trans q2) nR4))
    have hlt5 : w.heap.size < w4.heap.size := bR4.lt
    clear hrm q1 q2 bX4 nX4 bR4 nR4 lk c2 eV
    generalize hN : w.heap.size = N at *
    generalize hN2 : V.heap.size = N2 at *
    go_wp2_with fail
    (try simp only [Exit.inBlock, Exit.then])
    refine bodyPost_ret (v := .tuple #[.agg #[.int .u64 x.k, .int .i64 x.i], .bool true]) ?_ rfl ?_
    · rw [results_cell_tmp rfl]; go_simp
    · obtain ⟨q1, q2, nR⟩ := R5.out
      have o6 : Only [N] w4 ((w4.setCell ⟨N, 0, none⟩ (.int .u64 x.k)).setCell ⟨N, 1, none⟩ (.int .i64 x.i)) := ((Only.refl _ _).setCell (by simp) _).setCell (by simp) _
      exact ⟨rfl, S4, q1.only o6 (fun b hb e => by simp at e; subst e; exact nR hb), q2.1.trans o6 (by simp; exact .inr (by omega)), q2.2⟩

/-- May the base go there? -/
def mayGo (base : Int) (l : List It) (to : Int) : Bool := decide (base ≤ to) && (l.isEmpty || decide (to ≤ (first l).k))
set_option maxRecDepth 100000 in
set_option maxHeartbeats 2000000 in
theorem wMove (w : World) (wb : Nat) (S : List Nat) (wd : Nat) (base : Int) (l : List It) (h : WheelOf w wb S wd base l) (hT : Tab w) (to : Int) (t0 : 0 ≤ to) (t1 : to ≤ 18446744073709551615) :
    Calls Tryz.prog 102 #[.pointer (some ⟨wb, 0, none⟩), .int .u64 to] w fun e w' => e = .returned (.bool (mayGo base l to)) ∧ ∃ S', WheelOf w' wb S' wd (if mayGo base l to then to else base) l ∧ Moved w S w' S' := by
  have hmin := wMin w wb S wd base l h hT
  have HL : Hid (∀ b ∈ S, b < w.heap.size) := h.lt
  have H := Lib.hid h
  have hrises := h.lies.rises
  clear h hT
  have hcase : (to < base ∧ mayGo base l to = false) ∨ (base ≤ to ∧ l.isEmpty = true ∧ mayGo base l to = true) ∨ (base ≤ to ∧ l.isEmpty = false ∧ (first l).k < to ∧ mayGo base l to = false) ∨ (base ≤ to ∧ l.isEmpty = false ∧ to ≤ (first l).k ∧ mayGo base l to = true) := by
    unfold mayGo
    by_cases c1 : base ≤ to
    · rcases c2 : l.isEmpty with _ | _
      · by_cases c3 : to ≤ (first l).k
        · simp [c1, c3]
        · simp [c1, c3]; omega
      · simp [c1]
    · simp [c1]; omega
  have hall : Hid (mayGo base l to = true → ∀ x ∈ l, to ≤ x.k) := fun hm x hx => by
    unfold mayGo at hm
    cases l with
    | nil => cases hx
    | cons y t =>
      simp [first] at hm
      rcases List.mem_cons.1 hx with rfl | hx
      · exact hm.2
      · have := (List.pairwise_cons.1 hrises).1 x hx
        rcases (It.lt_iff y x).1 this with h | ⟨h, _⟩ <;> omega
  have hbs := H.out.bases
  generalize first l = x at *
  rcases hcase with ⟨c, hm⟩ | ⟨c, ce, hm⟩ | ⟨c, ce, cx, hm⟩ | ⟨c, ce, cx, hm⟩
  all_goals
    rw [hm]
    simp only [if_true, if_false, Bool.false_eq_true]
    try rw [ce] at hmin
    go_enter Tryz.func102, Tryz.ntmps102
    go_wp2_with fail
    refine hmin.mono ?_
    rintro e w2 ⟨rfl, o2⟩
    have hW2 := H.out.only0 (o2.alloc (.cells #[.int .u64 x.k, .int .i64 x.i] 40))
    have o3 : Hid (Only [] w (w2.alloc (.cells #[.int .u64 x.k, .int .i64 x.i] 40))) := o2.alloc _
    obtain ⟨c1, f1⟩ : (w2.alloc (.cells #[.int .u64 x.k, .int .i64 x.i] 40)).cell? ⟨wb, 1, none⟩ = some (.int .u64 base) ∧ True := by
      obtain ⟨vs, ms, mb, -, hW, -⟩ := hW2
      exact ⟨hW.blk.c1, trivial⟩
    obtain ⟨c1', -⟩ : w2.cell? ⟨wb, 1, none⟩ = some (.int .u64 base) ∧ True := by
      obtain ⟨vs, ms, mb, -, hW, -⟩ := H.out.only0 o2
      exact ⟨hW.blk.c1, trivial⟩
    have HW2 := Lib.hid hW2
    clear hmin o2 hW2 f1
    try (have htn := wTurn _ wb S wd base l HW2.out to c (hall.out hm) t1)
    go_wp2_with fail
    first
      | (go_ret
         exact ⟨rfl, S, HW2.out, Moved.of_only o3.out⟩)
      | (refine htn.mono ?_
         rintro e w5 ⟨rfl, S5, q1, q2⟩
         have R5 := Lib.hid (And.intro q1 q2)
         clear q1 q2 htn
         go_wp2_with fail
         go_ret
         exact ⟨rfl, S5, R5.out.1, (Moved.of_only o3.out).trans R5.out.2⟩)
end Go.Proofs.YtajhkdbldbifeaaGreatDoor

namespace Go.Proofs.YtajhkdbldbifeaaGreatDoor
set_option maxRecDepth 100000
open Go.RowKit Go.ChangeMaps Go.MapKept
set_option linter.unusedVariables false
set_option linter.unusedSimpArgs false

theorem wNewOf (w : World) (width : Int) : Calls Tryz.prog 82 #[.int .i64 width] w fun e w' => ∃ wb S, e = .returned (.pointer (some ⟨wb, 0, none⟩)) ∧ WheelOf w' wb S (wid width) 0 [] ∧ (∀ b ∈ S, w.heap.size ≤ b) ∧ Only [] w w' := by
  refine (wNew w width).mono ?_
  rintro e w' ⟨wb, mb, rfl, h1, h2, h3, h4, h5⟩
  refine ⟨wb, wown wb mb (fun _ => .slice none 0 0), rfl, ⟨_, _, mb, rfl, ⟨h3, ?_, fun i hi => RowIs.nil _, fun i j g hi hj e => (by cases e), h4⟩, Lies.nil _ (by omega), by simp, by simp, wid_le width, by omega⟩, fun b hb => ?_, h5⟩
  · intro L hL
    refine ⟨show (0 : Nat) < 18446744073709551616 by omega, fun b hb => ?_⟩
    simp [part]
  · rcases mem_wown.1 hb with rfl | rfl | ⟨i, hi, e⟩
    · exact h1
    · exact h2
    · cases e

end Go.Proofs.YtajhkdbldbifeaaGreatDoor
