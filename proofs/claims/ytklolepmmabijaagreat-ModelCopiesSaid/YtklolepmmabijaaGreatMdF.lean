/-
  looks.
-/
import Derived.Test.YtklolepmmabijaaGreatMdE
namespace Go.Proofs.YtklolepmmabijaaGreat
set_option maxRecDepth 100000
open Go.RowKit
set_option linter.unusedVariables false
set_option linter.unusedSimpArgs false
set_option maxRecDepth 100000

def LM (w : World) (b c : Nat) (M : Md) (O : List Nat) (s : Nat) (Q : List Nat) (W : World) : Prop := MdOf b M W O ∧ NdIs W c M s Q ∧ Only [] w W
section
variable {w W U : World} {b c s : Nat} {M : Md} {O Q : List Nat}
theorem LM.on (h : LM w b c M O s Q W) (ho : Only [] W U) : LM w b c M O s Q U := ⟨(rep_md b M).only h.1 ho (by simp), h.2.1.only0 ho, h.2.2.trans' ho⟩
theorem LM.nd (h : LM w b c M O s Q W) : NdOf c M W (c :: Q) := ⟨s, Q, h.2.1, rfl⟩
theorem LM.cs (h : LM w b c M O s Q W) : W.cell? ⟨c, 5, none⟩ = some (.pointer (some ⟨s, 0, none⟩)) ∧ W.cell? ⟨c, 6, none⟩ = some (.int .i64 M.n) ∧ W.cell? ⟨s, 1, none⟩ = some (.int .u64 M.S.v) := by
  obtain ⟨u, es, h1, _⟩ := h.2.1.sq
  exact ⟨h.2.1.blk.c.2.2.2.2.2.1, h.2.1.blk.c.2.2.2.2.2.2, h1.blk.c.2.1⟩
end
set_option maxHeartbeats 4000000 in
theorem mLooks (w : World) (b c : Nat) (M : Md) (O P : List Nat) (h : Mq w b c M O P) (id : Int) (hid : i64ok id) :
    Calls Tryz.prog 13 #[.pointer (some ⟨b, 0, none⟩), .pointer (some ⟨c, 0, none⟩), .int .i64 id] w fun e w' => e = .returned (.bool true) ∧ Only [] w w' := by
  obtain ⟨s, Q, hn, rfl⟩ := h.rf
  have hok : M.S.ok := hn.sq.ok
  have hls := starts_len hok
  have hli : (idsK M.S.l).length ≤ 1000 := by unfold idsK; rw [List.length_map]; exact hok.len
  have v1 : (M.S.v == M.S.v) = true := by simp
  have n1 : (M.n == M.n) = true := by simp
  have l1 : (lenI M.S.l id == lenI M.S.l id) = true := by simp
  have st0 : LM w b c M O s Q w := ⟨h.fl, hn, Only.refl _ _⟩
  obtain ⟨c1, c2, c3⟩ := st0.cs
  have st : Hid (LM w b c M O s Q w.drew) := st0.on (Only.refl [] w).drew
  have kL := Lib.hid (fun W (hW : MdOf b M W O) => mLen W b M O hW id hid)
  have kM := Lib.hid (fun W (hW : NdOf c M W (c :: Q)) => nLen W c M (c :: Q) hW id)
  have kP : Hid (∀ W v1 v2, RowIs W v1 (startsK M.S.l) → RowIs W v2 (startsK M.S.l) → Calls Tryz.prog 23 #[v1, v2] W fun e w' => e = .returned (.bool true) ∧ Only [] W w') := fun W v1 v2 h1 h2 => by
    have := hPlain W v1 v2 _ _ h1 h2 (by omega) (by omega)
    simpa using this
  have kI : Hid (∀ W A A' c c', iE.Row W (.slice A (idsK M.S.l).length c) (idsK M.S.l) → iE.Row W (.slice A' (idsK M.S.l).length c') (idsK M.S.l) → Calls Tryz.prog 24 #[.slice A (idsK M.S.l).length c, .slice A' (idsK M.S.l).length c'] W fun e w' => e = .returned (.bool true) ∧ Only [] W w') := fun W A A' c c' h1 h2 => iPlain W A A' _ c c' _ rfl (by omega) h1 h2
  have kF : Hid (∀ W, RqOf W s M.S Q → Calls Tryz.prog 36 #[.pointer (some ⟨s, 0, none⟩)] W fun e w' => ∃ A cap, e = .returned (.slice A (idsK M.S.l).length cap) ∧ iE.Row w' (.slice A (idsK M.S.l).length cap) (idsK M.S.l) ∧ (∀ k, (Value.slice A (idsK M.S.l).length cap).ownBlock = some k → W.heap.size ≤ k) ∧ Only [] W w') := fun W hW => zFlows W s M.S Q hW
  clear h hn hok st0 hid
  go_enter Tryz.func13, Tryz.ntmps13
  go_wp2_with fail
  go_region_held3 (fun w' => w'.cell? ⟨c, 5, none⟩ = some (.pointer (some ⟨s, 0, none⟩)) ∧ w'.cell? ⟨c, 6, none⟩ = some (.int .i64 M.n) ∧ w'.cell? ⟨s, 1, none⟩ = some (.int .u64 M.S.v))
    (first | (exact st.out.cs) | go_keep)
    (first
      | (go_at_call 15; refine (mV _ b M O st.out.1).mono ?_; rintro e u ⟨rfl, rfl⟩)
      | (go_at_call 16; refine (mServed _ b M O st.out.1).mono ?_; rintro e u ⟨rfl, rfl⟩)
      | (go_at_call 19; refine (kL.out _ st.out.1).mono ?_; rintro e u ⟨rfl, rfl⟩)
      | (go_at_call 34; refine (kM.out _ st.out.nd).mono ?_; rintro e u ⟨rfl, rfl⟩)
      | (go_at_call 17; refine (mStarts _ b M O st.out.1).mono ?_; rintro e u ⟨A1, k1, rfl, r1, _, o1⟩; have st := Lib.hid (st.out.on o1); have r1 := Lib.hid r1; clear o1)
      | (go_at_call 35; refine (zStarts _ s M.S Q st.out.2.1.sq).mono ?_; rintro e u ⟨A2, k2, rfl, r2, _, o2⟩; have st := Lib.hid (st.out.on o2); have r1 := Lib.hid (r1.out.keep (fun g hg => o2.block g (r1.out.lt hg) (by simp))); have r2 := Lib.hid r2; clear o2)
      | (go_at_call 23; refine (kP.out _ _ _ r1.out r2.out).mono ?_; rintro e u ⟨rfl, o3⟩; have st := Lib.hid (st.out.on o3); clear o3)
      | (go_at_call 18; refine (mFlows _ b M O st.out.1).mono ?_; rintro e u ⟨A4, k4, rfl, r4, _, o4⟩; have st := Lib.hid (st.out.on o4); have r4 := Lib.hid r4; clear o4)
      | (go_at_call 36; refine (kF.out _ st.out.2.1.sq).mono ?_; rintro e u ⟨A5, k5, rfl, r5, _, o5⟩; have st := Lib.hid (st.out.on o5); have r4 := Lib.hid (r4.out.only0 o5); have r5 := Lib.hid r5; clear o5)
      | (go_at_call 24; refine (kI.out _ _ _ _ _ r4.out r5.out).mono ?_; rintro e u ⟨rfl, o6⟩; have st := Lib.hid (st.out.on o6); clear o6))
  all_goals
    go_wp2_with fail
    go_ret
    exact ⟨rfl, st.out.2.2⟩
end Go.Proofs.YtklolepmmabijaaGreat
