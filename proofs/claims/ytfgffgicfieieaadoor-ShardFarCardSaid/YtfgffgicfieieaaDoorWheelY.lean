/-
  Contracts of the wheel's Has, Len, Map, Base, Push, told by the list of its items.
-/
import Derived.Test.YtfgffgicfieieaaDoorWheelX
import Derived.Test.YtfgffgicfieieaaDoorWheelQ
namespace Go.Proofs.YtfgffgicfieieaaDoor
set_option maxRecDepth 100000
open Go.RowKit Go.ChangeMaps Go.MapKept
set_option linter.unusedVariables false
set_option linter.unusedSimpArgs false

/-- Is a key in reach? -/
def inR (wd : Nat) (base key : Int) : Bool := decide (0 ≤ levM wd base key ∧ levM wd base key ≤ 2)
theorem inR_iff {wd : Nat} {base key : Int} : inR wd base key = true ↔ reach wd base key := by unfold inR; rw [decide_eq_true_eq]; exact reach_iff.symm
theorem wBaseOf (w : World) (wb : Nat) (S : List Nat) (wd : Nat) (base : Int) (l : List It) (h : WheelOf w wb S wd base l) : Calls Tryd.prog 56 #[.pointer (some ⟨wb, 0, none⟩)] w fun e w' => e = .returned (.int .u64 base) ∧ w' = w := by
  obtain ⟨vs, ms, mb, rfl, hW, hL, hok, hlen, hwd, hb1⟩ := h
  exact wBase w wb wd mb base vs ms hW.blk
theorem wHasOf (w : World) (wb : Nat) (S : List Nat) (wd : Nat) (base : Int) (l : List It) (h : WheelOf w wb S wd base l) (id : Int) (hid : i64ok id) : Calls Tryd.prog 54 #[.pointer (some ⟨wb, 0, none⟩), .int .i64 id] w fun e w' => e = .returned (.bool (hasId id l)) ∧ w' = w := by
  obtain ⟨vs, ms, mb, rfl, hW, hL, hok, hlen, hwd, hb1⟩ := h
  have := wHas w wb wd mb base vs ms hW.blk (keysOf l) hW.map id hid
  rw [keysOf_some] at this
  exact this
theorem find_iff {m : List It} (hm : Ids m) (id : Int) (z : It) : findId id m = some z ↔ z ∈ m ∧ z.i = id := by
  unfold findId
  constructor
  · intro e
    exact ⟨List.mem_of_find?_eq_some e, by simpa using List.find?_some e⟩
  · rintro ⟨hz, e⟩
    cases hf : m.find? (fun x => x.i == id) with
    | none =>
      have := List.find?_eq_none.1 hf z hz
      simp [e] at this
    | some u =>
      have hu := List.mem_of_find?_eq_some hf
      have hui : u.i = id := by simpa using List.find?_some hf
      rw [hm.eq hu hz (hui.trans e.symm)]
theorem map_size {w : World} {mb : Nat} {l : List It} (h : MapU w mb (keysOf l)) (hi : Ids l) : ∃ es cl, w.heap[mb]? = some (.map es cl) ∧ es.size = l.length := by
  obtain ⟨es, cl, hb, hs, h1, h2⟩ := h
  refine ⟨es, cl, hb, ?_⟩
  have n1 : (es.toList.map (·.key)).Nodup := hs.2.2
  have n2 : (l.map fun x => Value.int .i64 x.i).Nodup := by
    have : (l.map fun x => Value.int .i64 x.i) = (l.map It.i).map (Value.int .i64) := by rw [List.map_map]; rfl
    rw [this]
    exact List.Pairwise.map _ (fun a b hab e => hab (by injection e)) hi
  have hp := (List.perm_ext_iff_of_nodup n1 n2).2 fun v => by
    constructor
    · intro hv
      obtain ⟨e, he, rfl⟩ := List.mem_map.1 hv
      obtain ⟨k, z, r1, _, _, r4⟩ := h1 e he
      unfold keysOf at r4
      rw [Option.map_eq_some_iff] at r4
      obtain ⟨x, hx, _⟩ := r4
      obtain ⟨hx1, hx2⟩ := (find_iff hi k x).1 hx
      exact List.mem_map.2 ⟨x, hx1, by rw [r1, hx2]⟩
    · intro hv
      obtain ⟨x, hx, rfl⟩ := List.mem_map.1 hv
      obtain ⟨e, he, r1, _⟩ := h2 x.i x.k (by unfold keysOf; rw [(find_iff hi x.i x).2 ⟨hx, rfl⟩]; rfl)
      exact List.mem_map.2 ⟨e, he, r1⟩
  have := hp.length_eq
  simpa using this
theorem wLenOf (w : World) (wb : Nat) (S : List Nat) (wd : Nat) (base : Int) (l : List It) (h : WheelOf w wb S wd base l) : Calls Tryd.prog 49 #[.pointer (some ⟨wb, 0, none⟩)] w fun e w' => e = .returned (.int .i64 (l.length : Int)) ∧ w' = w := by
  obtain ⟨vs, ms, mb, rfl, hW, hL, hok, hlen, hwd, hb1⟩ := h
  obtain ⟨es, cl, hm, hz⟩ := map_size hW.map hL.ids
  have := wLen w wb wd mb base vs ms hW.blk es cl hm
  rw [hz] at this
  exact this
/-- What a level's bitmap is. -/
def mapM (wd : Nat) (base : Int) (l : List It) (L : Nat) (m : Nat) : Prop := m < 18446744073709551616 ∧ ∀ b, b < 64 → m.testBit b = !(part (pl wd base) (L * 64 + b) l).isEmpty
theorem Lies.ins {wd : Nat} {base : Int} {l : List It} (h : Lies wd base l) {x : It} (hr : reach wd base x.k) (hno : ∀ y ∈ l, y.i ≠ x.i) : Lies wd base (ins x l) := by
  refine ⟨h.b0, ins_rises h.rises hno, ?_, fun y hy => ?_⟩
  · have : Ids (l ++ [x]) := by
      have hi := h.ids
      unfold Ids at hi ⊢
      rw [List.map_append, List.nodup_append]
      refine ⟨hi, by simp, fun a ha b hb e => ?_⟩
      simp at hb
      obtain ⟨z, hz, rfl⟩ := List.mem_map.1 ha
      exact hno z hz (e.trans hb)
    exact this.perm (ins_perm x l).symm
  · have := (ins_perm x l).subset hy
    rcases List.mem_append.1 this with h1 | h1
    · exact h.near y h1
    · simp at h1; rw [h1]; exact hr
theorem parts_ins {wd : Nat} {base : Int} {l : List It} (h : Lies wd base l) {x : It} (hno : ∀ y ∈ l, y.i ≠ x.i) : setN (fun i => part (pl wd base) i l) (pl wd base x) (Go.Proofs.YtfgffgicfieieaaDoor.ins x (part (pl wd base) (pl wd base x) l)) = fun i => part (pl wd base) i (Go.Proofs.YtfgffgicfieieaaDoor.ins x l) := by
  funext i
  rw [part_ins h.rises hno]
  by_cases e : i = pl wd base x
  · subst e; rw [setN_same, if_pos rfl]
  · rw [setN_ne _ _ e, if_neg (fun e2 => e e2.symm)]

set_option maxRecDepth 100000 in
set_option maxHeartbeats 4000000 in
theorem wPush (w : World) (wb : Nat) (S : List Nat) (wd : Nat) (base : Int) (l : List It) (h : WheelOf w wb S wd base l) (x : It) (hx : x.ok) (hroom : l.length < 400000) :
    Calls Tryd.prog 32 #[.pointer (some ⟨wb, 0, none⟩), .agg #[.int .u64 x.k, .int .i64 x.i]] w fun e w' => e = .returned (.bool (!hasId x.i l && inR wd base x.k)) ∧ ∃ S', WheelOf w' wb S' wd base (if (!hasId x.i l && inR wd base x.k) then ins x l else l) ∧ Moved w S w' S' := by
  have H := Lib.hid h
  obtain ⟨vs, ms, mb, rfl, hW, hL, hok, hlen, hwd, hb1⟩ := h
  have hb0 := hL.b0
  have kk : 0 ≤ x.k ∧ x.k ≤ 18446744073709551615 := by
    have := hx.1
    simp [Lit.wf, IntKind.min, IntKind.max, IntKind.signed, IntKind.bits] at this
    omega
  have oA : Only [] w (w.alloc (.cells #[.int .u64 x.k, .int .i64 x.i] 35)) := (Only.refl [] w).alloc _
  have bX : Box _ w.heap.size x := Box.new w x
  have hW1 := hW.only0 oA
  have hhas : Hid (∀ n, Calls Tryd.prog 54 #[.pointer (some ⟨wb, 0, none⟩), .int .i64 x.i] ((w.alloc (.cells #[.int .u64 x.k, .int .i64 x.i] 35)).drewN n) fun e w' => e = .returned (.bool (hasId x.i l)) ∧ w' = (w.alloc (.cells #[.int .u64 x.k, .int .i64 x.i] 35)).drewN n) := fun n => wHasOf _ wb _ wd base l (H.out.only0 (oA.drewN n)) x.i hx.2
  have hlv := level_any base x.k (wd : Int) hb0 hb1 kk.1 kk.2
  rw [wid_nat hwd] at hlv
  have his := isLevel_any (levM wd base x.k)
  change ∀ w, Calls _ _ _ _ fun e w' => e = .returned (.bool (inR wd base x.k)) ∧ w = w' at his
  have c0 := hW1.blk.c0
  have c1 := hW1.blk.c1
  have c2 := hW1.blk.c2
  have x0 := bX.c0
  have x1 := bX.c1
  have HW := Lib.hid (And.intro hW1 (And.intro hL (And.intro hok (And.intro oA bX))))
  have hNlt := bX.lt
  generalize hV : w.alloc (.cells #[.int .u64 x.k, .int .i64 x.i] 35) = V at *
  clear hW hW1 hL hok oA bX
  rcases hid : hasId x.i l with _ | _
  · rw [hid] at hhas
    rcases hre : inR wd base x.k with _ | _
    · rw [hre] at his
      generalize levM wd base x.k = lv at *
      go_enter Tryd.func32, Tryd.ntmps32
      go_wp2_with (simp only [hV])
      go_quiet (first | (go_at_call 54; exact Calls.quiet_of_same (hhas.out _)) | (go_at_call 58; exact Calls.quiet_of_same ((hlv _).mono fun _ _ q => ⟨q.1, q.2.symm⟩)) | (go_at_call 57; exact Calls.quiet_of_same ((his _).mono fun _ _ q => ⟨q.1, q.2.symm⟩)))
      go_wp2_with fail
      go_ret
      exact ⟨rfl, _, H.out.only0 (HW.out.2.2.2.1.drewN _), Moved.of_only (HW.out.2.2.2.1.drewN _)⟩
    · have hre' := inR_iff.1 hre
      have hno := (hasId_not _ _).1 hid
      rw [hre] at his
      have hpu : Hid (∀ W K, WheelIs W wb mb vs ms wd base (fun i => part (pl wd base) i l) K → Calls Tryd.prog 59 #[.pointer (some ⟨wb, 0, none⟩), .agg #[.int .u64 x.k, .int .i64 x.i]] W fun e w' => e = .returned (.tuple #[]) ∧
          ∃ vs' ms', WheelIs w' wb mb vs' ms' wd base (fun i => part (pl wd base) i (ins x l)) K ∧ Moved W (wown wb mb vs) w' (wown wb mb vs')) := fun W K hWK => by
        have hL := HW.out.2.1
        have := wPut W wb mb wd vs ms base _ K hWK hwd hb0 hb1 x hx hre' (part_rises hL.rises _) (Nat.le_trans (part_len _ _) (by omega))
        rw [parts_ins hL hno] at this
        exact this
      generalize levM wd base x.k = lv at *
      go_enter Tryd.func32, Tryd.ntmps32
      go_wp2_with (simp only [hV])
      go_quiet (first | (go_at_call 54; exact Calls.quiet_of_same (hhas.out _)) | (go_at_call 58; exact Calls.quiet_of_same ((hlv _).mono fun _ _ q => ⟨q.1, q.2.symm⟩)) | (go_at_call 57; exact Calls.quiet_of_same ((his _).mono fun _ _ q => ⟨q.1, q.2.symm⟩)))
      obtain ⟨V1, eV1⟩ : ∃ V1, V.drewN nq = V1 := ⟨_, rfl⟩
      have hW2 := HW.out.1.only0 (w' := V1) (by rw [← eV1]; exact (Only.refl [] V).drewN nq)
      have bX2 := HW.out.2.2.2.2.only (w' := V1) (S := []) (by rw [← eV1]; exact (Only.refl [] V).drewN nq) (by simp)
      have o2 : Only [] w V1 := by rw [← eV1]; exact HW.out.2.2.2.1.drewN nq
      clear c0 c1 c2 x0 x1 hhas hlv his
      have c2 := hW2.blk.c2
      have x0 := bX2.c0
      have x1 := bX2.c1
      obtain ⟨V3, u3, m3, g3⟩ := (hW2.map.keep (w' := V1.drew) rfl).put hx.2 x.k 71 Tryd.underlying71
      have hW3 := (hW2.only0 (Only.refl [] V1).drew).remap m3 g3
      have b3 : Box V3 w.heap.size x := bX2.only (S := [mb]) ((Only.refl [mb] V1).drew.grown g3 (by simp)) (by
        have := H.out.lt mb (mem_wown.2 (.inr (.inl rfl)))
        simp; omega)
      have R3 := Lib.hid (And.intro hW3.1 ((Moved.of_only (S := wown wb mb vs) o2.drew).trans hW3.2))
      have HB3 := Lib.hid b3
      rw [eV1]
      clear hW2 bX2 o2 m3 g3 hW3 b3 eV1 hV
      go_wp2_with fail
      go_still_tail 8, (by kernel_rfl)
      change wpList _ _ _ _ _ V1.drew
      generalize V1.drew = V2 at u3 ⊢
      clear c2 x0 x1
      have x0 := HB3.out.c0
      have x1 := HB3.out.c1
      go_wp2_with fail
      refine (hpu.out _ _ R3.out.1).mono ?_
      rintro e V4 ⟨rfl, vs', ms', q1, q2⟩
      have R4 := Lib.hid (And.intro q1 q2)
      clear q1 q2
      go_wp2_with fail
      go_ret
      obtain ⟨q1, q2⟩ := R4.out
      obtain ⟨_, hL, hok, _, _⟩ := HW.out
      rw [← keysOf_ins hL.ids hL.rises hno] at q1
      refine ⟨rfl, _, ⟨_, _, _, rfl, q1, hL.ins hre' hno, fun y hy => ?_, ?_, hwd, hb1⟩, R3.out.2.trans q2⟩
      · have := (ins_perm x l).subset hy
        rcases List.mem_append.1 this with h1 | h1
        · exact hok y h1
        · simp at h1; rw [h1]; exact hx
      · have := (ins_perm x l).length_eq; simp at this; omega
  · rw [hid] at hhas
    go_enter Tryd.func32, Tryd.ntmps32
    go_wp2_with (simp only [hV])
    go_quiet (first | (go_at_call 54; exact Calls.quiet_of_same (hhas.out _)))
    go_wp2_with fail
    go_ret
    exact ⟨rfl, _, H.out.only0 (HW.out.2.2.2.1.drewN _), Moved.of_only (HW.out.2.2.2.1.drewN _)⟩
end Go.Proofs.YtfgffgicfieieaaDoor
