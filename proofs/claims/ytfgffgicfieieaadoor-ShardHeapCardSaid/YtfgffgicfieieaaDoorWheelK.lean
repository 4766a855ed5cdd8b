/-
  Contracts of the wheel's New, Base, Has, Len, Map, where, put.
-/
import Derived.Test.YtfgffgicfieieaaDoorWheelN
namespace Go.Proofs.YtfgffgicfieieaaDoor
set_option maxRecDepth 100000
open Go.RowKit Go.ChangeMaps Go.MapKept
set_option linter.unusedVariables false
set_option linter.unusedSimpArgs false

/-- The bucket that where tells. -/
def bkW (wd : Nat) (base key : Int) : Int := if 0 ≤ levM wd base key ∧ levM wd base key ≤ 2 then bkM wd key (levM wd base key).toNat else -1
set_option maxHeartbeats 1000000 in
theorem where_any (w : World) (wb wd mb : Nat) (base : Int) (vs : Nat → Value) (ms : Nat → Nat) (h : WBlk w wb wd base vs ms mb) (hwd : wd ≤ 40) (key : Int) (b0 : 0 ≤ base) (b1 : base ≤ 18446744073709551615) (k0 : 0 ≤ key) (k1 : key ≤ 18446744073709551615) :
    Calls Tryd.prog 72 #[.pointer (some ⟨wb, 0, none⟩), .int .u64 key] w fun e w' => e = .returned (.tuple #[.int .i64 (levM wd base key), .int .i64 (bkW wd base key)]) ∧ Only [] w w' := by
  have c0 := h.c0
  have c1 := h.c1
  have hlv := level_any base key (wd : Int) b0 b1 k0 k1
  rw [wid_nat hwd] at hlv
  have hbk : ∀ W, Calls Tryd.prog 88 #[.int .u64 key, .int .i64 (levM wd base key), .int .i64 (wd : Int)] W fun e w' => e = .returned (.int .i64 (bkW wd base key)) ∧ W = w' := by
    intro W
    unfold bkW
    split
    · rename_i hr
      obtain ⟨L, hL⟩ := Int.eq_ofNat_of_zero_le hr.1
      have := bucket_in key (wd : Int) L (by omega) k0 k1 W
      rw [wid_nat hwd] at this
      rw [hL]
      exact this
    · exact bucket_out key (wd : Int) _ (by omega) W
  clear h
  generalize levM wd base key = lv at *
  generalize bkW wd base key = bk at *
  go_enter Tryd.func72, Tryd.ntmps72
  go_wp2_with fail
  go_still_tail 9, (by kernel_rfl)
  change wpList _ _ _ _ _ w.drew
  go_wp2_with (first | (go_at_call 58; refine (hlv _).mono ?_; rintro e w' ⟨rfl, rfl⟩) | (go_at_call 88; refine (hbk _).mono ?_; rintro e w' ⟨rfl, rfl⟩))
  go_ret2
  exact ⟨rfl, (Only.refl _ _).drew⟩

theorem wBase (w : World) (wb wd mb : Nat) (base : Int) (vs : Nat → Value) (ms : Nat → Nat) (h : WBlk w wb wd base vs ms mb) :
    Calls Tryd.prog 56 #[.pointer (some ⟨wb, 0, none⟩)] w fun e w' => e = .returned (.int .u64 base) ∧ w' = w := by
  have c1 := h.c1
  clear h
  go_enter Tryd.func56, Tryd.ntmps56
  go_wp2
  go_ret
  exact ⟨rfl, rfl⟩
theorem wHas (w : World) (wb wd mb : Nat) (base : Int) (vs : Nat → Value) (ms : Nat → Nat) (h : WBlk w wb wd base vs ms mb) (K : Int → Option Int) (hm : MapU w mb K) (id : Int) (hid : i64ok id) :
    Calls Tryd.prog 54 #[.pointer (some ⟨wb, 0, none⟩), .int .i64 id] w fun e w' => e = .returned (.bool (K id).isSome) ∧ w' = w := by
  have c2 := h.c2
  have lk := hm.look hid 71 Tryd.underlying71
  clear h hm
  generalize (K id).isSome = b at *
  generalize (K id).getD 0 = z at *
  go_enter Tryd.func54, Tryd.ntmps54
  go_wp2
  go_ret
  exact ⟨rfl, rfl⟩
theorem wLen (w : World) (wb wd mb : Nat) (base : Int) (vs : Nat → Value) (ms : Nat → Nat) (h : WBlk w wb wd base vs ms mb) (es : Array MapEntry) (cl : Nat) (hm : w.heap[mb]? = some (.map es cl)) :
    Calls Tryd.prog 49 #[.pointer (some ⟨wb, 0, none⟩)] w fun e w' => e = .returned (.int .i64 (es.size : Int)) ∧ w' = w := by
  have c2 := h.c2
  have hg : (Builtin.len_ #[71] 3 #[.map (some mb)]).run Tryd.prog w = .ok (.int .i64 (es.size : Int)) w := by
    simp [Builtin.len_, Builtin.lenOf, run_underlying Tryd.underlying71, MapKept.run_getObj_map hm, goInt]
  clear h
  go_enter Tryd.func49, Tryd.ntmps49
  go_wp2
  go_ret
  exact ⟨rfl, rfl⟩
theorem zero_wheel : Tryd.zeroCells73.toList = Value.int .i64 0 :: Value.int .u64 0 :: (List.replicate 192 (Value.slice none 0 0) ++ [Value.int .u64 0, Value.int .u64 0, Value.int .u64 0, Value.map none]) := by kernel_rfl
set_option maxRecDepth 100000 in
theorem zero_wcell (wd mb k : Nat) : ((Tryd.zeroCells73.setIfInBounds 0 (.int .i64 (wd : Int))).setIfInBounds 197 (.map (some mb)))[k]? = wcell wd 0 (fun _ => .slice none 0 0) (fun _ => 0) mb k := by
  have hs : Tryd.zeroCells73.size = 198 := by kernel_rfl
  have hz : ∀ k, Tryd.zeroCells73[k]? = (Value.int .i64 0 :: Value.int .u64 0 :: (List.replicate 192 (Value.slice none 0 0) ++ [Value.int .u64 0, Value.int .u64 0, Value.int .u64 0, Value.map none]))[k]? := fun k => by rw [← zero_wheel, Array.getElem?_toList]
  rw [Array.getElem?_setIfInBounds, Array.getElem?_setIfInBounds, Array.size_setIfInBounds, hs, hz]
  unfold wcell
  by_cases e0 : k = 0
  · subst e0; simp
  · by_cases e1 : k = 1
    · subst e1; simp
    · obtain ⟨j, rfl⟩ : ∃ j, k = j + 2 := ⟨k - 2, by omega⟩
      rw [if_neg e0, if_neg e1]
      by_cases e9 : 197 = j + 2
      · rw [if_pos e9, if_pos (by omega), if_neg (by omega), if_neg (by omega), if_pos (by omega)]
      · rw [if_neg e9, if_neg (by omega)]
        simp only [List.getElem?_cons_succ]
        by_cases h2 : j + 2 < 194
        · rw [if_pos h2, List.getElem?_append_left (by simp; omega), List.getElem?_replicate, if_pos (by omega)]
        · rw [if_neg h2, List.getElem?_append_right (by simp; omega)]
          simp only [List.length_replicate]
          by_cases h3 : j + 2 < 197
          · rw [if_pos h3]
            have h4 : j - 192 = 0 ∨ j - 192 = 1 ∨ j - 192 = 2 := by omega
            rcases h4 with h | h | h <;> rw [h] <;> rfl
          · rw [if_neg h3, if_neg (by omega)]
            apply List.getElem?_eq_none
            simp; omega
set_option maxRecDepth 100000 in
theorem wNew (w : World) (width : Int) :
    Calls Tryd.prog 47 #[.int .i64 width] w fun e w' => ∃ wb mb, e = .returned (.pointer (some ⟨wb, 0, none⟩)) ∧ w.heap.size ≤ wb ∧ w.heap.size ≤ mb ∧ WBlk w' wb (wid width) 0 (fun _ => .slice none 0 0) (fun _ => 0) mb ∧ MapU w' mb (fun _ => none) ∧ Only [] w w' := by
  have hmm := @run_makeMap Tryd.prog
  have hc := clamp_any width w
  go_enter Tryd.func47, Tryd.ntmps47
  go_wp2_with (go_at_call 70; refine hc.mono ?_; rintro e w' ⟨rfl, rfl⟩)
  go_ret
  have hm := MapU.made w
  have o1 : Only [] (w.alloc (.map #[] 0)) ((w.alloc (.map #[] 0)).alloc (.cells ((Tryd.zeroCells73.setIfInBounds 0 (.int .i64 ((wid width : Nat) : Int))).setIfInBounds 197 (.map (some w.heap.size))) 73)) := (Only.refl _ _).alloc _
  refine ⟨w.heap.size + 1, w.heap.size, rfl, by omega, by omega, ⟨_, ?_, fun k => zero_wcell (wid width) w.heap.size k⟩, hm.keep (o1.block _ hm.lt (by simp)), ((Only.refl _ _).alloc _).alloc _⟩
  have := heap_alloc_new (w.alloc (.map #[] 0)) (.cells ((Tryd.zeroCells73.setIfInBounds 0 (.int .i64 ((wid width : Nat) : Int))).setIfInBounds 197 (.map (some w.heap.size))) 73)
  simpa using this

theorem ins_ne (y : It) (l : List It) : ins y l ≠ [] := by unfold ins; simp
/-- Behind a row's new form. -/
theorem WheelIs.mid {w W w3 : World} {wb mb wd : Nat} {vs : Nat → Value} {ms : Nat → Nat} {base : Int} {f : Nat → List It} {K : Int → Option Int} (h : WheelIs w wb mb vs ms wd base f K) (oW : Only [] w W) {i : Nat} (hi : i < 192) (o3 : Only (vs i).ownBlock.toList W w3) : WBlk w3 wb wd base vs ms mb := by
  have hW := h.only0 oW
  refine hW.blk.keep (o3.block wb hW.blk.lt fun hm => ?_)
  exact (hW.wbg hi (Option.mem_toList.1 hm)) rfl
theorem WheelIs.done {w W w3 w5 : World} {wb mb wd : Nat} {vs : Nat → Value} {ms : Nat → Nat} {base : Int} {f : Nat → List It} {K : Int → Option Int} (h : WheelIs w wb mb vs ms wd base f K) (oW : Only [] w W) {i : Nat} (hi : i < 192) {v' : Value} {zs : List It} (r3 : RowIs w3 v' zs) (o3 : Only (vs i).ownBlock.toList W w3)
    (l3 : v'.ownBlock = (vs i).ownBlock ∨ ∃ g, v'.ownBlock = some g ∧ W.heap.size ≤ g) {ms' : Nat → Nat} (hT : Tells ms' (setN f i zs)) (hb : WBlk w5 wb wd base (setN vs i v') ms' mb) (ho : Only [wb] w3 w5) :
    ∃ vs' ms', WheelIs w5 wb mb vs' ms' wd base (setN f i zs) K ∧ Moved w (wown wb mb vs) w5 (wown wb mb vs') := by
  obtain ⟨q1, q2⟩ := (h.only0 oW).row hi r3 o3 l3 hT hb ho
  exact ⟨_, _, q1, (Moved.of_only oW).trans q2⟩

end Go.Proofs.YtfgffgicfieieaaDoor
