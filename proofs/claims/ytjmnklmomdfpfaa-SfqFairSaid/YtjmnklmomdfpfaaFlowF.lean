/-
  A flow told as numbers (FlowOf): contracts of all of its methods, and of New and Copy.
-/
import Derived.Test.YtjmnklmomdfpfaaFlowR
import Derived.Lib.SliceRun
namespace Go.Proofs.Ytjmnklmomdfpfaa
set_option maxRecDepth 100000
open Go.RowKit
set_option linter.unusedVariables false
set_option linter.unusedSimpArgs false
set_option maxRecDepth 100000

def Pk.none : Pk := ⟨0, 0, 0⟩
def Fl.hd (F : Fl) : Pk := F.l.headD Pk.none
def Fl.any (F : Fl) : Bool := !F.l.isEmpty
def Fl.fin (F : Fl) : Int := addM F.s (costM F.hd.l F.r)
/-- What Start and Serve tell as tags. -/
def Fl.st (F : Fl) : Int := if F.l = [] then 0 else F.s
def Fl.out (F : Fl) : Int := if F.l = [] then 0 else F.fin
def Fl.takes (F : Fl) : Bool := decide (F.l.length ≠ F.n)
def Fl.arr (F : Fl) (v : Int) (x : Pk) : Fl := if F.l.length = F.n then F else ⟨F.r, F.n, if F.l = [] then max v F.e else F.s, F.e, F.l ++ [x]⟩
def Fl.srv (F : Fl) : Fl := if F.l = [] then F else ⟨F.r, F.n, F.fin, F.fin, F.l.tail⟩
theorem Fl.ok.fin {F : Fl} (h : F.ok) : U64 F.fin := fin_word h.s _ _ h.r
theorem Fl.ok.arr {F : Fl} (h : F.ok) {v : Int} (hv : U64 v) {x : Pk} (hx : x.ok) : (F.arr v x).ok := by
  unfold Fl.arr
  split
  · exact h
  · rename_i hne
    have hl := h.len
    refine ⟨h.r, h.n1, h.n8, ?_, h.e, ?_, ?_⟩
    · show U64 (if F.l = [] then max v F.e else F.s)
      split
      · have h1 := h.e
        unfold U64 at *
        omega
      · exact h.s
    · intro y hy
      simp only [List.mem_append, List.mem_singleton] at hy
      rcases hy with hy | rfl
      · exact h.l y hy
      · exact hx
    · show (F.l ++ [x]).length ≤ F.n
      simp
      omega
theorem Fl.ok.srv {F : Fl} (h : F.ok) : F.srv.ok := by
  unfold Fl.srv
  split
  · exact h
  · refine ⟨h.r, h.n1, h.n8, h.fin, h.fin, fun y hy => h.l y (List.mem_of_mem_tail hy), ?_⟩
    show F.l.tail.length ≤ F.n
    have := h.len
    simp
    omega
theorem Pk.none_ok : Pk.none.ok := by unfold Pk.ok i64ok Pk.none; exact ⟨by kernel_rfl, by kernel_rfl, by kernel_rfl⟩
theorem U64.zero : U64 0 := by unfold U64; decide
theorem Fl.ok.hd {F : Fl} (h : F.ok) : F.hd.ok := by
  unfold Fl.hd
  rcases hl : F.l with _ | ⟨x, t⟩
  · exact Pk.none_ok
  · exact h.l x (by rw [hl]; simp)

/-- Block b is a flow that is F as numbers; O: the blocks that it owns. -/
def FlowOf (w : World) (b : Nat) (F : Fl) (O : List Nat) : Prop :=
  F.ok ∧ ∃ s v, FBlk w b F.r F.n s F.e v ∧ (F.l ≠ [] → s = F.s) ∧ U64 s ∧ PRow w v F.l ∧ O = b :: v.ownBlock.toList
section
variable {w w' : World} {b : Nat} {F : Fl} {O : List Nat}
theorem FlowOf.only {S : List Nat} (h : FlowOf w b F O) (ho : Only S w w') (hS : ∀ k ∈ O, k ∉ S) : FlowOf w' b F O := by
  obtain ⟨hk, s, v, h1, h2, h3, h4, rfl⟩ := h
  exact ⟨hk, s, v, h1.only ho (hS b (by simp)), h2, h3, h4.only ho (fun g hg => hS g (by simp [hg])), rfl⟩
theorem FlowOf.only0 (h : FlowOf w b F O) (ho : Only [] w w') : FlowOf w' b F O := h.only ho (by simp)
theorem FlowOf.lt (h : FlowOf w b F O) : ∀ k ∈ O, k < w.heap.size := by
  obtain ⟨hk, s, v, h1, h2, h3, h4, rfl⟩ := h
  intro k hk
  rcases List.mem_cons.1 hk with rfl | hk
  · exact h1.lt
  · exact h4.lt (Option.mem_toList.1 hk)
theorem FlowOf.mem (h : FlowOf w b F O) : b ∈ O := by
  obtain ⟨hk, s, v, h1, h2, h3, h4, rfl⟩ := h
  simp
theorem FlowOf.of_turn {r n s e : Int} {v : Value} (h : Turn w b r n s e v F.l w') (hk : F.ok) (hr : F.r = r) (hn : (F.n : Int) = n) (he : F.e = e) (hs : F.l ≠ [] → s = F.s) (hu : U64 s) :
    ∃ O', FlowOf w' b F O' ∧ Went w (b :: v.ownBlock.toList) w' O' := by
  obtain ⟨v', h1, h2, h3, h4⟩ := h
  subst hr hn he
  refine ⟨_, ⟨hk, s, v', h1, hs, hu, h2, rfl⟩, h3, fun k hk => ?_⟩
  rcases List.mem_cons.1 hk with rfl | hk
  · exact .inl (by simp)
  · rcases h4 with e | ⟨g, e, hg⟩
    · exact .inl (List.mem_cons_of_mem _ (by rw [← e]; exact hk))
    · rw [e] at hk
      simp at hk
      subst hk
      exact .inr hg
end
/-- What comes of a flow that is turned to F. -/
def FTo (w : World) (b : Nat) (O : List Nat) (F : Fl) (w' : World) : Prop := ∃ O', FlowOf w' b F O' ∧ Went w O w' O'
theorem FTo.still {w w' : World} {b : Nat} {F : Fl} {O : List Nat} (h : FlowOf w b F O) (ho : Only [] w w') : FTo w b O F w' := ⟨O, h.only0 ho, Went.still ho O⟩

section
variable (w : World) (b : Nat) (F : Fl) (O : List Nat) (h : FlowOf w b F O)
include h
theorem flLen : Calls Try.prog 52 #[.pointer (some ⟨b, 0, none⟩)] w fun e w' => e = .returned (.int .i64 (F.l.length : Int)) ∧ w' = w := by
  obtain ⟨hk, s, v, h1, h2, h3, h4, rfl⟩ := h
  obtain ⟨A, cap, rfl⟩ := h4.form
  exact fLen w b _ _ _ _ A _ cap h1
theorem flStart : Calls Try.prog 64 #[.pointer (some ⟨b, 0, none⟩)] w fun e w' => e = .returned (.tuple #[.int .u64 F.st, .bool F.any]) ∧ w' = w := by
  obtain ⟨hk, s, v, h1, h2, h3, h4, rfl⟩ := h
  obtain ⟨A, cap, rfl⟩ := h4.form
  refine (fStart w b _ _ _ _ A _ cap h1).mono ?_
  rintro e w' ⟨rfl, rfl⟩
  refine ⟨?_, rfl⟩
  unfold Fl.st Fl.any
  rcases hl : F.l with _ | ⟨x, t⟩
  · simp
  · simp [h2 (by rw [hl]; simp)]
theorem flServe : Calls Try.prog 43 #[.pointer (some ⟨b, 0, none⟩)] w fun e w' => e = .returned (.tuple #[.agg #[.int .i64 F.hd.f, .int .i64 F.hd.l, .int .i64 F.hd.m], .int .u64 F.out, .bool F.any]) ∧ FTo w b O F.srv w' := by
  obtain ⟨hk, s, v, h1, h2, h3, h4, rfl⟩ := h
  rcases hl : F.l with _ | ⟨x, t⟩
  · have e1 : F.hd = Pk.none := by unfold Fl.hd; rw [hl]; rfl
    have e2 : F.out = 0 := by unfold Fl.out; rw [if_pos hl]
    have e3 : F.any = false := by unfold Fl.any; rw [hl]; rfl
    have e4 : F.srv = F := by unfold Fl.srv; rw [if_pos hl]
    rw [e1, e2, e3, e4]
    have hF : FlowOf w b F (b :: v.ownBlock.toList) := ⟨hk, s, v, h1, h2, h3, h4, rfl⟩
    obtain ⟨A, cap, rfl⟩ := h4.form
    rw [hl] at h1
    refine (fServe0 w b _ _ _ _ A cap h1).mono ?_
    rintro e w' ⟨rfl, ho⟩
    exact ⟨rfl, FTo.still hF ho⟩
  · have hne : F.l ≠ [] := by rw [hl]; simp
    have e1 : F.hd = x := by unfold Fl.hd; rw [hl]; rfl
    have e2 : F.out = F.fin := by unfold Fl.out; rw [if_neg hne]
    have e3 : F.any = true := by unfold Fl.any; rw [hl]; rfl
    have e4 : F.srv = ⟨F.r, F.n, F.fin, F.fin, t⟩ := by unfold Fl.srv; rw [if_neg hne, hl]; rfl
    have hok := hk.srv
    have es := h2 hne
    subst es
    have hlen := hk.len
    have hn8 := hk.n8
    rw [hl] at h4 hlen
    simp only [List.length_cons] at hlen
    refine (fServe1 w b _ _ _ _ v x t h1 h4 (by omega) hk.r h3 (hk.l x (by rw [hl]; simp)) F.fin (by unfold Fl.fin; rw [e1])).mono ?_
    rintro e w' ⟨rfl, s', hs1, hs2, ht⟩
    refine ⟨by rw [e1, e2, e3], ?_⟩
    rw [e4] at hok ⊢
    exact FlowOf.of_turn (F := ⟨F.r, F.n, F.fin, F.fin, t⟩) ht hok rfl rfl rfl hs1 hs2
theorem flArrive (vt : Int) (hvt : U64 vt) (x : Pk) (hx : x.ok) : Calls Try.prog 46 #[.pointer (some ⟨b, 0, none⟩), .int .u64 vt, .agg #[.int .i64 x.f, .int .i64 x.l, .int .i64 x.m]] w fun e w' => e = .returned (.bool F.takes) ∧ FTo w b O (F.arr vt x) w' := by
  have hF := h
  obtain ⟨hk, s, v, h1, h2, h3, h4, rfl⟩ := h
  have hok := hk.arr hvt hx
  have hlen := hk.len
  have hn8 := hk.n8
  by_cases hl : F.l.length = F.n
  · have e1 : F.takes = false := by unfold Fl.takes; simp [hl]
    have e2 : F.arr vt x = F := by unfold Fl.arr; rw [if_pos hl]
    rw [e1, e2]
    obtain ⟨A, cap, rfl⟩ := h4.form
    rw [← hl] at h1
    refine (fArriveFull w b _ _ _ A _ cap h1 vt x).mono ?_
    rintro e w' ⟨rfl, ho⟩
    exact ⟨rfl, FTo.still hF ho⟩
  · have e1 : F.takes = true := by unfold Fl.takes; simp [hl]
    have e2 : F.arr vt x = ⟨F.r, F.n, if F.l = [] then max vt F.e else F.s, F.e, F.l ++ [x]⟩ := by unfold Fl.arr; rw [if_neg hl]
    rw [e1]
    rw [e2] at hok ⊢
    have es : (if F.l = [] then max vt F.e else F.s) = if F.l = [] then max vt F.e else s := by
      split
      · rfl
      · rename_i hne; exact (h2 hne).symm
    refine (fArrive w b _ _ _ _ v F.l h1 h4 (by omega) (by omega) vt x _ es).mono ?_
    rintro e w' ⟨rfl, ht⟩
    exact ⟨rfl, FlowOf.of_turn (F := ⟨F.r, F.n, if F.l = [] then max vt F.e else F.s, F.e, F.l ++ [x]⟩) ht hok rfl rfl rfl (fun _ => rfl) hok.s⟩
end
/-- How many it holds. -/
def room (most : Int) : Nat := (min (max most 1) 8).toNat
theorem room_is (most : Int) : min (max most 1) 8 = (room most : Int) := by unfold room; omega
theorem room_le (most : Int) : 1 ≤ room most ∧ room most ≤ 8 := by unfold room; omega
def Fl.new (r : Int) (n : Nat) : Fl := ⟨r, n, 0, 0, []⟩
theorem Fl.new_ok {r : Int} (hr : U64 r) (most : Int) : (Fl.new r (room most)).ok :=
  ⟨hr, (room_le most).1, (room_le most).2, U64.zero, U64.zero, by simp [Fl.new], by simp [Fl.new]⟩
set_option maxHeartbeats 1000000 in
theorem flNew (w : World) (r most : Int) (hr : U64 r) :
    Calls Try.prog 50 #[.int .u64 r, .int .i64 most] w fun e w' => e = .returned (.pointer (some ⟨w.heap.size, 0, none⟩)) ∧ FlowOf w' w.heap.size (Fl.new r (room most)) [w.heap.size] ∧ Only [] w w' := by
  have hm := room_is most
  have hok := Fl.new_ok hr most
  generalize hn : room most = n at *
  have m1 : (if (8 : Int) < max most 1 then 8 else max most 1) = (n : Int) := by rw [← hm]; split <;> omega
  have m2 : (if (8 : Int) < (if most < 1 then 1 else most) then 8 else (if most < 1 then 1 else most)) = (n : Int) := by rw [← hm]; split <;> split <;> omega
  clear hn
  go_enter Try.func50, Try.ntmps50
  go_wp2_with fail
  all_goals
    go_ret
    exact ⟨rfl, ⟨hok, 0, .slice none 0 0, heap_alloc_new w _, fun h => absurd rfl h, U64.zero, PRow.nil _, rfl⟩, (Only.refl [] w).alloc _⟩
/-- slices.Clone: the same packets, in new memory. -/
theorem fClone (w : World) (v : Value) (xs : List Pk) (hx : PRow w v xs) (hl : xs.length ≤ 1000) :
    Calls Try.prog 78 #[v] w fun e w' => ∃ v', e = .returned v' ∧ PRow w' v' xs ∧ Only [] w w' ∧ ∀ g, v'.ownBlock = some g → w.heap.size ≤ g := by
  have q22 : ∀ (w : World) (a : Option Addr) (n c n' c' : Nat), (binOp .eql 115 (.slice a n c) (.slice none n' c')).run Try.prog w = .ok (.bool a.isNone) w := fun w a n c n' c' => Lib.run_eql_slice_nil w _ _ a n c n' c' Try.underlying115
  rcases hx.2 with ⟨rfl, e⟩ | ⟨g, cap, cur, rfl, h0, hg, hn, hcm, hs, hc⟩
  · obtain rfl : xs = [] := List.eq_nil_of_length_eq_zero e
    go_enter Try.func78, Try.ntmps78
    go_wp2_with fail
    go_ret
    exact ⟨_, rfl, PRow.nil _, Only.refl [] w, by simp [Value.ownBlock]⟩
  · have H := Lib.hid hx
    have hr0 : Hid (PRow (w.alloc (.cells #[] 34)) (.slice (some ⟨w.heap.size, 0, none⟩) 0 0) []) := ⟨rfl, .inr ⟨w.heap.size, 0, #[], rfl, Nat.zero_le _, heap_alloc_new w _, Nat.le_refl _, Nat.zero_le _, rfl, rfl⟩⟩
    have HO : Hid (Only [] w (w.alloc (.cells #[] 34))) := (Only.refl [] w).alloc _
    clear hx hs hc hg hn hcm
    go_enter Try.func78, Try.ntmps78
    go_wp2_with (first
      | (at_builtin
         refine wpList_append_pk Try.underlying115 rfl (.tmp 5) (.tmp 6) rfl (.slice (some ⟨w.heap.size, 0, none⟩) 0 0) [] rfl hr0.out _ _ _ xs rfl rfl (PSrc.of_row (H.out.only HO.out (by simp))) xs.length (by simp) (by omega) ?_
         intro A1 cap1 w1 r1 g1 l1
         have q1 : Only [] w w1 := HO.out.grown g1 (by simp [Value.ownBlock])
         have v1 : ∀ g, (Value.slice A1 xs.length cap1).ownBlock = some g → w.heap.size ≤ g := by
           intro g hg
           rcases l1 with e | e
           · rw [e] at hg; simp [Value.ownBlock] at hg; omega
           · rw [e] at hg; simp at hg; omega
         have R1 := Lib.hid (And.intro r1 (And.intro q1 v1))
         clear r1 g1 l1 q1 v1))
    go_ret
    exact ⟨_, rfl, R1.out.1, R1.out.2.1, R1.out.2.2⟩
set_option maxHeartbeats 1000000 in
/-- A copy: new memory alone. -/
theorem flCopy (w : World) (b : Nat) (F : Fl) (O : List Nat) (h : FlowOf w b F O) :
    Calls Try.prog 54 #[.pointer (some ⟨b, 0, none⟩)] w fun e w' => e = .returned (.pointer (some ⟨w.heap.size, 0, none⟩)) ∧ ∃ O', FlowOf w' w.heap.size F O' ∧ Only [] w w' ∧ ∀ k ∈ O', w.heap.size ≤ k := by
  obtain ⟨hk, s, v, h1, h2, h3, h4, rfl⟩ := h
  have hlen := hk.len
  have hn8 := hk.n8
  obtain ⟨c0, c1, c2, c3, c4⟩ := h1.c
  have o1 : Only [] w (w.alloc (.cells #[.int .u64 F.r, .int .i64 F.n, .int .u64 s, .int .u64 F.e, v] 117)) := (Only.refl [] w).alloc _
  have hb1 : FBlk (w.alloc (.cells #[.int .u64 F.r, .int .i64 F.n, .int .u64 s, .int .u64 F.e, v] 117)) w.heap.size F.r F.n s F.e v := heap_alloc_new w _
  have d4 := (h1.only0 o1).c.2.2.2.2
  have hc := fClone _ v F.l (h4.only o1 (by simp)) (by omega)
  have hb := h1.lt
  have H := Lib.hid (And.intro hk (And.intro h2 (And.intro h3 (And.intro o1 hb1))))
  have hsz : (w.alloc (.cells #[.int .u64 F.r, .int .i64 F.n, .int .u64 s, .int .u64 F.e, v] 117)).heap.size = w.heap.size + 1 := by simp
  obtain ⟨A, cap, rfl⟩ := h4.form
  clear h1 h2 h3 h4 hk o1 hb1
  go_enter Try.func54, Try.ntmps54
  go_wp2_with fail
  refine hc.mono ?_
  rintro e w2 ⟨v2, rfl, hr2, o2, hv2⟩
  have hb2 := H.out.2.2.2.2.only0 o2
  obtain ⟨_, _, _, _, e4⟩ := hb2.c
  have fr4 := hb2.fr 4
  obtain ⟨A2, cap2, rfl⟩ := hr2.form
  have R := Lib.hid (And.intro hr2 (And.intro o2 (And.intro hv2 hb2)))
  clear hr2 o2 hv2 hb2 hc
  go_wp2_with fail
  go_ret
  obtain ⟨hr2, o2, hv2, hb2⟩ := R.out
  refine ⟨rfl, _, ⟨H.out.1, s, _, hb2.set4 _, H.out.2.1, H.out.2.2.1, hr2.only ((Only.refl [w.heap.size] w2).setCell (by simp) _) (fun g hg => by simpa using hb2.ne hr2 g hg), rfl⟩, (H.out.2.2.2.1.trans' o2).setCell (.inr (Nat.le_refl _)) _, fun k hk => ?_⟩
  rcases List.mem_cons.1 hk with rfl | hk
  · exact Nat.le_refl _
  · have := hv2 k (Option.mem_toList.1 hk)
    omega
end Go.Proofs.Ytjmnklmomdfpfaa
