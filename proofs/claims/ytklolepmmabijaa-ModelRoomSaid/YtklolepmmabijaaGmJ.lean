/-
  Contracts of slices.Insert (one member) and slices.Delete (one member).
  cmp.Compare, against, slices.BinarySearchFunc at members, find.
  slices.BinarySearchFunc at members; find.
-/
import Derived.Test.YtklolepmmabijaaGmB
import Derived.Laws.CopyRow
import Derived.Laws.NewBlocks
import Derived.Lib.Overlaps
import Derived.Lib.AppendZerosOnto
import Derived.Laws.Externs
import Derived.Deep.RegionHeld3
import Derived.Deep.LoopGhost
namespace Go.Proofs.Ytklolepmmabijaa
set_option maxRecDepth 100000
open Go.RowKit
set_option linter.unusedVariables false
set_option linter.unusedSimpArgs false

def mp (x : (Int × Option Nat)) : Value := .pointer (x.2.map fun b => ⟨b, 0, none⟩)
def mflat (xs : List (Int × Option Nat)) : List Value := mE.flat xs
theorem mflat_cons (x : (Int × Option Nat)) (xs : List (Int × Option Nat)) : mflat (x :: xs) = .int .i64 x.1 :: mp x :: mflat xs := mE.flat_cons x xs
theorem mflat_append (xs ys : List (Int × Option Nat)) : mflat (xs ++ ys) = mflat xs ++ mflat ys := mE.flat_append xs ys
@[simp] theorem mflat_length (xs : List (Int × Option Nat)) : (mflat xs).length = xs.length * 2 := mE.flat_length xs
theorem mflat_one (xs : List (Int × Option Nat)) : ∀ u ∈ mflat xs, u.oneCell' = true := mE.flat_one xs
@[simp] theorem mflat_nil : mflat [] = [] := rfl
def MRow (w : World) (v : Value) (xs : List (Int × Option Nat)) : Prop := mE.Row w v xs
theorem MRow.form {w : World} {v : Value} {xs : List (Int × Option Nat)} (h : MRow w v xs) : ∃ A cap, v = .slice A xs.length cap := El.Row.form h
def MBox (w : World) (b : Nat) (x : (Int × Option Nat)) : Prop := w.heap[b]? = some (.cells #[.int .i64 x.1, mp x] 72 (0, 0))
theorem MBox.c0 {w : World} {b : Nat} {x : (Int × Option Nat)} (h : MBox w b x) : w.cell? ⟨b, 0, none⟩ = some (.int .i64 x.1) := by rw [cell_of_row w b 0 _ _ _ h]; rfl
theorem MBox.c1 {w : World} {b : Nat} {x : (Int × Option Nat)} (h : MBox w b x) : w.cell? ⟨b, 1, none⟩ = some (mp x) := by rw [cell_of_row w b 1 _ _ _ h]; rfl
theorem MBox.fr {w : World} {b : Nat} {x : (Int × Option Nat)} (h : MBox w b x) (i : Nat) : w.frozen? ⟨b, i, none⟩ = false := by unfold MBox at h; simp [World.frozen?, h]
theorem MBox.lt {w : World} {b : Nat} {x : (Int × Option Nat)} (h : MBox w b x) : b < w.heap.size := (Array.getElem?_eq_some_iff.1 h).1
theorem MBox.only {w w' : World} {b : Nat} {x : (Int × Option Nat)} {S : List Nat} (h : MBox w b x) (ho : Only S w w') (hS : b ∉ S) : MBox w' b x := ho.get h hS
theorem member_info : (Try.prog.info? 72).map (fun i => (i.zero, i.size, i.bytes)) = some (some (.agg #[.int .i64 0, .pointer none]), 2, 16) := by kernel_rfl

/-- A row with cells laid over it from a place on. -/
def layM (cur : Array Value) (o : Nat) (cs : List Value) : Array Value := (cur.toList.take o ++ cs ++ cur.toList.drop (o + cs.length)).toArray
theorem layM_size {cur : Array Value} {o : Nat} {cs : List Value} (h : o + cs.length ≤ cur.size) : (layM cur o cs).size = cur.size := by simp [layM]; omega
theorem run_copyM (w : World) (ty : TypeId) (g o dLen dCap : Nat) (ad : Addr) (sLen sCap : Nat) (cur : Array Value) (cs : List Value) (n : Nat)
    (hg : w.heap[g]? = some (.cells cur 72 (0, 0))) (hn : Nat.min sLen dLen = n) (hl : cs.length = n * 2)
    (hsrc : ∀ j v, cs[j]? = some v → w.cell? (ad.add j) = some v) (hfit : o + cs.length ≤ cur.size) (h1 : ∀ v ∈ cs, v.oneCell' = true) :
    (Builtin.copy_ #[67, 67] ty #[.slice (some ⟨g, o, none⟩) dLen dCap, .slice (some ad) sLen sCap]).run Try.prog w = .ok (goInt n) (w.setRow g (layM cur o cs)) := by
  obtain ⟨i0, hi0, hz0, hz1, hz2⟩ := info_parts member_info
  have hl' := run_loadCells_list (P := Try.prog) w ad cs hsrc
  have hst := run_storeCells_at Try.prog g o 72 cs 0 cur w hg (by simpa using hfit) h1
  rw [hl] at hl'
  simp only [Nat.add_zero] at hst
  unfold layM
  simp [Builtin.copy_, run_underlying Try.underlying67, Builtin.lenOf, Builtin.firstCells, sizeOf, typeInfo, hi0, hz1, hn, hl', hst]
theorem Only.setRowM (w : World) (g : Nat) (cs : Array Value) : Only [g] w (w.setRow g cs) := ⟨rfl, rfl, rfl, by simp [World.setRow], fun k _ hk => setRow_other w g k cs (by simpa using hk)⟩
section
variable {w : World} {ops : Array Oper} {o : Oper} {a : Act} {K : Act → World → Prop} {Q : Exit → Act → World → Prop}
theorem wp_copyM (d s : Operand) (ho : o.op = .call { callee := .builtin .copy, args := #[d, s], argTypes := #[67, 67] })
    (g off dLen dCap : Nat) (ad : Addr) (sLen sCap : Nat) (hd : a.eval d = .slice (some ⟨g, off, none⟩) dLen dCap) (hs : a.eval s = .slice (some ad) sLen sCap) (cur : Array Value) (hg : w.heap[g]? = some (.cells cur 72 (0, 0)))
    (cs : List Value) (n : Nat) (hn : Nat.min sLen dLen = n) (hl : cs.length = n * 2) (hsrc : ∀ j v, cs[j]? = some v → w.cell? (ad.add j) = some v) (hfit : off + cs.length ≤ cur.size) (h1 : ∀ v ∈ cs, v.oneCell' = true)
    (hK : ∀ w', w'.heap[g]? = some (.cells (layM cur off cs) 72 (0, 0)) → Only [g] w w' → K (a.put o.dst (goInt n)) w') : o.wp Try.prog a w K Q := by
  have r1 := run_copyM w o.type g off dLen dCap ad sLen sCap cur cs n hg hn hl hsrc hfit h1
  unfold Oper.wp execOp
  simp only [ho, resolve, invoke, builtin, Sem.run_bind, Sem.run_pure, Result.andThen_ok, List.map_toArray, List.map_cons, List.map_nil, hd, hs, r1]
  exact hK _ (setRow_heap w g _ _ _ _ hg) (Only.setRowM w g _)
theorem wpList_copyM {rest : List Oper} (hgd : o.guard = none) (d s : Operand) (ho : o.op = .call { callee := .builtin .copy, args := #[d, s], argTypes := #[67, 67] })
    (g off dLen dCap : Nat) (ad : Addr) (sLen sCap : Nat) (hd : a.eval d = .slice (some ⟨g, off, none⟩) dLen dCap) (hs : a.eval s = .slice (some ad) sLen sCap) (cur : Array Value) (hg : w.heap[g]? = some (.cells cur 72 (0, 0)))
    (cs : List Value) (n : Nat) (hn : Nat.min sLen dLen = n) (hl : cs.length = n * 2) (hsrc : ∀ j v, cs[j]? = some v → w.cell? (ad.add j) = some v) (hfit : off + cs.length ≤ cur.size) (h1 : ∀ v ∈ cs, v.oneCell' = true)
    (hK : ∀ w', w'.heap[g]? = some (.cells (layM cur off cs) 72 (0, 0)) → Only [g] w w' → wpList Try.prog ops Q rest (a.put o.dst (goInt n)) w') : wpList Try.prog ops Q (o :: rest) a w :=
  wpList_plain hgd fun _ hK' => wp_copyM d s ho g off dLen dCap ad sLen sCap hd hs cur hg cs n hn hl hsrc hfit h1 fun w' h2 h3 => hK' _ _ (hK w' h2 h3)
theorem step_copyM {E : Prop} (hgd : o.guard = none) (d s : Operand) (ho : o.op = .call { callee := .builtin .copy, args := #[d, s], argTypes := #[67, 67] })
    (g off dLen dCap : Nat) (ad : Addr) (sLen sCap : Nat) (hd : a.eval d = .slice (some ⟨g, off, none⟩) dLen dCap) (hs : a.eval s = .slice (some ad) sLen sCap) (cur : Array Value) (hg : w.heap[g]? = some (.cells cur 72 (0, 0)))
    (cs : List Value) (n : Nat) (hn : Nat.min sLen dLen = n) (hl : cs.length = n * 2) (hsrc : ∀ j v, cs[j]? = some v → w.cell? (ad.add j) = some v) (hfit : off + cs.length ≤ cur.size) (h1 : ∀ v ∈ cs, v.oneCell' = true)
    (hK : ∀ w', w'.heap[g]? = some (.cells (layM cur off cs) 72 (0, 0)) → Only [g] w w' → K (a.put o.dst (goInt n)) w') :
    if Region.wanted o (yielded ops a.tmps) = true then Oper.wp Try.prog o a w K Q else E := by
  have hw : Region.wanted o (yielded ops a.tmps) = true := by simp [Region.wanted, hgd]
  rw [if_pos hw]
  exact wp_copyM d s ho g off dLen dCap ad sLen sCap hd hs cur hg cs n hn hl hsrc hfit h1 hK
end
/-- Laid behind a known head. -/
theorem layM_behind {P R cs : List Value} {o : Nat} (h : P.length = o) : layM (P ++ R).toArray o cs = (P ++ cs ++ R.drop cs.length).toArray := by
  subst h
  unfold layM
  congr 1
  simp [List.drop_append]
theorem member_cells (x : (Int × Option Nat)) : ∀ v ∈ [Value.int .i64 x.1, mp x], v.oneCell' = true := by
  intro v hv
  simp at hv
  rcases hv with rfl | rfl <;> rfl
theorem mbox_src {w : World} {b : Nat} {x : (Int × Option Nat)} (h : MBox w b x) : ∀ j v, [Value.int .i64 x.1, mp x][j]? = some v → w.cell? ((⟨b, 0, none⟩ : Addr).add j) = some v := by
  intro j v hj
  match j, hj with
  | 0, hj => simp at hj; subst hj; exact h.c0
  | 1, hj => simp at hj; subst hj; exact h.c1
theorem msrc_box {w : World} {b : Nat} {x : (Int × Option Nat)} (h : MBox w b x) : mE.Src w (some ⟨b, 0, none⟩) [x] := El.Src.box h

/-- What comes of an item put into a row. -/
def PutM (w : World) (v : Value) (zs : List (Int × Option Nat)) (e : Ending) (w' : World) : Prop :=
  ∃ v', e = .returned v' ∧ MRow w' v' zs ∧ Only v.ownBlock.toList w w' ∧ (v'.ownBlock = v.ownBlock ∨ ∃ g, v'.ownBlock = some g ∧ w.heap.size ≤ g)

set_option maxRecDepth 100000 in
set_option maxHeartbeats 2000000 in
theorem minsert_end (w : World) (v : Value) (xs : List (Int × Option Nat)) (h : MRow w v xs) (vb : Nat) (x : (Int × Option Nat)) (hb : MBox w vb x) (hl : xs.length ≤ 1000000) :
    Calls Try.prog 59 #[v, .int .i64 (xs.length : Int), .slice (some ⟨vb, 0, none⟩) 1 1] w (PutM w v (xs ++ [x])) := by
  obtain ⟨A, cap, ev⟩ := h.form
  have hcap : xs.length ≤ cap := by
    rcases h.2 with ⟨e, e2⟩ | ⟨g, cap', cur, e, _, _, hn, _⟩
    · rw [ev] at e; injection e; omega
    · rw [ev] at e; injection e; omega
  subst ev
  have hA : A = none ∨ ∃ g, A = some ⟨g, 0, none⟩ := by
    rcases h.2 with ⟨e, e2⟩ | ⟨g, cap', cur, e, _, _, hn, _⟩
    · injection e with e; exact .inl e
    · injection e with e; exact .inr ⟨g, e⟩
  have H := Lib.hid h
  have HB := Lib.hid hb
  clear h hb
  generalize hn : xs.length = n at *
  have HN := Lib.hid hn
  clear hn
  rcases hA with rfl | ⟨g, rfl⟩
  all_goals
    go_enter Try.func59, Try.ntmps59
    go_wp2_with (at_builtin
                 refine El.wpList_append (E := mE) Try.underlying67 rfl (.tmp 23) (.tmp 24) rfl _ xs rfl H.out _ 1 _ [x] rfl rfl (msrc_box HB.out) (n + 1) (by rw [HN.out]) (by omega) ?_
                 intro A2 cap2 w2 r2 g2 l2
                 have R2 := Lib.hid (And.intro r2 (And.intro g2 l2))
                 clear r2 g2 l2)
    all_goals
      go_ret
      obtain ⟨r2, g2, l2⟩ := R2.out
      refine ⟨_, rfl, r2, (Only.refl _ _).grown g2 (fun k hk => .inl (Option.mem_toList.2 hk)), ?_⟩
      rcases l2 with l2 | l2
      · exact .inl l2
      · exact .inr ⟨_, l2, Nat.le_refl _⟩

/-! ### rows with one more, one less -/
theorem mrow_shift {cur : Array Value} {xs : List (Int × Option Nat)} {cap i : Nat} (x : (Int × Option Nat)) (hs : cur.size = cap * 2) (hc : cur.toList.take (xs.length * 2) = mflat xs) (hr : xs.length + 1 ≤ cap) (hi : i < xs.length) :
    (layM (layM cur ((i + 1) * 2) (mflat (xs.drop i))) (i * 2) [Value.int .i64 x.1, mp x]).size = cap * 2 ∧
    (layM (layM cur ((i + 1) * 2) (mflat (xs.drop i))) (i * 2) [Value.int .i64 x.1, mp x]).toList.take ((xs.length + 1) * 2) = mflat (xs.take i ++ x :: xs.drop i) := by
  have hl1 : (mflat (xs.drop i)).length = (xs.length - i) * 2 := by simp
  have hsz : (layM cur ((i + 1) * 2) (mflat (xs.drop i))).size = cur.size := layM_size (by rw [hl1]; omega)
  refine ⟨by rw [layM_size (by simp; omega), hsz, hs], ?_⟩
  obtain ⟨T, hT⟩ : ∃ T, cur.toList = mflat xs ++ T := ⟨cur.toList.drop (xs.length * 2), by rw [← hc, List.take_append_drop]⟩
  have hx : mflat xs = mflat (xs.take i) ++ mflat (xs.drop i) := by rw [← mflat_append, List.take_append_drop]
  have hlA : (mflat (xs.take i)).length = i * 2 := by simp; omega
  have hD : mflat (xs.drop i) = Value.int .i64 (xs[i]).1 :: mp (xs[i]) :: mflat (xs.drop (i + 1)) := by rw [List.drop_eq_getElem_cons hi, mflat_cons]
  have ecur : cur = ((mflat (xs.take i) ++ [Value.int .i64 (xs[i]).1, mp (xs[i])]) ++ (mflat (xs.drop (i + 1)) ++ T)).toArray := by
    apply Array.ext'
    rw [hT, hx, hD]
    simp
  have e1 : layM cur ((i + 1) * 2) (mflat (xs.drop i)) = (mflat (xs.take i) ++ ([Value.int .i64 (xs[i]).1, mp (xs[i])] ++ (mflat (xs.drop i) ++ (mflat (xs.drop (i + 1)) ++ T).drop (mflat (xs.drop i)).length))).toArray := by
    conv => lhs; rw [ecur]
    rw [layM_behind (by simp [hlA]; omega)]
    congr 1
    simp
  rw [e1, layM_behind hlA]
  have e2 : mflat (xs.take i ++ x :: xs.drop i) = mflat (xs.take i) ++ ([Value.int .i64 x.1, mp x] ++ mflat (xs.drop i)) := by rw [mflat_append, mflat_cons]; simp
  rw [e2]
  have e3 : ([Value.int .i64 (xs[i]).1, mp (xs[i])] ++ (mflat (xs.drop i) ++ (mflat (xs.drop (i + 1)) ++ T).drop (mflat (xs.drop i)).length)).drop [Value.int .i64 x.1, mp x].length = mflat (xs.drop i) ++ (mflat (xs.drop (i + 1)) ++ T).drop (mflat (xs.drop i)).length := by simp
  rw [e3]
  generalize (mflat (xs.drop (i + 1)) ++ T).drop (mflat (xs.drop i)).length = U
  rw [List.toList_toArray, ← List.append_assoc, List.take_append_of_le_length (by simp; omega)]
  rw [List.take_of_length_le (by simp; omega)]
  simp
theorem mrow_grown {ROW : Array Value} {Z : List Value} {xs : List (Int × Option Nat)} {G i : Nat} (x : (Int × Option Nat)) (hR : ROW = (mflat (xs.take i) ++ Z).toArray) (hZ : Z.length = (G - i) * 2) (hr : xs.length + 1 ≤ G) (hi : i < xs.length) :
    (layM (layM ROW (i * 2) [Value.int .i64 x.1, mp x]) ((i + 1) * 2) (mflat (xs.drop i))).size = G * 2 ∧
    (layM (layM ROW (i * 2) [Value.int .i64 x.1, mp x]) ((i + 1) * 2) (mflat (xs.drop i))).toList.take ((xs.length + 1) * 2) = mflat (xs.take i ++ x :: xs.drop i) := by
  have hl1 : (mflat (xs.drop i)).length = (xs.length - i) * 2 := by simp
  have hlA : (mflat (xs.take i)).length = i * 2 := by simp; omega
  have hRs : ROW.size = G * 2 := by rw [hR]; simp [hZ]; omega
  have hsz : (layM ROW (i * 2) [Value.int .i64 x.1, mp x]).size = ROW.size := layM_size (by simp; omega)
  refine ⟨by rw [layM_size (by rw [hl1, hsz]; omega), hsz, hRs], ?_⟩
  have e1 : layM ROW (i * 2) [Value.int .i64 x.1, mp x] = ((mflat (xs.take i) ++ [Value.int .i64 x.1, mp x]) ++ Z.drop 2).toArray := by
    rw [hR, layM_behind hlA]
    rfl
  rw [e1, layM_behind (by simp [hlA]; omega)]
  have e2 : mflat (xs.take i ++ x :: xs.drop i) = mflat (xs.take i) ++ [Value.int .i64 x.1, mp x] ++ mflat (xs.drop i) := by rw [mflat_append, mflat_cons]; simp
  rw [e2, List.toList_toArray, List.take_append_of_le_length (by simp; omega), List.take_of_length_le (by simp; omega)]

set_option maxRecDepth 100000 in
set_option maxHeartbeats 4000000 in
theorem minsert_room (w : World) (g cap : Nat) (cur : Array Value) (xs : List (Int × Option Nat)) (hg : w.heap[g]? = some (.cells cur 72 (0, 0))) (hs : cur.size = cap * 2) (hc : cur.toList.take (xs.length * 2) = mflat xs) (hcm : cap ≤ maxLen)
    (vb : Nat) (x : (Int × Option Nat)) (hb : MBox w vb x) (hne : vb ≠ g) (i : Nat) (hi : i < xs.length) (hr : xs.length + 1 ≤ cap) (hl : xs.length ≤ 1000000) :
    Calls Try.prog 59 #[.slice (some ⟨g, 0, none⟩) xs.length cap, .int .i64 (i : Int), .slice (some ⟨vb, 0, none⟩) 1 1] w (PutM w (.slice (some ⟨g, 0, none⟩) xs.length cap) (xs.take i ++ x :: xs.drop i)) := by
  have hov : ∀ lb cb, (callFunc 82 #[.slice (some ⟨vb, 0, none⟩) 1 1, .slice (some ⟨g, (i + 1) * 2, none⟩) lb cb]).run Try.prog w = .ok (.value (.bool false)) w := fun lb cb => by
    rw [run_callFunc_extern Try.func82 (by kernel_rfl) (by kernel_rfl) (by kernel_rfl) (e := Extern.SlicesOverlaps.overlaps #[67, 67] #[4]) (by kernel_rfl),
      Lib.run_overlaps_apart w 67 4 72 Try.underlying67 2 Try.sizeOf72 ⟨vb, 0, none⟩ ⟨g, (i + 1) * 2, none⟩ 1 1 lb cb hne 72 72 2 cur.size (by unfold MBox at hb; simp [World.shape?, hb]) (by simp [World.shape?, hg]) (by omega) (hb.fr 0) (by unfold MBox at hb; simp [World.frozen?, hb])]
    rfl
  have hRow := Lib.hid (mrow_shift x hs hc hr hi)
  have hsrc : Hid (∀ j v, (mflat (xs.drop i))[j]? = some v → w.drew.cell? ((⟨g, i * 2, none⟩ : Addr).add j) = some v) := by
    have h9 : MRow w (.slice (some ⟨g, 0, none⟩) xs.length cap) xs := ⟨mflat_length _, .inr ⟨g, cap, cur, rfl, Nat.zero_le _, hg, by omega, hcm, hs, hc⟩⟩
    intro j v hj
    obtain ⟨ad, e, h8⟩ := El.Src.drop (E := mE) h9 i (by intro e; rw [e] at hj; simp [mflat, El.flat] at hj)
    injection e with e
    subst e
    exact h8 j v hj
  have hfl : Hid ((mflat (xs.drop i)).length = (xs.length - i) * 2) := by show _ = _; simp
  have HG := Lib.hid hg
  have HB := Lib.hid hb
  have HS := Lib.hid hs
  have i1 : (i : Int) < (xs.length : Int) := by omega
  have i2 : ¬ ((i : Int) = (xs.length : Int)) := by omega
  have i3 : ¬ (cap = i) := by omega
  have i4 : ¬ (cap = i + 1) := by omega
  have i5 : (xs.length : Int) + 1 ≤ (cap : Int) := by omega
  have i6 : cap ≤ 9223372036854775807 := by unfold maxLen at hcm; omega
  clear hg hb hs hc hcm
  generalize hn : xs.length = n at *
  have hw1 : IntKind.i64.wrap ((i : Int) + 1) = (i : Int) + 1 := by rw [IntKind.wrap_i64]; omega
  have hb1 : (0 : Int) ≤ (i : Int) + 1 := by omega
  have hin : i ≤ n := by omega
  have htn : ((i : Int) + 1).toNat = i + 1 := by omega
  have hb3 : (i : Int) ≤ (n : Int) + 1 := by omega
  have hb5 : (i : Int) + 1 ≤ (n : Int) + 1 := by omega
  go_enter Try.func59, Try.ntmps59
  go_wp2_with (simp only [hov])
  go_region_law (refine step_copyM rfl (.tmp 73) (.tmp 76) rfl g ((i + 1) * 2) (n + 1 - (i + 1)) (cap - (i + 1)) ⟨g, i * 2, none⟩ (n + 1 - i) (cap - i) (by simp [Act.eval, Act.put]) (by simp [Act.eval, Act.put]) cur HG.out (mflat (xs.drop i)) (n - i) (by simp only [Nat.min_def]; split <;> omega) hfl.out hsrc.out (by rw [hfl.out, HS.out]; omega) (mflat_one _) ?_; intro w2 h2 o2; have R2 := Lib.hid (And.intro h2 o2); clear h2 o2)
  go_wp2_with (refine wpList_copyM rfl (.tmp 80) (.tmp 81) rfl g (i * 2) (n + 1 - i) (cap - i) ⟨vb, 0, none⟩ 1 1 rfl rfl _ R2.out.1 [.int .i64 x.1, mp x] 1 (by simp only [Nat.min_def]; split <;> omega) rfl (mbox_src (HB.out.only ((Only.refl [g] w).drew.trans' R2.out.2) (by simpa using hne))) (by rw [layM_size (by rw [hfl.out, HS.out]; omega), HS.out]; simp; omega) (member_cells x) ?_; intro w3 h3 o3; have R3 := Lib.hid (And.intro h3 o3); clear h3 o3)
  go_ret
  obtain ⟨h3, o3⟩ := R3.out
  have o9 : Only [g] w w3 := ((Only.refl [g] w).drew.trans' R2.out.2).trans' o3
  have el : (xs.take i ++ x :: xs.drop i).length = n + 1 := by simp; omega
  refine ⟨_, rfl, ⟨mflat_length _, .inr ⟨g, cap, _, congrArg (fun m => Value.slice _ m _) el.symm, Nat.zero_le _, h3, by rw [el]; omega, by unfold maxLen; omega, hRow.out.1, by rw [el]; exact hRow.out.2⟩⟩, o9, .inl rfl⟩

set_option maxRecDepth 100000 in
set_option maxHeartbeats 4000000 in
theorem minsert_grow (w : World) (g cap : Nat) (cur : Array Value) (xs : List (Int × Option Nat)) (hg : w.heap[g]? = some (.cells cur 72 (0, 0))) (hs : cur.size = cap * 2) (hc : cur.toList.take (xs.length * 2) = mflat xs) (hcm : cap ≤ maxLen)
    (vb : Nat) (x : (Int × Option Nat)) (hb : MBox w vb x) (hne : vb ≠ g) (i : Nat) (hi : i < xs.length) (hlc : xs.length ≤ cap) (hr : cap < xs.length + 1) (hl : xs.length ≤ 1000000) :
    Calls Try.prog 59 #[.slice (some ⟨g, 0, none⟩) xs.length cap, .int .i64 (i : Int), .slice (some ⟨vb, 0, none⟩) 1 1] w (PutM w (.slice (some ⟨g, 0, none⟩) xs.length cap) (xs.take i ++ x :: xs.drop i)) := by
  obtain ⟨i0, hi0, hz0, hz1, hz2⟩ := info_parts member_info
  have h9 : MRow w (.slice (some ⟨g, 0, none⟩) xs.length cap) xs := ⟨mflat_length _, .inr ⟨g, cap, cur, rfl, Nat.zero_le _, hg, by omega, hcm, hs, hc⟩⟩
  have hsrc : ∀ j v, (mflat (xs.drop i))[j]? = some v → w.cell? ((⟨g, i * 2, none⟩ : Addr).add j) = some v := by
    intro j v hj
    obtain ⟨ad, e, h8⟩ := El.Src.drop (E := mE) h9 i (by intro e; rw [e] at hj; simp [mflat, El.flat] at hj)
    injection e with e
    subst e
    exact h8 j v hj
  have hold : (Builtin.firstCells i0.size i (.slice (some ⟨g, 0, none⟩) i cap)).run Try.prog w.drew = .ok (mflat (xs.take i)).toArray w.drew := by
    rw [hz1]
    refine run_firstCells_some w.drew 2 i ⟨g, 0, none⟩ i cap (mflat (xs.take i)) (by simp; omega) (fun j v hj => ?_)
    obtain ⟨ad, e, h8⟩ := El.Src.take (E := mE) (El.Src.of_row h9) i (by intro e; rw [e] at hj; simp [mflat, El.flat] at hj)
    injection e with e
    subst e
    exact h8 j v hj
  have hkk : (xs.length : Int) + 1 - (i : Int) = ((xs.length + 1 - i : Nat) : Int) := by omega
  have hik : i + (xs.length + 1 - i) = xs.length + 1 := by omega
  obtain ⟨G, hG⟩ : ∃ G, G = grownCap w (xs.length + 1) cap 72 := ⟨_, rfl⟩
  obtain ⟨ROW, hROW⟩ : ∃ ROW : Array Value, ROW = (mflat (xs.take i)).toArray ++ Builtin.zeroCells (Value.agg #[.int .i64 0, .pointer none]).cells (xs.length + 1 - i) ++ Builtin.zeroCells (Value.agg #[.int .i64 0, .pointer none]).cells (G - (xs.length + 1)) := ⟨_, rfl⟩
  have hrz : ∀ ty, (Builtin.append_ #[67, 3] ty #[.slice (some ⟨g, 0, none⟩) i cap, .int .i64 ((xs.length : Int) + 1 - (i : Int))]).run Try.prog w = .ok (.slice (some ⟨w.heap.size, 0, none⟩) (xs.length + 1) G) (w.drew.alloc (.cells ROW 72)) := fun ty => by
    have h := Lib.run_append_grow_zeros (P := Try.prog) w 67 3 ty 72 i0 _ .i64 .i64 Try.underlying67 Try.underlying3 hi0 hz0 (some ⟨g, 0, none⟩) i cap (mflat (xs.take i)) hold (xs.length + 1 - i) (by omega) (by rw [hz1]; omega) (by omega) (by omega) (by rw [hz2]; omega) (by rw [hz2, hik]; exact growslice_fits hr (by omega))
    rw [hik] at h
    rw [hkk, hROW, hG]
    exact h
  have hGn : xs.length + 1 ≤ G := by rw [hG]; exact grownCap_ge w _ _ _
  have hGm : G ≤ maxLen := by rw [hG]; exact grownCap_le_maxLen w _ _ _ (by unfold maxLen; omega)
  have hG63 : G ≤ 9223372036854775807 := by unfold maxLen at hGm; omega
  obtain ⟨Z, hZ, hZl⟩ : ∃ Z : List Value, ROW = (mflat (xs.take i) ++ Z).toArray ∧ Z.length = (G - i) * 2 :=
    ⟨(Builtin.zeroCells (Value.agg #[.int .i64 0, .pointer none]).cells (xs.length + 1 - i)).toList ++ (Builtin.zeroCells (Value.agg #[.int .i64 0, .pointer none]).cells (G - (xs.length + 1))).toList, by rw [hROW]; apply Array.ext'; simp, by
      have hz : ∀ n, (Builtin.zeroCells (Value.agg #[.int .i64 0, .pointer none]).cells n).size = n * 2 := fun n => by simp [Builtin.zeroCells, Value.cells]
      simp only [List.length_append, Array.length_toList, hz]; omega⟩
  have hRow := Lib.hid (mrow_grown x hZ hZl hGn hi)
  have hfl : Hid ((mflat (xs.drop i)).length = (xs.length - i) * 2) := by show _ = _; simp
  have hgw : g < w.heap.size := (Array.getElem?_eq_some_iff.1 hg).1
  have hRs : Hid (ROW.size = G * 2) := by
    show _ = _
    rw [hZ]; simp [hZl]; omega
  have HG : Hid ((w.drew.alloc (.cells ROW 72)).heap[w.heap.size]? = some (.cells ROW 72 (0, 0))) := heap_alloc_new w.drew _
  have o1 : Hid (Only [] w (w.drew.alloc (.cells ROW 72))) := (Only.refl [] w).drew.alloc _
  have HB := Lib.hid hb
  have HC := Lib.hid hsrc
  have hS : Hid (w.heap.size ≤ (w.drew.alloc (.cells ROW 72)).heap.size) := o1.out.size
  obtain ⟨N, eN⟩ : ∃ N, w.heap.size = N := ⟨_, rfl⟩
  have HN := Lib.hid eN
  rw [eN] at hrz HG hgw hS
  have i1 : (i : Int) < (xs.length : Int) := by omega
  have i2 : ¬ ((i : Int) = (xs.length : Int)) := by omega
  have i3 : ¬ (cap = i) := by omega
  have i5 : (cap : Int) < (xs.length : Int) + 1 := by omega
  have hGi : ¬ (G = i) := by omega
  have hGim : ¬ (G = i + 1) := by omega
  have i6 : cap ≤ 9223372036854775807 := by unfold maxLen at hcm; omega
  clear hg hb hs hc hcm eN h9 hsrc hold hkk hik hROW hG hi0 hz0 hz1 hz2 hZ hZl
  generalize hn : xs.length = n at *
  have hw1 : IntKind.i64.wrap ((i : Int) + 1) = (i : Int) + 1 := by rw [IntKind.wrap_i64]; omega
  have hb1 : (0 : Int) ≤ (i : Int) + 1 := by omega
  have hin : i ≤ n := by omega
  have htn : ((i : Int) + 1).toNat = i + 1 := by omega
  have hb3 : (i : Int) ≤ (n : Int) := by omega
  have hb5 : (i : Int) + 1 ≤ (n : Int) + 1 := by omega
  go_enter Try.func59, Try.ntmps59
  go_wp2_with (first
    | (at_builtin; refine Lib.wpList_append_run _ rfl _ _ _ _ rfl _ _ rfl rfl _ _ (hrz _) ?_)
    | (refine wpList_copyM rfl (.tmp 43) (.tmp 44) rfl N (i * 2) (n + 1 - i) (G - i) ⟨vb, 0, none⟩ 1 1 rfl rfl ROW HG.out [.int .i64 x.1, mp x] 1 (Nat.min_eq_left (by omega)) rfl (mbox_src (HB.out.only o1.out (by simp))) (by rw [hRs.out]; simp; omega) (member_cells x) ?_; intro w2 h2 o2; have R2 := Lib.hid (And.intro h2 o2); clear h2 o2))
  go_region_law (refine step_copyM rfl (.tmp 50) (.tmp 53) rfl N ((i + 1) * 2) (n + 1 - (i + 1)) (G - (i + 1)) ⟨g, i * 2, none⟩ (n - i) (cap - i) (by simp [Act.eval, Act.put]) (by simp [Act.eval, Act.put]) _ R2.out.1 (mflat (xs.drop i)) (n - i) (by simp only [Nat.min_def]; split <;> omega) hfl.out (fun j v hj => by
      have hb : ((⟨g, i * 2, none⟩ : Addr).add j).block = g := by unfold Addr.add; split <;> rfl
      have hw := HN.out
      have h5 := ((o1.out.mono (T := [N]) (by simp)).trans' (show Only [N] (w.drew.alloc (.cells ROW 72)) w2 from R2.out.2)).cell (p := (⟨g, i * 2, none⟩ : Addr).add j) (by rw [hb]; omega) (by rw [hb]; simp; omega)
      exact h5.trans (HC.out j v hj)) (by rw [hfl.out, layM_size (by rw [hRs.out]; simp; omega), hRs.out]; omega) (mflat_one _) ?_; intro w3 h3 o3; have R3 := Lib.hid (And.intro h3 o3); clear h3 o3)
  go_wp2_with fail
  go_ret
  obtain ⟨h3, o3⟩ := R3.out
  have o9 : Only [] w w3 := (o1.out.trans (show Only [N] (w.drew.alloc (.cells ROW 72)) w2 from R2.out.2) (by simp [HN.out])).trans ((Only.refl [N] w2).drew.trans' o3) (by simp [HN.out])
  have el : (xs.take i ++ x :: xs.drop i).length = n + 1 := by simp; omega
  refine ⟨_, rfl, ⟨mflat_length _, .inr ⟨N, G, _, congrArg (fun m => Value.slice _ m _) el.symm, Nat.zero_le _, h3, by rw [el]; omega, hGm, hRow.out.1, by rw [el]; exact hRow.out.2⟩⟩, o9.mono (by simp), .inr ⟨N, rfl, by rw [HN.out]; exact Nat.le_refl _⟩⟩

/-- One item put into a row that rises, at its place. -/
theorem minsert (w : World) (v : Value) (xs : List (Int × Option Nat)) (h : MRow w v xs) (vb : Nat) (x : (Int × Option Nat)) (hb : MBox w vb x) (hne : v.ownBlock ≠ some vb) (i : Nat) (hi : i ≤ xs.length) (hl : xs.length ≤ 1000000) :
    Calls Try.prog 59 #[v, .int .i64 (i : Int), .slice (some ⟨vb, 0, none⟩) 1 1] w (PutM w v (xs.take i ++ x :: xs.drop i)) := by
  by_cases he : i = xs.length
  · subst he
    rw [List.take_length, List.drop_length]
    exact minsert_end w v xs h vb x hb hl
  · rcases h.2 with ⟨rfl, e⟩ | ⟨g, cap, cur, rfl, h0, hg, hn, hcm, hs, hc⟩
    · omega
    · have hvg : vb ≠ g := fun e => hne (by rw [e]; rfl)
      by_cases hr : xs.length + 1 ≤ cap
      · exact minsert_room w g cap cur xs hg hs hc hcm vb x hb hvg i (by omega) hr hl
      · exact minsert_grow w g cap cur xs hg hs hc hcm vb x hb hvg i (by omega) hn (by omega) hl
theorem setCells_rowM (w : World) (g o : Nat) (cur : Array Value) (vs : List Value) (hg : w.heap[g]? = some (.cells cur 72 (0, 0))) (hfit : o + vs.length ≤ cur.size) (h1 : ∀ v ∈ vs, v.oneCell' = true) : w.setCells g o vs = w.setRow g (layM cur o vs) := by
  have a := run_storeCells_cells (P := Try.prog) g o vs 0 w (fun j hj => by rw [cell_of_row w g _ cur _ (0, 0) hg, Array.getElem?_eq_getElem (by omega)]; rfl) (fun j hj => by simp [World.frozen?, hg]) h1
  have b := run_storeCells_at Try.prog g o 72 vs 0 cur w hg (by simpa using hfit) h1
  rw [a] at b
  injection b with _ b
theorem member_zero : (Builtin.zeroCells (Value.agg #[.int .i64 0, .pointer none]).cells 1).toList = [.int .i64 0, .pointer none] := by kernel_rfl
theorem zero_member (w : World) : (zeroValue 72).run Try.prog w = .ok (.agg #[.int .i64 0, .pointer none]) w := by kernel_rfl
theorem run_clearM (w : World) (ty : TypeId) (g o c : Nat) (cur : Array Value) (hg : w.heap[g]? = some (.cells cur 72 (0, 0))) (hfit : o + 2 ≤ cur.size) :
    (Builtin.clear_ #[67] ty #[.slice (some ⟨g, o, none⟩) 1 c]).run Try.prog w = .ok (.tuple #[]) (w.setRow g (layM cur o [.int .i64 0, .pointer none])) := by
  have b := run_storeCells_at Try.prog g o 72 [.int .i64 0, .pointer none] 0 cur w hg (by simpa using hfit) (member_cells (0, none))
  simp only [Nat.add_zero] at b
  unfold layM
  simp [Builtin.clear_, run_underlying Try.underlying67, zero_member, member_zero, b]

section
variable {w : World} {ops : Array Oper} {o : Oper} {a : Act} {K : Act → World → Prop} {Q : Exit → Act → World → Prop}
theorem wpList_clearM {rest : List Oper} (hgd : o.guard = none) (d : Operand) (ho : o.op = .call { callee := .builtin .clear, args := #[d], argTypes := #[67] })
    (g off k c : Nat) (hk : k = 1) (hd : a.eval d = .slice (some ⟨g, off, none⟩) k c) (cur : Array Value) (hg : w.heap[g]? = some (.cells cur 72 (0, 0))) (hfit : off + 2 ≤ cur.size)
    (hK : ∀ w', w'.heap[g]? = some (.cells (layM cur off [.int .i64 0, .pointer none]) 72 (0, 0)) → Only [g] w w' → wpList Try.prog ops Q rest (a.put o.dst (.tuple #[])) w') : wpList Try.prog ops Q (o :: rest) a w := by
  subst hk
  refine wpList_plain hgd fun K hK' => ?_
  have r1 := run_clearM w o.type g off c cur hg hfit
  unfold Oper.wp execOp
  simp only [ho, resolve, invoke, builtin, Sem.run_bind, Sem.run_pure, Result.andThen_ok, List.map_toArray, List.map_cons, List.map_nil, hd, r1]
  exact hK' _ _ (hK _ (setRow_heap w g _ _ _ _ hg) (Only.setRowM w g _))
theorem step_appendM {E : Prop} (hgd : o.guard = none) (s x : Operand) (ho : o.op = .call { callee := .builtin .append, args := #[s, x], argTypes := #[67, 67] })
    (g n cap : Nat) (hs : a.eval s = .slice (some ⟨g, 0, none⟩) n cap) (ad : Addr) (m c : Nat) (hx : a.eval x = .slice (some ad) m c) (cur : Array Value) (hg : w.heap[g]? = some (.cells cur 72 (0, 0)))
    (cs : List Value) (hl : cs.length = m * 2) (hsrc : ∀ j v, cs[j]? = some v → w.cell? (ad.add j) = some v) (h1 : ∀ v ∈ cs, v.oneCell' = true) (N : Nat) (hN : n + m = N) (hroom : N ≤ cap) (hsz : cur.size = cap * 2)
    (hK : ∀ w', w'.heap[g]? = some (.cells (layM cur (n * 2) cs) 72 (0, 0)) → Only [g] w w' → K (a.put o.dst (.slice (some ⟨g, 0, none⟩) N cap)) w') :
    if Region.wanted o (yielded ops a.tmps) = true then Oper.wp Try.prog o a w K Q else E := by
  subst hN
  obtain ⟨i0, hi0, hz0, hz1, hz2⟩ := info_parts member_info
  refine step_append_room hgd s x 67 ho 72 i0 2 Try.underlying67 hi0 hz1 g 0 n cap hs ad m c cs hx hl hsrc h1 hroom (fun j hj => ⟨?_, ?_⟩) ?_
  · rw [cell_of_row w g _ cur _ (0, 0) hg, Array.getElem?_eq_getElem (by omega)]; rfl
  · simp [World.frozen?, hg]
  · rw [Nat.zero_add, setCells_rowM w g (n * 2) cur cs hg (by omega) h1]
    exact hK _ (setRow_heap w g _ _ _ _ hg) (Only.setRowM w g _)
end
theorem mrow_less {cur : Array Value} {xs : List (Int × Option Nat)} {cap i : Nat} (hs : cur.size = cap * 2) (hc : cur.toList.take (xs.length * 2) = mflat xs) (hr : xs.length ≤ cap) (hi : i < xs.length) :
    (layM (layM cur (i * 2) (mflat (xs.drop (i + 1)))) ((xs.length - 1) * 2) [Value.int .i64 0, Value.pointer none]).size = cap * 2 ∧
    (layM (layM cur (i * 2) (mflat (xs.drop (i + 1)))) ((xs.length - 1) * 2) [Value.int .i64 0, Value.pointer none]).toList.take ((xs.length - 1) * 2) = mflat (xs.eraseIdx i) := by
  have hl1 : (mflat (xs.drop (i + 1))).length = (xs.length - (i + 1)) * 2 := by simp
  have hsz : (layM cur (i * 2) (mflat (xs.drop (i + 1)))).size = cur.size := layM_size (by rw [hl1]; omega)
  refine ⟨by rw [layM_size (by simp; omega), hsz, hs], ?_⟩
  have e0 : (layM (layM cur (i * 2) (mflat (xs.drop (i + 1)))) ((xs.length - 1) * 2) [Value.int .i64 0, Value.pointer none]).toList.take ((xs.length - 1) * 2) = (layM cur (i * 2) (mflat (xs.drop (i + 1)))).toList.take ((xs.length - 1) * 2) := by
    generalize hL : layM cur (i * 2) (mflat (xs.drop (i + 1))) = L at *
    unfold layM
    rw [List.toList_toArray, List.append_assoc, List.take_append_of_le_length (by simp; omega), List.take_take, Nat.min_self]
  rw [e0]
  obtain ⟨T, hT⟩ : ∃ T, cur.toList = mflat xs ++ T := ⟨cur.toList.drop (xs.length * 2), by rw [← hc, List.take_append_drop]⟩
  have hx : mflat xs = mflat (xs.take i) ++ mflat (xs.drop i) := by rw [← mflat_append, List.take_append_drop]
  have hlA : (mflat (xs.take i)).length = i * 2 := by simp; omega
  have ecur : cur = (mflat (xs.take i) ++ (mflat (xs.drop i) ++ T)).toArray := by
    apply Array.ext'
    rw [hT, hx]
    simp
  have e1 : layM cur (i * 2) (mflat (xs.drop (i + 1))) = (mflat (xs.take i) ++ mflat (xs.drop (i + 1)) ++ (mflat (xs.drop i) ++ T).drop (mflat (xs.drop (i + 1))).length).toArray := by
    conv => lhs; rw [ecur]
    rw [layM_behind hlA]
  rw [e1, List.toList_toArray, List.take_append_of_le_length (by simp; omega), List.take_of_length_le (by simp; omega), ← mflat_append, ← List.eraseIdx_eq_take_drop_succ]

set_option maxRecDepth 100000 in
set_option maxHeartbeats 4000000 in
theorem mdelete (w : World) (v : Value) (xs : List (Int × Option Nat)) (h : MRow w v xs) (i : Nat) (hi : i < xs.length) (hl : xs.length ≤ 1000000) :
    Calls Try.prog 62 #[v, .int .i64 (i : Int), .int .i64 ((i : Int) + 1)] w (PutM w v (xs.eraseIdx i)) := by
  rcases h.2 with ⟨rfl, e⟩ | ⟨g, cap, cur, rfl, h0, hg, hn, hcm, hs, hc⟩
  · omega
  have hRow := Lib.hid (mrow_less hs hc hn hi)
  have hfl : Hid ((mflat (xs.drop (i + 1))).length = (xs.length - (i + 1)) * 2) := by show _ = _; simp
  obtain ⟨ad, hA, hsrc⟩ : ∃ ad : Addr, (if cap = i + 1 then (⟨g, 0, none⟩ : Addr) else ⟨g, (i + 1) * 2, none⟩) = ad ∧ Hid (∀ j v, (mflat (xs.drop (i + 1)))[j]? = some v → w.drew.cell? (ad.add j) = some v) := by
    refine ⟨_, rfl, fun j v hj => ?_⟩
    have hne : xs.drop (i + 1) ≠ [] := by intro e; rw [e] at hj; simp [mflat, El.flat] at hj
    have hlt : i + 1 < xs.length := by
      rcases Nat.lt_or_ge (i + 1) xs.length with h1 | h1
      · exact h1
      · exact absurd (List.drop_eq_nil_of_le h1) hne
    rw [if_neg (by omega)]
    obtain ⟨ad, e, h8⟩ := El.Src.drop (E := mE) h (i + 1) hne
    injection e with e
    subst e
    exact h8 j v hj
  have HG := Lib.hid hg
  have HS := Lib.hid hs
  have i1 : (i : Int) < (xs.length : Int) := by omega
  have i2 : (i : Int) + 1 ≤ (xs.length : Int) := by omega
  have i3 : ¬ (cap = i) := by omega
  have i6 : cap ≤ 9223372036854775807 := by unfold maxLen at hcm; omega
  clear hg hs hc h
  generalize hn' : xs.length = n at *
  have i7 : ¬ (cap = n - 1) := by omega
  have hw1 : IntKind.i64.wrap ((i : Int) + 1) = (i : Int) + 1 := by rw [IntKind.wrap_i64]; omega
  have hb1 : (0 : Int) ≤ (i : Int) + 1 := by omega
  have hin : i ≤ n := by omega
  have htn : ((i : Int) + 1).toNat = i + 1 := by omega
  have hic : i ≤ cap := by omega
  have hic2 : i + 1 ≤ cap := by omega
  have hne : ¬ ((i : Int) = (i : Int) + 1) := by omega
  have hii : (i : Int) ≤ (i : Int) + 1 := by omega
  rcases Decidable.em (cap = i + 1) with rfl | hca
  · rw [if_pos rfl] at hA
    subst hA
    go_enter Try.func62, Try.ntmps62
    go_wp2_with fail
    go_region_law (refine step_appendM rfl (.tmp 22) (.tmp 25) rfl g i (i + 1) (by simp [Act.eval, Act.put]) _ 0 0 (by simp [Act.eval, Act.put]) cur HG.out (mflat (xs.drop (i + 1))) (by rw [hfl.out]; omega) hsrc.out (mflat_one _) (n - 1) (by omega) (by omega) HS.out ?_; intro w2 h2 o2; have R2 := Lib.hid (And.intro h2 o2); clear h2 o2)
    go_wp2_with (refine wpList_clearM rfl (.tmp 31) rfl g ((n - 1) * 2) (n - (n - 1)) _ (by omega) rfl _ R2.out.1 (by rw [layM_size (by rw [hfl.out, HS.out]; omega), HS.out]; omega) ?_; intro w3 h3 o3; have R3 := Lib.hid (And.intro h3 o3); clear h3 o3)
    go_ret
    obtain ⟨h3, o3⟩ := R3.out
    have o9 : Only [g] w w3 := ((Only.refl [g] w).drew.trans' R2.out.2).trans' o3
    have el : (xs.eraseIdx i).length = n - 1 := by rw [List.length_eraseIdx_of_lt (by omega)]; omega
    exact ⟨_, rfl, ⟨mflat_length _, .inr ⟨g, i + 1, _, congrArg (fun m => Value.slice _ m _) el.symm, Nat.zero_le _, h3, by rw [el]; omega, hcm, hRow.out.1, by rw [el]; exact hRow.out.2⟩⟩, o9, .inl rfl⟩
  · rw [if_neg hca] at hA
    subst hA
    go_enter Try.func62, Try.ntmps62
    go_wp2_with fail
    go_region_law (refine step_appendM rfl (.tmp 22) (.tmp 25) rfl g i cap (by simp [Act.eval, Act.put]) _ (n - (i + 1)) (cap - (i + 1)) (by simp [Act.eval, Act.put]) cur HG.out (mflat (xs.drop (i + 1))) hfl.out hsrc.out (mflat_one _) (n - 1) (by omega) (by omega) HS.out ?_; intro w2 h2 o2; have R2 := Lib.hid (And.intro h2 o2); clear h2 o2)
    go_wp2_with (refine wpList_clearM rfl (.tmp 31) rfl g ((n - 1) * 2) (n - (n - 1)) _ (by omega) rfl _ R2.out.1 (by rw [layM_size (by rw [hfl.out, HS.out]; omega), HS.out]; omega) ?_; intro w3 h3 o3; have R3 := Lib.hid (And.intro h3 o3); clear h3 o3)
    go_ret
    obtain ⟨h3, o3⟩ := R3.out
    have o9 : Only [g] w w3 := ((Only.refl [g] w).drew.trans' R2.out.2).trans' o3
    have el : (xs.eraseIdx i).length = n - 1 := by rw [List.length_eraseIdx_of_lt (by omega)]; omega
    exact ⟨_, rfl, ⟨mflat_length _, .inr ⟨g, cap, _, congrArg (fun m => Value.slice _ m _) el.symm, Nat.zero_le _, h3, by rw [el]; omega, hcm, hRow.out.1, by rw [el]; exact hRow.out.2⟩⟩, o9, .inl rfl⟩
end Go.Proofs.Ytklolepmmabijaa

namespace Go.Proofs.Ytklolepmmabijaa
set_option maxRecDepth 100000
open Go.RowKit
set_option linter.unusedVariables false
set_option linter.unusedSimpArgs false
set_option maxRecDepth 100000

def cmpZ (x y : Int) : Int := if x < y then -1 else if y < x then 1 else 0
theorem sCmp (x y : Int) (w : World) : Calls Try.prog 96 #[.int .i64 x, .int .i64 y] w fun e w' => e = .returned (.int .i64 (cmpZ x y)) ∧ w' = w := by
  have nan : ∀ (z : Int) (w : World), Calls Try.prog 103 #[.int .i64 z] w fun e w' => e = .returned (.bool false) ∧ w' = w := fun z w => by
    have hz : (z != z) = false := by simp
    go_enter Try.func103, Try.ntmps103
    go_wp2
    go_ret
    exact ⟨by simp, rfl⟩
  unfold cmpZ
  rcases Int.lt_trichotomy x y with h | h | h
  · rw [if_pos h]
    go_enter Try.func96, Try.ntmps96
    go_wp2_with (first
      | (go_at_call 103; refine (nan _ _).mono ?_; rintro e w1 ⟨rfl, rfl⟩))
    go_ret
    exact ⟨rfl, rfl⟩
  · subst h
    rw [if_neg (by omega), if_neg (by omega)]
    go_enter Try.func96, Try.ntmps96
    go_wp2_with (first
      | (go_at_call 103; refine (nan _ _).mono ?_; rintro e w1 ⟨rfl, rfl⟩))
    go_ret
    exact ⟨rfl, rfl⟩
  · have h' : ¬ x < y := by omega
    rw [if_neg h', if_pos h]
    go_enter Try.func96, Try.ntmps96
    go_wp2_with (first
      | (go_at_call 103; refine (nan _ _).mono ?_; rintro e w1 ⟨rfl, rfl⟩))
    go_ret
    exact ⟨rfl, rfl⟩
theorem sAgainst (a : Int) (p : Value) (id : Int) (w : World) : Calls Try.prog 81 #[.agg #[.int .i64 a, p], .int .i64 id] w fun e w' => e = .returned (.int .i64 (cmpZ a id)) ∧ Only [] w w' := by
  go_enter Try.func81, Try.ntmps81
  go_wp2_with (first
      | (go_at_call 96; refine (sCmp _ _ _).mono ?_; rintro e w1 ⟨rfl, rfl⟩))
  go_ret
  exact ⟨rfl, (Only.refl [] w).alloc _⟩
end Go.Proofs.Ytklolepmmabijaa

namespace Go.Proofs.Ytklolepmmabijaa
set_option maxRecDepth 100000
open Go.RowKit
set_option linter.unusedVariables false
set_option linter.unusedSimpArgs false
set_option maxRecDepth 100000

/-- The cells of an entry, wherever the row is still as it was. -/
theorem mrow_at {w : World} {A : Option Addr} {m cap : Nat} {es : List En} (h : mE.Row w (.slice A m cap) (es.map En.mb)) : ∀ W, Only [] w W → ∀ k e, es[k]? = some e → ∃ g, A = some ⟨g, 0, none⟩ ∧ W.cell? ⟨g, k * 2, none⟩ = some (.int .i64 e.id) ∧ W.cell? ⟨g, k * 2 + 1, none⟩ = some (.pointer (some ⟨e.b, 0, none⟩)) := by
  intro W hW k e he
  obtain ⟨g, e1, _, hc⟩ := (h.only0 hW).cell (k := k) (x := e.mb) (by rw [List.getElem?_map, he]; rfl)
  exact ⟨g, e1, (hc 0 _ rfl).1, (hc 1 _ rfl).1⟩

set_option maxHeartbeats 2000000 in
theorem sSearch (w : World) (v : Value) (es : List En) (h : mE.Row w v (es.map En.mb)) (K : List (Int × Fl)) (hK : es.map En.key = K) (hr : Srt K) (id : Int) (hl : es.length ≤ 1000000) :
    Calls Try.prog 80 #[v, .int .i64 id, .func (.func 81) #[] #[]] w fun e w' => e = .returned (.tuple #[.int .i64 (posK K id : Int), .bool (hasK K id)]) ∧ Only [] w w' := by
  obtain ⟨A, cap, ev⟩ := h.form
  rw [List.length_map] at ev
  subst ev
  have row := Lib.hid (mrow_at h)
  have HK : Hid (∀ (i : Nat) (e : En), es[i]? = some e → K[i]? = some (e.id, e.F)) := fun i e he => by rw [← hK, List.getElem?_map, he]; rfl
  have HL : Hid (K.length = es.length) := by show _ = _; rw [← hK]; simp
  have HR := Lib.hid hr
  have hget : Hid (∀ k : Nat, k < es.length → ∃ e : En, es[k]? = some e) := fun k hk => ⟨_, List.getElem?_eq_getElem hk⟩
  clear h hr hK
  generalize hn : es.length = n at *
  have HN := Lib.hid hn
  clear hn
  go_enter Try.func80, Try.ntmps80
  go_wp2_with fail
  go_loopg [9, 10] (n + 1) (fun gk si sj wr => ∃ a b : Nat, si = .int .i64 (a : Int) ∧ sj = .int .i64 (b : Int) ∧ a ≤ b ∧ b ≤ n ∧ b + 1 ≤ gk + a ∧ Hid (Only [] w wr) ∧ Hid (∀ k e, k < a → K[k]? = some e → e.1 < id) ∧ Hid (∀ k e, b ≤ k → K[k]? = some e → ¬ e.1 < id))
  case atStart => exact ⟨0, n, rfl, rfl, by omega, by omega, by omega, Only.refl _ _, fun k e hk => absurd hk (by omega), fun k e h1 h2 => by
    have := (List.getElem?_eq_some_iff.1 h2).1
    have := HL.out
    omega⟩
  case round =>
    obtain ⟨a, b, rfl, rfl, hab, hbn, hg, ho, HA, HU⟩ := hrel
    by_cases hlt : a < b
    · obtain ⟨m, em⟩ : ∃ m : Nat, (a + b) / 2 = m := ⟨_, rfl⟩
      have hm1 : a ≤ m := by omega
      have hm2 : m < b := by omega
      have hm : ((a : Int) + (b : Int)) / 2 = (m : Int) := by omega
      have hmn : (m : Int) < (n : Int) := by omega
      obtain ⟨z, ez⟩ := hget.out m (by omega)
      obtain ⟨g, rfl, d0, d1⟩ := row.out wr ho.out m z ez
      have HZ := Lib.hid (HK.out m z ez)
      clear ez em
      go_wp2_with fail
      refine (sAgainst z.id _ id _).mono ?_
      rintro e w2 ⟨rfl, o2⟩
      have ho2 : Hid (Only [] w w2) := ho.out.trans' o2
      clear o2 d0 d1
      by_cases hz : z.id < id
      · have hc : cmpZ z.id id = -1 := by unfold cmpZ; rw [if_pos hz]
        rw [hc]
        clear hc
        go_wp2_with fail
        go_roundg (b + 1 - (m + 1))
        case measure => omega
        case rel => exact ⟨m + 1, b, by simp, rfl, by omega, by omega, by omega, ho2, fun k e h1 h2 => by
          rcases Nat.lt_or_ge k m with h3 | h3
          · have h5 := HR.out.lt h3 h2 HZ.out
            simp only at h5
            omega
          · obtain rfl : k = m := by omega
            rw [HZ.out] at h2
            injection h2 with h2
            rw [← h2]; exact hz, HU⟩
      · have hc : 0 ≤ cmpZ z.id id := by unfold cmpZ; rw [if_neg hz]; split <;> omega
        generalize cmpZ z.id id = c at *
        go_wp2_with fail
        go_roundg (m + 1 - a)
        case measure => omega
        case rel => exact ⟨a, m, rfl, rfl, by omega, by omega, by omega, ho2, HA, fun k e h1 h2 => by
          rcases Nat.lt_or_ge m k with h3 | h3
          · have h5 := HR.out.lt h3 HZ.out h2
            simp only at h5
            omega
          · obtain rfl : k = m := by omega
            rw [HZ.out] at h2
            injection h2 with h2
            rw [← h2]; exact hz⟩
    · obtain rfl : a = b := by omega
      have hat : posK K id = a := posK_of (by rw [HL.out]; omega) (fun j e hj he => HA.out j e hj he) (fun e he => HU.out a e (Nat.le_refl _) he)
      have HAT := Lib.hid hat
      clear hat
      by_cases hal : a < n
      · have hal' : (a : Int) < (n : Int) := by omega
        obtain ⟨z, ez⟩ := hget.out a hal
        obtain ⟨g, rfl, d0, d1⟩ := row.out wr ho.out a z ez
        have hh : Hid ((cmpZ z.id id == 0) = hasK K id) := by
          have hz := HK.out a z ez
          have hge := HU.out a _ (Nat.le_refl _) hz
          simp only at hge
          by_cases e1 : z.id = id
          · subst e1
            rw [hasK_is hz]
            show _ = _
            unfold cmpZ
            simp
          · have h0 : hasK K id = false := by
              rcases h1 : hasK K id with _ | _
              · rfl
              · obtain ⟨i, F, hi⟩ := hasK_some h1
                have := posK_is HR.out hi
                rw [HAT.out] at this
                subst this
                rw [hz] at hi
                injection hi with hi
                injection hi with hi
                exact absurd hi e1
            rw [h0]
            show _ = _
            unfold cmpZ
            rw [if_neg hge, if_pos (by omega)]
            rfl
        have hc := sAgainst z.id (.pointer (some ⟨z.b, 0, none⟩)) id
        generalize cmpZ z.id id = c at *
        go_wp2_with fail
        refine (hc _).mono ?_
        rintro e w2 ⟨rfl, o2⟩
        have ho2 : Hid (Only [] w w2) := ho.out.trans' o2
        clear o2 hc
        go_wp2_with fail
        go_ret2
        refine ⟨?_, ho2.out⟩
        rw [HAT.out, ← hh.out]
        rfl
      · have hal' : decide ((a : Int) < (n : Int)) = false := decide_eq_false (by omega)
        have hh : Hid (hasK K id = false) := by
          show _ = _
          rcases h1 : hasK K id with _ | _
          · rfl
          · obtain ⟨i, F, hi⟩ := hasK_some h1
            have h2 := posK_is HR.out hi
            have h3 := (List.getElem?_eq_some_iff.1 hi).1
            have := HAT.out
            have := HL.out
            omega
        go_wp2_with fail
        go_ret2
        refine ⟨?_, ho.out⟩
        rw [HAT.out, hh.out]
        rfl
set_option maxHeartbeats 1000000 in
theorem sFind (w : World) (b : Nat) (S : Sq) (u : Value) (es : List En) (h : SqIs w b S u es) (id : Int) :
    Calls Try.prog 58 #[.pointer (some ⟨b, 0, none⟩), .int .i64 id] w fun e w' => e = .returned (.tuple #[.int .i64 (posK S.l id : Int), .bool (hasK S.l id)]) ∧ Only [] w w' := by
  obtain ⟨c0, c1, c2⟩ := h.blk.c
  have hs := sSearch w u es h.row S.l h.key h.ok.srt id (by have := h.ok.len; have := key_len h.key; omega)
  obtain ⟨A, cap, ev⟩ := h.row.form
  rw [List.length_map] at ev
  subst ev
  clear h
  go_enter Try.func58, Try.ntmps58
  go_wp2_with fail
  refine hs.mono ?_
  rintro e w2 ⟨rfl, o2⟩
  go_wp2_with fail
  go_ret2
  exact ⟨rfl, o2⟩
end Go.Proofs.Ytklolepmmabijaa
