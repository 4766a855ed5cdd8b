/-
  A scheduler alone; a flow that goes and comes anew, as numbers.
-/
import Derived.Test.YtjmnklmomdfpfaaSfqX
namespace Go.Proofs.Ytjmnklmomdfpfaa
set_option maxRecDepth 100000
open Go.RowKit
set_option linter.unusedVariables false
set_option linter.unusedSimpArgs false
set_option maxRecDepth 100000

/-- A scheduler alone, in new memory. -/
structure Q1 (w0 wr : World) (b : Nat) (S : Sq) (O : List Nat) : Prop where
  of_ : SqOf wr b S O
  new : ∀ k ∈ O, w0.heap.size ≤ k
  only : Only [] w0 wr
section
variable {w0 wr w' : World} {b : Nat} {S S' : Sq} {O : List Nat}
theorem Q1.only0 (h : Q1 w0 wr b S O) (ho : Only [] wr w') : Q1 w0 w' b S O := ⟨h.of_.only0 ho, h.new, h.only.trans' ho⟩
theorem Q1.go (h : Q1 w0 wr b S O) (t : STo wr b O S' w') : ∃ O', Q1 w0 w' b S' O' := by
  obtain ⟨O', h1, h2⟩ := t
  exact ⟨O', h1, fun k hk => (h2.2 k hk).elim (h.new k) (fun h3 => Nat.le_trans h.only.size h3), h.only.trans h2.1 (fun k hk => .inr (h.new k hk))⟩
/-- A block of the walk's own stays. -/
theorem Q1.apart (h : Q1 w0 wr b S O) (t : STo wr b O S' w') {g : Nat} (hg : g < wr.heap.size) (hO : g ∉ O) : w'.heap[g]? = wr.heap[g]? := by
  obtain ⟨O', h1, h2⟩ := t
  exact h2.1.block g hg hO
theorem q1_new {w w1 : World} (h : SqOf w1 w.heap.size Sq.new [w.heap.size]) (o : Only [] w w1) : Q1 w w1 w.heap.size Sq.new [w.heap.size] := ⟨h, by simp, o⟩
theorem Q1.add (h : Q1 w0 wr b S O) (id r most : Int) (hid : i64ok id) (hr : U64 r) (hl : S.l.length < 1000) : Calls Try.prog 24 #[.pointer (some ⟨b, 0, none⟩), .int .i64 id, .int .u64 r, .int .i64 most] wr fun e w' => e = .returned (.bool (!hasK S.l id)) ∧ ∃ O', Q1 w0 w' b (S.add id r (room most)) O' :=
  (sAdd wr b S O h.of_ id r most hid hr hl).mono fun e w' q => ⟨q.1, h.go q.2⟩
theorem Q1.rem (h : Q1 w0 wr b S O) (id : Int) : Calls Try.prog 26 #[.pointer (some ⟨b, 0, none⟩), .int .i64 id] wr fun e w' => e = .returned (.int .i64 (S.remE id)) ∧ ∃ O', Q1 w0 w' b (S.rem id) O' :=
  (sRemove wr b S O h.of_ id).mono fun e w' q => ⟨q.1, h.go q.2⟩
theorem Q1.arr (h : Q1 w0 wr b S O) (x : Pk) (hx : x.ok) : Calls Try.prog 22 #[.pointer (some ⟨b, 0, none⟩), .agg #[.int .i64 x.f, .int .i64 x.l, .int .i64 x.m]] wr fun e w' => e = .returned (.int .i64 (S.arrE x)) ∧ ∃ O', Q1 w0 w' b (S.arr x) O' :=
  (sArrive wr b S O h.of_ x hx).mono fun e w' q => ⟨q.1, h.go q.2⟩
theorem Q1.srv (h : Q1 w0 wr b S O) : Calls Try.prog 19 #[.pointer (some ⟨b, 0, none⟩)] wr fun e w' => e = .returned (.tuple #[.agg #[.int .i64 S.hd.f, .int .i64 S.hd.l, .int .i64 S.hd.m], .bool S.any]) ∧ ∃ O', Q1 w0 w' b S.srv O' :=
  (sServe wr b S O h.of_).mono fun e w' q => ⟨q.1, h.go q.2⟩
end

/-! ### a flow that goes and comes anew -/
def gS (v m : Int) (F : Fl) : Sq := ⟨v, m, [(1, F), (2, Fl.new 1 8)]⟩
def gF (r s : Int) (k : Nat) (pk : Pk) : Fl := ⟨r, 8, s, s, List.replicate k pk⟩
def gE (v m : Int) : Sq := ⟨v, m, [(2, Fl.new 1 8)]⟩
theorem g_two (r : Int) (pk : Pk) : ((Sq.new.add 1 r (room 8)).add 2 1 (room 8)) = gS 0 0 (gF r 0 0 pk) ∧ hasK Sq.new.l 1 = false ∧ hasK (Sq.new.add 1 r (room 8)).l 2 = false := by
  have h8 : room 8 = 8 := by decide
  rw [h8]
  refine ⟨?_, rfl, ?_⟩ <;> simp [Sq.add, Sq.new, hasK, insK, posK, gS, gF, Fl.new]
theorem g_arr {r : Int} {k : Nat} {pk : Pk} (hf : pk.f = 1) (hk : k < 8) : (gS 0 0 (gF r 0 k pk)).arrE pk = 0 ∧ (gS 0 0 (gF r 0 k pk)).arr pk = gS 0 0 (gF r 0 (k + 1) pk) := by
  have hne : ¬ (k = 8) := by omega
  have h1 : (gF r 0 k pk).arr 0 pk = gF r 0 (k + 1) pk := by
    unfold Fl.arr gF
    simp [hne]
    rw [← List.replicate_succ']
  constructor
  · unfold Sq.arrE gS
    simp [hasK, getK, hf, Fl.takes, gF, hne]
  · unfold Sq.arr gS
    simp only [hf, updK, List.map_cons, List.map_nil, if_true]
    rw [h1]
    simp
theorem g_rem {v m r s : Int} {k : Nat} {pk : Pk} (hk : 0 < k) : (gS v m (gF r s k pk)).remE 1 = 8 ∧ (gS v m (gF r s k pk)).rem 1 = gS v m (gF r s k pk) := by
  obtain ⟨j, rfl⟩ : ∃ j, k = j + 1 := ⟨k - 1, by omega⟩
  constructor
  · unfold Sq.remE gS
    simp [hasK, getK, Fl.any, gF, List.replicate_succ]
  · unfold Sq.rem gS
    simp [hasK, getK, Fl.any, gF, List.replicate_succ]
theorem g_srv {v m r s : Int} {k : Nat} {pk : Pk} {c : Int} (hc : addM s (costM pk.l r) = s + c) : (gS v m (gF r s (k + 1) pk)).any = true ∧ (gS v m (gF r s (k + 1) pk)).srv = gS s (max m (s + c)) (gF r (s + c) k pk) := by
  have hs : startsK (gS v m (gF r s (k + 1) pk)).l = [⟨s, 1⟩] := by
    simp [startsK, itemsK, gS, gF, Fl.any, Fl.new, List.replicate_succ, itemK, insAll, ins]
  refine ⟨by unfold Sq.any; rw [hs]; rfl, ?_⟩
  unfold Sq.srv
  rw [hs]
  have hg : getK (gS v m (gF r s (k + 1) pk)).l 1 = gF r s (k + 1) pk := by simp [getK, gS]
  have hfin : (gF r s (k + 1) pk).fin = s + c := by
    unfold Fl.fin Fl.hd gF
    simp [List.replicate_succ, hc]
  simp only [hg, hfin]
  have hsr : (gF r s (k + 1) pk).srv = gF r (s + c) k pk := by
    unfold Fl.srv
    rw [if_neg (by simp [gF]), hfin]
    simp [gF]
  unfold gS
  simp only [updK, List.map_cons, List.map_nil, if_true]
  rw [hsr]
  simp
theorem g_end {v m r s : Int} {pk : Pk} : (gS v m (gF r s 0 pk)).remE 1 = 0 ∧ (gS v m (gF r s 0 pk)).rem 1 = gE v m ∧ (gE v m).remE 1 = 5 ∧ (gE v m).rem 1 = gE v m ∧ (gE v m).arrE ⟨1, 1, 0⟩ = 5 ∧ (gE v m).arr ⟨1, 1, 0⟩ = gE v m ∧ hasK (gE v m).l 1 = false := by
  refine ⟨?_, ?_, ?_, ?_, ?_, ?_, ?_⟩ <;> simp [gS, gF, gE, Sq.remE, Sq.rem, Sq.arrE, Sq.arr, hasK, getK, updK, delK, posK, Fl.any]
theorem g_anew {v m : Int} (hv : 0 ≤ v) : ((gE v m).add 1 1 (room 1)).arrE ⟨1, 1, 0⟩ = 0 ∧ startsK (((gE v m).add 1 1 (room 1)).arr ⟨1, 1, 0⟩).l = [⟨v, 1⟩] ∧ (((gE v m).add 1 1 (room 1)).arr ⟨1, 1, 0⟩).m = m ∧ ((gE v m).add 1 1 (room 1)).l.length ≤ 2 := by
  have h1 : room 1 = 1 := by decide
  have hm : max v 0 = v := by omega
  rw [h1]
  refine ⟨?_, ?_, ?_, ?_⟩ <;> simp [gE, Sq.add, Sq.arrE, Sq.arr, hasK, getK, updK, insK, posK, Fl.new, Fl.takes, Fl.arr, startsK, itemsK, Fl.any, itemK, insAll, ins, hm]
end Go.Proofs.Ytjmnklmomdfpfaa
