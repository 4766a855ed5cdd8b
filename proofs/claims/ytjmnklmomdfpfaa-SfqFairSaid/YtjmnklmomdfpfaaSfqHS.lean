/-
  step.
-/
import Derived.Test.YtjmnklmomdfpfaaSfqHN
namespace Go.Proofs.Ytjmnklmomdfpfaa
set_option maxRecDepth 100000
open Go.RowKit
set_option linter.unusedVariables false
set_option linter.unusedSimpArgs false
set_option maxRecDepth 100000

/-- A block that holds one act. -/
def XBox (w : World) (b : Nat) (a : Ax) : Prop := w.heap[b]? = some (.cells #[.int .i64 a.k, .int .i64 a.f, .int .i64 a.m, .int .u64 a.r, .int .i64 a.p.f, .int .i64 a.p.l, .int .i64 a.p.m] 36 (0, 0))
theorem XBox.c {w : World} {b : Nat} {a : Ax} (h : XBox w b a) : w.cell? ⟨b, 0, none⟩ = some (.int .i64 a.k) ∧ w.cell? ⟨b, 1, none⟩ = some (.int .i64 a.f) ∧ w.cell? ⟨b, 2, none⟩ = some (.int .i64 a.m) ∧ w.cell? ⟨b, 3, none⟩ = some (.int .u64 a.r) ∧ w.cell? ⟨b, 4, none⟩ = some (.int .i64 a.p.f) ∧ w.cell? ⟨b, 5, none⟩ = some (.int .i64 a.p.l) ∧ w.cell? ⟨b, 6, none⟩ = some (.int .i64 a.p.m) :=
  ⟨by rw [cell_of_row w b 0 _ _ _ h]; rfl, by rw [cell_of_row w b 1 _ _ _ h]; rfl, by rw [cell_of_row w b 2 _ _ _ h]; rfl, by rw [cell_of_row w b 3 _ _ _ h]; rfl, by rw [cell_of_row w b 4 _ _ _ h]; rfl, by rw [cell_of_row w b 5 _ _ _ h]; rfl, by rw [cell_of_row w b 6 _ _ _ h]; rfl⟩
theorem XBox.fr {w : World} {b : Nat} {a : Ax} (h : XBox w b a) (j : Nat) : w.frozen? ⟨b, j, none⟩ = false := frozen_of_row w b j _ _ h
theorem XBox.only {w w' : World} {b : Nat} {a : Ax} {S : List Nat} (h : XBox w b a) (ho : Only S w w') (hS : b ∉ S) : XBox w' b a := ho.get h hS
theorem XBox.new (w : World) (a : Ax) : XBox (w.alloc (.cells #[.int .i64 a.k, .int .i64 a.f, .int .i64 a.m, .int .u64 a.r, .int .i64 a.p.f, .int .i64 a.p.l, .int .i64 a.p.m] 36)) w.heap.size a := heap_alloc_new w _
def putAx (w : World) (N : Nat) (a : Ax) : World := ((((((w.setCell ⟨N, 0, none⟩ (.int .i64 a.k)).setCell ⟨N, 1, none⟩ (.int .i64 a.f)).setCell ⟨N, 2, none⟩ (.int .i64 a.m)).setCell ⟨N, 3, none⟩ (.int .u64 a.r)).setCell ⟨N, 4, none⟩ (.int .i64 a.p.f)).setCell ⟨N, 5, none⟩ (.int .i64 a.p.l)).setCell ⟨N, 6, none⟩ (.int .i64 a.p.m)
theorem XBox.put {w : World} {N : Nat} {a : Ax} (h : XBox w N a) (a' : Ax) : XBox (putAx w N a') N a' := by
  have h0 := heap_setCell_same w N 0 _ _ (.int .i64 a'.k) h
  have h1 := heap_setCell_same _ N 1 _ _ (.int .i64 a'.f) h0
  have h2 := heap_setCell_same _ N 2 _ _ (.int .i64 a'.m) h1
  have h3 := heap_setCell_same _ N 3 _ _ (.int .u64 a'.r) h2
  have h4 := heap_setCell_same _ N 4 _ _ (.int .i64 a'.p.f) h3
  have h5 := heap_setCell_same _ N 5 _ _ (.int .i64 a'.p.l) h4
  have h6 := heap_setCell_same _ N 6 _ _ (.int .i64 a'.p.m) h5
  simpa [XBox, putAx] using h6
theorem putAx_only (w : World) (N : Nat) (a : Ax) : Only [N] w (putAx w N a) :=
  (((((((Only.refl [N] w).setCell (by simp) _).setCell (by simp) _).setCell (by simp) _).setCell (by simp) _).setCell (by simp) _).setCell (by simp) _).setCell (by simp) _
def SA (w : World) (N b c : Nat) (a : Ax) (S : Sq) (O P : List Nat) (W : World) : Prop := XBox W N a ∧ Dq W b c S O P ∧ Only [] w W
def SB (w : World) (N b c : Nat) (a : Ax) (S S' : Sq) (O P : List Nat) (W : World) : Prop := XBox W N a ∧ Mid w b c S S' O P W
def SC (w : World) (N b c : Nat) (a : Ax) (S' : Sq) (O P : List Nat) (W : World) : Prop := XBox W N a ∧ Fin2 w b c S' O P W
section
variable {w W U : World} {N b c : Nat} {a : Ax} {S S' : Sq} {O P : List Nat}
theorem SA.only (h : SA w N b c a S O P W) (ho : Only [] W U) : SA w N b c a S O P U := ⟨h.1.only ho (by simp), h.2.1.only0 ho, h.2.2.trans' ho⟩
theorem SA.ours (h : SA w N b c a S O P W) (hN : N ∉ O) (hf : STo W b O S' U) : SB w N b c a S S' O P U := by
  have hf2 := hf
  obtain ⟨O', f1, f2⟩ := hf2
  exact ⟨h.1.only f2.1 hN, Mid.from h.2.2 (h.2.1.mid hf)⟩
theorem SB.theirs (h : SB w N b c a S S' O P W) (hN : N ∉ P) (hf : QTo W c P S' U) : SC w N b c a S' O P U := by
  have hf2 := hf
  obtain ⟨P', f1, f2⟩ := hf2
  exact ⟨h.1.only f2.1 hN, h.2.fin hf⟩
end
/-- What an act comes to. -/
def Ax.act (a : Ax) (S : Sq) : Sq := if modI a.near.k 10 < 2 then S.add a.near.f a.near.r (room a.near.m) else if modI a.near.k 10 = 2 then S.rem a.near.f else if modI a.near.k 10 < 7 then S.arr a.near.p else S.srv
theorem Ax.act_len (a : Ax) (S : Sq) : (a.act S).l.length ≤ S.l.length + 1 := by
  unfold Ax.act
  split
  · exact Sq.add_len _ _ _ _
  · split
    · exact Nat.le_succ_of_le (Sq.rem_len _ _)
    · split
      · rw [Sq.arr_len]; omega
      · rw [Sq.srv_len]; omega
set_option maxHeartbeats 8000000 in
theorem sStep (w : World) (b c : Nat) (S : Sq) (O P : List Nat) (h : Dq w b c S O P) (a : Ax) (ha : a.ok) (hl : S.l.length < 1000) :
    Calls Try.prog 13 #[.pointer (some ⟨b, 0, none⟩), .pointer (some ⟨c, 0, none⟩), .agg #[.int .i64 a.k, .int .i64 a.f, .int .i64 a.m, .int .u64 a.r, .int .i64 a.p.f, .int .i64 a.p.l, .int .i64 a.p.m]] w fun e w' => e = .returned (.bool true) ∧ Fin2 w b c (a.act S) O P w' := by
  have hn := ha.near
  have o0 : Only [] w (w.alloc (.cells #[.int .i64 a.k, .int .i64 a.f, .int .i64 a.m, .int .u64 a.r, .int .i64 a.p.f, .int .i64 a.p.l, .int .i64 a.p.m] 36)) := (Only.refl [] w).alloc _
  have ba := XBox.new w a
  have k0 := sNear a ha (w.alloc (.cells #[.int .i64 a.k, .int .i64 a.f, .int .i64 a.m, .int .u64 a.r, .int .i64 a.p.f, .int .i64 a.p.l, .int .i64 a.p.m] 36))
  have hNO : Hid (w.heap.size ∉ O) := fun hk => Nat.lt_irrefl _ (h.fl.lt _ hk)
  have hNP : Hid (w.heap.size ∉ P) := fun hk => Nat.lt_irrefl _ (h.rf.lt _ hk)
  have rest : ∀ w1, Only [] (w.alloc (.cells #[.int .i64 a.k, .int .i64 a.f, .int .i64 a.m, .int .u64 a.r, .int .i64 a.p.f, .int .i64 a.p.l, .int .i64 a.p.m] 36)) w1 → XBox w1 w.heap.size a ∧ SA w w.heap.size b c a.near S O P (putAx w1 w.heap.size a.near) := fun w1 o1 => by
    have b1 := ba.only o1 (by simp)
    refine ⟨b1, b1.put a.near, (h.only0 (o0.trans' o1)).only (putAx_only _ _ _) (fun k hk hk2 => ?_), ?_⟩
    · simp at hk2
      have := h.lt k hk
      omega
    · exact (o0.trans' o1).trans (putAx_only _ _ _) (by simp)
  have REST := Lib.hid rest
  have md := Lib.hid (fun (w : World) => sMod a.near.k 10 (by decide) (by decide) w)
  obtain ⟨q0, q9⟩ := modI_lt a.near.k (n := 10) (by decide)
  have hact : Hid (∀ S', (if modI a.near.k 10 < 2 then S.add a.near.f a.near.r (room a.near.m) else if modI a.near.k 10 = 2 then S.rem a.near.f else if modI a.near.k 10 < 7 then S.arr a.near.p else S.srv) = S' → ∀ W, Fin2 w b c S' O P W → Fin2 w b c (a.act S) O P W) := fun S' e W hW => by unfold Ax.act; rw [e]; exact hW
  have hg := pk_guard
  have he := pk_eql S.hd S.hd
  simp only [decide_true] at he
  clear rest o0 ba h
  generalize hB : a.near = B at *
  clear hB
  have cl : modI B.k 10 = 0 ∨ modI B.k 10 = 1 ∨ modI B.k 10 = 2 ∨ modI B.k 10 = 3 ∨ modI B.k 10 = 4 ∨ modI B.k 10 = 5 ∨ modI B.k 10 = 6 ∨ modI B.k 10 = 7 ∨ modI B.k 10 = 8 ∨ modI B.k 10 = 9 := by omega
  generalize modI B.k 10 = q at *
  rcases cl with rfl | rfl | rfl | rfl | rfl | rfl | rfl | rfl | rfl | rfl
  iterate 2
    · have hA : Hid (∀ W, SA w w.heap.size b c B S O P W → Calls Try.prog 24 #[.pointer (some ⟨b, 0, none⟩), .int .i64 B.f, .int .u64 B.r, .int .i64 B.m] W fun e U => e = .returned (.bool (!hasK S.l B.f)) ∧ SB w w.heap.size b c B S (S.add B.f B.r (room B.m)) O P U) := fun W hW =>
        (sAdd W b S O hW.2.1.fl B.f B.r B.m hn.2.1 hn.2.2.2.1 hl).mono fun e U hU => ⟨hU.1, hW.ours hNO.out hU.2⟩
      have hX : Hid (∀ W, SB w w.heap.size b c B S (S.add B.f B.r (room B.m)) O P W → Calls Try.prog 32 #[.pointer (some ⟨c, 0, none⟩), .int .i64 B.f, .int .u64 B.r, .int .i64 B.m] W fun e U => e = .returned (.bool (!hasK S.l B.f)) ∧ SC w w.heap.size b c B (S.add B.f B.r (room B.m)) O P U) := fun W hW =>
        (zAdd W c S P hW.2.rf B.f B.r B.m hn.2.1 hn.2.2.2.1 hl).mono fun e U hU => ⟨hU.1, hW.theirs hNP.out hU.2⟩
      generalize (!hasK S.l B.f) = res at *
      go_enter Try.func13, Try.ntmps13
      go_wp2_with fail
      refine k0.mono ?_
      rintro e w1 ⟨rfl, o1⟩
      obtain ⟨b1, st1⟩ := REST.out w1 o1
      obtain ⟨a0, a1, a2, a3, a4, a5, a6⟩ := b1.c
      have af := b1.fr
      have af0 := af 0
      have af1 := af 1
      have af2 := af 2
      have af3 := af 3
      have af4 := af 4
      have af5 := af 5
      have af6 := af 6
      have st := Lib.hid st1
      clear k0 o1 b1 st1 REST af
      go_wp2_with fail
      change Calls _ _ _ (putAx w1 w.heap.size B) _
      generalize putAx w1 w.heap.size B = V at *
      clear a0 a1 a2 a3 a4 a5 a6 af0 af1 af2 af3 af4 af5 af6
      refine (md.out _).mono ?_
      rintro e V ⟨rfl, rfl⟩
      obtain ⟨a0, a1, a2, a3, a4, a5, a6⟩ := st.out.1.c
      clear md
      go_wp2_with fail
      have st : Hid (SA w w.heap.size b c B S O P V.drew) := st.out.only (Only.refl [] V).drew
      go_region_held3 (fun w' => w'.cell? ⟨w.heap.size, 0, none⟩ = some (.int .i64 B.k) ∧ w'.cell? ⟨w.heap.size, 1, none⟩ = some (.int .i64 B.f) ∧ w'.cell? ⟨w.heap.size, 2, none⟩ = some (.int .i64 B.m) ∧ w'.cell? ⟨w.heap.size, 3, none⟩ = some (.int .u64 B.r) ∧ w'.cell? ⟨w.heap.size, 4, none⟩ = some (.int .i64 B.p.f) ∧ w'.cell? ⟨w.heap.size, 5, none⟩ = some (.int .i64 B.p.l) ∧ w'.cell? ⟨w.heap.size, 6, none⟩ = some (.int .i64 B.p.m))
        (first | (exact st.out.1.c) | go_keep)
        (first
          | (go_at_call 24; refine (hA.out _ st.out).mono ?_; rintro e u ⟨rfl, o⟩; have st := Lib.hid o; clear o)
          | (go_at_call 32; refine (hX.out _ st.out).mono ?_; rintro e u ⟨rfl, o⟩; have st := Lib.hid o; clear o))
      all_goals
        go_wp2_with fail
        go_ret
        exact ⟨by simp, hact.out _ (by simp) _ st.out.2⟩
  · have hA : Hid (∀ W, SA w w.heap.size b c B S O P W → Calls Try.prog 26 #[.pointer (some ⟨b, 0, none⟩), .int .i64 B.f] W fun e U => e = .returned (.int .i64 (S.remE B.f)) ∧ SB w w.heap.size b c B S (S.rem B.f) O P U) := fun W hW =>
      (sRemove W b S O hW.2.1.fl B.f).mono fun e U hU => ⟨hU.1, hW.ours hNO.out hU.2⟩
    have hX : Hid (∀ W, SB w w.heap.size b c B S (S.rem B.f) O P W → Calls Try.prog 33 #[.pointer (some ⟨c, 0, none⟩), .int .i64 B.f] W fun e U => e = .returned (.int .i64 (S.remE B.f)) ∧ SC w w.heap.size b c B (S.rem B.f) O P U) := fun W hW =>
      (zRemove W c S P hW.2.rf B.f).mono fun e U hU => ⟨hU.1, hW.theirs hNP.out hU.2⟩
    generalize S.remE B.f = res at *
    go_enter Try.func13, Try.ntmps13
    go_wp2_with fail
    refine k0.mono ?_
    rintro e w1 ⟨rfl, o1⟩
    obtain ⟨b1, st1⟩ := REST.out w1 o1
    obtain ⟨a0, a1, a2, a3, a4, a5, a6⟩ := b1.c
    have af := b1.fr
    have af0 := af 0
    have af1 := af 1
    have af2 := af 2
    have af3 := af 3
    have af4 := af 4
    have af5 := af 5
    have af6 := af 6
    have st := Lib.hid st1
    clear k0 o1 b1 st1 REST af
    go_wp2_with fail
    change Calls _ _ _ (putAx w1 w.heap.size B) _
    generalize putAx w1 w.heap.size B = V at *
    clear a0 a1 a2 a3 a4 a5 a6 af0 af1 af2 af3 af4 af5 af6
    refine (md.out _).mono ?_
    rintro e V ⟨rfl, rfl⟩
    obtain ⟨a0, a1, a2, a3, a4, a5, a6⟩ := st.out.1.c
    clear md
    go_wp2_with fail
    have st : Hid (SA w w.heap.size b c B S O P V.drew) := st.out.only (Only.refl [] V).drew
    go_region_held3 (fun w' => w'.cell? ⟨w.heap.size, 0, none⟩ = some (.int .i64 B.k) ∧ w'.cell? ⟨w.heap.size, 1, none⟩ = some (.int .i64 B.f) ∧ w'.cell? ⟨w.heap.size, 2, none⟩ = some (.int .i64 B.m) ∧ w'.cell? ⟨w.heap.size, 3, none⟩ = some (.int .u64 B.r) ∧ w'.cell? ⟨w.heap.size, 4, none⟩ = some (.int .i64 B.p.f) ∧ w'.cell? ⟨w.heap.size, 5, none⟩ = some (.int .i64 B.p.l) ∧ w'.cell? ⟨w.heap.size, 6, none⟩ = some (.int .i64 B.p.m))
      (first | (exact st.out.1.c) | go_keep)
      (first
        | (go_at_call 26; refine (hA.out _ st.out).mono ?_; rintro e u ⟨rfl, o⟩; have st := Lib.hid o; clear o)
        | (go_at_call 33; refine (hX.out _ st.out).mono ?_; rintro e u ⟨rfl, o⟩; have st := Lib.hid o; clear o))
    all_goals
      go_wp2_with fail
      go_ret
      exact ⟨by simp, hact.out _ (by simp) _ st.out.2⟩
  iterate 4
    · have hA : Hid (∀ W, SA w w.heap.size b c B S O P W → Calls Try.prog 22 #[.pointer (some ⟨b, 0, none⟩), .agg #[.int .i64 B.p.f, .int .i64 B.p.l, .int .i64 B.p.m]] W fun e U => e = .returned (.int .i64 (S.arrE B.p)) ∧ SB w w.heap.size b c B S (S.arr B.p) O P U) := fun W hW =>
        (sArrive W b S O hW.2.1.fl B.p hn.2.2.2.2).mono fun e U hU => ⟨hU.1, hW.ours hNO.out hU.2⟩
      have hX : Hid (∀ W, SB w w.heap.size b c B S (S.arr B.p) O P W → Calls Try.prog 34 #[.pointer (some ⟨c, 0, none⟩), .agg #[.int .i64 B.p.f, .int .i64 B.p.l, .int .i64 B.p.m]] W fun e U => e = .returned (.int .i64 (S.arrE B.p)) ∧ SC w w.heap.size b c B (S.arr B.p) O P U) := fun W hW =>
        (zArrive W c S P hW.2.rf B.p hn.2.2.2.2).mono fun e U hU => ⟨hU.1, hW.theirs hNP.out hU.2⟩
      generalize S.arrE B.p = res at *
      go_enter Try.func13, Try.ntmps13
      go_wp2_with fail
      refine k0.mono ?_
      rintro e w1 ⟨rfl, o1⟩
      obtain ⟨b1, st1⟩ := REST.out w1 o1
      obtain ⟨a0, a1, a2, a3, a4, a5, a6⟩ := b1.c
      have af := b1.fr
      have af0 := af 0
      have af1 := af 1
      have af2 := af 2
      have af3 := af 3
      have af4 := af 4
      have af5 := af 5
      have af6 := af 6
      have st := Lib.hid st1
      clear k0 o1 b1 st1 REST af
      go_wp2_with fail
      change Calls _ _ _ (putAx w1 w.heap.size B) _
      generalize putAx w1 w.heap.size B = V at *
      clear a0 a1 a2 a3 a4 a5 a6 af0 af1 af2 af3 af4 af5 af6
      refine (md.out _).mono ?_
      rintro e V ⟨rfl, rfl⟩
      obtain ⟨a0, a1, a2, a3, a4, a5, a6⟩ := st.out.1.c
      clear md
      go_wp2_with fail
      have st : Hid (SA w w.heap.size b c B S O P V.drew) := st.out.only (Only.refl [] V).drew
      go_region_held3 (fun w' => w'.cell? ⟨w.heap.size, 0, none⟩ = some (.int .i64 B.k) ∧ w'.cell? ⟨w.heap.size, 1, none⟩ = some (.int .i64 B.f) ∧ w'.cell? ⟨w.heap.size, 2, none⟩ = some (.int .i64 B.m) ∧ w'.cell? ⟨w.heap.size, 3, none⟩ = some (.int .u64 B.r) ∧ w'.cell? ⟨w.heap.size, 4, none⟩ = some (.int .i64 B.p.f) ∧ w'.cell? ⟨w.heap.size, 5, none⟩ = some (.int .i64 B.p.l) ∧ w'.cell? ⟨w.heap.size, 6, none⟩ = some (.int .i64 B.p.m))
        (first | (exact st.out.1.c) | go_keep)
        (first
          | (go_at_call 22; refine (hA.out _ st.out).mono ?_; rintro e u ⟨rfl, o⟩; have st := Lib.hid o; clear o)
          | (go_at_call 34; refine (hX.out _ st.out).mono ?_; rintro e u ⟨rfl, o⟩; have st := Lib.hid o; clear o))
      all_goals
        go_wp2_with fail
        go_ret
        exact ⟨by simp, hact.out _ (by simp) _ st.out.2⟩
  iterate 3
    · go_enter Try.func13, Try.ntmps13
      go_wp2_with fail
      refine k0.mono ?_
      rintro e w1 ⟨rfl, o1⟩
      obtain ⟨b1, st1⟩ := REST.out w1 o1
      obtain ⟨a0, a1, a2, a3, a4, a5, a6⟩ := b1.c
      have af := b1.fr
      have af0 := af 0
      have af1 := af 1
      have af2 := af 2
      have af3 := af 3
      have af4 := af 4
      have af5 := af 5
      have af6 := af 6
      have st := Lib.hid st1
      clear k0 o1 b1 st1 REST af
      go_wp2_with fail
      change Calls _ _ _ (putAx w1 w.heap.size B) _
      generalize putAx w1 w.heap.size B = V at *
      refine (md.out _).mono ?_
      rintro e V ⟨rfl, rfl⟩
      have k1 := sServe V b S O st.out.2.1.fl
      clear md
      go_wp2_with fail
      refine k1.mono ?_
      rintro e w2 ⟨rfl, t2⟩
      have m2 := Mid.from st.out.2.2 (st.out.2.1.mid t2)
      have o3 : Only [] w2 (w2.alloc (.cells #[.int .i64 S.hd.f, .int .i64 S.hd.l, .int .i64 S.hd.m] 34)) := (Only.refl [] w2).alloc _
      have bx := PBox.new w2 S.hd
      have m3 := m2.only o3
      have k2 := zServe _ c S P m3.rf
      have hNP2 : w2.heap.size ∉ P := fun hk => Nat.lt_irrefl _ (m2.rf.lt _ hk)
      have M3 := Lib.hid m3
      clear k1 t2 m2 o3 m3
      go_wp2_with fail
      refine k2.mono ?_
      rintro e w4 ⟨rfl, t4⟩
      have F4 := Lib.hid (M3.out.fin t4)
      obtain ⟨P4, _, g4⟩ := t4
      have bx4 := bx.only g4.1 hNP2
      obtain ⟨x0, x1, x2⟩ := bx4.c
      have bx5 := bx4.only (w' := w4.alloc (.cells #[.int .i64 S.hd.f, .int .i64 S.hd.l, .int .i64 S.hd.m] 34)) ((Only.refl [] w4).alloc _) (by simp)
      obtain ⟨y0, y1, y2⟩ := bx5.c
      clear k2 g4 bx4 bx5 bx
      go_wp2_with fail
      go_ret
      exact ⟨by simp, hact.out _ (by simp) _ (F4.out.only ((Only.refl [] w4).alloc _))⟩
end Go.Proofs.Ytjmnklmomdfpfaa
