/-
  One step of a play: a deed done to a heap and to the document's list.
-/
import Derived.Test.YtppkbokjnocoeaaHeapD
namespace Go.Proofs.Ytppkbokjnocoeaa
open Go.RowKit
set_option linter.unusedVariables false
set_option linter.unusedSimpArgs false

theorem Box.put {w : World} {b : Nat} {x : It} (h : Box w b x) (k j : Int) : Box ((w.setCell ⟨b, 0, none⟩ (.int .u64 k)).setCell ⟨b, 1, none⟩ (.int .i64 j)) b ⟨k, j⟩ := by
  unfold Box at h ⊢
  simp [World.setCell, Array.getElem?_modify, h]
theorem Moved.apart {w w' : World} {S S' T : List Nat} (h : Moved w S w' S') (hd : ∀ b ∈ S, b ∉ T) (hT : ∀ b ∈ T, b < w.heap.size) : ∀ b ∈ S', b ∉ T := fun b hb hbT => by
  rcases h.2 b hb with h1 | h1
  · exact hd b h1 hbT
  · have := hT b hbT; omega
theorem Moved.both {w w1 w2 : World} {S S' T T' : List Nat} (h : Moved w S w1 S') (h2 : Moved w1 T w2 T') : Moved w (S ++ T) w2 (S' ++ T') := by
  refine ⟨(h.1.mono (T := S ++ T) (fun k hk => .inl (by simp [hk]))).trans h2.1 (fun k hk => .inl (by simp [hk])), fun b hb => ?_⟩
  rcases List.mem_append.1 hb with h3 | h3
  · rcases h.2 b h3 with h4 | h4
    · exact .inl (by simp [h4])
    · exact .inr h4
  · rcases h2.2 b h3 with h4 | h4
    · exact .inl (by simp [h4])
    · exact .inr (Nat.le_trans h.1.size h4)

/-- What a step leaves: told alike, if both held the same; then they hold the same again. -/
def After (w : World) (hb xb : Nat) (S T : List Nat) (l m : List It) (e : Ending) (w' : World) : Prop :=
  ∃ b : Bool, e = .returned (.bool b) ∧ (l = m → b = true) ∧ ∃ S' T' l' m', HeapOf w' hb S' l' ∧ ItemsOf w' xb T' m' ∧ (∀ b ∈ S', b ∉ T') ∧ (l = m → l' = m') ∧ l'.length ≤ l.length + 1 ∧ Moved w (S ++ T) w' (S' ++ T')
theorem After.mk {w w0 w1 w2 w' : World} {hb xb : Nat} {S T S' T' : List Nat} {l m l' m' : List It} {b : Bool} (o0 : Only [] w w0) (hT : ∀ b ∈ T, b < w.heap.size) (hdis : ∀ b ∈ S, b ∉ T) (hb1 : l = m → b = true) (hH : HeapOf w1 hb S' l') (mv1 : Moved w0 S w1 S')
    (o1 : Only [] w1 w2) (hX : ItemsOf w' xb T' m') (mv2 : Moved w2 T w' T') (hlm : l = m → l' = m') (hlen : l'.length ≤ l.length + 1) : After w hb xb S T l m (.returned (.bool b)) w' := by
  have m1 : Moved w S w2 S' := ((Moved.of_only (S := S) o0).trans mv1).still o1
  have hd1 := m1.apart hdis hT
  have hH2 := hH.only0 o1
  have hS2 : ∀ b ∈ S', b < w2.heap.size := hH2.lt
  have hT' : ∀ b ∈ T', b ∉ S' := mv2.apart (fun b hb hb' => hd1 b hb' hb) hS2
  exact ⟨b, rfl, hb1, S', T', l', m', hH2.only mv2.1 hd1, hX, fun b hb hb' => hT' b hb' hb, hlm, hlen, m1.both mv2⟩

theorem ins_len (x : It) (l : List It) : (ins x l).length = l.length + 1 := by
  have := (ins_perm x l).length_eq
  simpa using this

set_option maxRecDepth 100000 in
set_option maxHeartbeats 8000000 in
theorem hStep (w : World) (hb xb : Nat) (S T : List Nat) (l m : List It) (h : HeapOf w hb S l) (hx : ItemsOf w xb T m) (hi : Ids m) (hdis : ∀ b ∈ S, b ∉ T) (hl : l.length < 1000000) (hm : m.length < 1000000) (d : Dd) (hd : d.ok) :
    Calls Try.prog 10 #[.pointer (some ⟨hb, 0, none⟩), .pointer (some ⟨xb, 0, none⟩), .agg #[.int .i64 d.a, .int .u64 d.b, .int .i64 d.c]] w fun e w' => After w hb xb S T l m e w' := by
  have o0 : Only [] w (w.alloc (.cells #[.int .i64 d.a, .int .u64 d.b, .int .i64 d.c] 33)) := (Only.refl [] w).alloc _
  have bD := DBox.new w d
  go_enter Try.func10, Try.ntmps10
  go_wp2_with fail
  rename_i K hK
  have hSw : Hid (∀ b ∈ S, b < w.heap.size) := h.lt
  have hTw : Hid (∀ b ∈ T, b < w.heap.size) := hx.lt
  generalize hW : w.alloc (.cells #[.int .i64 d.a, .int .u64 d.b, .int .i64 d.c] 33) = W at *
  clear hW
  obtain ⟨N, eN⟩ : ∃ N, w.heap.size = N := ⟨_, rfl⟩
  have HN := Lib.hid eN
  rw [eN] at bD ⊢
  clear eN
  obtain ⟨d0, d1, d2⟩ := bD.c
  have hNW : N < W.heap.size := bD.lt
  have HO0 := Lib.hid o0
  have HBD := Lib.hid bD
  have HH := Lib.hid h
  have HX := Lib.hid hx
  have HDIS := Lib.hid hdis
  clear o0 bD h hx hdis
  have rest : ∀ (B : Nat) (k j : Int) (W' : World), (Lit.int .u64 k).wf = true → i64ok j → Only [] W W' → Box W' B ⟨k, j⟩ → W.heap.size ≤ B →
      K { tmps := #[.pointer (some ⟨hb, 0, none⟩), .pointer (some ⟨xb, 0, none⟩), .agg #[.int .i64 d.a, .int .u64 d.b, .int .i64 d.c], undef, undef, .pointer (some ⟨N, 0, none⟩), .bool false, .pointer (some ⟨B, 0, none⟩), undef, undef, undef, undef, undef, undef, undef, undef, undef, undef, undef, undef, .agg #[.int .i64 d.a, .int .u64 d.b, .int .i64 d.c], .int .u64 k, .agg #[.int .i64 d.a, .int .u64 d.b, .int .i64 d.c], .int .i64 j, .agg #[.int .u64 k, .int .i64 j], undef, undef, undef, undef, undef, undef, undef, undef, undef, undef, undef, undef, undef, undef, undef, undef, undef, undef, undef, undef, undef, undef, undef, undef, undef, undef, undef, undef, undef, undef, undef, undef, undef, undef, undef, undef, undef, undef, undef, undef, undef, undef, undef, undef, undef, undef, undef, undef, undef, undef, undef, undef, undef, undef, undef, undef, undef, undef, undef, undef, undef, undef, undef, undef, undef, undef, undef, undef, undef, undef, undef, undef, undef, undef, undef, undef, undef, undef, undef, undef, undef, undef, undef, undef, undef, undef, undef, undef], defers := [] } W' := by
    intro B k j W' hk hj o b hB
    have oW : Hid (Only [] w W') := HO0.out.trans' o
    have bD' := HBD.out.only o (by simp)
    obtain ⟨c0, c1, c2⟩ := bD'.c
    have bB0 := Lib.hid b
    have hBS : B ∉ S := fun e => by have := hSw.out B e; have := HN.out; omega
    have hBT : B ∉ T := fun e => by have := hTw.out B e; have := HN.out; omega
    clear d0 d1 d2 o b bD'
    apply hK
    clear hK
    go_wp2_with fail
    refine (hWhat d _).mono ?_
    rintro e w1 ⟨⟨q, hq, rfl⟩, o1⟩
    have oW1 : Hid (Only [] w w1) := oW.out.trans' o1
    have hH1 : Hid (HeapOf w1 hb S l) := HH.out.only0 oW1.out
    have hX1 : Hid (ItemsOf w1 xb T m) := HX.out.only0 oW1.out
    have bB : Hid (Box w1 B ⟨k, j⟩) := bB0.out.only o1 (by simp)
    have y0 := bB.out.c0
    have y1 := bB.out.c1
    have hdT : ∀ b ∈ T, b ∉ S := fun b hb hb' => HDIS.out b hb' hb
    clear o1 bB0 c0 c1 c2 oW
    have hq8 : q = 0 ∨ q = 1 ∨ q = 2 ∨ q = 3 ∨ q = 4 ∨ q = 5 ∨ q = 6 ∨ q = 7 := by omega
    clear hq
    rcases hq8 with rfl | rfl | rfl | rfl | rfl | rfl | rfl | rfl
    iterate 4
      · go_wp2_with fail
        go_region_with (first | (go_at_call 15; refine (hPush _ hb S l (by exact hH1.out.only0 ((Only.refl [] w1).drew)) ⟨k, j⟩ ⟨hk, hj⟩ hl).mono ?_; rintro e w2 ⟨rfl, S2, hH2, mv2⟩; have mvA : Moved w1 S w2 S2 := (Moved.of_only ((Only.refl [] w1).drew)).trans mv2; have hX2 := hX1.out.only mvA.1 hdT; have bB2 := bB.out.only mvA.1 hBS; have y0' := bB2.c0; have y1' := bB2.c1; have HH2 := Lib.hid hH2; have HX2 := Lib.hid hX2; have HM := Lib.hid mvA; clear hH2 hX2 mv2 mvA bB2) | (go_at_call 19; refine (xPush _ xb T m (by exact HX2.out) ⟨k, j⟩ hm).mono ?_; rintro e w3 ⟨rfl, T3, hX3, mv3⟩; have HX3 := Lib.hid hX3; have HM3 := Lib.hid mv3; clear hX3 mv3))
        all_goals
          go_wp2_with fail
          go_ret
          refine After.mk (w0 := w1) (w1 := w2) (w2 := w2) oW1.out hTw.out HDIS.out ?_ HH2.out HM.out (Only.refl _ _) HX3.out HM3.out (fun e => by rw [e]) ?_
          · intro e; rw [e]; simp
          · split
            · omega
            · rw [ins_len]; omega
    · have hp := hPop w1 hb S l hH1.out
      obtain ⟨x, ex⟩ : ∃ x, first l = x := ⟨_, rfl⟩
      obtain ⟨p, ep⟩ : ∃ p, (!l.isEmpty) = p := ⟨_, rfl⟩
      obtain ⟨y, ey⟩ : ∃ y, first m = y := ⟨_, rfl⟩
      obtain ⟨r, er⟩ : ∃ r, (!m.isEmpty) = r := ⟨_, rfl⟩
      rw [ex, ep] at hp
      go_wp2_with fail
      refine hp.mono ?_
      clear hp
      rintro e w2 ⟨rfl, S2, hH2, mv2⟩
      have hX2 := (hX1.out.only mv2.1 hdT).only0 ((Only.refl [] w2).alloc (.cells #[.int .u64 x.k, .int .i64 x.i] 37))
      have hp2 := xPop _ xb T m hX2
      rw [ey, er] at hp2
      have HE := Lib.hid (And.intro ex (And.intro ep (And.intro ey er)))
      clear ex ep ey er
      have bA : Box _ w2.heap.size x := Box.new w2 x
      have hs1 := oW1.out.size
      have hs2 := mv2.1.size
      have hsT : w2.heap.size ∉ T := fun e => by have := hTw.out _ e; omega
      have R2 := Lib.hid (And.intro hH2 (And.intro mv2 bA))
      clear hH2 mv2 hX2 bA
      unfold It.val at *
      go_wp2_with fail
      refine hp2.mono ?_
      clear hp2
      rintro e w3 ⟨rfl, T3, hX3, mv3⟩
      have bA3 := R2.out.2.2.only mv3.1 hsT
      have a0 := bA3.c0
      have a1 := bA3.c1
      have hlt3 : w2.heap.size < w3.heap.size := bA3.lt
      have he := item_eql x y
      have hg := item_guard
      have R3 := Lib.hid (And.intro hX3 mv3)
      clear bA3 hX3 mv3
      by_cases hxy : x = y
      · have hd1 : decide (x = y) = true := by simpa using hxy
        rw [hd1] at he
        have HXY := Lib.hid hxy
        clear hd1 hxy
        go_wp2_with fail
        go_ret
        refine After.mk (w0 := w1) (w1 := w2) (w2 := w2.alloc _) oW1.out hTw.out HDIS.out ?_ R2.out.1 R2.out.2.1 ((Only.refl _ _).alloc _) (R3.out.1.only0 ((Only.refl _ _).alloc _)) (R3.out.2.still ((Only.refl _ _).alloc _)) (fun e => by rw [e]) (by simp; omega)
        intro e
        have h9 := HE.out
        rw [e] at h9
        rw [← h9.2.1, ← h9.2.2.2]
        simp
      · have hd1 : decide (x = y) = false := by simpa using hxy
        rw [hd1] at he
        have HXY := Lib.hid hxy
        clear hd1 hxy
        go_wp2_with fail
        go_ret
        refine After.mk (w0 := w1) (w1 := w2) (w2 := w2.alloc _) oW1.out hTw.out HDIS.out ?_ R2.out.1 R2.out.2.1 ((Only.refl _ _).alloc _) (R3.out.1.only0 ((Only.refl _ _).alloc _)) (R3.out.2.still ((Only.refl _ _).alloc _)) (fun e => by rw [e]) (by simp; omega)
        intro e
        have h9 := HE.out
        rw [e] at h9
        exact absurd (h9.1.symm.trans h9.2.2.1) HXY.out
    · have hp := hDrop w1 hb S l hH1.out j hj
      obtain ⟨x, ex⟩ : ∃ x, (findId j l).getD ⟨0, 0⟩ = x := ⟨_, rfl⟩
      obtain ⟨p, ep⟩ : ∃ p, (findId j l).isSome = p := ⟨_, rfl⟩
      obtain ⟨y, ey⟩ : ∃ y, (findId j m).getD ⟨0, 0⟩ = y := ⟨_, rfl⟩
      obtain ⟨r, er⟩ : ∃ r, (findId j m).isSome = r := ⟨_, rfl⟩
      rw [ex, ep] at hp
      go_wp2_with fail
      refine hp.mono ?_
      clear hp
      rintro e w2 ⟨rfl, S2, hH2, mv2⟩
      have hX2 := (hX1.out.only mv2.1 hdT).only0 ((Only.refl [] w2).alloc (.cells #[.int .u64 x.k, .int .i64 x.i] 37))
      have hp2 := xDrop _ xb T m hX2 hi j
      rw [ey, er] at hp2
      have HE := Lib.hid (And.intro ex (And.intro ep (And.intro ey er)))
      clear ex ep ey er
      have bA : Box _ w2.heap.size x := Box.new w2 x
      have hs1 := oW1.out.size
      have hs2 := mv2.1.size
      have hsT : w2.heap.size ∉ T := fun e => by have := hTw.out _ e; omega
      have bB2 := (bB.out.only mv2.1 hBS).only ((Only.refl [] w2).alloc (.cells #[.int .u64 x.k, .int .i64 x.i] 37)) (by simp)
      have yy1 := bB2.c1
      have hB2 : B < w2.heap.size := (bB.out.only mv2.1 hBS).lt
      have yy2 := (bB.out.only mv2.1 hBS).c1
      clear bB2
      have R2 := Lib.hid (And.intro hH2 (And.intro mv2 bA))
      clear hH2 mv2 hX2 bA
      unfold It.val at *
      go_wp2_with fail
      refine hp2.mono ?_
      clear hp2
      rintro e w3 ⟨rfl, T3, hX3, mv3⟩
      have bA3 := R2.out.2.2.only mv3.1 hsT
      have a0 := bA3.c0
      have a1 := bA3.c1
      have hlt3 : w2.heap.size < w3.heap.size := bA3.lt
      have he := item_eql x y
      have hg := item_guard
      have R3 := Lib.hid (And.intro hX3 mv3)
      clear bA3 hX3 mv3
      by_cases hxy : x = y
      · have hd1 : decide (x = y) = true := by simpa using hxy
        rw [hd1] at he
        have HXY := Lib.hid hxy
        clear hd1 hxy
        go_wp2_with fail
        go_ret
        refine After.mk (w0 := w1) (w1 := w2) (w2 := w2.alloc _) oW1.out hTw.out HDIS.out ?_ R2.out.1 R2.out.2.1 ((Only.refl _ _).alloc _) (R3.out.1.only0 ((Only.refl _ _).alloc _)) (R3.out.2.still ((Only.refl _ _).alloc _)) (fun e => by rw [e]) (Nat.le_trans (List.eraseP_sublist).length_le (Nat.le_succ _))
        intro e
        have h9 := HE.out
        rw [e] at h9
        rw [← h9.2.1, ← h9.2.2.2]
        simp
      · have hd1 : decide (x = y) = false := by simpa using hxy
        rw [hd1] at he
        have HXY := Lib.hid hxy
        clear hd1 hxy
        go_wp2_with fail
        go_ret
        refine After.mk (w0 := w1) (w1 := w2) (w2 := w2.alloc _) oW1.out hTw.out HDIS.out ?_ R2.out.1 R2.out.2.1 ((Only.refl _ _).alloc _) (R3.out.1.only0 ((Only.refl _ _).alloc _)) (R3.out.2.still ((Only.refl _ _).alloc _)) (fun e => by rw [e]) (Nat.le_trans (List.eraseP_sublist).length_le (Nat.le_succ _))
        intro e
        have h9 := HE.out
        rw [e] at h9
        exact absurd (h9.1.symm.trans h9.2.2.1) HXY.out
    · obtain ⟨vx, eT, hxi, hxl⟩ := hX1.out
      have HXI := Lib.hid hxi
      have hn := fOf_neg m j
      obtain ⟨q, eq⟩ : ∃ q, (fOf m j).getD (-1) = q := ⟨_, rfl⟩
      have c1 := fun n => hHas (w1.drewN n) hb S l (hH1.out.only0 ((Only.refl [] w1).drewN n)) j hj
      have c2 := fun n => xAt (w1.drewN n) xb vx m (hxi.only0 ((Only.refl [] w1).drewN n)) hxl j
      rw [eq] at c2 hn
      have HQ := Lib.hid hn
      clear eT hxi hn eq
      go_wp2_with fail
      go_quiet (first | (go_at_call 14; exact Calls.quiet_of_same (c1 _)) | (go_at_call 27; exact Calls.quiet_of_same (c2 _)))
      have oN := (Only.refl [] w1).drewN nq
      have hHn := hH1.out.only0 oN
      have hXn := hX1.out.only0 oN
      have RN := Lib.hid (And.intro hHn (And.intro hXn oN))
      clear hHn hXn oN c1 c2
      generalize w1.drewN nq = wn at *
      go_wp2_with fail
      go_ret
      refine After.mk (w0 := w1) (w1 := wn) (w2 := wn) oW1.out hTw.out HDIS.out ?_ RN.out.1 (Moved.of_only RN.out.2.2) (Only.refl _ _) RN.out.2.1 (Moved.refl _ _) id (Nat.le_succ _)
      intro e
      rw [e]
      have h9 := HQ.out
      rcases hh : hasId j m with _ | _
      · rw [hh] at h9
        have h8 : ¬ (0 ≤ q) := fun h7 => by have := h9.1 h7; cases this
        simp [h8]
      · rw [hh] at h9
        have h8 : 0 ≤ q := h9.2 rfl
        simp [h8]
    · have hp := hMin w1 hb S l hH1.out
      obtain ⟨x, ex⟩ : ∃ x, first l = x := ⟨_, rfl⟩
      obtain ⟨p, ep⟩ : ∃ p, (!l.isEmpty) = p := ⟨_, rfl⟩
      obtain ⟨y, ey⟩ : ∃ y, first m = y := ⟨_, rfl⟩
      obtain ⟨r, er⟩ : ∃ r, (!m.isEmpty) = r := ⟨_, rfl⟩
      rw [ex, ep] at hp
      go_wp2_with fail
      refine hp.mono ?_
      clear hp
      rintro e w2 ⟨rfl, o2⟩
      have hH2 := hH1.out.only0 o2
      have mv2 := Moved.of_only (S := S) o2
      clear o2
      have hX2 := (hX1.out.only mv2.1 hdT).only0 ((Only.refl [] w2).alloc (.cells #[.int .u64 x.k, .int .i64 x.i] 37))
      have hX2' := Lib.hid hX2
      have hp2 := xMin _ xb T m hX2
      rw [ey, er] at hp2
      have HE := Lib.hid (And.intro ex (And.intro ep (And.intro ey er)))
      clear ex ep ey er
      have bA : Box _ w2.heap.size x := Box.new w2 x
      have hs1 := oW1.out.size
      have hs2 := mv2.1.size
      have hsT : w2.heap.size ∉ T := fun e => by have := hTw.out _ e; omega
      have R2 := Lib.hid (And.intro hH2 (And.intro mv2 bA))
      clear hH2 mv2 hX2 bA
      unfold It.val at *
      go_wp2_with fail
      refine hp2.mono ?_
      clear hp2
      rintro e w3 ⟨rfl, o3⟩
      have hX3 := hX2'.out.only0 o3
      have mv3 := Moved.of_only (S := T) o3
      clear o3
      have bA3 := R2.out.2.2.only mv3.1 hsT
      have a0 := bA3.c0
      have a1 := bA3.c1
      have hlt3 : w2.heap.size < w3.heap.size := bA3.lt
      have he := item_eql x y
      have hg := item_guard
      have R3 := Lib.hid (And.intro hX3 mv3)
      clear bA3 hX3 mv3
      by_cases hxy : x = y
      · have hd1 : decide (x = y) = true := by simpa using hxy
        rw [hd1] at he
        have HXY := Lib.hid hxy
        clear hd1 hxy
        go_wp2_with fail
        go_ret
        refine After.mk (w0 := w1) (w1 := w2) (w2 := w2.alloc _) oW1.out hTw.out HDIS.out ?_ R2.out.1 R2.out.2.1 ((Only.refl _ _).alloc _) (R3.out.1.only0 ((Only.refl _ _).alloc _)) (R3.out.2.still ((Only.refl _ _).alloc _)) (fun e => by rw [e]) (Nat.le_succ _)
        intro e
        have h9 := HE.out
        rw [e] at h9
        rw [← h9.2.1, ← h9.2.2.2]
        simp
      · have hd1 : decide (x = y) = false := by simpa using hxy
        rw [hd1] at he
        have HXY := Lib.hid hxy
        clear hd1 hxy
        go_wp2_with fail
        go_ret
        refine After.mk (w0 := w1) (w1 := w2) (w2 := w2.alloc _) oW1.out hTw.out HDIS.out ?_ R2.out.1 R2.out.2.1 ((Only.refl _ _).alloc _) (R3.out.1.only0 ((Only.refl _ _).alloc _)) (R3.out.2.still ((Only.refl _ _).alloc _)) (fun e => by rw [e]) (Nat.le_succ _)
        intro e
        have h9 := HE.out
        rw [e] at h9
        exact absurd (h9.1.symm.trans h9.2.2.1) HXY.out
  have HR := Lib.hid rest
  clear rest
  have hsz0 : W.heap.size ≤ W.heap.size := Nat.le_refl _
  go_region_with (first | (go_at_call 23; refine (hSmall d hd _).mono ?_; rintro e w1 ⟨⟨k, hk1, rfl⟩, o1⟩; have e0 := o1.stay (p := ⟨N, 0, none⟩) (v := .int .i64 d.a) (by go_simp); have e1 := o1.stay (p := ⟨N, 1, none⟩) (v := .int .u64 d.b) (by go_simp); have e2 := o1.stay (p := ⟨N, 2, none⟩) (v := .int .i64 d.c) (by go_simp); have hN1 : N < w1.heap.size := World.block_lt_of_cell? w1 ⟨N, 0, none⟩ e0; (try (have bz1 : Box w1 W.heap.size ⟨0, 0⟩ := by (refine Box.only (S := []) ?_ o1 (by simp); exact Box.new W ⟨0, 0⟩)))) | (go_at_call 24; refine (hName d hd _).mono ?_; rintro e w2 ⟨⟨j, hj1, rfl⟩, o2⟩; (try (have bz2 : Box w2 W.heap.size ⟨0, 0⟩ := by (refine Box.only (S := []) ?_ o2 (by simp); exact bz1)); have z0 := bz2.c0; have z1 := bz2.c1; have f0 := bz2.fr 0; have f1 := bz2.fr 1); (try (have bz2 : Box w2 w1.heap.size ⟨0, 0⟩ := by (refine Box.only (S := []) ?_ o2 (by simp); exact Box.new w1 ⟨0, 0⟩)); have z0 := bz2.c0; have z1 := bz2.c1; have f0 := bz2.fr 0; have f1 := bz2.fr 1)))
  all_goals
    have oA : Only [] W w2 := by
      first
        | exact ((Only.refl [] W).drew.trans' o1).trans' o2
        | exact (((Only.refl [] W).drew.trans' o1).alloc _).trans' o2
        | exact (((Only.refl [] W).alloc _).drew.trans' o1).trans' o2
    have hs1 : W.heap.size ≤ w1.heap.size := by
      have := o1.size
      simp at this
      omega
    have hs2 : W.heap.size ≤ w2.heap.size := oA.size
    first
      | exact HR.out w2.heap.size k j _ hk1 hj1 (oA.alloc _) (Box.new w2 ⟨k, j⟩) hs2
      | exact HR.out W.heap.size k j _ hk1 hj1 ((oA.setCell (.inr hsz0) _).setCell (.inr hsz0) _) (bz2.put k j) hsz0
      | exact HR.out w1.heap.size k j _ hk1 hj1 ((oA.setCell (.inr hs1) _).setCell (.inr hs1) _) (bz2.put k j) hs1
end Go.Proofs.Ytppkbokjnocoeaa
