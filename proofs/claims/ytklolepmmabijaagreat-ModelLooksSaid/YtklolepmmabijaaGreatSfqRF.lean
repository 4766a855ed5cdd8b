/-
  The document's scheduler: Copy.
-/
import Derived.Test.YtklolepmmabijaaGreatGmA
namespace Go.Proofs.YtklolepmmabijaaGreat
set_option maxRecDepth 100000
open Go.RowKit
set_option linter.unusedVariables false
set_option linter.unusedSimpArgs false
set_option maxRecDepth 100000

/-- A copy that is under way: the first p flows are there. -/
structure CpyR (w : World) (G : Nat) (S : Sq) (es : List En) (wr : World) (p : Nat) (u : Value) (ds : List En) : Prop where
  blk : QBlk wr G S.v S.m u
  row : pE.Row wr u (ds.map En.b)
  dl : ds.length = p
  key : ds.map En.key = (es.take p).map En.key
  fam : Fam Theirs wr ds (xOf G u)
  new : ∀ k ∈ ownF (xOf G u) ds, w.heap.size ≤ k
  only : Only [] w wr
theorem CpyR.step {w wr w3 W4 w5 : World} {G p : Nat} {S : Sq} {es ds : List En} {u v5 : Value} (h : CpyR w G S es wr p u ds) {e : En} (he : es[p]? = some e) (o3 : Only [] wr w3) {nb : Nat} {O3 : List Nat} (hf : RefOf w3 nb e.id e.F O3) (hO : ∀ k ∈ O3, wr.heap.size ≤ k) (o4 : Only [] w3 W4) (r5 : pE.Row w5 v5 (ds.map En.b ++ [nb])) (g5 : W4.grownBy w5 u.ownBlock) (l5 : v5.ownBlock = u.ownBlock ∨ v5.ownBlock = some W4.heap.size) :
    QBlk w5 G S.v S.m u ∧ CpyR w G S es (w5.setCell ⟨G, 0, none⟩ v5) (p + 1) v5 (ds ++ [⟨e.id, e.F, nb, O3⟩]) := by
  have o34 := o3.trans' o4
  have hu : ∀ g, u.ownBlock = some g → g < wr.heap.size := fun g hg => h.row.lt hg
  have hne : ∀ g, u.ownBlock = some g → g ≠ G := h.row.ne h.blk (by decide)
  have oU : Only u.ownBlock.toList W4 w5 := (Only.refl _ W4).grown g5 (fun k hk => .inl (Option.mem_toList.2 hk))
  have b5 : QBlk w5 G S.v S.m u := (h.blk.only0 o34).only oU (fun hk => hne G (Option.mem_toList.1 hk) rfl)
  have oX : Only (xOf G u) W4 (w5.setCell ⟨G, 0, none⟩ v5) := (oU.mono (T := xOf G u) (fun k hk => .inl (mem_xOf.2 (.inr (Option.mem_toList.1 hk))))).setCell (.inl (mem_xOf.2 (.inl rfl))) _
  have hX' : ∀ k ∈ xOf G v5, k ∈ xOf G u ∨ W4.heap.size ≤ k := fun k hk => by
    rcases mem_xOf.1 hk with rfl | hk
    · exact .inl (mem_xOf.2 (.inl rfl))
    · rcases l5 with l5 | l5
      · exact .inl (mem_xOf.2 (.inr (l5 ▸ hk)))
      · rw [l5] at hk; injection hk with hk; exact .inr (by omega)
  have hfW : RefOf W4 nb e.id e.F O3 := hf.only0 o4
  obtain ⟨f1, g1⟩ := h.fam.added rep_theirs (fun k hk => by
    rcases mem_xOf.1 hk with rfl | hk
    · exact h.blk.lt
    · exact hu k hk) o34 (e := ⟨e.id, e.F, nb, O3⟩) (show RefOf _ _ _ _ _ from hfW) hO ds.length oX hX'
  rw [List.take_length, List.drop_length] at f1 g1
  refine ⟨b5, b5.set0 v5, ?_, by rw [List.length_append, h.dl]; rfl, ?_, f1, fun k hk => ?_, ?_⟩
  · rw [List.map_append]
    exact r5.only ((Only.refl [G] w5).setCell (by simp) _) (fun g hg => by simpa using r5.ne b5 (by decide) g hg)
  · obtain ⟨hl, rfl⟩ := List.getElem?_eq_some_iff.1 he
    rw [List.map_append, h.key, List.take_succ_eq_append_getElem hl, List.map_append]
    rfl
  · rcases g1.2 k hk with h1 | h1
    · exact h.new k h1
    · exact Nat.le_trans h.only.size h1
  · exact h.only.trans g1.1 (fun k hk => .inr (h.new k hk))
theorem step_refcopy {E : Prop} {w : World} {ops : Array Oper} {o : Oper} {a : Act} {K : Act → World → Prop} {Q : Exit → Act → World → Prop} (hgd : o.guard = none) (x : Operand) (tys : Array TypeId) (ho : o.op = .call { callee := .value (.func 82), args := #[x], argTypes := tys }) (b : Nat) (id : Int) (F : Fl) (O : List Nat) (hF : RefOf w b id F O) (hx : a.eval x = .pointer (some ⟨b, 0, none⟩))
    (hK : ∀ w' O', RefOf w' w.heap.size id F O' → Only [] w w' → (∀ k ∈ O', w.heap.size ≤ k) → K (a.put o.dst (.pointer (some ⟨w.heap.size, 0, none⟩))) w') : if Region.wanted o (yielded ops a.tmps) = true then Oper.wp Tryz.prog o a w K Q else E := by
  have hw : Region.wanted o (yielded ops a.tmps) = true := by simp [Region.wanted, hgd]
  rw [if_pos hw]
  unfold Oper.wp execOp
  simp only [ho, resolve, invoke, Sem.run_bind, Sem.run_pure, Result.andThen_ok, List.map_toArray, List.map_cons, List.map_nil, hx]
  go_simp
  refine (rlCopy w b id F O hF).mono ?_
  rintro e w' ⟨rfl, O', h1, h2, h3⟩
  exact hK w' O' h1 h2 h3
set_option maxHeartbeats 4000000 in
theorem zCopy (w : World) (b : Nat) (S : Sq) (O : List Nat) (h : RqOf w b S O) :
    Calls Tryz.prog 60 #[.pointer (some ⟨b, 0, none⟩)] w fun e w' => ∃ nb, e = .returned (.pointer (some ⟨nb, 0, none⟩)) ∧ ∃ O', RqOf w' nb S O' ∧ Only [] w w' ∧ ∀ k ∈ O', w.heap.size ≤ k := by
  obtain ⟨u, es, h, rfl⟩ := h
  obtain ⟨c0, c1, c2⟩ := h.blk.c
  have hl1 : es.length ≤ 1000 := by have := h.ok.len; have := key_len h.key; omega
  have hget : Hid (∀ k : Nat, k < es.length → ∃ e : En, es[k]? = some e) := fun k hk => ⟨_, List.getElem?_eq_getElem hk⟩
  obtain ⟨A, cap, ev⟩ := h.row.form
  rw [List.length_map] at ev
  subst ev
  have H := Lib.hid h
  have hb := h.blk.lt
  clear h
  generalize hn : es.length = n at *
  have HN := Lib.hid hn
  clear hn
  go_enter Tryz.func60, Tryz.ntmps60
  go_wp2_with fail
  go_still_tail 9, (by kernel_rfl)
  change wpList _ _ _ _ _ w.drew
  go_wp2_with fail
  have oV : Only [] w (w.alloc (.cells #[.slice none 0 0, .int .u64 S.v, .int .u64 S.m] 72)).drew := ((Only.refl [] w).alloc _).drew
  have bV : QBlk (w.alloc (.cells #[.slice none 0 0, .int .u64 S.v, .int .u64 S.m] 72)).drew w.heap.size S.v S.m (.slice none 0 0) := heap_alloc_new w _
  obtain ⟨G, eG⟩ : ∃ G, w.heap.size = G := ⟨_, rfl⟩
  have HG := Lib.hid eG
  rw [eG] at bV hb ⊢
  have HV : Hid (CpyR w G S es (w.alloc (.cells #[.slice none 0 0, .int .u64 S.v, .int .u64 S.m] 72)).drew 0 (.slice none 0 0) []) := ⟨bV, El.Row.nil _, rfl, rfl, ⟨by simp, List.Pairwise.nil, by simp⟩, (fun k hk => by
    rcases mem_ownF.1 hk with hk | ⟨d, hd, _⟩
    · rcases mem_xOf.1 hk with rfl | hk
      · omega
      · cases hk
    · cases hd), oV⟩
  clear eG oV bV c0 c1 c2
  generalize (w.alloc (.cells #[.slice none 0 0, .int .u64 S.v, .int .u64 S.m] 72)).drew = V at *
  go_loopg [4] (n + 1) (fun gk si wr => ∃ (p : Nat) (A1 : Option Addr) (cap1 : Nat) (ds : List En), si = .int .i64 (p : Int) ∧ p ≤ n ∧ n + 1 ≤ gk + p ∧ Hid (CpyR w G S es wr p (.slice A1 p cap1) ds))
  case atStart => exact ⟨0, none, 0, [], rfl, by omega, by omega, HV⟩
  case round =>
    obtain ⟨p, A1, cap1, ds, rfl, hp, hg, hC⟩ := hrel
    clear HV
    have Hr := Lib.hid (H.out.only0 hC.out.only)
    obtain ⟨c0, c1, c2⟩ := Hr.out.blk.c
    obtain ⟨y0, y1, y2⟩ := hC.out.blk.c
    by_cases hpl : p < n
    · have hpl' : (p : Int) < (n : Int) := by omega
      obtain ⟨e, he⟩ := hget.out p hpl
      obtain ⟨g, rfl, hgl, d0⟩ := prow_at Hr.out.row wr (Only.refl _ _) p e he
      have hE := Lib.hid (Hr.out.fam.each e (List.mem_of_getElem? he))
      have HE := Lib.hid he
      have hGl := hC.out.blk.lt
      clear he
      go_wp2_with fail
      go_region_law (first
        | (refine step_refcopy rfl (.tmp 35) _ rfl e.b e.id e.F e.O (by exact RefOf.only0 hE.out (Only.refl [] wr).drew) (by simp [Act.eval, Act.put]) ?_
           intro w3 O3 f3 o3 n3
           have o3' : Only [] wr w3 := (Only.refl [] wr).drew.trans' o3
           obtain ⟨z0, z1, z2⟩ := (hC.out.blk.only0 o3').c
           have hG3 := (hC.out.blk.only0 o3').lt
           have R3 := Lib.hid (And.intro f3 (And.intro o3' n3))
           clear f3 o3 o3' n3)
        | (refine El.step_append (E := pE) Tryz.underlying70 rfl (.tmp 28) (.tmp 37) rfl (.slice A1 p cap1) (ds.map En.b) (by simp [Act.eval, Act.put]) (by exact (hC.out.row.only0 R3.out.2.1).only0 ((Only.refl [] w3).alloc _)) (some ⟨w3.heap.size, 0, none⟩) 1 1 [wr.heap.size] (by simp [Act.eval, Act.put]) rfl (by exact El.Src.box (E := pE) (heap_alloc_new w3 _)) (p + 1) (by rw [List.length_map, hC.out.dl]) (by omega) ?_
           intro A5 cap5 w5 r5 g5 l5
           obtain ⟨b5, C5⟩ := hC.out.step HE.out R3.out.2.1 R3.out.1 R3.out.2.2 ((Only.refl [] w3).alloc _) r5 g5 l5
           obtain ⟨x0, x1, x2⟩ := b5.c
           have xf0 := b5.fr 0
           have R5 := Lib.hid C5
           clear r5 g5 l5 b5 C5))
      all_goals
        go_wp2_with fail
        go_roundg (n + 1 - (p + 1))
        case measure => omega
        case rel => exact ⟨p + 1, _, _, _, by simp, by omega, by omega, R5⟩
    · have hpl' : ¬ ((p : Int) < (n : Int)) := by omega
      obtain rfl : p = n := by omega
      go_wp2_with fail
      go_ret
      have hk : ds.map En.key = S.l := by rw [hC.out.key, List.take_of_length_le (by have := HN.out; omega), H.out.key]
      have q1 : RqOf wr G S (ownF (xOf G (.slice A1 p cap1)) ds) := ⟨_, ds, ⟨H.out.ok, hC.out.blk, hC.out.row, hC.out.fam, hk⟩, rfl⟩
      first | exact ⟨_, rfl, _, q1, hC.out.only, hC.out.new⟩ | exact ⟨_, q1, hC.out.only, hC.out.new⟩
end Go.Proofs.YtklolepmmabijaaGreat
