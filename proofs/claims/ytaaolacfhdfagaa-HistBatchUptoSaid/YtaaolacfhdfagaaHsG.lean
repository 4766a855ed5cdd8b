/-
  Ours: Most.
-/
import Derived.Test.YtaaolacfhdfagaaHsF
namespace Go.Proofs.Ytaaolacfhdfagaa
set_option maxRecDepth 100000
open Go.RowKit
set_option linter.unusedVariables false
set_option linter.unusedSimpArgs false
set_option maxRecDepth 100000

open Go.Shelf Go.Lib Go.Sort
set_option maxHeartbeats 1000000
theorem El.Row.src {α : Type} {n : Nat} {E : El α n} {w : World} {A : Option Addr} {m cap : Nat} {xs : List α} (h : E.Row w (.slice A m cap) xs) : E.Src w A xs := El.Src.of_row h
theorem own_len (A : Option Addr) (n m c d : Nat) : (Value.slice A n c).ownBlock = (Value.slice A m d).ownBlock := by
  rcases A with _ | ⟨b, o, s⟩
  · rfl
  · rcases o with _ | o <;> rcases s with _ | s <;> rfl
/-- Sorted Froms. -/
theorem fr_mono {L : List Dn} (hs : L.Pairwise fun x y => x.fr ≤ y.fr) {j k : Nat} (hjk : j ≤ k) (hk : k < L.length) : (dns L j).fr ≤ (dns L k).fr := by
  by_cases e : j = k
  · subst e; exact Int.le_refl _
  · have := (List.pairwise_iff_getElem.1 hs) j k (by omega) hk (by omega)
    simpa only [show L[j] = dns L j by simp [dns, show j < L.length by omega], show L[k] = dns L k by simp [dns, hk]] using this
theorem cMost (A : Option Addr) (n c : Nat) (L : List Dn) (u : World) (hL : L.length = n) (hb : n ≤ 1000000) (h : Dns u A L) :
    Calls Try.prog 17 #[.slice A n c] u fun e w' => e = .returned (.int .i64 (mostL L : Nat)) ∧ Only [] u w' := by
  have k1 := kCalls u A n c L hL hb h
  have HB := Lib.hid hb
  clear h hL
  go_enter Try.func17, Try.ntmps17
  go_wp2_with fail
  refine k1.mono ?_
  rintro e w1 ⟨g, rfl, r1, hg, o1⟩
  have k2 := kDelB w1 _ n n L HB.out r1
  have O1 := Lib.hid (And.intro o1 hg)
  clear k1 r1 o1 hg
  go_wp2_with fail
  refine k2.mono ?_
  rintro e w2 ⟨n1, rfl, r2, o2⟩
  have O2 : Hid (Only [] u w2 ∧ u.heap.size ≤ g ∧ g < w2.heap.size) := ⟨O1.out.1.trans o2 (fun k hk => by simp [Value.ownBlock] at hk; subst hk; exact .inr O1.out.2.1), O1.out.2.1, Nat.lt_of_lt_of_le O1.out.2.2 o2.size⟩
  have HN1 : Hid (n1 ≤ 1000000) := by show _ ≤ _; have := r2.capOf; have := HB.out; omega
  have EM : Hid (mostL (L.filter fun x => !backB x) = mostL L) := mostL_fwd L
  have FW : Hid (∀ x ∈ (L.filter fun x => !backB x), backB x = false) := fun x hx => by have := (List.mem_filter.1 hx).2; simpa using this
  generalize L.filter (fun x => !backB x) = F at *
  have R2 := Lib.hid r2
  have HF := Lib.hid r2.lenOf
  have k3 := kClone w2 (some ⟨g, 0, none⟩) n1 n F (fun e => by cases e) HF.out HN1.out (El.Src.of_row r2)
  clear k2 o2 r2
  go_wp2_with fail
  refine k3.mono ?_
  rintro e w3 ⟨A2, c2, rfl, r3, f3, o3⟩
  have R3 := Lib.hid (And.intro r3 f3)
  have O3 : Hid (Only [] w2 w3) := o3
  have k4 := kDelO w3 A2 n1 c2 F HN1.out r3
  clear k3 r3 f3 o3
  go_wp2_with fail
  refine k4.mono ?_
  rintro e w4 ⟨n2, rfl, r4, o4⟩
  have f4 : ∀ k, (Value.slice A2 n2 c2).ownBlock = some k → w2.heap.size ≤ k := fun k hk => R3.out.2 k (by rw [own_len A2 n1 n2 c2 c2]; exact hk)
  have O4 : Hid (Only [] w2 w4) := O3.out.trans o4 (fun k hk => .inr (R3.out.2 k (Option.mem_toList.1 hk)))
  have R4 : Hid (kE.Row w4 (.slice (some ⟨g, 0, none⟩) n1 n) F) := R2.out.only0 O4.out
  have OP : Hid (∀ x ∈ (F.filter fun x => !opn x), opn x = false) := fun x hx => by have := (List.mem_filter.1 hx).2; simpa using this
  have EG : Hid (∀ t, goneN (F.filter fun x => !opn x) t = goneN F t) := gone_filter F
  have HE := r4.lenOf
  have HN2 : Hid (n2 ≤ 1000000) := by
    show _ ≤ _
    have h1 := List.length_filter_le (fun x => !opn x) F
    have h2 := HF.out
    have h3 := HN1.out
    omega
  generalize F.filter (fun x => !opn x) = E at *
  have R5 := Lib.hid (And.intro r4 f4)
  have k5 := kSortF w4 _ n1 n F R4.out HN1.out
  clear k4 r4 o4 f4 HE
  go_wp2_with fail
  refine k5.mono ?_
  rintro e w5 ⟨rfl, M, hM, r5, o5⟩
  have NG : Hid (∀ k, (Value.slice A2 n2 c2).ownBlock = some k → k ≠ g) := fun k hk => by
    have h1 := R5.out.2 k hk
    have h2 := O2.out.2.2
    omega
  have R6 : Hid (kE.Row w5 (.slice A2 n2 c2) E) := R5.out.1.only o5 (fun k hk => by simp [Value.ownBlock]; exact NG.out k hk)
  have R7 := Lib.hid (And.intro r5 hM)
  have O5 : Hid (Only [] u w5) := (O2.out.1.trans' O4.out).trans o5 (fun k hk => by simp [Value.ownBlock] at hk; subst hk; exact .inr O2.out.2.1)
  have k6 := kSortT w5 A2 n2 c2 E R6.out HN2.out
  clear k5 hM r5 o5
  go_wp2_with fail
  refine k6.mono ?_
  rintro e w6 ⟨rfl, N, hN, r6, o6⟩
  have RM : Hid (kE.Row w6 (.slice (some ⟨g, 0, none⟩) n1 n) M) := R7.out.1.only o6 (fun k hk => by
    simp [Value.ownBlock] at hk
    subst hk
    intro h
    exact NG.out _ (Option.mem_toList.1 h) rfl)
  have RN : Hid (kE.Row w6 (.slice A2 n2 c2) N) := r6
  have O6 : Hid (Only [] u w6) := O5.out.trans o6 (fun k hk => by
    have h1 := R5.out.2 k (Option.mem_toList.1 hk)
    have h2 := O2.out.1.size
    exact .inr (by omega))
  have FWM : Hid (∀ x ∈ M, backB x = false) := fun x hx => FW.out x (R7.out.2.1.subset hx)
  have OPN : Hid (∀ x ∈ N, opn x = false) := fun x hx => OP.out x (hN.1.subset hx)
  have EGT : Hid (∀ t, goneN N t = goneN M t) := fun t => by rw [gone_perm hN.1, EG.out, gone_perm R7.out.2.1]
  have SM : Hid (M.Pairwise fun x y => x.fr ≤ y.fr) := R7.out.2.2
  have SN : Hid (N.Pairwise fun x y => x.to ≤ y.to) := hN.2
  have HLM : Hid (M.length = n1) := RM.out.lenOf
  have HLN : Hid (N.length = n2) := RN.out.lenOf
  have ER : Hid (swept M n1 = mostL L) := by
    show _ = _
    rw [← HLM.out, swept_all SM.out FWM.out, mostL_perm R7.out.2.1, EM.out]
  have DM : Hid (∀ V, Only [] w6 V → Dns V (some ⟨g, 0, none⟩) M) := fun V o => (Dns.of_row (E := kE) rfl RM.out).only0 o
  have DN : Hid (∀ V, Only [] w6 V → Dns V A2 N) := fun V o => (Dns.of_row (E := kE) rfl RN.out).only0 o
  have ah := Lib.hid (fun (x y : Dn) (V : World) => kAhead x y V)
  clear k6 hN r6 o6
  clear R2 R3 R4 R5 R6 R7 RM RN EM FW OP EG O1 O2 O3 O4 O5 NG HF
  go_wp2_with fail
  go_loopg [5, 6, 21] (n1 + 1) (fun gk sm sg si wr => ∃ i q : Nat, sm = .int .i64 ((swept M i : Nat) : Int) ∧ sg = .int .i64 (q : Int) ∧ si = .int .i64 (i : Int) ∧ i ≤ n1 ∧ n1 + 1 ≤ gk + i ∧ q ≤ n2 ∧ Hid (∀ j, j < q → ∀ k, i ≤ k → k < n1 → (dns N j).to < (dns M k).fr) ∧ Hid (Only [] w6 wr))
  case atStart => exact ⟨0, 0, rfl, rfl, rfl, by omega, by omega, by omega, fun j hj => absurd hj (by omega), Only.refl _ _⟩
  case round =>
    obtain ⟨i, q0, rfl, rfl, rfl, hi, hg, hq0, hj, O⟩ := hrel
    by_cases hin : i < n1
    · have h1 : (i : Int) < (n1 : Int) := by omega
      generalize hs0 : swept M i = s0
      have HS0 := Lib.hid hs0
      clear hs0
      obtain ⟨ga, ea, hc⟩ := (DM.out wr O.out).at_ (k := i) (by rw [HLM.out]; exact hin)
      injection ea with ea
      injection ea with ea
      subst ea
      obtain ⟨x, hx⟩ : ∃ x, dns M i = x := ⟨_, rfl⟩
      rw [hx] at hc
      have HX := Lib.hid hx
      have al := Only.alloc (Only.refl [] wr) (.cells #[.int .i64 x.who, .int .i64 x.place, .int .i64 x.op, .int .i64 x.f, .int .i64 x.a, .int .i64 x.b, .int .i64 x.e, .slice x.A x.m x.c, .int .i64 x.n, .int .u64 x.v, .int .i64 x.fr, .int .i64 x.to] 41)
      have hxb := Lib.hid (fun (V : World) (o : Only [] (wr.alloc (.cells #[.int .i64 x.who, .int .i64 x.place, .int .i64 x.op, .int .i64 x.f, .int .i64 x.a, .int .i64 x.b, .int .i64 x.e, .slice x.A x.m x.c, .int .i64 x.n, .int .u64 x.v, .int .i64 x.fr, .int .i64 x.to] 41)) V) => (DnAt.box wr x 41).only0 o)
      have O1 : Hid (Only [] w6 (wr.alloc (.cells #[.int .i64 x.who, .int .i64 x.place, .int .i64 x.op, .int .i64 x.f, .int .i64 x.a, .int .i64 x.b, .int .i64 x.e, .slice x.A x.m x.c, .int .i64 x.n, .int .u64 x.v, .int .i64 x.fr, .int .i64 x.to] 41))) := O.out.trans' al
      obtain ⟨x0, x1, x2, x3, x4, x5, x6, x7, x8, x9, x10, x11⟩ := hc; (try simp only [Nat.zero_add] at x0 x1 x2 x3 x4 x5 x6 x7 x8 x9 x10 x11)
      clear hx al
      go_wp2_with fail
      clear x0 x1 x2 x3 x4 x5 x6 x7 x8 x9 x10 x11
      generalize wr.alloc (.cells #[.int .i64 x.who, .int .i64 x.place, .int .i64 x.op, .int .i64 x.f, .int .i64 x.a, .int .i64 x.b, .int .i64 x.e, .slice x.A x.m x.c, .int .i64 x.n, .int .u64 x.v, .int .i64 x.fr, .int .i64 x.to] 41) = W at *
      generalize wr.heap.size = b at *
      go_loopg [6] (n2 + 1) (fun gk2 sg wr => ∃ q : Nat, sg = .int .i64 (q : Int) ∧ q ≤ n2 ∧ n2 + 1 ≤ gk2 + q ∧ Hid (∀ j, j < q → (dns N j).to < x.fr) ∧ Hid (Only [] W wr))
      case atStart => exact ⟨q0, rfl, hq0, by omega, fun j hjq => by rw [← HX.out]; exact hj.out j hjq i (Nat.le_refl _) hin, Only.refl _ _⟩
      case round =>
        obtain ⟨q, rfl, hq, hg2, hjq, Ov⟩ := hrel
        clear hq0
        have rest : Hid (goneN N x.fr = q → q ≤ i ∧ max (s0 : Int) ((i : Int) + 1 - (q : Int)) = ((swept M (i + 1) : Nat) : Int) ∧ swept M (i + 1) ≤ i + 1) := fun hgq => by
          have e1 : goneN M (dns M i).fr = q := by rw [← EGT.out, HX.out, hgq]
          have e2 := gone_le SM.out FWM.out (i := i) (by rw [HLM.out]; exact hin)
          rw [e1] at e2
          refine ⟨e2, ?_, swept_len M (i + 1)⟩
          rw [swept_succ, e1, HS0.out]
          omega
        by_cases hqn : q < n2
        · have h3 : (q : Int) < (n2 : Int) := by omega
          have d3 : decide ((q : Int) < (n2 : Int)) = true := decide_eq_true h3
          obtain ⟨ga2, rfl, hc⟩ := (DN.out wr (O1.out.trans' Ov.out)).at_ (k := q) (by rw [HLN.out]; exact hqn)
          obtain ⟨y, hy⟩ : ∃ y, dns N q = y := ⟨_, rfl⟩
          rw [hy] at hc
          have HY := Lib.hid hy
          have OY : Hid (opn y = false) := OPN.out y (by rw [← hy]; exact dns_mem (by rw [HLN.out]; exact hqn))
          clear hy
          have CEL : Hid (∀ V, Only [] wr V → (V.cell? ⟨ga2, q * 12, none⟩ = some (.int .i64 y.who) ∧ V.cell? ⟨ga2, q * 12 + 1, none⟩ = some (.int .i64 y.place) ∧ V.cell? ⟨ga2, q * 12 + 2, none⟩ = some (.int .i64 y.op) ∧ V.cell? ⟨ga2, q * 12 + 3, none⟩ = some (.int .i64 y.f) ∧ V.cell? ⟨ga2, q * 12 + 4, none⟩ = some (.int .i64 y.a) ∧ V.cell? ⟨ga2, q * 12 + 5, none⟩ = some (.int .i64 y.b) ∧ V.cell? ⟨ga2, q * 12 + 6, none⟩ = some (.int .i64 y.e) ∧ V.cell? ⟨ga2, q * 12 + 7, none⟩ = some (.slice y.A y.m y.c) ∧ V.cell? ⟨ga2, q * 12 + 8, none⟩ = some (.int .i64 y.n) ∧ V.cell? ⟨ga2, q * 12 + 9, none⟩ = some (.int .u64 y.v) ∧ V.cell? ⟨ga2, q * 12 + 10, none⟩ = some (.int .i64 y.fr) ∧ V.cell? ⟨ga2, q * 12 + 11, none⟩ = some (.int .i64 y.to)) ∧ (V.cell? ⟨b, 0, none⟩ = some (.int .i64 x.who) ∧ V.cell? ⟨b, 1, none⟩ = some (.int .i64 x.place) ∧ V.cell? ⟨b, 2, none⟩ = some (.int .i64 x.op) ∧ V.cell? ⟨b, 3, none⟩ = some (.int .i64 x.f) ∧ V.cell? ⟨b, 4, none⟩ = some (.int .i64 x.a) ∧ V.cell? ⟨b, 5, none⟩ = some (.int .i64 x.b) ∧ V.cell? ⟨b, 6, none⟩ = some (.int .i64 x.e) ∧ V.cell? ⟨b, 7, none⟩ = some (.slice x.A x.m x.c) ∧ V.cell? ⟨b, 8, none⟩ = some (.int .i64 x.n) ∧ V.cell? ⟨b, 9, none⟩ = some (.int .u64 x.v) ∧ V.cell? ⟨b, 10, none⟩ = some (.int .i64 x.fr) ∧ V.cell? ⟨b, 11, none⟩ = some (.int .i64 x.to))) := fun V o => ⟨hc.only0 o, by have h9 := hxb.out V (Ov.out.trans' o); unfold DnAt at h9; simpa only [Nat.zero_add] using h9⟩
          clear hc
          have qa := Lib.hid (ah.out y x)
          rcases hay : aheadD y x
          · rw [hay] at qa
            have hgq := rest.out (gone_sorted OPN.out SN.out x.fr (g := q) (by rw [HLN.out]; exact hq) hjq.out (fun h => by
              rw [HY.out]
              have h9 := OY.out
              simp [aheadD, h9] at hay
              exact hay))
            have HG := Lib.hid hgq
            obtain ⟨s1, hs1⟩ : ∃ s1, swept M (i + 1) = s1 := ⟨_, rfl⟩
            have HS1 := Lib.hid hs1
            rw [hs1] at hgq
            obtain ⟨hqi, hmx, hs9⟩ := hgq
            have w1 : IntKind.i64.wrap ((i : Int) + 1) = (i : Int) + 1 := by rw [IntKind.wrap_i64]; have := HN1.out; omega
            have w2 : IntKind.i64.wrap ((i : Int) + 1 - (q : Int)) = (i : Int) + 1 - (q : Int) := by rw [IntKind.wrap_i64]; have := HN1.out; have := HN2.out; omega
            clear hay hs1 hs9
            go_upto_region 9 with fail
            refine wp_region_held_drew (S := (fun u' => (u'.cell? ⟨ga2, q * 12, none⟩ = some (.int .i64 y.who) ∧ u'.cell? ⟨ga2, q * 12 + 1, none⟩ = some (.int .i64 y.place) ∧ u'.cell? ⟨ga2, q * 12 + 2, none⟩ = some (.int .i64 y.op) ∧ u'.cell? ⟨ga2, q * 12 + 3, none⟩ = some (.int .i64 y.f) ∧ u'.cell? ⟨ga2, q * 12 + 4, none⟩ = some (.int .i64 y.a) ∧ u'.cell? ⟨ga2, q * 12 + 5, none⟩ = some (.int .i64 y.b) ∧ u'.cell? ⟨ga2, q * 12 + 6, none⟩ = some (.int .i64 y.e) ∧ u'.cell? ⟨ga2, q * 12 + 7, none⟩ = some (.slice y.A y.m y.c) ∧ u'.cell? ⟨ga2, q * 12 + 8, none⟩ = some (.int .i64 y.n) ∧ u'.cell? ⟨ga2, q * 12 + 9, none⟩ = some (.int .u64 y.v) ∧ u'.cell? ⟨ga2, q * 12 + 10, none⟩ = some (.int .i64 y.fr) ∧ u'.cell? ⟨ga2, q * 12 + 11, none⟩ = some (.int .i64 y.to)) ∧ (u'.cell? ⟨b, 0, none⟩ = some (.int .i64 x.who) ∧ u'.cell? ⟨b, 1, none⟩ = some (.int .i64 x.place) ∧ u'.cell? ⟨b, 2, none⟩ = some (.int .i64 x.op) ∧ u'.cell? ⟨b, 3, none⟩ = some (.int .i64 x.f) ∧ u'.cell? ⟨b, 4, none⟩ = some (.int .i64 x.a) ∧ u'.cell? ⟨b, 5, none⟩ = some (.int .i64 x.b) ∧ u'.cell? ⟨b, 6, none⟩ = some (.int .i64 x.e) ∧ u'.cell? ⟨b, 7, none⟩ = some (.slice x.A x.m x.c) ∧ u'.cell? ⟨b, 8, none⟩ = some (.int .i64 x.n) ∧ u'.cell? ⟨b, 9, none⟩ = some (.int .u64 x.v) ∧ u'.cell? ⟨b, 10, none⟩ = some (.int .i64 x.fr) ∧ u'.cell? ⟨b, 11, none⟩ = some (.int .i64 x.to)))) (by kernel_rfl) (CEL.out _ ((Only.refl [] wr).drew)) (fun hHeld => ?_)
            refine takeH (i := 0) (v := ?_) rfl (by kernel_rfl) (by kernel_rfl) (by kernel_rfl) (fun _ _ _ h => h) (Or.inl ⟨by rfl, ?_⟩) (by assumption) ?_
            rotate_left 1
            · (intro w hSw; (try dsimp only at hSw); go_simp; try (with_reducible rfl))
            try simp only [Act.put, List.setIfInBounds_toArray, List.set_cons_zero, List.set_cons_succ]
            refine takeH (i := 1) (v := ?_) rfl (by kernel_rfl) (by kernel_rfl) (by kernel_rfl) (fun _ _ _ h => h) (Or.inl ⟨by rfl, ?_⟩) (by assumption) ?_
            rotate_left 1
            · (intro w hSw; (try dsimp only at hSw); go_simp; try (with_reducible rfl))
            try simp only [Act.put, List.setIfInBounds_toArray, List.set_cons_zero, List.set_cons_succ]
            refine takeH (i := 2) (v := ?_) rfl (by kernel_rfl) (by kernel_rfl) (by kernel_rfl) (fun _ _ _ h => h) (Or.inl ⟨by rfl, ?_⟩) (by assumption) ?_
            rotate_left 1
            · (intro w hSw; (try dsimp only at hSw); go_simp; try (with_reducible rfl))
            try simp only [Act.put, List.setIfInBounds_toArray, List.set_cons_zero, List.set_cons_succ]
            refine takeH (i := 3) (v := ?_) rfl (by kernel_rfl) (by kernel_rfl) (by kernel_rfl) (fun _ _ _ h => h) (Or.inl ⟨by rfl, ?_⟩) (by assumption) ?_
            rotate_left 1
            · (intro w hSw; (try dsimp only at hSw); go_simp; try (with_reducible rfl))
            try simp only [Act.put, List.setIfInBounds_toArray, List.set_cons_zero, List.set_cons_succ]
            refine takeH (i := 4) (v := ?_) rfl (by kernel_rfl) (by kernel_rfl) (by kernel_rfl) (fun _ _ _ h => h) (Or.inl ⟨by rfl, ?_⟩) (by assumption) ?_
            rotate_left 1
            · (intro w hSw; (try dsimp only at hSw); go_simp; try (with_reducible rfl))
            try simp only [Act.put, List.setIfInBounds_toArray, List.set_cons_zero, List.set_cons_succ]
            refine takeH (i := 5) (v := ?_) rfl (by kernel_rfl) (by kernel_rfl) (by kernel_rfl) (fun _ _ _ h => h) (Or.inl ⟨by rfl, ?_⟩) (by assumption) ?_
            rotate_left 1
            · (intro w hSw; (try dsimp only at hSw); go_simp; try (with_reducible rfl))
            try simp only [Act.put, List.setIfInBounds_toArray, List.set_cons_zero, List.set_cons_succ]
            refine takeH (i := 6) (v := ?_) rfl (by kernel_rfl) (by kernel_rfl) (by kernel_rfl) (fun _ _ _ h => h) (Or.inl ⟨by rfl, ?_⟩) (by assumption) ?_
            rotate_left 1
            · (intro w hSw; (try dsimp only at hSw); go_simp; try (with_reducible rfl))
            try simp only [Act.put, List.setIfInBounds_toArray, List.set_cons_zero, List.set_cons_succ]
            refine takeH (i := 7) (v := ?_) rfl (by kernel_rfl) (by kernel_rfl) (by kernel_rfl) (fun _ _ _ h => h) (Or.inl ⟨by rfl, ?_⟩) (by assumption) ?_
            rotate_left 1
            · (intro w hSw; (try dsimp only at hSw); go_simp; try (with_reducible rfl))
            try simp only [Act.put, List.setIfInBounds_toArray, List.set_cons_zero, List.set_cons_succ]
            refine takeH (i := 8) (v := ?_) rfl (by kernel_rfl) (by kernel_rfl) (by kernel_rfl) (fun _ _ _ h => h) (Or.inl ⟨by rfl, ?_⟩) (by assumption) ?_
            rotate_left 1
            · (intro w hSw; (try dsimp only at hSw); go_simp; try (with_reducible rfl))
            try simp only [Act.put, List.setIfInBounds_toArray, List.set_cons_zero, List.set_cons_succ]
            refine takeH (i := 9) (v := ?_) rfl (by kernel_rfl) (by kernel_rfl) (by kernel_rfl) (fun _ _ _ h => h) (Or.inl ⟨by rfl, ?_⟩) (by assumption) ?_
            rotate_left 1
            · (intro w hSw; (try dsimp only at hSw); go_simp; try (with_reducible rfl))
            try simp only [Act.put, List.setIfInBounds_toArray, List.set_cons_zero, List.set_cons_succ]
            refine wpAnyH_ready (rs := [10]) (by kernel_rfl) (by simp) ?_
            refine consH rfl (fun K hK => ?_) AllReadyH.nil
            go_simp
            refine (qa.out _).mono ?_
            rintro e v2 ⟨rfl, o2⟩
            have O2w := Lib.hid ((Only.drew (Only.refl [] wr)).trans' o2)
            clear o2
            refine hK.out _ _ (CEL.out _ O2w.out) (fun hHeld2 => ?_)
            clear hK K hHeld
            have hHeld := hHeld2
            clear hHeld2
            try simp only [Act.put, List.setIfInBounds_toArray, List.set_cons_zero, List.set_cons_succ]
            refine takeH (i := 11) (v := ?_) rfl (by kernel_rfl) (by kernel_rfl) (by kernel_rfl) (fun _ _ _ h => h) (Or.inl ⟨by rfl, ?_⟩) (by assumption) ?_
            rotate_left 1
            · (intro w hSw; (try dsimp only at hSw); go_simp; try (with_reducible rfl))
            try simp only [Act.put, List.setIfInBounds_toArray, List.set_cons_zero, List.set_cons_succ]
            refine wpAnyH_done (by kernel_rfl) ?_ _
            have O7 : Hid (Only [] w6 v2) := (O1.out.trans' Ov.out).trans' O2w.out
            go_wp2_with fail
            go_roundg (n1 + 1 - (i + 1))
            case measure => omega
            case rel => exact ⟨i + 1, q, by rw [HS1.out], rfl, by simp, by omega, by omega, hq, fun j hjj k hk hkn => by
              have h5 := hjq.out j hjj
              have h6 := fr_mono SM.out (j := i) (k := k) (by omega) (by rw [HLM.out]; exact hkn)
              rw [HX.out] at h6
              omega, O7⟩
          · rw [hay] at qa
            have w3 : IntKind.i64.wrap ((q : Int) + 1) = (q : Int) + 1 := by rw [IntKind.wrap_i64]; have := HN2.out; omega
            have HA : Hid ((dns N q).to < x.fr) := by show _ < _; rw [HY.out]; exact (ahead_to hay).2
            clear hay
            go_upto_region 9 with fail
            refine wp_region_held_drew (S := (fun u' => (u'.cell? ⟨ga2, q * 12, none⟩ = some (.int .i64 y.who) ∧ u'.cell? ⟨ga2, q * 12 + 1, none⟩ = some (.int .i64 y.place) ∧ u'.cell? ⟨ga2, q * 12 + 2, none⟩ = some (.int .i64 y.op) ∧ u'.cell? ⟨ga2, q * 12 + 3, none⟩ = some (.int .i64 y.f) ∧ u'.cell? ⟨ga2, q * 12 + 4, none⟩ = some (.int .i64 y.a) ∧ u'.cell? ⟨ga2, q * 12 + 5, none⟩ = some (.int .i64 y.b) ∧ u'.cell? ⟨ga2, q * 12 + 6, none⟩ = some (.int .i64 y.e) ∧ u'.cell? ⟨ga2, q * 12 + 7, none⟩ = some (.slice y.A y.m y.c) ∧ u'.cell? ⟨ga2, q * 12 + 8, none⟩ = some (.int .i64 y.n) ∧ u'.cell? ⟨ga2, q * 12 + 9, none⟩ = some (.int .u64 y.v) ∧ u'.cell? ⟨ga2, q * 12 + 10, none⟩ = some (.int .i64 y.fr) ∧ u'.cell? ⟨ga2, q * 12 + 11, none⟩ = some (.int .i64 y.to)) ∧ (u'.cell? ⟨b, 0, none⟩ = some (.int .i64 x.who) ∧ u'.cell? ⟨b, 1, none⟩ = some (.int .i64 x.place) ∧ u'.cell? ⟨b, 2, none⟩ = some (.int .i64 x.op) ∧ u'.cell? ⟨b, 3, none⟩ = some (.int .i64 x.f) ∧ u'.cell? ⟨b, 4, none⟩ = some (.int .i64 x.a) ∧ u'.cell? ⟨b, 5, none⟩ = some (.int .i64 x.b) ∧ u'.cell? ⟨b, 6, none⟩ = some (.int .i64 x.e) ∧ u'.cell? ⟨b, 7, none⟩ = some (.slice x.A x.m x.c) ∧ u'.cell? ⟨b, 8, none⟩ = some (.int .i64 x.n) ∧ u'.cell? ⟨b, 9, none⟩ = some (.int .u64 x.v) ∧ u'.cell? ⟨b, 10, none⟩ = some (.int .i64 x.fr) ∧ u'.cell? ⟨b, 11, none⟩ = some (.int .i64 x.to)))) (by kernel_rfl) (CEL.out _ ((Only.refl [] wr).drew)) (fun hHeld => ?_)
            refine takeH (i := 0) (v := ?_) rfl (by kernel_rfl) (by kernel_rfl) (by kernel_rfl) (fun _ _ _ h => h) (Or.inl ⟨by rfl, ?_⟩) (by assumption) ?_
            rotate_left 1
            · (intro w hSw; (try dsimp only at hSw); go_simp; try (with_reducible rfl))
            try simp only [Act.put, List.setIfInBounds_toArray, List.set_cons_zero, List.set_cons_succ]
            refine takeH (i := 1) (v := ?_) rfl (by kernel_rfl) (by kernel_rfl) (by kernel_rfl) (fun _ _ _ h => h) (Or.inl ⟨by rfl, ?_⟩) (by assumption) ?_
            rotate_left 1
            · (intro w hSw; (try dsimp only at hSw); go_simp; try (with_reducible rfl))
            try simp only [Act.put, List.setIfInBounds_toArray, List.set_cons_zero, List.set_cons_succ]
            refine takeH (i := 2) (v := ?_) rfl (by kernel_rfl) (by kernel_rfl) (by kernel_rfl) (fun _ _ _ h => h) (Or.inl ⟨by rfl, ?_⟩) (by assumption) ?_
            rotate_left 1
            · (intro w hSw; (try dsimp only at hSw); go_simp; try (with_reducible rfl))
            try simp only [Act.put, List.setIfInBounds_toArray, List.set_cons_zero, List.set_cons_succ]
            refine takeH (i := 3) (v := ?_) rfl (by kernel_rfl) (by kernel_rfl) (by kernel_rfl) (fun _ _ _ h => h) (Or.inl ⟨by rfl, ?_⟩) (by assumption) ?_
            rotate_left 1
            · (intro w hSw; (try dsimp only at hSw); go_simp; try (with_reducible rfl))
            try simp only [Act.put, List.setIfInBounds_toArray, List.set_cons_zero, List.set_cons_succ]
            refine takeH (i := 4) (v := ?_) rfl (by kernel_rfl) (by kernel_rfl) (by kernel_rfl) (fun _ _ _ h => h) (Or.inl ⟨by rfl, ?_⟩) (by assumption) ?_
            rotate_left 1
            · (intro w hSw; (try dsimp only at hSw); go_simp; try (with_reducible rfl))
            try simp only [Act.put, List.setIfInBounds_toArray, List.set_cons_zero, List.set_cons_succ]
            refine takeH (i := 5) (v := ?_) rfl (by kernel_rfl) (by kernel_rfl) (by kernel_rfl) (fun _ _ _ h => h) (Or.inl ⟨by rfl, ?_⟩) (by assumption) ?_
            rotate_left 1
            · (intro w hSw; (try dsimp only at hSw); go_simp; try (with_reducible rfl))
            try simp only [Act.put, List.setIfInBounds_toArray, List.set_cons_zero, List.set_cons_succ]
            refine takeH (i := 6) (v := ?_) rfl (by kernel_rfl) (by kernel_rfl) (by kernel_rfl) (fun _ _ _ h => h) (Or.inl ⟨by rfl, ?_⟩) (by assumption) ?_
            rotate_left 1
            · (intro w hSw; (try dsimp only at hSw); go_simp; try (with_reducible rfl))
            try simp only [Act.put, List.setIfInBounds_toArray, List.set_cons_zero, List.set_cons_succ]
            refine takeH (i := 7) (v := ?_) rfl (by kernel_rfl) (by kernel_rfl) (by kernel_rfl) (fun _ _ _ h => h) (Or.inl ⟨by rfl, ?_⟩) (by assumption) ?_
            rotate_left 1
            · (intro w hSw; (try dsimp only at hSw); go_simp; try (with_reducible rfl))
            try simp only [Act.put, List.setIfInBounds_toArray, List.set_cons_zero, List.set_cons_succ]
            refine takeH (i := 8) (v := ?_) rfl (by kernel_rfl) (by kernel_rfl) (by kernel_rfl) (fun _ _ _ h => h) (Or.inl ⟨by rfl, ?_⟩) (by assumption) ?_
            rotate_left 1
            · (intro w hSw; (try dsimp only at hSw); go_simp; try (with_reducible rfl))
            try simp only [Act.put, List.setIfInBounds_toArray, List.set_cons_zero, List.set_cons_succ]
            refine takeH (i := 9) (v := ?_) rfl (by kernel_rfl) (by kernel_rfl) (by kernel_rfl) (fun _ _ _ h => h) (Or.inl ⟨by rfl, ?_⟩) (by assumption) ?_
            rotate_left 1
            · (intro w hSw; (try dsimp only at hSw); go_simp; try (with_reducible rfl))
            try simp only [Act.put, List.setIfInBounds_toArray, List.set_cons_zero, List.set_cons_succ]
            refine wpAnyH_ready (rs := [10]) (by kernel_rfl) (by simp) ?_
            refine consH rfl (fun K hK => ?_) AllReadyH.nil
            go_simp
            refine (qa.out _).mono ?_
            rintro e v2 ⟨rfl, o2⟩
            have O2w := Lib.hid ((Only.drew (Only.refl [] wr)).trans' o2)
            clear o2
            refine hK.out _ _ (CEL.out _ O2w.out) (fun hHeld2 => ?_)
            clear hK K hHeld
            have hHeld := hHeld2
            clear hHeld2
            try simp only [Act.put, List.setIfInBounds_toArray, List.set_cons_zero, List.set_cons_succ]
            refine takeH (i := 11) (v := ?_) rfl (by kernel_rfl) (by kernel_rfl) (by kernel_rfl) (fun _ _ _ h => h) (Or.inl ⟨by rfl, ?_⟩) (by assumption) ?_
            rotate_left 1
            · (intro w hSw; (try dsimp only at hSw); go_simp; try (with_reducible rfl))
            try simp only [Act.put, List.setIfInBounds_toArray, List.set_cons_zero, List.set_cons_succ]
            refine wpAnyH_done (by kernel_rfl) ?_ _
            have O7 : Hid (Only [] W v2) := Ov.out.trans' O2w.out
            go_wp2_with fail
            go_roundg (n2 + 1 - (q + 1))
            case measure => omega
            case rel => exact ⟨q + 1, by simp, by omega, by omega, fun j hjj => by
              by_cases e : j = q
              · subst e; exact HA.out
              · exact hjq.out j (by omega), O7⟩
        · have h3 : ¬ ((q : Int) < (n2 : Int)) := by omega
          have d3 : decide ((q : Int) < (n2 : Int)) = false := decide_eq_false h3
          have hgq := rest.out (gone_sorted OPN.out SN.out x.fr (g := q) (by rw [HLN.out]; exact hq) hjq.out (fun h => absurd h (by rw [HLN.out]; exact hqn)))
          obtain ⟨s1, hs1⟩ : ∃ s1, swept M (i + 1) = s1 := ⟨_, rfl⟩
          have HS1 := Lib.hid hs1
          rw [hs1] at hgq
          obtain ⟨hqi, hmx, hs9⟩ := hgq
          have w1 : IntKind.i64.wrap ((i : Int) + 1) = (i : Int) + 1 := by rw [IntKind.wrap_i64]; have := HN1.out; omega
          have w2 : IntKind.i64.wrap ((i : Int) + 1 - (q : Int)) = (i : Int) + 1 - (q : Int) := by rw [IntKind.wrap_i64]; have := HN1.out; have := HN2.out; omega
          clear hs1 hs9
          go_upto_region 9 with fail
          refine wp_region_held_drew (S := (fun _ => True)) (by kernel_rfl) trivial (fun hHeld => ?_)
          refine takeH (i := 0) (v := ?_) rfl (by kernel_rfl) (by kernel_rfl) (by kernel_rfl) (fun _ _ _ h => h) (Or.inl ⟨by rfl, ?_⟩) (by assumption) ?_
          rotate_left 1
          · (intro w hSw; (try dsimp only at hSw); go_simp; try (with_reducible rfl))
          try simp only [Act.put, List.setIfInBounds_toArray, List.set_cons_zero, List.set_cons_succ]
          refine takeH (i := 1) (v := ?_) rfl (by kernel_rfl) (by kernel_rfl) (by kernel_rfl) (fun _ _ _ h => h) (Or.inl ⟨by rfl, ?_⟩) (by assumption) ?_
          rotate_left 1
          · (intro w hSw; (try dsimp only at hSw); go_simp; try (with_reducible rfl))
          try simp only [Act.put, List.setIfInBounds_toArray, List.set_cons_zero, List.set_cons_succ]
          refine takeH (i := 2) (v := ?_) rfl (by kernel_rfl) (by kernel_rfl) (by kernel_rfl) (fun _ _ _ h => h) (Or.inl ⟨by rfl, ?_⟩) (by assumption) ?_
          rotate_left 1
          · (intro w hSw; (try dsimp only at hSw); go_simp; try (with_reducible rfl))
          try simp only [Act.put, List.setIfInBounds_toArray, List.set_cons_zero, List.set_cons_succ]
          refine takeH (i := 3) (v := ?_) rfl (by kernel_rfl) (by kernel_rfl) (by kernel_rfl) (fun _ _ _ h => h) (Or.inl ⟨by rfl, ?_⟩) (by assumption) ?_
          rotate_left 1
          · (intro w hSw; (try dsimp only at hSw); go_simp; try (with_reducible rfl))
          try simp only [Act.put, List.setIfInBounds_toArray, List.set_cons_zero, List.set_cons_succ]
          refine takeH (i := 4) (v := ?_) rfl (by kernel_rfl) (by kernel_rfl) (by kernel_rfl) (fun _ _ _ h => h) (Or.inl ⟨by rfl, ?_⟩) (by assumption) ?_
          rotate_left 1
          · (intro w hSw; (try dsimp only at hSw); go_simp; try (with_reducible rfl))
          try simp only [Act.put, List.setIfInBounds_toArray, List.set_cons_zero, List.set_cons_succ]
          refine takeH (i := 5) (v := undef) rfl (by kernel_rfl) (by kernel_rfl) (by kernel_rfl) (fun _ _ _ h => h) (Or.inr ⟨by rfl, rfl⟩) (by assumption) ?_
          try simp only [Act.put, List.setIfInBounds_toArray, List.set_cons_zero, List.set_cons_succ]
          refine takeH (i := 6) (v := undef) rfl (by kernel_rfl) (by kernel_rfl) (by kernel_rfl) (fun _ _ _ h => h) (Or.inr ⟨by rfl, rfl⟩) (by assumption) ?_
          try simp only [Act.put, List.setIfInBounds_toArray, List.set_cons_zero, List.set_cons_succ]
          refine takeH (i := 7) (v := undef) rfl (by kernel_rfl) (by kernel_rfl) (by kernel_rfl) (fun _ _ _ h => h) (Or.inr ⟨by rfl, rfl⟩) (by assumption) ?_
          try simp only [Act.put, List.setIfInBounds_toArray, List.set_cons_zero, List.set_cons_succ]
          refine takeH (i := 8) (v := undef) rfl (by kernel_rfl) (by kernel_rfl) (by kernel_rfl) (fun _ _ _ h => h) (Or.inr ⟨by rfl, rfl⟩) (by assumption) ?_
          try simp only [Act.put, List.setIfInBounds_toArray, List.set_cons_zero, List.set_cons_succ]
          refine takeH (i := 9) (v := undef) rfl (by kernel_rfl) (by kernel_rfl) (by kernel_rfl) (fun _ _ _ h => h) (Or.inr ⟨by rfl, rfl⟩) (by assumption) ?_
          try simp only [Act.put, List.setIfInBounds_toArray, List.set_cons_zero, List.set_cons_succ]
          refine takeH (i := 10) (v := undef) rfl (by kernel_rfl) (by kernel_rfl) (by kernel_rfl) (fun _ _ _ h => h) (Or.inr ⟨by rfl, rfl⟩) (by assumption) ?_
          try simp only [Act.put, List.setIfInBounds_toArray, List.set_cons_zero, List.set_cons_succ]
          refine takeH (i := 11) (v := ?_) rfl (by kernel_rfl) (by kernel_rfl) (by kernel_rfl) (fun _ _ _ h => h) (Or.inl ⟨by rfl, ?_⟩) (by assumption) ?_
          rotate_left 1
          · (intro w hSw; (try dsimp only at hSw); go_simp; try (with_reducible rfl))
          try simp only [Act.put, List.setIfInBounds_toArray, List.set_cons_zero, List.set_cons_succ]
          refine wpAnyH_done (by kernel_rfl) ?_ _
          have O7 : Hid (Only [] w6 wr.drew) := (O1.out.trans' Ov.out).drew
          generalize wr.drew = v2 at *
          go_wp2_with fail
          go_roundg (n1 + 1 - (i + 1))
          case measure => omega
          case rel => exact ⟨i + 1, q, by rw [HS1.out], rfl, by simp, by omega, by omega, hq, fun j hjj k hk hkn => by
            have h5 := hjq.out j hjj
            have h6 := fr_mono SM.out (j := i) (k := k) (by omega) (by rw [HLM.out]; exact hkn)
            rw [HX.out] at h6
            omega, O7⟩
    · have h1 : ¬ ((i : Int) < (n1 : Int)) := by omega
      have h3 : decide ((i : Int) < (n1 : Int)) = false := decide_eq_false h1
      obtain rfl : i = n1 := by omega
      have E9 := ER.out
      generalize swept M i = s0 at *
      have EE := Lib.hid E9
      clear E9
      go_wp2_with fail
      go_ret
      exact ⟨by rw [← EE.out]; rfl, O6.out.trans' O.out⟩
end Go.Proofs.Ytaaolacfhdfagaa
