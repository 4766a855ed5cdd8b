/-
  awake; what a law's frame wants of the program.
-/
import Derived.Test.YtenccllbgffojaaClkJ
import Derived.Test.YtenccllbgffojaaClkE
import Derived.ProofKit
import Derived.OpenShut
import Derived.ChangeOld
import Derived.Deep.Slices
import Derived.Lib.SmallJoins
namespace Go.Proofs.Ytenccllbgffojaa
set_option maxRecDepth 100000
open Go.RowKit Go.ChangeShapes Go.WideShapes Go.ChangeAt Go.Joins Go.Deep
set_option linter.unusedVariables false
set_option linter.unusedSimpArgs false
set_option maxRecDepth 100000

theorem own : ownKnob Try.prog.godebug = none := by kernel_rfl
theorem laidOut : laidOutB Try.prog = true := by kernel_rfl
section
variable {H : Type} {enc : TypeId × Value → H} {w : World} {sp : Nat → Bool} {held : Bool} {fuel : Nat}
theorem open_numsF {q : IntKind} {t e : TypeId} (ht : Try.prog.underlying t = some (.slice e)) (he : Try.prog.underlying e = some (.int q)) (hc : Try.prog.cellsOf e = 1) {a : Option Addr} {len cap : Nat} {x : DataW H × List MemPlace}
    (h : DataW.trod enc Try.prog w 0 (fun _ => true) held fuel t [.slice a len cap] = some x) : ∃ z, InNums q w a len z := by
  rcases open_ints ht he hc h with ⟨hcs, _⟩ | ⟨ad, l, c, zs, hcs, _, hl, hm, hz, _, hcell, hwz⟩
  · injection hcs with e _
    injection e with e1 e2 e3
    subst e1 e2
    exact ⟨fun _ => 0, fun k hk => absurd hk (by omega)⟩
  · injection hcs with e _
    injection e with e1 e2 e3
    subst e1 e2 e3
    have hzl : zs.length = cap := by simpa using hz
    refine ⟨fun k => zs.getD k 0, fun k hk => ⟨?_, ad, rfl, ?_, hcell k (by omega)⟩⟩
    · have hkz : k < zs.length := by omega
      have : zs.getD k 0 = zs[k] := by simp [hkz]
      simp only [this]
      exact hwz _ (List.getElem_mem hkz)
    · exact World.block_lt_of_cell? w _ (hcell k (by omega))
end
theorem Only.toBelow {w w' : World} (h : Only [] w w') : Below w.heap.size w w' := h.below (Nat.le_refl _) (by simp)
/-- A slice that was built just now. -/
theorem Nums.lit (w : World) (xs : List Int) : Nums 0 (w.alloc (.cells (xs.map (Value.int .i64)).toArray 3)) (some ⟨w.heap.size, 0, none⟩) xs := fun k x hx => by
  have hb := heap_alloc_new w (.cells (xs.map (Value.int .i64)).toArray 3)
  generalize w.alloc (.cells (xs.map (Value.int .i64)).toArray 3) = W at *
  refine ⟨_, rfl, Nat.zero_le _, ?_, by simp [World.frozen?, hb]⟩
  rw [cell_of_row _ _ k _ _ (0, 0) hb]
  simp [hx]
theorem Nums.lit1 (w : World) (x : Int) : Nums 0 (w.alloc (.cells #[.int .i64 x] 3)) (some ⟨w.heap.size, 0, none⟩) [x] := Nums.lit w [x]
theorem Nums.lit2 (w : World) (x y : Int) : Nums 0 (w.alloc (.cells #[.int .i64 x, .int .i64 y] 3)) (some ⟨w.heap.size, 0, none⟩) [x, y] := Nums.lit w [x, y]
/-- Two that were built one behind the other. -/
theorem Nums.lit22 (w : World) (x y u v : Int) : Nums 0 ((w.alloc (.cells #[.int .i64 x, .int .i64 y] 3)).alloc (.cells #[.int .i64 u, .int .i64 v] 3)) (some ⟨w.heap.size, 0, none⟩) [x, y] ∧
    Nums 0 ((w.alloc (.cells #[.int .i64 x, .int .i64 y] 3)).alloc (.cells #[.int .i64 u, .int .i64 v] 3)) (some ⟨w.heap.size + 1, 0, none⟩) [u, v] ∧
    Only [] w ((w.alloc (.cells #[.int .i64 x, .int .i64 y] 3)).alloc (.cells #[.int .i64 u, .int .i64 v] 3)) := by
  refine ⟨(Nums.lit2 w x y).only0 ((Only.refl [] _).alloc _), ?_, ((Only.refl [] _).alloc _).alloc _⟩
  have h := Nums.lit2 (w.alloc (.cells #[.int .i64 x, .int .i64 y] 3)) u v
  rwa [World.size_alloc] at h
theorem Nums.lit12 (w : World) (x u v : Int) : Nums 0 ((w.alloc (.cells #[.int .i64 x] 3)).alloc (.cells #[.int .i64 u, .int .i64 v] 3)) (some ⟨w.heap.size, 0, none⟩) [x] ∧
    Nums 0 ((w.alloc (.cells #[.int .i64 x] 3)).alloc (.cells #[.int .i64 u, .int .i64 v] 3)) (some ⟨w.heap.size + 1, 0, none⟩) [u, v] ∧
    Only [] w ((w.alloc (.cells #[.int .i64 x] 3)).alloc (.cells #[.int .i64 u, .int .i64 v] 3)) := by
  refine ⟨(Nums.lit1 w x).only0 ((Only.refl [] _).alloc _), ?_, ((Only.refl [] _).alloc _).alloc _⟩
  have h := Nums.lit2 (w.alloc (.cells #[.int .i64 x] 3)) u v
  rwa [World.size_alloc] at h
set_option maxHeartbeats 1000000 in
theorem cAwake (w : World) : Calls Try.prog 11 #[] w fun e w' => e = .returned (.bool true) ∧ Only [] w w' := by
  have e1 : cmpM [1, 0] [0, 1] = 2 := by decide
  have e2 : joinM [1] [0, 2] = [1, 2] := by decide
  have e3 : tickM [] 1 = [0, 1] := by decide +kernel
  have e4 : atM [4, 7] 1 = 7 := by decide
  have e5 : leqB [] [1] = true := by decide
  have k1 := Lib.hid (fun (W : World) => by have h := Nums.lit22 W 1 0 0 1; have c := cCmp _ 2 2 [1, 0] _ 2 2 [0, 1] _ rfl rfl (by decide) (by decide) h.1 h.2.1; rw [e1] at c; exact c)
  have k2 := Lib.hid (fun (W : World) => by have h := Nums.lit12 W 1 0 2; have c := cJoin _ 1 1 [1] _ 2 2 [0, 2] _ rfl rfl (by decide) (by decide) h.1 h.2.1; rw [e2] at c; exact c)
  have k3 := Lib.hid (fun (W : World) (A : Option Addr) (c : Nat) (h : Nums 0 W A [1, 2]) => iPlain _ A _ 2 c 2 [1, 2] rfl (by decide) (h.only0 ((Only.refl [] W).alloc (.cells #[.int .i64 1, .int .i64 2] 3))) (Nums.lit2 W 1 2))
  have k4 := Lib.hid (fun (W : World) => by have c := cTick none 0 0 [] 1 W rfl (by decide) (Nums.nil _ _ _) (fun _ => ⟨rfl, rfl⟩); rw [e3] at c; exact c)
  have k5 := Lib.hid (fun (W : World) (A : Option Addr) (c : Nat) (h : Nums 0 W A [0, 1]) => iPlain _ A _ 2 c 2 [0, 1] rfl (by decide) (h.only0 ((Only.refl [] W).alloc (.cells #[.int .i64 0, .int .i64 1] 3))) (Nums.lit2 W 0 1))
  have k6 := Lib.hid (fun (W : World) => by have c := cAt _ 2 2 [4, 7] 1 _ rfl (by decide) (Nums.lit2 W 4 7); rw [e4] at c; exact c)
  have k7 := Lib.hid (fun (W : World) => by have c := cLeq none 0 0 [] _ 1 1 [1] _ rfl rfl (by decide) (by decide) (Nums.nil _ _ _) (Nums.lit1 W 1); rw [e5] at c; exact c)
  have al : Hid (∀ (W : World) (o : Obj), Only [] W (W.alloc o)) := fun W o => (Only.refl [] W).alloc o
  clear e1 e2 e3 e4 e5
  go_enter Try.func11, Try.ntmps11
  go_wp2_with fail
  refine (k1.out _).mono ?_
  rintro e w1 ⟨rfl, o1⟩
  have O1 : Hid (Only [] w w1) := ((al.out w _).trans' (al.out _ _)).trans' o1
  clear o1 k1
  go_wp2_with fail
  refine (k2.out _).mono ?_
  rintro e w2 ⟨A2, c2, rfl, n2, o2, z2⟩
  have O2 : Hid (Only [] w w2) := O1.out.trans' (((al.out w1 _).trans' (al.out _ _)).trans' o2)
  have N2 := Lib.hid n2.zero
  clear n2 o2 k2 z2
  go_wp2_with fail
  refine (k3.out w2 A2 c2 N2.out).mono ?_
  rintro e w3 ⟨rfl, o3⟩
  have O3 : Hid (Only [] w w3) := O2.out.trans' ((al.out w2 _).trans' o3)
  clear o3 k3 N2
  go_wp2_with fail
  refine (k4.out _).mono ?_
  rintro e w4 ⟨A4, c4, rfl, n4, o4, z4⟩
  have O4 : Hid (Only [] w w4) := O3.out.trans' o4
  have N4 := Lib.hid n4.zero
  clear n4 o4 k4 z4
  go_wp2_with fail
  refine (k5.out w4 A4 c4 N4.out).mono ?_
  rintro e w5 ⟨rfl, o5⟩
  have O5 : Hid (Only [] w w5) := O4.out.trans' ((al.out w4 _).trans' o5)
  clear o5 k5 N4
  go_wp2_with fail
  refine (k6.out w5).mono ?_
  rintro e w6 ⟨rfl, hw⟩
  have O6 : Hid (Only [] w w6) := by rw [hw]; exact O5.out.trans' (al.out w5 _)
  clear hw k6
  go_wp2_with fail
  refine (k7.out w6).mono ?_
  rintro e w7 ⟨rfl, o7⟩
  have O7 : Hid (Only [] w w7) := O6.out.trans' ((al.out w6 _).trans' o7)
  clear o7 k7
  go_wp2_with fail
  go_ret
  exact ⟨rfl, O7.out⟩
end Go.Proofs.Ytenccllbgffojaa
