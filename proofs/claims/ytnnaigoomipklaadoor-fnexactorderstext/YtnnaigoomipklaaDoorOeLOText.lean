/-
  The law FnExactOrdersText.
-/
import Derived.Test.YtnnaigoomipklaaDoorOeOGoodK
import Derived.Test.YtnnaigoomipklaaDoorOeHMems
import Derived.Test.YtnnaigoomipklaaDoorOeGood
import Derived.Test.YtnnaigoomipklaaDoorOeHBases
import Derived.Test.YtnnaigoomipklaaDoorOeHApp
import Derived.Test.YtnnaigoomipklaaDoorOeOMem
import Derived.Lib.Overlaps
import Derived.Lib.AppendZerosOnto
import Derived.Lib.SliceRun
import Derived.Laws.Externs
import Derived.ArgAppend
import Derived.Test.YtnnaigoomipklaaDoorOeMemT
import Derived.Test.YtnnaigoomipklaaDoorOeURows
import Derived.Deep.RegionLaw
import Derived.Test.YtnnaigoomipklaaDoorOeOMath
import Derived.Test.YtnnaigoomipklaaDoorOeOGoodS
import Derived.Test.YtnnaigoomipklaaDoorOeWhole
import Derived.Defers
import Derived.Recover
import Derived.Test.YtnnaigoomipklaaDoorProg
import Derived.Test.YtnnaigoomipklaaDoorOeSMath
import Derived.RangeFuncBox
import Derived.RangeFuncBound
import Derived.RangeFuncCalls
import Derived.RangeFuncLeaves
import Derived.RangeFuncNested
import Derived.Shelf.Abstract
import Derived.Shelf.RegionOpen
import Derived.WalkKit
import Derived.OwnWalkIn
import Derived.TacticsInMore
import Derived.LoopNIn
import Derived.LoopIn
import Derived.Maps.AppendAt
import Derived.Test.YtnnaigoomipklaaDoorOeDHeap
import Derived.Deep.RegionHeld3
import Derived.StillTailTactics
import Derived.BigRegion
import Derived.Test.YtnnaigoomipklaaDoorOeOTextI
import Derived.Test.YtnnaigoomipklaaDoorOeOTextS
import Derived.Test.YtnnaigoomipklaaDoorOeOLaws
set_option linter.unusedSimpArgs false
set_option linter.unusedVariables false
namespace Go.Proofs.YtnnaigoomipklaaDoor
open Go.RowKit Go.ChangeShapes Go.WideShapes M

set_option maxHeartbeats 4000000 in
set_option maxRecDepth 100000 in
theorem FnExactOrdersText_any (w : World) (hv : VarsO w) (a0 : Option Addr) (n0 c0 : Nat) (l0 : List Od) (h0 : Ods w a0 n0 l0) :
    Calls Tryd.prog 3 #[.slice a0 n0 c0] w fun e w' => e = .returned (.bool true) ∧ Below w.heap.size w w' := by
  have B0 := Below.refl w.heap.size w
  have HL0 := Lib.hid h0.len
  go_enter Tryd.func3, Tryd.ntmps3
  by_cases hbig0 : (1048576 : Int) < l0.length + totalO l0
  · go_wp2_with fail
    refine (szO_neg a0 n0 c0 l0 _ _ (h0.below B0) (by omega) (by omega) hbig0).mono ?_
    rintro e w1 ⟨rfl, b1⟩
    go_wp2
    go_ret
    exact ⟨rfl, B0.next b1⟩
  have hbig0 : (l0.length : Int) + totalO l0 ≤ 1048576 := by omega
  have HN0 := Lib.hid (show l0.length + totalO l0 ≤ 1048576 by omega)
  have hn0 : n0 ≤ 1048576 := by have := HN0.out; have := HL0.out; omega
  go_wp2_with fail
  refine (szO_more a0 n0 c0 l0 _ _ (h0.below B0) (by omega) (by omega) hbig0).mono ?_
  rintro e w0x ⟨r0, hr00, hr01, HB0, rfl, b1⟩
  replace B0 := B0.next b1
  clear b1
  clear hbig0
  obtain ⟨q0, q1, HP⟩ : ∃ q0 q1, Hid (ordersO l0 = (q0, q1)) := ⟨_, _, rfl⟩
  have hbe0 := beq_same q0
  have heq0 := eqOS_refl l0
  go_wp2_with fail
  refine (toOrderS_any a0 n0 c0 l0 _ (h0.below B0) HN0.out).mono ?_
  rintro e v1 ⟨rfl, ⟨s0s, s0⟩, b1⟩
  replace B0 := B0.next b1
  clear b1
  go_wp2_with fail
  refine (specOrdersText_any _ n0 n0 l0 _ s0.ods).mono ?_
  rintro e v2 ⟨rfl, b1⟩
  rw [HP.out]
  dsimp only
  replace B0 := B0.next b1
  replace s0 := s0.below b1
  clear b1
  go_wp2_with fail
  refine (toOrderS_any a0 n0 c0 l0 _ (h0.below B0) HN0.out).mono ?_
  rintro e v3 ⟨rfl, ⟨x0s, x0⟩, b1⟩
  replace B0 := B0.next b1
  clear b1
  go_wp2_with fail
  refine (implOrdersText_any _ n0 n0 l0 _ x0.ods (hv.below B0)).mono ?_
  rintro e v4 ⟨rfl, b1⟩
  rw [HP.out]
  dsimp only
  replace B0 := B0.next b1
  replace x0 := x0.below b1
  clear b1
  go_wp2_with fail
  refine (toOrderS_any a0 n0 c0 l0 _ (h0.below B0) HN0.out).mono ?_
  rintro e v5 ⟨rfl, ⟨y0s, y0⟩, b1⟩
  replace B0 := B0.next b1
  replace x0 := x0.below b1
  clear b1
  go_wp2_with fail
  refine (eqOrderS_any _ _ n0 n0 n0 n0 l0 l0 _ x0.ods y0.ods).mono ?_
  rintro e v6 ⟨rfl, b1⟩
  replace B0 := B0.next b1
  replace x0 := x0.below b1
  replace y0 := y0.below b1
  clear b1
  go_wp2
  go_ret
  exact ⟨rfl, B0⟩

end Go.Proofs.YtnnaigoomipklaaDoor
