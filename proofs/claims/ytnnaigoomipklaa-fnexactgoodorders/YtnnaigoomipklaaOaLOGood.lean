/-
  The law FnExactGoodOrders.
-/
import Derived.Test.YtnnaigoomipklaaOaOGoodK
import Derived.Test.YtnnaigoomipklaaOaHMems
import Derived.Test.YtnnaigoomipklaaOaGood
import Derived.Test.YtnnaigoomipklaaOaHBases
import Derived.Test.YtnnaigoomipklaaOaHApp
import Derived.Test.YtnnaigoomipklaaOaOMem
import Derived.Lib.Overlaps
import Derived.Lib.AppendZerosOnto
import Derived.Lib.SliceRun
import Derived.Laws.Externs
import Derived.ArgAppend
import Derived.Test.YtnnaigoomipklaaOaMemT
import Derived.Test.YtnnaigoomipklaaOaURows
import Derived.Deep.RegionLaw
import Derived.Test.YtnnaigoomipklaaOaOMath
import Derived.Test.YtnnaigoomipklaaOaOGoodS
import Derived.Test.YtnnaigoomipklaaOaWhole
import Derived.Defers
import Derived.Recover
import Derived.Test.YtnnaigoomipklaaProg
import Derived.Test.YtnnaigoomipklaaOaSMath
import Derived.RangeFuncBox
import Derived.RangeFuncBound
import Derived.RangeFuncCalls
import Derived.RangeFuncLeaves
import Derived.RangeFuncNested
import Derived.Shelf.Abstract
import Derived.Shelf.RegionOpen
import Derived.WalkKit
import Derived.OwnWalkIn
import Derived.TacticsInMore
import Derived.LoopNIn
import Derived.LoopIn
import Derived.Maps.AppendAt
import Derived.Test.YtnnaigoomipklaaOaDHeap
import Derived.Deep.RegionHeld3
import Derived.StillTailTactics
import Derived.BigRegion
import Derived.Test.YtnnaigoomipklaaOaOLaws
set_option linter.unusedSimpArgs false
set_option linter.unusedVariables false
namespace Go.Proofs.Ytnnaigoomipklaa
open Go.RowKit Go.ChangeShapes Go.WideShapes M

set_option maxHeartbeats 4000000 in
set_option maxRecDepth 100000 in
theorem FnExactGoodOrders_any (w : World) (a0 : Option Addr) (n0 c0 : Nat) (l0 : List Od) (h0 : Ods w a0 n0 l0) :
    Calls Try.prog 4 #[.slice a0 n0 c0] w fun e w' => e = .returned (.bool true) ∧ Below w.heap.size w w' := by
  have B0 := Below.refl w.heap.size w
  have HL0 := Lib.hid h0.len
  go_enter Try.func4, Try.ntmps4
  by_cases hbig0 : (1048576 : Int) < l0.length + totalO l0
  · go_wp2_with fail
    refine (szO_neg a0 n0 c0 l0 _ _ (h0.below B0) (by omega) (by omega) hbig0).mono ?_
    rintro e w1 ⟨rfl, b1⟩
    go_wp2
    go_ret
    exact ⟨rfl, B0.next b1⟩
  have hbig0 : (l0.length : Int) + totalO l0 ≤ 1048576 := by omega
  have HN0 := Lib.hid (show l0.length + totalO l0 ≤ 1048576 by omega)
  have hn0 : n0 ≤ 1048576 := by have := HN0.out; have := HL0.out; omega
  go_wp2_with fail
  refine (szO_more a0 n0 c0 l0 _ _ (h0.below B0) (by omega) (by omega) hbig0).mono ?_
  rintro e w0x ⟨r0, hr00, hr01, HB0, rfl, b1⟩
  replace B0 := B0.next b1
  clear b1
  clear hbig0
  obtain ⟨q0, HP⟩ : ∃ q0, Hid (ordersB l0 = q0) := ⟨_, rfl⟩
  have heq0 := eqOS_refl l0
  go_wp2_with fail
  refine (toOrderS_any a0 n0 c0 l0 _ (h0.below B0) HN0.out).mono ?_
  rintro e v1 ⟨rfl, ⟨s0s, s0⟩, b1⟩
  replace B0 := B0.next b1
  clear b1
  go_wp2_with fail
  refine (specGoodOrders_any _ n0 n0 l0 _ s0.ods).mono ?_
  rintro e v2 ⟨rfl, b1⟩
  rw [HP.out]
  dsimp only
  replace B0 := B0.next b1
  replace s0 := s0.below b1
  clear b1
  go_wp2_with fail
  refine (toOrderS_any a0 n0 c0 l0 _ (h0.below B0) HN0.out).mono ?_
  rintro e v3 ⟨rfl, ⟨x0s, x0⟩, b1⟩
  replace B0 := B0.next b1
  clear b1
  go_wp2_with fail
  refine (implGoodOrders_any _ n0 n0 l0 _ x0.ods).mono ?_
  rintro e v4 ⟨rfl, b1⟩
  rw [HP.out]
  dsimp only
  replace B0 := B0.next b1
  replace x0 := x0.below b1
  clear b1
  go_wp2_with fail
  refine (toOrderS_any a0 n0 c0 l0 _ (h0.below B0) HN0.out).mono ?_
  rintro e v5 ⟨rfl, ⟨y0s, y0⟩, b1⟩
  replace B0 := B0.next b1
  replace x0 := x0.below b1
  clear b1
  go_wp2_with fail
  refine (eqOrderS_any _ _ n0 n0 n0 n0 l0 l0 _ x0.ods y0.ods).mono ?_
  rintro e v6 ⟨rfl, b1⟩
  replace B0 := B0.next b1
  replace x0 := x0.below b1
  replace y0 := y0.below b1
  clear b1
  go_wp2
  go_ret
  exact ⟨rfl, B0⟩

end Go.Proofs.Ytnnaigoomipklaa
