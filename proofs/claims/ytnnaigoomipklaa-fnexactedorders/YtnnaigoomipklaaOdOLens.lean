/-
  How long the answers are that are orders, or lines and hunks that orders make.
-/
import Derived.Test.YtnnaigoomipklaaOdORun
import Derived.Test.YtnnaigoomipklaaOdOGoodS
import Derived.Test.YtnnaigoomipklaaOdPart
import Derived.Test.YtnnaigoomipklaaOdWhole
import Derived.Test.YtnnaigoomipklaaOdHMems
import Derived.Test.YtnnaigoomipklaaOdDHeap
import Derived.Test.YtnnaigoomipklaaOdHPatch
import Derived.Test.YtnnaigoomipklaaOdHApp
import Derived.Test.YtnnaigoomipklaaOdHBases
import Derived.Test.YtnnaigoomipklaaOdHGoods
import Derived.Test.YtnnaigoomipklaaOdGood
import Derived.Test.YtnnaigoomipklaaOdMemT
import Derived.Deep.RegionHeld3
import Derived.StillTailTactics
import Derived.BigRegion
set_option linter.unusedSimpArgs false
set_option linter.unusedVariables false
namespace Go.Proofs.Ytnnaigoomipklaa
open Go.RowKit Go.ChangeShapes Go.WideShapes M

theorem dots_size (s : ByteArray) : (dots s).size ≤ s.size + 1 := by
  unfold dots
  split
  · rename_i h; subst h; decide
  · omega
theorem dots_total : ∀ l : List ByteArray, total (l.map dots) ≤ total l + l.length
  | [] => by simp [total]
  | s :: l => by
    have h1 := dots_total l
    have h2 := dots_size s
    simp only [List.map_cons, total, List.length_cons]
    omega
theorem fixO_total : ∀ (l : List ByteArray) (a : Nat), totalO (fixO a l) = 0
  | [], a => by simp [fixO, totalO]
  | s :: l, a => by
    unfold fixO
    split
    · rw [totalO, fixO_total l]; simp [bulkO, total]
    · exact fixO_total l _
theorem edO_total : ∀ hs : List Hk, (edO hs).length + totalO (edO hs) ≤ hs.length + 3 * totalH hs
  | [] => by simp [edO, totalO, totalH]
  | x :: hs => by
    have h1 := edO_total hs
    have h2 := fixO_len x.new x.at_.toNat
    have h3 := fixO_total x.new x.at_.toNat
    have h4 := dots_total x.new
    rw [edO, edOne, totalO_append, List.length_append, List.length_cons, List.length_cons, totalO, h3]
    unfold bulkO mainO
    simp only [List.length_map, totalH]
    omega
theorem edOrders_len (l : List ByteArray) (hs : List Hk) : (edOrders l hs).1.length + totalO (edOrders l hs).1 ≤ 100000 := by
  unfold edOrders
  split
  · rename_i h
    have hg : goodH l.length hs = true := by
      have h1 := h.1
      unfold patchOf at h1
      split at h1
      · rename_i hok
        unfold patchOk at hok
        simp only [Bool.and_eq_true] at hok
        exact hok.1.2
      · cases h1
    have h1 := goodH_total hg
    have h2 := edO_total hs
    show (edO hs).length + totalO (edO hs) ≤ 100000
    omega
  · simp [totalO]

end Go.Proofs.Ytnnaigoomipklaa
