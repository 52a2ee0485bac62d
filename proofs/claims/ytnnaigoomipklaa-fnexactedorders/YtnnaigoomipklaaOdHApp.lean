/-
  append of one hunk to hunks of the call's own; copies of lines.
-/
import Derived.Test.YtnnaigoomipklaaOdHMems
import Derived.Test.YtnnaigoomipklaaOdPart
import Derived.Test.YtnnaigoomipklaaOdHGoods
set_option linter.unusedSimpArgs false
set_option linter.unusedVariables false
namespace Go.Proofs.Ytnnaigoomipklaa
open Go.RowKit Go.ChangeShapes Go.WideShapes M

set_option maxHeartbeats 400000 in
theorem copyOf_any (a : Option Addr) (n c : Nat) (l : List ByteArray) (w : World) (hl : Strs w a n l) (hn : n ≤ 1048576) :
    Calls Try.prog 57 #[.slice a n c] w fun e w' => ∃ v, e = .returned v ∧ OwnV w' w.heap.size v l ∧ Below w.heap.size w w' := by
  have hmk := make_strs n hn
  have HL := Lib.hid hl.len
  go_enter Try.func57, Try.ntmps57
  go_wp2_with (refine copy_own (.tmp 7) (.tmp 8) _ _ _ _ l (hl.below (below_alloc _ _)) w.heap.size (Own.new w _) w.heap.size w (below_alloc _ _) (Nat.le_refl _) (by simp) (by omega) rfl rfl rfl rfl ?_; intro w2 o2 b2)
  go_ret
  have o3 := o2.ownV (Nat.le_refl _) (by rw [hl.len]; unfold maxLen; omega) hl.small
  rw [hl.len] at o3
  exact ⟨_, rfl, o3, b2⟩

end Go.Proofs.Ytnnaigoomipklaa
