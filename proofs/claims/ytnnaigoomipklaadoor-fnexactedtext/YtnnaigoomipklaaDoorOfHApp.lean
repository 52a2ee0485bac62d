/-
  append of one hunk to hunks of the call's own; copies of lines.
-/
import Derived.Test.YtnnaigoomipklaaDoorOfHMems
import Derived.Test.YtnnaigoomipklaaDoorOfPart
import Derived.Test.YtnnaigoomipklaaDoorOfHGoods
set_option linter.unusedSimpArgs false
set_option linter.unusedVariables false
namespace Go.Proofs.YtnnaigoomipklaaDoor
open Go.RowKit Go.ChangeShapes Go.WideShapes M

theorem list_snoc_get {α : Type} {l : List α} {a b : α} {k : Nat} (h : (l ++ [a])[k]? = some b) : (k < l.length ∧ l[k]? = some b) ∨ (k = l.length ∧ b = a) := by
  rw [List.getElem?_append] at h
  split at h
  · exact .inl ⟨by assumption, h⟩
  · have hk : k - l.length = 0 := by
      rcases Nat.eq_zero_or_pos (k - l.length) with h0 | h0
      · exact h0
      · rw [List.getElem?_eq_none (by simp; omega)] at h; cases h
    rw [hk] at h
    injection h with h
    exact .inr ⟨by omega, h.symm⟩

set_option maxHeartbeats 400000 in
theorem copyOf_any (a : Option Addr) (n c : Nat) (l : List ByteArray) (w : World) (hl : Strs w a n l) (hn : n ≤ 1048576) :
    Calls Tryd.prog 71 #[.slice a n c] w fun e w' => ∃ v, e = .returned v ∧ OwnV w' w.heap.size v l ∧ Below w.heap.size w w' := by
  have hmk := make_strs n hn
  have HL := Lib.hid hl.len
  go_enter Tryd.func71, Tryd.ntmps71
  go_wp2_with (refine copy_own (.tmp 7) (.tmp 8) _ _ _ _ l (hl.below (below_alloc _ _)) w.heap.size (Own.new w _) w.heap.size w (below_alloc _ _) (Nat.le_refl _) (by simp) (by omega) rfl rfl rfl rfl ?_; intro w2 o2 b2)
  go_ret
  have o3 := o2.ownV (Nat.le_refl _) (by rw [hl.len]; unfold maxLen; omega) hl.small
  rw [hl.len] at o3
  exact ⟨_, rfl, o3, b2⟩

end Go.Proofs.YtnnaigoomipklaaDoor
