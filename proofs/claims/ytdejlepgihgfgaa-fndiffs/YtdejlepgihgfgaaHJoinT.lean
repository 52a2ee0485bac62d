/-
  JoinHunks of the model, whole.
-/
import Derived.Test.YtdejlepgihgfgaaHJoinS
import Derived.Test.YtdejlepgihgfgaaLHPatch
set_option linter.unusedSimpArgs false
set_option linter.unusedVariables false
namespace Go.Proofs.Ytdejlepgihgfgaa
open Go.RowKit M

theorem join_new {last : List ByteArray} {x : Hk} : ∀ {L : List (Nat × Nat)} {i j : Nat}, x ∈ joinFrom last i j L → x.new.length ≤ last.length
  | [], i, j, h => by simp [joinFrom] at h
  | s :: L, i, j, h => by
    unfold joinFrom at h
    split at h
    · rcases List.mem_cons.1 h with rfl | h
      · unfold joinOne; dsimp only; rw [seg_len]; omega
      · exact join_new h
    · exact join_new h
theorem patchOf_yes {l : List ByteArray} {hs : List Hk} (h : patchOk l hs = true) : patchOf l hs = (patchH l hs, true) := if_pos h
theorem patchOf_no {l : List ByteArray} {hs : List Hk} (h : patchOk l hs = false) : patchOf l hs = ([], false) := if_neg (by simp [h])
theorem stay_none {a b : List Hk} {k : Nat} (h : ¬ (0 ≤ placeN a k ∧ 0 ≤ placeN b (placeN a k))) : stayOf a b k = none := if_neg h
theorem stay_some {a b : List Hk} {k p q : Nat} (hp : placeN a k = p) (hq : placeN b (p : Int) = q) : stayOf a b k = some (k, q) := by
  unfold stayOf
  rw [hp, hq, if_pos ⟨by omega, by omega⟩]
  simp


end Go.Proofs.Ytdejlepgihgfgaa
