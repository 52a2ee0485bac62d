/-
  IsWhole, the program's and the model's, and its law.
-/
import Derived.Test.YtnnaigoomipklaaGreatDoorOgGood
import Derived.Test.YtnnaigoomipklaaGreatDoorOgMemT
set_option linter.unusedSimpArgs false
set_option linter.unusedVariables false
namespace Go.Proofs.YtnnaigoomipklaaGreatDoor
open Go.RowKit M

/-- IsWhole's two answers. -/
def isWhole (l : List ByteArray) : Bool × Bool := if goodB l then (wholeB l, true) else (false, false)

set_option maxHeartbeats 400000 in
theorem implIsWhole_any (a : Option Addr) (n c : Nat) (l : List ByteArray) (w : World) (hl : Strs w a n l) :
    Calls Tryz.prog 137 #[.slice a n c] w fun e w' => e = .returned (.tuple #[.bool (isWhole l).1, .bool (isWhole l).2]) ∧ Below w.heap.size w w' := by
  have HL := Lib.hid hl.len
  have hlim := hl.lim
  unfold maxLen at hlim
  by_cases hg : goodB l = true
  · have H := Lib.hid (show isWhole l = (wholeB l, true) from if_pos hg)
    by_cases h0 : n = 0
    · have hf := Lib.hid (wholeB_nil (HL.out.trans h0))
      have hq : ((n : Int) == 0) = true := by simp [h0]
      clear h0
      go_enter Tryz.func137, Tryz.ntmps137
      go_wp2_with (first | (go_at_call 80; refine (implGoodLines_any a n c l _ hl).mono ?_; rintro e w1 ⟨rfl, b1⟩))
      go_ret2
      exact ⟨by rw [H.out, hf.out]; rfl, b1⟩
    · have hq : ((n : Int) == 0) = false := by simp; omega
      have hi0 : (0 : Int) ≤ (n : Int) - 1 := by omega
      go_enter Tryz.func137, Tryz.ntmps137
      go_wp2_with fail
      refine (implGoodLines_any a n c l _ hl).mono ?_
      rintro e w1 ⟨rfl, b1⟩
      obtain ⟨b, off, s, rfl, hs, hsz, hc⟩ := (hl.below b1).at_ (show n - 1 < n by omega)
      have hf := Lib.hid (wholeB_last HL.out (by omega) hs)
      clear hs
      go_wp2_with (go_at_call 140; refine (hasEnd_any s _ hsz).mono ?_; rintro e w' ⟨rfl, rfl⟩)
      go_ret2
      exact ⟨by rw [H.out, hf.out]; rfl, b1⟩
  · have hg : goodB l = false := by simpa using hg
    have H := Lib.hid (show isWhole l = (false, false) from if_neg (by simp [hg]))
    go_enter Tryz.func137, Tryz.ntmps137
    go_wp2_with (first | (go_at_call 80; refine (implGoodLines_any a n c l _ hl).mono ?_; rintro e w1 ⟨rfl, b1⟩))
    go_ret2
    exact ⟨by rw [H.out]; rfl, b1⟩

end Go.Proofs.YtnnaigoomipklaaGreatDoor
