/-
  IsWhole, the program's and the model's, and its law.
-/
import Derived.Test.YtnnaigoomipklaaGreatDoorOiGood
import Derived.Test.YtnnaigoomipklaaGreatDoorOiMemT
set_option linter.unusedSimpArgs false
set_option linter.unusedVariables false
namespace Go.Proofs.YtnnaigoomipklaaGreatDoor
open Go.RowKit M

/-- IsWhole's two answers. -/
def isWhole (l : List ByteArray) : Bool × Bool := if goodB l then (wholeB l, true) else (false, false)

set_option maxHeartbeats 400000 in
theorem l1Whole_ne (a : Option Addr) (n c : Nat) (l : List ByteArray) (w : World) (hl : Strs w a n l) (hne : ∀ s ∈ l, 1 ≤ s.size) :
    Calls Tryz.prog 87 #[.slice a n c] w fun e w' => e = .returned (.bool (wholeB l)) ∧ w = w' := by
  have HL := Lib.hid hl.len
  have HNE := Lib.hid hne
  clear hne
  have hlim := hl.lim
  unfold maxLen at hlim
  by_cases h0 : n = 0
  · have hf := Lib.hid (wholeB_nil (HL.out.trans h0))
    have hq : ((n : Int) == 0) = true := by simp [h0]
    clear h0
    go_enter Tryz.func87, Tryz.ntmps87
    go_wp2
    go_ret
    exact ⟨ret_bool hf.out.symm, rfl⟩
  · have hq : ((n : Int) == 0) = false := by simp; omega
    obtain ⟨b, off, s, rfl, hs, hsz, hc⟩ := hl.at_ (show n - 1 < n by omega)
    have hp := HNE.out s (List.mem_of_getElem? hs)
    have hf := Lib.hid (wholeB_last HL.out (by omega) hs)
    clear hs
    go_enter Tryz.func87, Tryz.ntmps87
    go_wp2_with (go_at_call 135; refine (l1Ends_any s _ hsz hp).mono ?_; rintro e w' ⟨rfl, rfl⟩)
    go_ret
    exact ⟨ret_bool hf.out.symm, rfl⟩

theorem good_ne {l : List ByteArray} (hg : goodB l = true) : ∀ s ∈ l, 1 ≤ s.size := fun s hs => by
  obtain ⟨j, hj⟩ := List.mem_iff_getElem?.1 hs
  exact (lineB_size (goodB_at hg hj).1).1
theorem l1Whole_any (a : Option Addr) (n c : Nat) (l : List ByteArray) (w : World) (hl : Strs w a n l) (hg : goodB l = true) :
    Calls Tryz.prog 87 #[.slice a n c] w fun e w' => e = .returned (.bool (wholeB l)) ∧ w = w' := l1Whole_ne a n c l w hl (good_ne hg)

set_option maxHeartbeats 400000 in
theorem implIsWhole_any (a : Option Addr) (n c : Nat) (l : List ByteArray) (w : World) (hl : Strs w a n l) :
    Calls Tryz.prog 137 #[.slice a n c] w fun e w' => e = .returned (.tuple #[.bool (isWhole l).1, .bool (isWhole l).2]) ∧ Below w.heap.size w w' := by
  have HL := Lib.hid hl.len
  have hlim := hl.lim
  unfold maxLen at hlim
  by_cases hg : goodB l = true
  · have H := Lib.hid (show isWhole l = (wholeB l, true) from if_pos hg)
    by_cases h0 : n = 0
    · have hf := Lib.hid (wholeB_nil (HL.out.trans h0))
      have hq : ((n : Int) == 0) = true := by simp [h0]
      clear h0
      go_enter Tryz.func137, Tryz.ntmps137
      go_wp2_with (first | (go_at_call 80; refine (implGoodLines_any a n c l _ hl).mono ?_; rintro e w1 ⟨rfl, b1⟩))
      go_ret2
      exact ⟨by rw [H.out, hf.out]; rfl, b1⟩
    · have hq : ((n : Int) == 0) = false := by simp; omega
      have hi0 : (0 : Int) ≤ (n : Int) - 1 := by omega
      go_enter Tryz.func137, Tryz.ntmps137
      go_wp2_with fail
      refine (implGoodLines_any a n c l _ hl).mono ?_
      rintro e w1 ⟨rfl, b1⟩
      obtain ⟨b, off, s, rfl, hs, hsz, hc⟩ := (hl.below b1).at_ (show n - 1 < n by omega)
      have hf := Lib.hid (wholeB_last HL.out (by omega) hs)
      clear hs
      go_wp2_with (go_at_call 140; refine (hasEnd_any s _ hsz).mono ?_; rintro e w' ⟨rfl, rfl⟩)
      go_ret2
      exact ⟨by rw [H.out, hf.out]; rfl, b1⟩
  · have hg : goodB l = false := by simpa using hg
    have H := Lib.hid (show isWhole l = (false, false) from if_neg (by simp [hg]))
    go_enter Tryz.func137, Tryz.ntmps137
    go_wp2_with (first | (go_at_call 80; refine (implGoodLines_any a n c l _ hl).mono ?_; rintro e w1 ⟨rfl, b1⟩))
    go_ret2
    exact ⟨by rw [H.out]; rfl, b1⟩

end Go.Proofs.YtnnaigoomipklaaGreatDoor
