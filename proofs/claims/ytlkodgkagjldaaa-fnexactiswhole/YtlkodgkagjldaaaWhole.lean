/-
  IsWhole, the program's and the model's, and its law.
-/
import Derived.Test.YtlkodgkagjldaaaGood
import Derived.Test.YtlkodgkagjldaaaLawT
set_option linter.unusedSimpArgs false
set_option linter.unusedVariables false
namespace Go.Proofs.Ytlkodgkagjldaaa
open Go.RowKit M

/-- IsWhole's two answers. -/
def isWhole (l : List ByteArray) : Bool × Bool := if goodB l then (wholeB l, true) else (false, false)

set_option maxHeartbeats 400000 in
theorem l1Whole_ne (a : Option Addr) (n c : Nat) (l : List ByteArray) (w : World) (hl : Strs w a n l) (hne : ∀ s ∈ l, 1 ≤ s.size) :
    Calls Try.prog 57 #[.slice a n c] w fun e w' => e = .returned (.bool (wholeB l)) ∧ w = w' := by
  have HL := Lib.hid hl.len
  have HNE := Lib.hid hne
  clear hne
  have hlim := hl.lim
  unfold maxLen at hlim
  by_cases h0 : n = 0
  · have hf := Lib.hid (wholeB_nil (HL.out.trans h0))
    have hq : ((n : Int) == 0) = true := by simp [h0]
    clear h0
    go_enter Try.func57, Try.ntmps57
    go_wp2
    go_ret
    exact ⟨ret_bool hf.out.symm, rfl⟩
  · have hq : ((n : Int) == 0) = false := by simp; omega
    obtain ⟨b, off, s, rfl, hs, hsz, hc⟩ := hl.at_ (show n - 1 < n by omega)
    have hp := HNE.out s (List.mem_of_getElem? hs)
    have hf := Lib.hid (wholeB_last HL.out (by omega) hs)
    clear hs
    go_enter Try.func57, Try.ntmps57
    go_wp2_with (go_at_call 68; refine (l1Ends_any s _ hsz hp).mono ?_; rintro e w' ⟨rfl, rfl⟩)
    go_ret
    exact ⟨ret_bool hf.out.symm, rfl⟩

theorem good_ne {l : List ByteArray} (hg : goodB l = true) : ∀ s ∈ l, 1 ≤ s.size := fun s hs => by
  obtain ⟨j, hj⟩ := List.mem_iff_getElem?.1 hs
  exact (lineB_size (goodB_at hg hj).1).1
theorem l1Whole_any (a : Option Addr) (n c : Nat) (l : List ByteArray) (w : World) (hl : Strs w a n l) (hg : goodB l = true) :
    Calls Try.prog 57 #[.slice a n c] w fun e w' => e = .returned (.bool (wholeB l)) ∧ w = w' := l1Whole_ne a n c l w hl (good_ne hg)

set_option maxHeartbeats 400000 in
theorem specIsWhole_any (a : Option Addr) (n c : Nat) (l : List ByteArray) (w : World) (hl : Strs w a n l) :
    Calls Try.prog 29 #[.slice a n c] w fun e w' => e = .returned (.tuple #[.bool (isWhole l).1, .bool (isWhole l).2]) ∧ w = w' := by
  by_cases hg : goodB l = true
  · have H := Lib.hid (show isWhole l = (wholeB l, true) from if_pos hg)
    go_enter Try.func29, Try.ntmps29
    go_wp2_with (first | (go_at_call 46; refine (l1Good_any a n c l _ hl).mono ?_; rintro e w' ⟨rfl, rfl⟩) | (go_at_call 57; refine (l1Whole_any a n c l _ hl hg).mono ?_; rintro e w' ⟨rfl, rfl⟩))
    go_ret2
    exact ⟨by rw [H.out]; rfl, rfl⟩
  · have hg : goodB l = false := by simpa using hg
    have H := Lib.hid (show isWhole l = (false, false) from if_neg (by simp [hg]))
    go_enter Try.func29, Try.ntmps29
    go_wp2_with (first | (go_at_call 46; refine (l1Good_any a n c l _ hl).mono ?_; rintro e w' ⟨rfl, rfl⟩))
    go_ret2
    exact ⟨by rw [H.out]; rfl, rfl⟩

set_option maxHeartbeats 400000 in
theorem implIsWhole_any (a : Option Addr) (n c : Nat) (l : List ByteArray) (w : World) (hl : Strs w a n l) :
    Calls Try.prog 19 #[.slice a n c] w fun e w' => e = .returned (.tuple #[.bool (isWhole l).1, .bool (isWhole l).2]) ∧ Below w.heap.size w w' := by
  have HL := Lib.hid hl.len
  have hlim := hl.lim
  unfold maxLen at hlim
  by_cases hg : goodB l = true
  · have H := Lib.hid (show isWhole l = (wholeB l, true) from if_pos hg)
    by_cases h0 : n = 0
    · have hf := Lib.hid (wholeB_nil (HL.out.trans h0))
      have hq : ((n : Int) == 0) = true := by simp [h0]
      clear h0
      go_enter Try.func19, Try.ntmps19
      go_wp2_with (first | (go_at_call 20; refine (implGoodLines_any a n c l _ hl).mono ?_; rintro e w1 ⟨rfl, b1⟩))
      go_ret2
      exact ⟨by rw [H.out, hf.out]; rfl, b1⟩
    · have hq : ((n : Int) == 0) = false := by simp; omega
      have hi0 : (0 : Int) ≤ (n : Int) - 1 := by omega
      go_enter Try.func19, Try.ntmps19
      go_wp2_with fail
      refine (implGoodLines_any a n c l _ hl).mono ?_
      rintro e w1 ⟨rfl, b1⟩
      obtain ⟨b, off, s, rfl, hs, hsz, hc⟩ := (hl.below b1).at_ (show n - 1 < n by omega)
      have hf := Lib.hid (wholeB_last HL.out (by omega) hs)
      clear hs
      go_wp2_with (go_at_call 48; refine (hasEnd_any s _ hsz).mono ?_; rintro e w' ⟨rfl, rfl⟩)
      go_ret2
      exact ⟨by rw [H.out, hf.out]; rfl, b1⟩
  · have hg : goodB l = false := by simpa using hg
    have H := Lib.hid (show isWhole l = (false, false) from if_neg (by simp [hg]))
    go_enter Try.func19, Try.ntmps19
    go_wp2_with (first | (go_at_call 20; refine (implGoodLines_any a n c l _ hl).mono ?_; rintro e w1 ⟨rfl, b1⟩))
    go_ret2
    exact ⟨by rw [H.out]; rfl, b1⟩

set_option maxHeartbeats 1000000 in
theorem FnExactIsWhole_any (w : World) (a : Option Addr) (n c : Nat) (l : List ByteArray) (hl : Strs w a n l) :
    Calls Try.prog 8 #[.slice a n c] w fun e w' => e = .returned (.bool true) ∧ Below w.heap.size w w' := by
  by_cases hbig : (1048576 : Int) < l.length + total l
  · go_enter Try.func8, Try.ntmps8
    go_wp2_with fail
    refine (sz_neg a n c l _ _ hl (by omega) (by omega) hbig).mono ?_
    rintro e w1 ⟨rfl, rfl⟩
    go_wp2
    go_ret
    exact ⟨rfl, Below.refl _ _⟩
  · have hbig : (l.length : Int) + total l ≤ 1048576 := by omega
    have HL := Lib.hid hl.len
    have hn : n ≤ 1048576 := by rw [← hl.len]; omega
    have hsm := Lib.hid hl.small
    go_enter Try.func8, Try.ntmps8
    go_wp2_with fail
    refine (sz_pos a n c l _ _ hl (by omega) (by omega) hbig).mono ?_
    rintro e w1 ⟨r, hr0, hr1, rfl, rfl⟩
    go_wp2_with fail
    refine (toStringS_any a n c l _ hl hn).mono ?_
    rintro e w1 ⟨rfl, o1, b1⟩
    go_wp2_with fail
    refine (specIsWhole_any _ n n l _ o1.strs).mono ?_
    rintro e w' ⟨rfl, rfl⟩
    go_wp2_with fail
    refine (toStringS_any a n c l _ (hl.below b1) hn).mono ?_
    rintro e w2 ⟨rfl, o2, b2⟩
    go_wp2_with fail
    refine (implIsWhole_any _ n n l _ o2.strs).mono ?_
    rintro e w3 ⟨rfl, b3⟩
    have b13 := (b1.next b2).next b3
    go_wp2_with fail
    refine (toStringS_any a n c l _ (hl.below b13) hn).mono ?_
    rintro e w4 ⟨rfl, o4, b4⟩
    go_wp2_with fail
    refine (eqStringS_any _ _ n n n n l l _ ((o2.below (b3.next b4)).strs) o4.strs).mono ?_
    rintro e w5 ⟨rfl, d5⟩
    have b5 := d5.below
    have heq := eqT_refl l
    go_wp2
    go_ret
    exact ⟨rfl, (b13.next b4).next b5⟩

end Go.Proofs.Ytlkodgkagjldaaa
