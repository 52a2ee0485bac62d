/-
  The law on GoodLines.
-/
import Derived.Test.YtlkodgkagjldaaaGood
import Derived.Test.YtlkodgkagjldaaaLawT
set_option linter.unusedSimpArgs false
set_option linter.unusedVariables false
namespace Go.Proofs.Ytlkodgkagjldaaa
open Go.RowKit M

set_option maxHeartbeats 1000000 in
theorem FnExactGoodLines_any (w : World) (a : Option Addr) (n c : Nat) (l : List ByteArray) (hl : Strs w a n l) :
    Calls Try.prog 6 #[.slice a n c] w fun e w' => e = .returned (.bool true) ∧ Below w.heap.size w w' := by
  by_cases hbig : (1048576 : Int) < l.length + total l
  · go_enter Try.func6, Try.ntmps6
    go_wp2_with fail
    refine (sz_neg a n c l _ _ hl (by omega) (by omega) hbig).mono ?_
    rintro e w1 ⟨rfl, rfl⟩
    go_wp2
    go_ret
    exact ⟨rfl, Below.refl _ _⟩
  · have hbig : (l.length : Int) + total l ≤ 1048576 := by omega
    have HL := Lib.hid hl.len
    have hn : n ≤ 1048576 := by rw [← hl.len]; omega
    have hsm := Lib.hid hl.small
    go_enter Try.func6, Try.ntmps6
    go_wp2_with fail
    refine (sz_pos a n c l _ _ hl (by omega) (by omega) hbig).mono ?_
    rintro e w1 ⟨r, hr0, hr1, rfl, rfl⟩
    go_wp2_with fail
    refine (toStringS_any a n c l _ hl hn).mono ?_
    rintro e w1 ⟨rfl, o1, b1⟩
    go_wp2_with fail
    refine (specGoodLines_any _ n n l _ o1.strs).mono ?_
    rintro e w' ⟨rfl, rfl⟩
    go_wp2_with fail
    refine (toStringS_any a n c l _ (hl.below b1) hn).mono ?_
    rintro e w2 ⟨rfl, o2, b2⟩
    go_wp2_with fail
    refine (implGoodLines_any _ n n l _ o2.strs).mono ?_
    rintro e w3 ⟨rfl, b3⟩
    have b13 := (b1.next b2).next b3
    go_wp2_with fail
    refine (toStringS_any a n c l _ (hl.below b13) hn).mono ?_
    rintro e w4 ⟨rfl, o4, b4⟩
    go_wp2_with fail
    refine (eqStringS_any _ _ n n n n l l _ ((o2.below (b3.next b4)).strs) o4.strs).mono ?_
    rintro e w5 ⟨rfl, d5⟩
    have b5 := d5.below
    have heq := eqT_refl l
    go_wp2
    go_ret
    exact ⟨rfl, (b13.next b4).next b5⟩

end Go.Proofs.Ytlkodgkagjldaaa
