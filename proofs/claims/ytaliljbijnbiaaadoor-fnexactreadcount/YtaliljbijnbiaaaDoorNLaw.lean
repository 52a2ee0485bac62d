/-
  The exact laws of chapter 4, but ReadEnd's.
-/
import Derived.Test.YtaliljbijnbiaaaDoorNTwo
import Derived.Test.YtaliljbijnbiaaaDoorNSpecC
set_option linter.unusedSimpArgs false
set_option linter.unusedVariables false
namespace Go.Proofs.YtaliljbijnbiaaaDoor
open Go.RowKit M

theorem one_form (o : Option Nat) : ∃ (k : Int) (b : Bool), one o = .tuple #[.int .i64 k, .bool b] := ⟨_, _, rfl⟩
theorem duo_form (o : Option (Nat × Nat)) : ∃ (k m : Int) (b : Bool), duo o = .tuple #[.int .i64 k, .int .i64 m, .bool b] := ⟨_, _, _, rfl⟩
theorem txt_form (o : Option (List UInt8)) : ∃ (s : ByteArray) (b : Bool), txt o = .tuple #[.string s, .bool b] ∧ (s.toList == s.toList) = true := ⟨_, _, rfl, by simp⟩

set_option maxHeartbeats 800000 in
theorem FnExactReadNumber_any (w : World) (hv : Vars w) (s : ByteArray) (hs : s.size ≤ maxLen) :
    Calls Tryd.prog 3 #[.string s] w fun e w' => e = .returned (.bool true) ∧ Below w.heap.size w w' := by
  have HV := Lib.hid hv
  have hs' := hs
  unfold maxLen at hs'
  clear hv
  by_cases hl : s.size ≤ 1048576
  · obtain ⟨k, b, h⟩ := one_form (numL s.data.toList)
    have H := Lib.hid h
    clear h
    go_enter Tryd.func3, Tryd.ntmps3
    go_wp2_with (first
      | (go_at_call 10; refine (sReadNumber_any s _ hs).mono ?_; rintro e w' ⟨rfl, rfl⟩; rw [H.out])
      | (go_at_call 11; refine (ReadNumber_any s (by omega) _ HV.out).mono ?_; rintro e w1 ⟨rfl, b1⟩; rw [H.out]))
    go_ret
    exact ⟨rfl, b1⟩
  · go_enter Tryd.func3, Tryd.ntmps3
    go_wp2
    go_ret
    exact ⟨rfl, Below.refl _ _⟩

set_option maxHeartbeats 800000 in
theorem FnExactReadPair_any (w : World) (hv : Vars w) (s : ByteArray) (hs : s.size ≤ maxLen) :
    Calls Tryd.prog 5 #[.string s] w fun e w' => e = .returned (.bool true) ∧ Below w.heap.size w w' := by
  have HV := Lib.hid hv
  have hs' := hs
  unfold maxLen at hs'
  clear hv
  by_cases hl : s.size ≤ 1048576
  · obtain ⟨k, m, b, h⟩ := duo_form (pairL s.data.toList)
    have H := Lib.hid h
    clear h
    go_enter Tryd.func5, Tryd.ntmps5
    go_wp2_with (first
      | (go_at_call 14; refine (sReadPair_any s hl _).mono ?_; rintro e w1 ⟨rfl, b1⟩; rw [H.out])
      | (go_at_call 15; refine (ReadPair_any s (by omega) _ (HV.out.below b1)).mono ?_; rintro e w2 ⟨rfl, b2⟩; rw [H.out]))
    go_ret
    exact ⟨rfl, b1.next b2⟩
  · go_enter Tryd.func5, Tryd.ntmps5
    go_wp2
    go_ret
    exact ⟨rfl, Below.refl _ _⟩

set_option maxHeartbeats 800000 in
theorem FnExactReadCount_any (w : World) (hv : Vars w) (s : ByteArray) (hs : s.size ≤ maxLen) :
    Calls Tryd.prog 7 #[.string s] w fun e w' => e = .returned (.bool true) ∧ Below w.heap.size w w' := by
  have HV := Lib.hid hv
  have hs' := hs
  unfold maxLen at hs'
  clear hv
  by_cases hl : s.size ≤ 1048576
  · obtain ⟨k, m, b, h⟩ := duo_form (countL s.data.toList)
    have H := Lib.hid h
    clear h
    go_enter Tryd.func7, Tryd.ntmps7
    go_wp2_with (first
      | (go_at_call 18; refine (sReadCount_any s hl _).mono ?_; rintro e w1 ⟨rfl, b1⟩; rw [H.out])
      | (go_at_call 19; refine (ReadCount_any s hl _ (HV.out.below b1)).mono ?_; rintro e w2 ⟨rfl, b2⟩; rw [H.out]))
    go_ret
    exact ⟨rfl, b1.next b2⟩
  · go_enter Tryd.func7, Tryd.ntmps7
    go_wp2
    go_ret
    exact ⟨rfl, Below.refl _ _⟩

set_option maxHeartbeats 800000 in
theorem FnExactPairText_any (w : World) (hv : Tab w) (a b : Int) :
    Calls Tryd.prog 4 #[.int .i64 a, .int .i64 b] w fun e w' => e = .returned (.bool true) ∧ Below w.heap.size w w' := by
  have HV := Lib.hid hv
  clear hv
  obtain ⟨k, m, h, hk⟩ := txt_form (pairO a b)
  have H := Lib.hid h
  clear h
  go_enter Tryd.func4, Tryd.ntmps4
  go_wp2_with (first
    | (go_at_call 12; refine (sPairText_any a b _).mono ?_; rintro e w1 ⟨rfl, b1⟩; rw [H.out])
    | (go_at_call 13; refine (PairText_any a b _ (HV.out.below b1)).mono ?_; rintro e w2 ⟨rfl, b2⟩; rw [H.out]))
  go_ret
  exact ⟨rfl, b1.next b2⟩

set_option maxHeartbeats 800000 in
theorem FnExactCountText_any (w : World) (hv : Tab w) (a b : Int) :
    Calls Tryd.prog 6 #[.int .i64 a, .int .i64 b] w fun e w' => e = .returned (.bool true) ∧ Below w.heap.size w w' := by
  have HV := Lib.hid hv
  clear hv
  obtain ⟨k, m, h, hk⟩ := txt_form (countO a b)
  have H := Lib.hid h
  clear h
  go_enter Tryd.func6, Tryd.ntmps6
  go_wp2_with (first
    | (go_at_call 16; refine (sCountText_any a b _).mono ?_; rintro e w1 ⟨rfl, b1⟩; rw [H.out])
    | (go_at_call 17; refine (CountText_any a b _ (HV.out.below b1)).mono ?_; rintro e w2 ⟨rfl, b2⟩; rw [H.out]))
  go_ret
  exact ⟨rfl, b1.next b2⟩

set_option maxHeartbeats 800000 in
theorem FnExactEndText_any (w : World) (hv : Tab w) (a b : Int) :
    Calls Tryd.prog 8 #[.int .i64 a, .int .i64 b] w fun e w' => e = .returned (.bool true) ∧ Below w.heap.size w w' := by
  have HV := Lib.hid hv
  clear hv
  obtain ⟨k, m, h, hk⟩ := txt_form (pairO a b)
  have H := Lib.hid h
  clear h
  go_enter Tryd.func8, Tryd.ntmps8
  go_wp2_with (first
    | (go_at_call 20; refine (sEndText_any a b _).mono ?_; rintro e w1 ⟨rfl, b1⟩; rw [H.out])
    | (go_at_call 21; refine (EndText_any a b _ (HV.out.below b1)).mono ?_; rintro e w2 ⟨rfl, b2⟩; rw [H.out]))
  go_ret
  exact ⟨rfl, b1.next b2⟩

end Go.Proofs.YtaliljbijnbiaaaDoor
