/-
  Pieces of the text of steps: numbers, letters, shown lines; the model's and the program's.
-/
import Derived.Test.YtnnaigoomipklaaGreatDoorOgSTxtB
import Derived.Test.YtnnaigoomipklaaGreatDoorOgSBld
import Derived.Test.YtnnaigoomipklaaGreatDoorOgSMath
import Derived.Test.YtnnaigoomipklaaGreatDoorOgURows
import Derived.Test.YtnnaigoomipklaaGreatDoorOgHMems
import Derived.Test.YtnnaigoomipklaaGreatDoorOgGood
import Derived.StillTailTactics
import Derived.Test.YtnnaigoomipklaaGreatDoorOgNSpecs
set_option linter.unusedSimpArgs false
set_option linter.unusedVariables false
namespace Go.Proofs.YtnnaigoomipklaaGreatDoor
open Go.RowKit M

theorem add_bs (a b : ByteArray) : a ++ b = bs (a.data.toList ++ b.data.toList) := by apply ByteArray.ext; simp [bs]

set_option maxHeartbeats 1000000 in
theorem l5Numbers_any (a b : Nat) (ha : a ≤ 1000) (hb : b ≤ 1000) (w : World) :
    Calls Tryz.prog 121 #[.int .i64 (a : Int), .int .i64 (b : Int)] w fun e w' => e = .returned (.string (bs (numsL a b))) ∧ Below w.heap.size w w' := by
  have hR := dec_room a b (by omega) (by omega)
  by_cases h : a = b
  · have H := Lib.hid (show numsL a b = Lib.decDigits a by unfold numsL; rw [if_pos h])
    have hq : ((a : Int) == (b : Int)) = true := by simp [h]
    clear h
    go_enter Tryz.func121, Tryz.ntmps121
    go_wp2_with (go_at_call 177; refine (l1Num_any a (by omega) _).mono ?_; rintro e w1 ⟨rfl, b1⟩)
    go_ret
    exact ⟨ret_str (by rw [H.out]), b1⟩
  · have H := Lib.hid (show numsL a b = Lib.decDigits a ++ 44 :: Lib.decDigits b by unfold numsL; rw [if_neg h])
    have hq : ((a : Int) == (b : Int)) = false := by simp; omega
    have hT : bs (Lib.decDigits a) ++ (⟨#[44]⟩ : ByteArray) ++ bs (Lib.decDigits b) = bs (numsL a b) := by
      rw [H.out, show (⟨#[44]⟩ : ByteArray) = bs [44] from rfl, bs_app, bs_app]; simp
    have HT := Lib.hid hT
    clear h hT
    go_enter Tryz.func121, Tryz.ntmps121
    go_wp2_with fail
    refine (l1Num_any a (by omega) _).mono ?_
    rintro e w1 ⟨rfl, b1⟩
    go_wp2_with fail
    refine (l1Num_any b (by omega) _).mono ?_
    rintro e w2 ⟨rfl, b2⟩
    go_wp2
    go_ret
    exact ⟨ret_str HT.out, b1.next b2⟩

set_option maxHeartbeats 1000000 in
theorem numbersText_any (a b : Nat) (ha : a ≤ 1000) (hb : b ≤ 1000) (w : World) (hv : Tab w) :
    Calls Tryz.prog 117 #[.int .i64 (a : Int), .int .i64 (b : Int)] w fun e w' => e = .returned (.string (bs (numsL a b))) ∧ Below w.heap.size w w' := by
  have hR := dec_room a b (by omega) (by omega)
  have HV := Lib.hid hv
  clear hv
  by_cases h : a = b
  · have H := Lib.hid (show numsL a b = Lib.decDigits a by unfold numsL; rw [if_pos h])
    have hq : ((b : Int) != (a : Int)) = false := by simp [h]
    clear h
    go_enter Tryz.func117, Tryz.ntmps117
    go_wp2_with fail
    refine (Itoa_any a (by omega) _ HV.out).mono ?_
    rintro e w1 ⟨rfl, b1⟩
    go_wp2
    go_ret
    exact ⟨ret_str (by rw [H.out]), b1⟩
  · have H := Lib.hid (show numsL a b = Lib.decDigits a ++ 44 :: Lib.decDigits b by unfold numsL; rw [if_neg h])
    have hq : ((b : Int) != (a : Int)) = true := by simp; omega
    have hT : bs (Lib.decDigits a) ++ ((⟨#[44]⟩ : ByteArray) ++ bs (Lib.decDigits b)) = bs (numsL a b) := by rw [H.out, comma_text]
    have HT := Lib.hid hT
    clear h hT
    go_enter Tryz.func117, Tryz.ntmps117
    go_wp2_with fail
    refine (Itoa_any a (by omega) _ HV.out).mono ?_
    rintro e w1 ⟨rfl, b1⟩
    go_wp2_with fail
    refine (Itoa_any b (by omega) _ (HV.out.below b1)).mono ?_
    rintro e w2 ⟨rfl, b2⟩
    go_wp2
    go_ret
    exact ⟨ret_str HT.out, b1.next b2⟩

end Go.Proofs.YtnnaigoomipklaaGreatDoor
