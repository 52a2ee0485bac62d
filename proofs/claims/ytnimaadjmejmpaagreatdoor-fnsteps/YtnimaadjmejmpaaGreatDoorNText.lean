/-
  Texts of ranges: the model's and the program's PairText, CountText, EndText.
-/
import Derived.Test.YtnimaadjmejmpaaGreatDoorNSpecT
set_option linter.unusedSimpArgs false
set_option linter.unusedVariables false
namespace Go.Proofs.YtnimaadjmejmpaaGreatDoor
open Go.RowKit M

/-- A text and whether there is one. -/
def txt (o : Option (List UInt8)) : Value := .tuple #[.string (bs (o.getD [])), .bool o.isSome]
def pairO (a b : Int) : Option (List UInt8) := if okR a b then some (pairT a.toNat b.toNat) else none
def countO (a b : Int) : Option (List UInt8) := if okR a b then some (countT a.toNat b.toNat) else none

theorem okR_nat {a b : Int} (h : okR a b = true) : ∃ A B : Nat, a = (A : Int) ∧ b = (B : Int) ∧ A ≤ 999 ∧ B ≤ 999 := by
  simp [okR] at h
  exact ⟨a.toNat, b.toNat, by omega, by omega, by omega, by omega⟩
theorem pairO_nat {A B : Nat} (h : okR (A : Int) (B : Int) = true) : pairO (A : Int) (B : Int) = some (pairT A B) := by
  unfold pairO; rw [if_pos h]; simp
theorem countO_nat {A B : Nat} (h : okR (A : Int) (B : Int) = true) : countO (A : Int) (B : Int) = some (countT A B) := by
  unfold countO; rw [if_pos h]; simp

theorem numberAt_any (a b : Nat) (ha : a ≤ 100000) (w : World) :
    Calls Tryz.prog 53 #[.int .i64 (a : Int), .int .i64 (b : Int)] w fun e w' => e = .returned (.int .i64 (numAt a b : Nat)) ∧ w = w' := by
  by_cases h : b = 0
  · subst h
    go_enter Tryz.func53, Tryz.ntmps53
    go_wp2
    go_ret
    exact ⟨rfl, rfl⟩
  · have H := Lib.hid (show numAt a b = a + 1 from if_neg h)
    have hb1 : ((b : Int) == 0) = false := by simp; omega
    go_enter Tryz.func53, Tryz.ntmps53
    go_wp2
    go_ret
    exact ⟨ret_int (by rw [H.out]; go_num), rfl⟩

end Go.Proofs.YtnimaadjmejmpaaGreatDoor
