/-
  IsWhole, the program's and the model's, and its law.
-/
import Derived.Test.YtkamenidgkjodaaGreatDoorQbGood
import Derived.Test.YtkamenidgkjodaaGreatDoorQbMemT
set_option linter.unusedSimpArgs false
set_option linter.unusedVariables false
namespace Go.Proofs.YtkamenidgkjodaaGreatDoor
open Go.RowKit M

set_option maxHeartbeats 400000 in
theorem l1Whole_ne (a : Option Addr) (n c : Nat) (l : List ByteArray) (w : World) (hl : Strs w a n l) (hne : ∀ s ∈ l, 1 ≤ s.size) :
    Calls Tryz.prog 130 #[.slice a n c] w fun e w' => e = .returned (.bool (wholeB l)) ∧ w = w' := by
  have HL := Lib.hid hl.len
  have HNE := Lib.hid hne
  clear hne
  have hlim := hl.lim
  unfold maxLen at hlim
  by_cases h0 : n = 0
  · have hf := Lib.hid (wholeB_nil (HL.out.trans h0))
    have hq : ((n : Int) == 0) = true := by simp [h0]
    clear h0
    go_enter Tryz.func130, Tryz.ntmps130
    go_wp2
    go_ret
    exact ⟨ret_bool hf.out.symm, rfl⟩
  · have hq : ((n : Int) == 0) = false := by simp; omega
    obtain ⟨b, off, s, rfl, hs, hsz, hc⟩ := hl.at_ (show n - 1 < n by omega)
    have hp := HNE.out s (List.mem_of_getElem? hs)
    have hf := Lib.hid (wholeB_last HL.out (by omega) hs)
    clear hs
    go_enter Tryz.func130, Tryz.ntmps130
    go_wp2_with (go_at_call 52; refine (l1Ends_any s _ hsz hp).mono ?_; rintro e w' ⟨rfl, rfl⟩)
    go_ret
    exact ⟨ret_bool hf.out.symm, rfl⟩

end Go.Proofs.YtkamenidgkjodaaGreatDoor
