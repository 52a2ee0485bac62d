/-
  StepsText, the model's; NormalText, both.
-/
import Derived.Test.YtnnaigoomipklaaDoorOjSTxtS
import Derived.Test.YtnnaigoomipklaaDoorOjSTxtI
import Derived.Test.YtnnaigoomipklaaDoorOjHMems
import Derived.Test.YtnnaigoomipklaaDoorOjGood
import Derived.Test.YtnnaigoomipklaaDoorOjHBases
import Derived.Test.YtnnaigoomipklaaDoorOjMemT
import Derived.Test.YtnnaigoomipklaaDoorOjSLaws
import Derived.Test.YtnnaigoomipklaaDoorProg
import Derived.Test.YtnnaigoomipklaaDoorOjSMath
set_option linter.unusedSimpArgs false
set_option linter.unusedVariables false
namespace Go.Proofs.YtnnaigoomipklaaDoor
open Go.RowKit M

set_option maxHeartbeats 1000000 in
theorem specStepsText_any (a : Option Addr) (n c : Nat) (p : List Sp) (w : World) (hp : Sps w a n p) (hsm : ∀ x ∈ p, x.old.length ≤ 1048576 ∧ x.new.length ≤ 1048576) :
    Calls Tryd.prog 23 #[.slice a n c] w fun e w' => e = .returned (.tuple #[.string (bs (textP p).1), .bool (textP p).2]) ∧ Below w.heap.size w w' := by
  cases hgp : stepsB p
  · have hf := Lib.hid (show textP p = ([], false) by unfold textP; rw [hgp]; simp)
    have HGP := Lib.hid hgp
    clear hgp
    go_enter Tryd.func23, Tryd.ntmps23
    go_wp2_with fail
    refine (specGoodSteps_any a n c p _ hp hsm).mono ?_
    rintro e w1 ⟨rfl, b1⟩
    rw [HGP.out]
    go_wp2
    go_ret2
    exact ⟨by rw [hf.out]; rfl, b1⟩
  · have HGP := Lib.hid hgp
    obtain ⟨T, HT⟩ : ∃ T, Hid (bs (stepsT p) = T) := ⟨_, rfl⟩
    have HSZ := Lib.hid (show T.size = (stepsT p).length by rw [← HT.out, bs_size])
    have hle : T.size ≤ 66000 := by
      have := stepsT_take hgp p.length
      rw [List.take_length] at this
      rw [HSZ.out]; exact this
    clear hgp
    by_cases h3 : 3000 < T.size
    · have hf := Lib.hid (show textP p = ([], false) by unfold textP; rw [if_neg (fun e => by have := e.2; have := HSZ.out; omega)])
      go_enter Tryd.func23, Tryd.ntmps23
      go_wp2_with fail
      refine (specGoodSteps_any a n c p _ hp hsm).mono ?_
      rintro e w1 ⟨rfl, b1⟩
      rw [HGP.out]
      go_wp2_with fail
      refine (l5Text_any a n c p _ (hp.below b1) HGP.out).mono ?_
      rintro e w2 ⟨rfl, b2⟩
      rw [HT.out]
      go_wp2
      go_ret2
      exact ⟨by rw [hf.out]; rfl, b1.next b2⟩
    · have hf := Lib.hid (show textP p = (stepsT p, true) by unfold textP; rw [if_pos ⟨HGP.out, by have := HSZ.out; omega⟩])
      go_enter Tryd.func23, Tryd.ntmps23
      go_wp2_with fail
      refine (specGoodSteps_any a n c p _ hp hsm).mono ?_
      rintro e w1 ⟨rfl, b1⟩
      rw [HGP.out]
      go_wp2_with fail
      refine (l5Text_any a n c p _ (hp.below b1) HGP.out).mono ?_
      rintro e w2 ⟨rfl, b2⟩
      rw [HT.out]
      go_wp2_with fail
      refine (l5Text_any a n c p _ ((hp.below b1).below b2) HGP.out).mono ?_
      rintro e w3 ⟨rfl, b3⟩
      rw [HT.out]
      go_wp2
      go_ret2
      exact ⟨by rw [hf.out, ← HT.out]; rfl, (b1.next b2).next b3⟩

end Go.Proofs.YtnnaigoomipklaaDoor
