/-
  StepsText, the model's; NormalText, both.
-/
import Derived.Test.YtnnaigoomipklaaDoorOkSTxtS
import Derived.Test.YtnnaigoomipklaaDoorOkSTxtI
import Derived.Test.YtnnaigoomipklaaDoorOkSStepsS
import Derived.Test.YtnnaigoomipklaaDoorOkSStepsI
set_option linter.unusedSimpArgs false
set_option linter.unusedVariables false
namespace Go.Proofs.YtnnaigoomipklaaDoor
open Go.RowKit M

set_option maxHeartbeats 1000000 in
theorem specStepsText_any (a : Option Addr) (n c : Nat) (p : List Sp) (w : World) (hp : Sps w a n p) (hsm : ∀ x ∈ p, x.old.length ≤ 1048576 ∧ x.new.length ≤ 1048576) :
    Calls Tryd.prog 23 #[.slice a n c] w fun e w' => e = .returned (.tuple #[.string (bs (textP p).1), .bool (textP p).2]) ∧ Below w.heap.size w w' := by
  cases hgp : stepsB p
  · have hf := Lib.hid (show textP p = ([], false) by unfold textP; rw [hgp]; simp)
    have HGP := Lib.hid hgp
    clear hgp
    go_enter Tryd.func23, Tryd.ntmps23
    go_wp2_with fail
    refine (specGoodSteps_any a n c p _ hp hsm).mono ?_
    rintro e w1 ⟨rfl, b1⟩
    rw [HGP.out]
    go_wp2
    go_ret2
    exact ⟨by rw [hf.out]; rfl, b1⟩
  · have HGP := Lib.hid hgp
    obtain ⟨T, HT⟩ : ∃ T, Hid (bs (stepsT p) = T) := ⟨_, rfl⟩
    have HSZ := Lib.hid (show T.size = (stepsT p).length by rw [← HT.out, bs_size])
    have hle : T.size ≤ 66000 := by
      have := stepsT_take hgp p.length
      rw [List.take_length] at this
      rw [HSZ.out]; exact this
    clear hgp
    by_cases h3 : 3000 < T.size
    · have hf := Lib.hid (show textP p = ([], false) by unfold textP; rw [if_neg (fun e => by have := e.2; have := HSZ.out; omega)])
      go_enter Tryd.func23, Tryd.ntmps23
      go_wp2_with fail
      refine (specGoodSteps_any a n c p _ hp hsm).mono ?_
      rintro e w1 ⟨rfl, b1⟩
      rw [HGP.out]
      go_wp2_with fail
      refine (l5Text_any a n c p _ (hp.below b1) HGP.out).mono ?_
      rintro e w2 ⟨rfl, b2⟩
      rw [HT.out]
      go_wp2
      go_ret2
      exact ⟨by rw [hf.out]; rfl, b1.next b2⟩
    · have hf := Lib.hid (show textP p = (stepsT p, true) by unfold textP; rw [if_pos ⟨HGP.out, by have := HSZ.out; omega⟩])
      go_enter Tryd.func23, Tryd.ntmps23
      go_wp2_with fail
      refine (specGoodSteps_any a n c p _ hp hsm).mono ?_
      rintro e w1 ⟨rfl, b1⟩
      rw [HGP.out]
      go_wp2_with fail
      refine (l5Text_any a n c p _ (hp.below b1) HGP.out).mono ?_
      rintro e w2 ⟨rfl, b2⟩
      rw [HT.out]
      go_wp2_with fail
      refine (l5Text_any a n c p _ ((hp.below b1).below b2) HGP.out).mono ?_
      rintro e w3 ⟨rfl, b3⟩
      rw [HT.out]
      go_wp2
      go_ret2
      exact ⟨by rw [hf.out, ← HT.out]; rfl, (b1.next b2).next b3⟩

/-- NormalText's answers. -/
def normT (l : List ByteArray) (hs : List Hk) : List UInt8 × Bool := if (normOf l hs).2 = true then textP (normOf l hs).1 else ([], false)

set_option maxHeartbeats 1000000 in
theorem specNormalText_any (a : Option Addr) (nl cl : Nat) (l : List ByteArray) (b0 : Option Addr) (n c : Nat) (hs : List Hk) (w : World) (hl : Strs w a nl l) (hcl : nl ≤ cl) (hh : Hks w b0 n hs) (hnew : ∀ x ∈ hs, x.new.length ≤ 1048576) (hnl : nl ≤ 1048576) :
    Calls Tryd.prog 20 #[.slice a nl cl, .slice b0 n c] w fun e w' => e = .returned (.tuple #[.string (bs (normT l hs).1), .bool (normT l hs).2]) ∧ Below w.heap.size w w' := by
  have hsz := normOf_len l hs
  obtain ⟨P, ok, HP⟩ : ∃ P ok, Hid (normOf l hs = (P, ok)) := ⟨_, _, rfl⟩
  rw [HP.out] at hsz
  have HNT := Lib.hid (show normT l hs = if ok = true then textP P else ([], false) by unfold normT; rw [HP.out])
  have HSM := Lib.hid (show ∀ x ∈ P, x.old.length ≤ 1048576 ∧ x.new.length ≤ 1048576 from fun x hx => by
    have := totalP_mem hx; unfold bulk at this; dsimp only at hsz; omega)
  obtain ⟨q, HQ⟩ : ∃ q, Hid (P.length = q) := ⟨_, rfl⟩
  clear hsz
  cases ok
  · have hf := Lib.hid (show normT l hs = ([], false) by rw [HNT.out]; rfl)
    go_enter Tryd.func20, Tryd.ntmps20
    go_wp2_with fail
    refine (specNormalSteps_any a nl cl l b0 n c hs _ hl hcl hh hnew hnl).mono ?_
    rintro e w1 ⟨v, vs, rfl, o1, b1⟩
    rw [HP.out] at o1 ⊢
    dsimp only at o1 ⊢
    go_wp2
    go_ret2
    exact ⟨by rw [hf.out]; rfl, b1⟩
  · have hf := Lib.hid (show normT l hs = textP P by rw [HNT.out]; rfl)
    go_enter Tryd.func20, Tryd.ntmps20
    go_wp2_with fail
    refine (specNormalSteps_any a nl cl l b0 n c hs _ hl hcl hh hnew hnl).mono ?_
    rintro e w1 ⟨v, vs, rfl, o1, b1⟩
    rw [HP.out] at o1 ⊢
    dsimp only at o1 ⊢
    obtain ⟨A1, c1, rfl, h11, h12⟩ := o1.form HQ.out
    go_wp2_with fail
    refine (specStepsText_any A1 q c1 P _ o1.sps HSM.out).mono ?_
    rintro e w2 ⟨rfl, b2⟩
    go_wp2
    go_ret2
    exact ⟨by rw [hf.out]; rfl, b1.next b2⟩

set_option maxHeartbeats 1000000 in
theorem implNormalText_any (a : Option Addr) (nl cl : Nat) (l : List ByteArray) (b0 : Option Addr) (n c : Nat) (hs : List Hk) (w : World) (hl : Strs w a nl l) (hcl : nl ≤ cl) (hh : Hks w b0 n hs) (hnl : nl ≤ 1048576) (hv : Tab w) :
    Calls Tryd.prog 21 #[.slice a nl cl, .slice b0 n c] w fun e w' => e = .returned (.tuple #[.string (bs (normT l hs).1), .bool (normT l hs).2]) ∧ Below w.heap.size w w' := by
  obtain ⟨P, ok, HP⟩ : ∃ P ok, Hid (normOf l hs = (P, ok)) := ⟨_, _, rfl⟩
  have HNT := Lib.hid (show normT l hs = if ok = true then textP P else ([], false) by unfold normT; rw [HP.out])
  obtain ⟨q, HQ⟩ : ∃ q, Hid (P.length = q) := ⟨_, rfl⟩
  have HV := Lib.hid hv
  clear hv
  cases ok
  · have hf := Lib.hid (show normT l hs = ([], false) by rw [HNT.out]; rfl)
    go_enter Tryd.func21, Tryd.ntmps21
    go_wp2_with fail
    refine (implNormalSteps_any a nl cl l b0 n c hs _ hl hcl hh hnl).mono ?_
    rintro e w1 ⟨v, vs, rfl, o1, b1⟩
    rw [HP.out] at o1 ⊢
    dsimp only at o1 ⊢
    go_wp2
    go_ret2
    exact ⟨by rw [hf.out]; rfl, b1⟩
  · have hf := Lib.hid (show normT l hs = textP P by rw [HNT.out]; rfl)
    go_enter Tryd.func21, Tryd.ntmps21
    go_wp2_with fail
    refine (implNormalSteps_any a nl cl l b0 n c hs _ hl hcl hh hnl).mono ?_
    rintro e w1 ⟨v, vs, rfl, o1, b1⟩
    rw [HP.out] at o1 ⊢
    dsimp only at o1 ⊢
    obtain ⟨A1, c1, rfl, h11, h12⟩ := o1.form HQ.out
    go_wp2_with fail
    refine (implStepsText_any A1 q c1 P _ o1.sps (HV.out.below b1)).mono ?_
    rintro e w2 ⟨rfl, b2⟩
    go_wp2
    go_ret2
    exact ⟨by rw [hf.out]; rfl, b1.next b2⟩

end Go.Proofs.YtnnaigoomipklaaDoor
