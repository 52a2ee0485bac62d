/-
  StepsHunks and ApplySteps, the model's.
-/
import Derived.Test.YtnimaadjmejmpaaSHunkS
set_option linter.unusedSimpArgs false
set_option linter.unusedVariables false
namespace Go.Proofs.Ytnimaadjmejmpaa
open Go.RowKit Go.ChangeShapes Go.WideShapes M

set_option maxHeartbeats 1000000 in
theorem specStepsHunks_any (a : Option Addr) (nl cl : Nat) (l : List ByteArray) (b0 : Option Addr) (n c : Nat) (p : List Sp) (w : World) (hl : Strs w a nl l) (hcl : nl ≤ cl) (hp : Sps w b0 n p) (hsm : ∀ x ∈ p, x.old.length ≤ 1048576 ∧ x.new.length ≤ 1048576) (hnl : nl ≤ 1048576) :
    Calls Try.prog 20 #[.slice a nl cl, .slice b0 n c] w fun e w' => ∃ v vs, e = .returned (.tuple #[v, .int .i64 (hunksOf l p).2.1, .bool (hunksOf l p).2.2]) ∧ OwnH w' w.heap.size v (hunksOf l p).1 vs ∧ Below w.heap.size w w' := by
  cases hgl : goodB l
  · have hf := Lib.hid (show hunksOf l p = ([], 0, false) by unfold hunksOf hunksOk; rw [hgl]; rfl)
    have HG := Lib.hid hgl
    clear hgl
    go_enter Try.func20, Try.ntmps20
    go_wp2_with (go_at_call 39; refine (l1Good_any a nl cl l _ hl).mono ?_; rintro e w' ⟨rfl, rfl⟩; rw [HG.out])
    go_ret3
    exact ⟨_, [], by rw [hf.out]; rfl, by rw [hf.out]; exact OwnH.nil_, Below.refl _ _⟩
  cases hgp : stepsB p
  · have hf := Lib.hid (show hunksOf l p = ([], 0, false) by unfold hunksOf hunksOk; rw [hgl, hgp]; rfl)
    have HG := Lib.hid hgl
    have HGP := Lib.hid hgp
    clear hgl hgp
    go_enter Try.func20, Try.ntmps20
    go_wp2_with (first | (go_at_call 39; refine (l1Good_any a nl cl l _ hl).mono ?_; rintro e w' ⟨rfl, rfl⟩; rw [HG.out]) | (go_at_call 8; refine (specGoodSteps_any b0 n c p _ hp hsm).mono ?_; rintro e w1 ⟨rfl, b1⟩; rw [HGP.out]))
    go_ret3
    exact ⟨_, [], by rw [hf.out]; rfl, by rw [hf.out]; exact OwnH.nil_, b1⟩
  have HG := Lib.hid hgl
  have HGP := Lib.hid hgp
  have HF := Lib.hid (show hunksOf l p = ((hunksC l p).1, (hunksC l p).2, true) by unfold hunksOf hunksOk; rw [hgl, hgp]; rfl)
  clear hgl hgp
  go_enter Try.func20, Try.ntmps20
  go_wp2_with (first | (go_at_call 39; refine (l1Good_any a nl cl l _ hl).mono ?_; rintro e w' ⟨rfl, rfl⟩; rw [HG.out]) | (go_at_call 8; refine (specGoodSteps_any b0 n c p _ hp hsm).mono ?_; rintro e w1 ⟨rfl, b1⟩; rw [HGP.out]) | (go_at_call 40; refine (l5Hunks_any a nl cl l b0 n c p _ (hl.below b1) hcl (hp.below b1) HG.out HGP.out).mono ?_; rintro e w2 ⟨v2, vs2, rfl, o2, b2⟩))
  go_ret3
  exact ⟨_, vs2, by rw [HF.out]; rfl, by rw [HF.out]; exact o2.more b1.size, b1.next b2⟩

set_option maxHeartbeats 1000000 in
theorem specApplySteps_any (a : Option Addr) (nl cl : Nat) (l : List ByteArray) (b0 : Option Addr) (n c : Nat) (p : List Sp) (w : World) (hl : Strs w a nl l) (hcl : nl ≤ cl) (hp : Sps w b0 n p) (hsm : ∀ x ∈ p, x.old.length ≤ 1048576 ∧ x.new.length ≤ 1048576) (hnl : nl ≤ 1048576) :
    Calls Try.prog 13 #[.slice a nl cl, .slice b0 n c] w fun e w' => ∃ v, e = .returned (.tuple #[v, .int .i64 (applyOf l p).2.1, .bool (applyOf l p).2.2]) ∧ OwnV w' w.heap.size v (applyOf l p).1 ∧ Below w.heap.size w w' := by
  have hcd : (hunksOf l p).2.1 = 0 ∨ (hunksOf l p).2.1 = 2 ∨ (hunksOf l p).2.1 = 3 := by
    unfold hunksOf hunksC
    split
    · split
      · split
        · exact .inr (.inl rfl)
        · exact .inl rfl
      · exact .inr (.inr rfl)
    · exact .inl rfl
  have HNW := Lib.hid (hunksOf_new (l := l) (p := p))
  obtain ⟨H, code, ok, HP⟩ : ∃ H code ok, Hid (hunksOf l p = (H, code, ok)) := ⟨_, _, _, rfl⟩
  have HA := Lib.hid (show applyOf l p = if ok = true ∧ code = 0 then (if (patchOf l H).2 = true then ((patchOf l H).1, 0, true) else ([], 2, true)) else ([], code, ok) by unfold applyOf; rw [HP.out])
  rw [HP.out] at hcd HNW
  dsimp only at hcd HNW
  cases ok
  · have hf := Lib.hid (show applyOf l p = ([], code, false) by rw [HA.out, if_neg (by simp)])
    clear hcd
    go_enter Try.func13, Try.ntmps13
    go_wp2_with fail
    refine (specStepsHunks_any a nl cl l b0 n c p _ hl hcl hp hsm hnl).mono ?_
    rintro e w1 ⟨v, vs, rfl, o1, b1⟩
    rw [HP.out] at o1 ⊢
    dsimp only at o1 ⊢
    go_wp2
    go_ret3
    exact ⟨_, by rw [hf.out]; rfl, by rw [hf.out]; exact OwnV.nil_, b1⟩
  · by_cases hc : code = 0
    · subst hc
      clear hcd
      obtain ⟨P, q, HQ⟩ : ∃ P q, Hid (patchOf l H = (P, q)) := ⟨_, _, rfl⟩
      obtain ⟨n2, HN2⟩ : ∃ n2, Hid (H.length = n2) := ⟨_, rfl⟩
      cases q
      · have hf := Lib.hid (show applyOf l p = ([], 2, true) by rw [HA.out, if_pos ⟨rfl, rfl⟩, HQ.out]; rfl)
        go_enter Try.func13, Try.ntmps13
        go_wp2_with fail
        refine (specStepsHunks_any a nl cl l b0 n c p _ hl hcl hp hsm hnl).mono ?_
        rintro e w1 ⟨v, vs, rfl, o1, b1⟩
        rw [HP.out] at o1 ⊢
        dsimp only at o1 ⊢
        obtain ⟨A1, c1, rfl, h11, h12⟩ := o1.form HN2.out
        go_wp2_with fail
        refine (specPatch_any a nl cl l A1 n2 c1 H _ (hl.below b1) hcl o1.hks HNW.out hnl).mono ?_
        rintro e w2 ⟨v2, rfl, o2, b2⟩
        rw [HQ.out] at o2 ⊢
        dsimp only at o2 ⊢
        go_wp2
        go_ret3
        exact ⟨_, by rw [hf.out]; rfl, by rw [hf.out]; exact OwnV.nil_, b1.next b2⟩
      · have hf := Lib.hid (show applyOf l p = (P, 0, true) by rw [HA.out, if_pos ⟨rfl, rfl⟩, HQ.out]; rfl)
        go_enter Try.func13, Try.ntmps13
        go_wp2_with fail
        refine (specStepsHunks_any a nl cl l b0 n c p _ hl hcl hp hsm hnl).mono ?_
        rintro e w1 ⟨v, vs, rfl, o1, b1⟩
        rw [HP.out] at o1 ⊢
        dsimp only at o1 ⊢
        obtain ⟨A1, c1, rfl, h11, h12⟩ := o1.form HN2.out
        go_wp2_with fail
        refine (specPatch_any a nl cl l A1 n2 c1 H _ (hl.below b1) hcl o1.hks HNW.out hnl).mono ?_
        rintro e w2 ⟨v2, rfl, o2, b2⟩
        rw [HQ.out] at o2 ⊢
        dsimp only at o2 ⊢
        go_wp2
        go_ret3
        exact ⟨_, by rw [hf.out]; rfl, by rw [hf.out]; exact o2.more b1.size, b1.next b2⟩
    · have hf := Lib.hid (show applyOf l p = ([], code, true) by rw [HA.out, if_neg (fun e => hc e.2)])
      have hcp : 0 < code := by omega
      clear hcd
      go_enter Try.func13, Try.ntmps13
      go_wp2_with fail
      refine (specStepsHunks_any a nl cl l b0 n c p _ hl hcl hp hsm hnl).mono ?_
      rintro e w1 ⟨v, vs, rfl, o1, b1⟩
      rw [HP.out] at o1 ⊢
      dsimp only at o1 ⊢
      go_wp2
      go_ret3
      exact ⟨_, by rw [hf.out]; rfl, by rw [hf.out]; exact OwnV.nil_, b1⟩

end Go.Proofs.Ytnimaadjmejmpaa
