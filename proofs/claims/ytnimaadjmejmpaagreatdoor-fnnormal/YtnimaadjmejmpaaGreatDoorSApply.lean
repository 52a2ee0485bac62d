/-
  ApplySteps, the program's.
-/
import Derived.Test.YtnimaadjmejmpaaGreatDoorSHunks
set_option linter.unusedSimpArgs false
set_option linter.unusedVariables false
namespace Go.Proofs.YtnimaadjmejmpaaGreatDoor
open Go.RowKit Go.ChangeShapes Go.WideShapes M

theorem hunksOf_len (l : List ByteArray) (p : List Sp) : (hunksOf l p).1.length + totalH (hunksOf l p).1 ≤ 30000 := by
  unfold hunksOf hunksC
  split
  · split
    · next h =>
      split
      · simp [totalH]
      · exact goodH_total h
    · simp [totalH]
  · simp [totalH]
theorem hunksOf_new {l : List ByteArray} {p : List Sp} : ∀ x ∈ (hunksOf l p).1, x.new.length ≤ 1048576 := by
  intro x hx
  have h1 := totalH_mem hx
  have h2 := hunksOf_len l p
  omega
theorem applyOf_len (l : List ByteArray) (p : List Sp) : (applyOf l p).1.length + total (applyOf l p).1 ≤ 30000 := by
  have h : ∀ hs, (patchOf l hs).1.length + total (patchOf l hs).1 ≤ 30000 := fun hs => by
    unfold patchOf
    split
    · next h =>
      have := lines_total (goodB_lines (patchOk_parts h).2.2)
      dsimp only
      omega
    · simp [total]
  unfold applyOf
  split
  · split
    · exact h _
    · simp [total]
  · simp [total]

set_option maxHeartbeats 1000000 in
theorem implApplySteps_any (a : Option Addr) (nl cl : Nat) (l : List ByteArray) (b0 : Option Addr) (n c : Nat) (p : List Sp) (w : World) (hl : Strs w a nl l) (hcl : nl ≤ cl) (hp : Sps w b0 n p) (hsm : ∀ x ∈ p, x.old.length ≤ 1048576 ∧ x.new.length ≤ 1048576) (hnl : nl ≤ 1048576) :
    Calls Tryz.prog 22 #[.slice a nl cl, .slice b0 n c] w fun e w' => ∃ v, e = .returned (.tuple #[v, .int .i64 (applyOf l p).2.1, .bool (applyOf l p).2.2]) ∧ OwnV w' w.heap.size v (applyOf l p).1 ∧ Below w.heap.size w w' := by
  obtain ⟨H, code, ok, HP⟩ : ∃ H code ok, Hid (hunksOf l p = (H, code, ok)) := ⟨_, _, _, rfl⟩
  have HA := Lib.hid (show applyOf l p = if ok = true ∧ code = 0 then (if (patchOf l H).2 = true then ((patchOf l H).1, 0, true) else ([], 2, true)) else ([], code, ok) by unfold applyOf; rw [HP.out])
  cases ok
  · have hf := Lib.hid (show applyOf l p = ([], code, false) by rw [HA.out, if_neg (by simp)])
    go_enter Tryz.func22, Tryz.ntmps22
    go_wp2_with fail
    refine (implStepsHunks_any a nl cl l b0 n c p _ hl hcl hp hsm hnl).mono ?_
    rintro e w1 ⟨v, vs, rfl, o1, b1⟩
    rw [HP.out] at o1 ⊢
    dsimp only at o1 ⊢
    go_wp2
    go_ret3
    exact ⟨_, by rw [hf.out]; rfl, by rw [hf.out]; exact OwnV.nil_, b1⟩
  · by_cases hc : code = 0
    · subst hc
      obtain ⟨P, q, HQ⟩ : ∃ P q, Hid (patchOf l H = (P, q)) := ⟨_, _, rfl⟩
      obtain ⟨n2, HN2⟩ : ∃ n2, Hid (H.length = n2) := ⟨_, rfl⟩
      cases q
      · have hf := Lib.hid (show applyOf l p = ([], 2, true) by rw [HA.out, if_pos ⟨rfl, rfl⟩, HQ.out]; rfl)
        go_enter Tryz.func22, Tryz.ntmps22
        go_wp2_with fail
        refine (implStepsHunks_any a nl cl l b0 n c p _ hl hcl hp hsm hnl).mono ?_
        rintro e w1 ⟨v, vs, rfl, o1, b1⟩
        rw [HP.out] at o1 ⊢
        dsimp only at o1 ⊢
        obtain ⟨A1, c1, rfl, h11, h12⟩ := o1.form HN2.out
        go_wp2_with fail
        refine (implPatch_any a nl cl l A1 n2 c1 H _ (hl.below b1) hcl o1.hks hnl).mono ?_
        rintro e w2 ⟨v2, rfl, o2, b2⟩
        rw [HQ.out] at o2 ⊢
        dsimp only at o2 ⊢
        go_wp2
        go_ret3
        exact ⟨_, by rw [hf.out]; rfl, by rw [hf.out]; exact OwnV.nil_, b1.next b2⟩
      · have hf := Lib.hid (show applyOf l p = (P, 0, true) by rw [HA.out, if_pos ⟨rfl, rfl⟩, HQ.out]; rfl)
        go_enter Tryz.func22, Tryz.ntmps22
        go_wp2_with fail
        refine (implStepsHunks_any a nl cl l b0 n c p _ hl hcl hp hsm hnl).mono ?_
        rintro e w1 ⟨v, vs, rfl, o1, b1⟩
        rw [HP.out] at o1 ⊢
        dsimp only at o1 ⊢
        obtain ⟨A1, c1, rfl, h11, h12⟩ := o1.form HN2.out
        go_wp2_with fail
        refine (implPatch_any a nl cl l A1 n2 c1 H _ (hl.below b1) hcl o1.hks hnl).mono ?_
        rintro e w2 ⟨v2, rfl, o2, b2⟩
        rw [HQ.out] at o2 ⊢
        dsimp only at o2 ⊢
        go_wp2
        go_ret3
        exact ⟨_, by rw [hf.out]; rfl, by rw [hf.out]; exact o2.more b1.size, b1.next b2⟩
    · have hf := Lib.hid (show applyOf l p = ([], code, true) by rw [HA.out, if_neg (fun e => hc e.2)])
      have hc0 : (code == 0) = false := by simp [hc]
      have hc1 : (code != 0) = true := by simp [hc]
      go_enter Tryz.func22, Tryz.ntmps22
      go_wp2_with fail
      refine (implStepsHunks_any a nl cl l b0 n c p _ hl hcl hp hsm hnl).mono ?_
      rintro e w1 ⟨v, vs, rfl, o1, b1⟩
      rw [HP.out] at o1 ⊢
      dsimp only at o1 ⊢
      go_wp2
      go_ret3
      exact ⟨_, by rw [hf.out]; rfl, by rw [hf.out]; exact OwnV.nil_, b1⟩

end Go.Proofs.YtnimaadjmejmpaaGreatDoor
