/-
  Good steps: the model's GoodSteps.
-/
import Derived.Test.YtnimaadjmejmpaaDoorSMem
import Derived.Test.YtnimaadjmejmpaaDoorGood
set_option linter.unusedSimpArgs false
set_option linter.unusedVariables false
namespace Go.Proofs.YtnimaadjmejmpaaDoor
open Go.RowKit Go.ChangeShapes Go.WideShapes M

set_option maxHeartbeats 1000000 in
theorem l5Lines_any (a : Option Addr) (n c : Nat) (l : List ByteArray) (w : World) (hl : Strs w a n l) :
    Calls Tryd.prog 69 #[.slice a n c] w fun e w' => e = .returned (.bool (goodB l)) ∧ w = w' := by
  have hlim := hl.lim
  unfold maxLen at hlim
  have HL := Lib.hid hl.len
  go_enter Tryd.func69, Tryd.ntmps69
  go_wp2
  go_loop [7] (fun i => ∃ k : Nat, i = .int .i64 k ∧ k ≤ n ∧ Hid (∀ j s, j < k → l[j]? = some s → okAt l.length j s = true)) (fun i => n - (intOf i).toNat)
  case atStart => exact ⟨0, rfl, by omega, fun j s h => by omega⟩
  case round =>
    obtain ⟨k, rfl, hk, H⟩ := hrel
    by_cases hlt : k < n
    · obtain ⟨b, off, s, rfl, hs, hsz, hc⟩ := hl.at_ hlt
      have HS := Lib.hid hs
      clear hs
      by_cases h1 : lineB s = true
      · have hp := (lineB_size h1).1
        by_cases h2 : k + 1 < n
        · by_cases h3 : endsB s = true
          · have hstep := Lib.hid (show okAt l.length k s = true by simp [okAt, h1, h3])
            go_wp2_with (first | (go_at_call 65; refine (l1Line_any s _ hsz).mono ?_; rintro e w' ⟨rfl, rfl⟩) | (go_at_call 58; refine (l1Ends_any s _ hsz hp).mono ?_; rintro e w' ⟨rfl, rfl⟩))
            go_round
            case rel => exact ⟨k + 1, by go_num, by omega, step_ok H.out HS.out hstep.out⟩
            case measure => simp [intOf]; omega
          · have h3 : endsB s = false := by simpa using h3
            have hf := Lib.hid (goodB_bad HS.out (show okAt l.length k s = false by simp [okAt, h3, HL.out]; omega))
            go_wp2_with (first | (go_at_call 65; refine (l1Line_any s _ hsz).mono ?_; rintro e w' ⟨rfl, rfl⟩) | (go_at_call 58; refine (l1Ends_any s _ hsz hp).mono ?_; rintro e w' ⟨rfl, rfl⟩))
            go_ret
            exact ⟨ret_bool hf.out.symm, rfl⟩
        · have hd : decide ((k : Int) < (n : Int) - 1) = false := by simp; omega
          have hstep := Lib.hid (show okAt l.length k s = true by simp [okAt, h1, HL.out]; omega)
          go_wp2_with (first | (go_at_call 65; refine (l1Line_any s _ hsz).mono ?_; rintro e w' ⟨rfl, rfl⟩))
          go_round
          case rel => exact ⟨k + 1, by go_num, by omega, step_ok H.out HS.out hstep.out⟩
          case measure => simp [intOf]; omega
      · have h1 : lineB s = false := by simpa using h1
        have hf := Lib.hid (goodB_bad HS.out (show okAt l.length k s = false by simp [okAt, h1]))
        go_wp2_with (first | (go_at_call 65; refine (l1Line_any s _ hsz).mono ?_; rintro e w' ⟨rfl, rfl⟩))
        go_ret
        exact ⟨ret_bool hf.out.symm, rfl⟩
    · have hf := Lib.hid (all_ok H.out (by rw [HL.out]; omega))
      go_wp2
      go_ret
      exact ⟨ret_bool (by rw [hf.out, HL.out]; simp; omega), rfl⟩

set_option maxHeartbeats 1000000 in
theorem l5Side_any (x y : Int) (a : Option Addr) (n c : Nat) (l : List ByteArray) (w : World) (hl : Strs w a n l) :
    Calls Tryd.prog 56 #[.int .i64 x, .int .i64 y, .slice a n c] w fun e w' => e = .returned (.bool (sideB x y l)) ∧ w = w' := by
  have hlim := hl.lim
  unfold maxLen at hlim
  have HL := Lib.hid hl.len
  have hin : ∀ z : Int, (decide (0 ≤ z) && decide (z ≤ 1000)) = true ↔ 0 ≤ z ∧ z ≤ 1000 := fun z => by simp
  by_cases h1 : 0 ≤ x ∧ x ≤ 1000
  case neg =>
    have q1 : (decide (0 ≤ x) && decide (x ≤ 1000)) = false := by rw [Bool.eq_false_iff]; intro e; exact h1 ((hin x).1 e)
    have hf := Lib.hid (show sideB x y l = false by simp only [sideB, q1, Bool.false_and])
    clear h1
    go_enter Tryd.func56, Tryd.ntmps56
    go_wp2_with (first | (go_at_call 68; refine (l1In_any _ _ _ _).mono ?_; rintro e w' ⟨rfl, rfl⟩; rw [q1]))
    go_ret
    exact ⟨ret_bool hf.out.symm, rfl⟩
  have q1 : (decide (0 ≤ x) && decide (x ≤ 1000)) = true := (hin x).2 h1
  by_cases h2 : 0 ≤ y ∧ y ≤ 1000
  case neg =>
    have q2 : (decide (0 ≤ y) && decide (y ≤ 1000)) = false := by rw [Bool.eq_false_iff]; intro e; exact h2 ((hin y).1 e)
    have hf := Lib.hid (show sideB x y l = false by simp only [sideB, q2, Bool.and_false, Bool.false_and])
    clear h2 h1
    go_enter Tryd.func56, Tryd.ntmps56
    go_wp2_with (first | (go_at_call 68; refine (l1In_any _ _ _ _).mono ?_; rintro e w' ⟨rfl, rfl⟩; first | rw [q1] | rw [q2]))
    go_ret
    exact ⟨ret_bool hf.out.symm, rfl⟩
  have q2 : (decide (0 ≤ y) && decide (y ≤ 1000)) = true := (hin y).2 h2
  cases h3 : goodB l
  case false =>
    have hf := Lib.hid (show sideB x y l = false by simp only [sideB, h3, Bool.and_false, Bool.false_and])
    have H3 := Lib.hid h3
    clear h2 h1 h3
    go_enter Tryd.func56, Tryd.ntmps56
    go_wp2_with (first | (go_at_call 68; refine (l1In_any _ _ _ _).mono ?_; rintro e w' ⟨rfl, rfl⟩; first | rw [q1] | rw [q2]) | (go_at_call 69; refine (l5Lines_any a n c l _ hl).mono ?_; rintro e w' ⟨rfl, rfl⟩; rw [H3.out]))
    go_ret
    exact ⟨ret_bool hf.out.symm, rfl⟩
  have H3 := Lib.hid h3
  have hs : sideB x y l = (if l.length = 0 then decide (y = x) else decide (1 ≤ x) && decide (y - x + 1 = l.length)) := by
    simp only [sideB, q1, q2, h3, Bool.true_and]
  obtain ⟨hx0, hx1⟩ := h1
  obtain ⟨hy0, hy1⟩ := h2
  have hsub : IntKind.i64.wrap (y - x) = y - x := by rw [IntKind.wrap_i64]; omega
  have hsub2 : IntKind.i64.wrap (y - x + 1) = y - x + 1 := by rw [IntKind.wrap_i64]; omega
  clear h3
  by_cases h4 : n = 0
  · have hf := Lib.hid (show sideB x y l = decide (y = x) by rw [hs, if_pos (by rw [HL.out]; exact h4)])
    subst h4
    clear hs
    cases h5 : decide (y = x)
    all_goals
      have h6 : (y == x) = decide (y = x) := rfl
      rw [h5] at h6
      have H5 := Lib.hid h5
      clear h5
      go_enter Tryd.func56, Tryd.ntmps56
      go_wp2_with (first | (go_at_call 68; refine (l1In_any _ _ _ _).mono ?_; rintro e w' ⟨rfl, rfl⟩; first | rw [q1] | rw [q2]) | (go_at_call 69; refine (l5Lines_any a _ c l _ hl).mono ?_; rintro e w' ⟨rfl, rfl⟩; rw [H3.out]))
      go_ret
      exact ⟨ret_bool (by rw [hf.out, H5.out]), rfl⟩
  · have hf := Lib.hid (show sideB x y l = (decide (1 ≤ x) && decide (y - x + 1 = (n : Int))) by rw [hs, if_neg (by rw [HL.out]; exact h4), HL.out])
    have h40 : ((n : Int) == 0) = false := by simp; omega
    clear hs
    by_cases h5 : 1 ≤ x
    · cases h7 : decide (y - x + 1 = (n : Int))
      all_goals
        have h6 : (y - x + 1 == (n : Int)) = decide (y - x + 1 = (n : Int)) := rfl
        rw [h7] at h6
        have H7 := Lib.hid h7
        have H5 := Lib.hid h5
        clear h7
        go_enter Tryd.func56, Tryd.ntmps56
        go_wp2_with (first | (go_at_call 68; refine (l1In_any _ _ _ _).mono ?_; rintro e w' ⟨rfl, rfl⟩; first | rw [q1] | rw [q2]) | (go_at_call 69; refine (l5Lines_any a n c l _ hl).mono ?_; rintro e w' ⟨rfl, rfl⟩; rw [H3.out]))
        go_ret
        exact ⟨ret_bool (by rw [hf.out, H7.out]; simp [H5.out]), rfl⟩
    · have H5 := Lib.hid h5
      go_enter Tryd.func56, Tryd.ntmps56
      go_wp2_with (first | (go_at_call 68; refine (l1In_any _ _ _ _).mono ?_; rintro e w' ⟨rfl, rfl⟩; first | rw [q1] | rw [q2]) | (go_at_call 69; refine (l5Lines_any a n c l _ hl).mono ?_; rintro e w' ⟨rfl, rfl⟩; rw [H3.out]))
      go_ret
      exact ⟨ret_bool (by rw [hf.out, decide_eq_false (show ¬ 1 ≤ x by have := H5.out; omega), Bool.false_and]), rfl⟩

end Go.Proofs.YtnimaadjmejmpaaDoor
