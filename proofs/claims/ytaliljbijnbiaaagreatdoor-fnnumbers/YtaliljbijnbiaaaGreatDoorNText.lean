/-
  Texts of ranges: the model's and the program's PairText, CountText, EndText.
-/
import Derived.Test.YtaliljbijnbiaaaGreatDoorNSpecT
set_option linter.unusedSimpArgs false
set_option linter.unusedVariables false
namespace Go.Proofs.YtaliljbijnbiaaaGreatDoor
open Go.RowKit M

/-- A text and whether there is one. -/
def txt (o : Option (List UInt8)) : Value := .tuple #[.string (bs (o.getD [])), .bool o.isSome]
def pairO (a b : Int) : Option (List UInt8) := if okR a b then some (pairT a.toNat b.toNat) else none
def countO (a b : Int) : Option (List UInt8) := if okR a b then some (countT a.toNat b.toNat) else none

theorem okR_nat {a b : Int} (h : okR a b = true) : ∃ A B : Nat, a = (A : Int) ∧ b = (B : Int) ∧ A ≤ 999 ∧ B ≤ 999 := by
  simp [okR] at h
  exact ⟨a.toNat, b.toNat, by omega, by omega, by omega, by omega⟩
theorem pairO_nat {A B : Nat} (h : okR (A : Int) (B : Int) = true) : pairO (A : Int) (B : Int) = some (pairT A B) := by
  unfold pairO; rw [if_pos h]; simp
theorem countO_nat {A B : Nat} (h : okR (A : Int) (B : Int) = true) : countO (A : Int) (B : Int) = some (countT A B) := by
  unfold countO; rw [if_pos h]; simp

set_option maxHeartbeats 800000 in
theorem sPairText_any (a b : Int) (w : World) :
    Calls Tryz.prog 9 #[.int .i64 a, .int .i64 b] w fun e w' => e = .returned (txt (pairO a b)) ∧ Below w.heap.size w w' := by
  cases h : okR a b with
  | true =>
    obtain ⟨A, B, rfl, rfl, hA, hB⟩ := okR_nat h
    have H := Lib.hid (pairO_nat h)
    have HO := Lib.hid h
    clear h
    go_enter Tryz.func9, Tryz.ntmps9
    go_wp2_with (first
      | (go_at_call 28; refine (l4Range_any _ _ _).mono ?_; rintro e w' ⟨rfl, rfl⟩; rw [HO.out])
      | (go_at_call 30; refine (l4Pair_any A B hA hB _).mono ?_; rintro e w1 ⟨rfl, b1⟩))
    go_ret2
    exact ⟨by rw [H.out]; rfl, b1⟩
  | false =>
    have H := Lib.hid (show pairO a b = none by unfold pairO; rw [h]; rfl)
    have HO := Lib.hid h
    clear h
    go_enter Tryz.func9, Tryz.ntmps9
    go_wp2_with (go_at_call 28; refine (l4Range_any _ _ _).mono ?_; rintro e w' ⟨rfl, rfl⟩; rw [HO.out])
    go_ret2
    exact ⟨by rw [H.out]; rfl, Below.refl _ _⟩

set_option maxHeartbeats 800000 in
theorem sCountText_any (a b : Int) (w : World) :
    Calls Tryz.prog 7 #[.int .i64 a, .int .i64 b] w fun e w' => e = .returned (txt (countO a b)) ∧ Below w.heap.size w w' := by
  cases h : okR a b with
  | true =>
    obtain ⟨A, B, rfl, rfl, hA, hB⟩ := okR_nat h
    have H := Lib.hid (countO_nat h)
    have HO := Lib.hid h
    clear h
    go_enter Tryz.func7, Tryz.ntmps7
    go_wp2_with (first
      | (go_at_call 28; refine (l4Range_any _ _ _).mono ?_; rintro e w' ⟨rfl, rfl⟩; rw [HO.out])
      | (go_at_call 29; refine (l4Count_any A B hA hB _).mono ?_; rintro e w1 ⟨rfl, b1⟩))
    go_ret2
    exact ⟨by rw [H.out]; rfl, b1⟩
  | false =>
    have H := Lib.hid (show countO a b = none by unfold countO; rw [h]; rfl)
    have HO := Lib.hid h
    clear h
    go_enter Tryz.func7, Tryz.ntmps7
    go_wp2_with (go_at_call 28; refine (l4Range_any _ _ _).mono ?_; rintro e w' ⟨rfl, rfl⟩; rw [HO.out])
    go_ret2
    exact ⟨by rw [H.out]; rfl, Below.refl _ _⟩

theorem sEndText_any (a b : Int) (w : World) :
    Calls Tryz.prog 11 #[.int .i64 a, .int .i64 b] w fun e w' => e = .returned (txt (pairO a b)) ∧ Below w.heap.size w w' := by
  obtain ⟨o, ho⟩ : ∃ o, o = pairO a b := ⟨_, rfl⟩
  have HO := Lib.hid ho
  rw [← ho]
  clear ho
  go_enter Tryz.func11, Tryz.ntmps11
  go_wp2_with (go_at_call 9; refine (sPairText_any a b _).mono ?_; rintro e w1 ⟨rfl, b1⟩; rw [← HO.out]; unfold txt)
  go_ret2
  exact ⟨rfl, b1⟩

theorem numberAt_any (a b : Nat) (ha : a ≤ 100000) (w : World) :
    Calls Tryz.prog 27 #[.int .i64 (a : Int), .int .i64 (b : Int)] w fun e w' => e = .returned (.int .i64 (numAt a b : Nat)) ∧ w = w' := by
  by_cases h : b = 0
  · subst h
    go_enter Tryz.func27, Tryz.ntmps27
    go_wp2
    go_ret
    exact ⟨rfl, rfl⟩
  · have H := Lib.hid (show numAt a b = a + 1 from if_neg h)
    have hb1 : ((b : Int) == 0) = false := by simp; omega
    go_enter Tryz.func27, Tryz.ntmps27
    go_wp2
    go_ret
    exact ⟨ret_int (by rw [H.out]; go_num), rfl⟩

theorem isRange_any (a b : Int) (w : World) :
    Calls Tryz.prog 25 #[.int .i64 a, .int .i64 b] w fun e w' => e = .returned (.bool (okR a b)) ∧ w = w' := by
  go_enter Tryz.func25, Tryz.ntmps25
  go_wp2
  all_goals go_ret
  all_goals refine ⟨ret_bool ?_, rfl⟩
  all_goals first | (simp [okR, *]; done) | (simp [okR]; omega)

set_option maxHeartbeats 800000 in
theorem PairText_any (a b : Int) (w : World) (hv : Tab w) :
    Calls Tryz.prog 8 #[.int .i64 a, .int .i64 b] w fun e w' => e = .returned (txt (pairO a b)) ∧ Below w.heap.size w w' := by
  cases h : okR a b with
  | true =>
    obtain ⟨A, B, rfl, rfl, hA, hB⟩ := okR_nat h
    have H := Lib.hid (pairO_nat h)
    have HO := Lib.hid h
    have HV := Lib.hid hv
    clear h hv
    have hN : numAt A B ≤ 1000 := by unfold numAt; split <;> omega
    have hR := dec_room (numAt A B) (A + B) (by omega) (by omega)
    have hadd : IntKind.i64.wrap ((A : Int) + (B : Int)) = ((A + B : Nat) : Int) := by simp [IntKind.wrap, IntKind.bits, IntKind.signed]; omega
    by_cases h : 1 < B
    · have H2 := Lib.hid (show pairT A B = Lib.decDigits (numAt A B) ++ 44 :: Lib.decDigits (A + B) by unfold pairT; rw [if_pos h])
      obtain ⟨c, hc⟩ : ∃ c : Nat, c = A + B := ⟨_, rfl⟩
      rw [← hc] at hadd hR H2
      have hc2 : c ≤ 100000 := by omega
      clear hc
      go_enter Tryz.func8, Tryz.ntmps8
      go_wp2_with (first
        | (go_at_call 25; refine (isRange_any _ _ _).mono ?_; rintro e w' ⟨rfl, rfl⟩; rw [HO.out])
        | (go_at_call 27; refine (numberAt_any A B (by omega) _).mono ?_; rintro e w' ⟨rfl, rfl⟩)
        | (go_at_call 26; refine (Itoa_any _ (by omega) _ (by first | exact HV.out | exact HV.out.below b1)).mono ?_; first | (have b0 := b1; rintro e w2 ⟨rfl, b2⟩) | rintro e w1 ⟨rfl, b1⟩))
      go_ret2
      exact ⟨by rw [H.out, H2.out, comma_text]; rfl, b1.next b2⟩
    · have H2 := Lib.hid (show pairT A B = Lib.decDigits (numAt A B) by unfold pairT; rw [if_neg h, List.append_nil])
      go_enter Tryz.func8, Tryz.ntmps8
      go_wp2_with (first
        | (go_at_call 25; refine (isRange_any _ _ _).mono ?_; rintro e w' ⟨rfl, rfl⟩; rw [HO.out])
        | (go_at_call 27; refine (numberAt_any A B (by omega) _).mono ?_; rintro e w' ⟨rfl, rfl⟩)
        | (go_at_call 26; refine (Itoa_any _ (by omega) _ HV.out).mono ?_; rintro e w1 ⟨rfl, b1⟩))
      go_ret2
      exact ⟨by rw [H.out, H2.out]; rfl, b1⟩
  | false =>
    have H := Lib.hid (show pairO a b = none by unfold pairO; rw [h]; rfl)
    have HO := Lib.hid h
    clear h
    go_enter Tryz.func8, Tryz.ntmps8
    go_wp2_with (go_at_call 25; refine (isRange_any _ _ _).mono ?_; rintro e w' ⟨rfl, rfl⟩; rw [HO.out])
    go_ret2
    exact ⟨by rw [H.out]; rfl, Below.refl _ _⟩

set_option maxHeartbeats 800000 in
theorem CountText_any (a b : Int) (w : World) (hv : Tab w) :
    Calls Tryz.prog 6 #[.int .i64 a, .int .i64 b] w fun e w' => e = .returned (txt (countO a b)) ∧ Below w.heap.size w w' := by
  cases h : okR a b with
  | true =>
    obtain ⟨A, B, rfl, rfl, hA, hB⟩ := okR_nat h
    have H := Lib.hid (countO_nat h)
    have HO := Lib.hid h
    have HV := Lib.hid hv
    clear h hv
    have hN : numAt A B ≤ 1000 := by unfold numAt; split <;> omega
    have hR := dec_room (numAt A B) B (by omega) (by omega)
    by_cases h : B = 1
    · have H2 := Lib.hid (show countT A B = Lib.decDigits (numAt A B) by unfold countT; rw [if_neg (by omega), List.append_nil])
      have hb1 : ((B : Int) == 1) = true := by simp [h]
      clear h
      go_enter Tryz.func6, Tryz.ntmps6
      go_wp2_with (first
        | (go_at_call 25; refine (isRange_any _ _ _).mono ?_; rintro e w' ⟨rfl, rfl⟩; rw [HO.out])
        | (go_at_call 27; refine (numberAt_any A B (by omega) _).mono ?_; rintro e w' ⟨rfl, rfl⟩)
        | (go_at_call 26; refine (Itoa_any _ (by omega) _ HV.out).mono ?_; rintro e w1 ⟨rfl, b1⟩))
      go_ret2
      exact ⟨by rw [H.out, H2.out]; rfl, b1⟩
    · have H2 := Lib.hid (show countT A B = Lib.decDigits (numAt A B) ++ 44 :: Lib.decDigits B by unfold countT; rw [if_pos (by omega)])
      have hb1 : ((B : Int) == 1) = false := by simp; omega
      go_enter Tryz.func6, Tryz.ntmps6
      go_wp2_with (first
        | (go_at_call 25; refine (isRange_any _ _ _).mono ?_; rintro e w' ⟨rfl, rfl⟩; rw [HO.out])
        | (go_at_call 27; refine (numberAt_any A B (by omega) _).mono ?_; rintro e w' ⟨rfl, rfl⟩)
        | (go_at_call 26; refine (Itoa_any _ (by omega) _ (by first | exact HV.out | exact HV.out.below b1)).mono ?_; first | (have b0 := b1; rintro e w2 ⟨rfl, b2⟩) | rintro e w1 ⟨rfl, b1⟩))
      go_ret2
      exact ⟨by rw [H.out, H2.out, comma_text]; rfl, b1.next b2⟩
  | false =>
    have H := Lib.hid (show countO a b = none by unfold countO; rw [h]; rfl)
    have HO := Lib.hid h
    clear h
    go_enter Tryz.func6, Tryz.ntmps6
    go_wp2_with (go_at_call 25; refine (isRange_any _ _ _).mono ?_; rintro e w' ⟨rfl, rfl⟩; rw [HO.out])
    go_ret2
    exact ⟨by rw [H.out]; rfl, Below.refl _ _⟩

theorem EndText_any (a b : Int) (w : World) (hv : Tab w) :
    Calls Tryz.prog 10 #[.int .i64 a, .int .i64 b] w fun e w' => e = .returned (txt (pairO a b)) ∧ Below w.heap.size w w' := by
  obtain ⟨o, ho⟩ : ∃ o, o = pairO a b := ⟨_, rfl⟩
  have HO := Lib.hid ho
  rw [← ho]
  clear ho
  go_enter Tryz.func10, Tryz.ntmps10
  go_wp2_with (go_at_call 8; refine (PairText_any a b _ hv).mono ?_; rintro e w1 ⟨rfl, b1⟩; rw [← HO.out]; unfold txt)
  go_ret2
  exact ⟨rfl, b1⟩

end Go.Proofs.YtaliljbijnbiaaaGreatDoor
