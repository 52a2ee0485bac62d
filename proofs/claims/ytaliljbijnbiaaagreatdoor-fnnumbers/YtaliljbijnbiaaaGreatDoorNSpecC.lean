/-
  The model's ReadCount.
-/
import Derived.Test.YtaliljbijnbiaaaGreatDoorNSpecS
set_option linter.unusedSimpArgs false
set_option linter.unusedVariables false
namespace Go.Proofs.YtaliljbijnbiaaaGreatDoor
open Go.RowKit M

theorem countL_one {l : List UInt8} (h : (44 : UInt8) ∉ l) : countL l = match numL l with | some n => if 1 ≤ n ∧ n - 1 ≤ 999 then some (n - 1, 1) else none | none => none := by
  unfold countL
  rw [contains_none 44 l h]
  simp only [Bool.false_eq_true, if_false]
  rw [show l ++ [44, 49] = l ++ 44 :: [49] from rfl, twoL_hit h, show numL [49] = some 1 by decide]
  cases numL l with
  | none => rfl
  | some n =>
    simp only [numAt]
    by_cases h1 : 1 ≤ n ∧ n - 1 ≤ 999
    · rw [if_pos h1]; simp; omega
    · rw [if_neg h1]; simp; omega
theorem countL_both {p q : List UInt8} (h : (44 : UInt8) ∉ p) : countL (p ++ 44 :: q) = match numL p, numL q with | some n, some m => if numAt 0 m ≤ n ∧ n - numAt 0 m ≤ 999 ∧ m ≤ 999 then some (n - numAt 0 m, m) else none | _, _ => none := by
  unfold countL
  rw [contains_hit 44 p q h]
  simp only [if_true]
  rw [twoL_hit h]
  cases numL p <;> cases numL q <;> rfl

theorem past2 {N : Nat} (h : 2 < N) : 0 < N ∧ ((N : Int) == 2) = false ∧ (N == 2) = false := by
  refine ⟨by omega, ?_, ?_⟩
  · rw [beq_eq_false_iff_ne]; omega
  · rw [beq_eq_false_iff_ne]; omega
theorem duo_some (a b : Nat) : duo (some (a, b)) = .tuple #[.int .i64 (a : Int), .int .i64 (b : Int), .bool true] := rfl
theorem duo_none : duo none = .tuple #[.int .i64 0, .int .i64 0, .bool false] := rfl

set_option maxHeartbeats 3200000 in
theorem sReadCount_any (s : ByteArray) (hs : s.size ≤ 1048576) (w : World) :
    Calls Tryz.prog 15 #[.string s] w fun e w' => e = .returned (duo (countL s.data.toList)) ∧ Below w.heap.size w w' := by
  rcases split_cases 44 s.data.toList with h0 | ⟨p, q, e1, h0⟩
  · have hs2 : s.size ≤ maxLen := by unfold maxLen; omega
    have HC := Lib.hid h0
    have hcl := countL_one h0
    cases hn : numL s.data.toList with
    | none =>
      have H := Lib.hid (show countL s.data.toList = none by rw [hcl, hn])
      have HO := Lib.hid (one_none hn)
      clear h0 hn hcl
      go_enter Tryz.func15, Tryz.ntmps15
      go_wp2_with (first
        | (go_at_call 34; refine (split_one s hs _ HC.out).mono ?_; rintro e w1 ⟨b, off, cap, rfl, hc, b1⟩)
        | (go_at_call 23; refine (sReadNumber_any s _ hs2).mono ?_; rintro e w' ⟨rfl, rfl⟩; rw [HO.out]))
      go_ret3
      exact ⟨by rw [H.out]; rfl, b1⟩
    | some n =>
      have hle := (numL_some hn).1
      have HO := Lib.hid (one_some hn)
      rw [hn] at hcl
      simp only [] at hcl
      obtain ⟨d, hd⟩ : ∃ d : Int, d = (n : Int) - 1 := ⟨_, rfl⟩
      have hsub : IntKind.i64.wrap ((n : Int) - 1) = d := by simp [IntKind.wrap, IntKind.bits, IntKind.signed]; omega
      by_cases hg : 1 ≤ n ∧ n - 1 ≤ 999
      · have HK := Lib.hid (show okR d 1 = true by simp [okR]; omega)
        have H := Lib.hid (show duo (countL s.data.toList) = .tuple #[.int .i64 d, .int .i64 1, .bool true] by rw [hcl, if_pos hg, duo_some, show ((n - 1 : Nat) : Int) = d by omega]; rfl)
        clear h0 hn hcl hd hg
        go_enter Tryz.func15, Tryz.ntmps15
        go_wp2_with (first
          | (go_at_call 34; refine (split_one s hs _ HC.out).mono ?_; rintro e w1 ⟨b, off, cap, rfl, hc, b1⟩)
          | (go_at_call 23; refine (sReadNumber_any s _ hs2).mono ?_; rintro e w' ⟨rfl, rfl⟩; rw [HO.out])
          | (go_at_call 28; refine (l4Range_any _ _ _).mono ?_; rintro e w' ⟨rfl, rfl⟩; rw [HK.out]))
        go_ret3
        exact ⟨by rw [H.out]; rfl, b1⟩
      · have HK := Lib.hid (show okR d 1 = false by rw [Bool.eq_false_iff]; simp [okR]; omega)
        have H := Lib.hid (show countL s.data.toList = none by rw [hcl, if_neg hg])
        clear h0 hn hcl hd hg
        go_enter Tryz.func15, Tryz.ntmps15
        go_wp2_with (first
          | (go_at_call 34; refine (split_one s hs _ HC.out).mono ?_; rintro e w1 ⟨b, off, cap, rfl, hc, b1⟩)
          | (go_at_call 23; refine (sReadNumber_any s _ hs2).mono ?_; rintro e w' ⟨rfl, rfl⟩; rw [HO.out])
          | (go_at_call 28; refine (l4Range_any _ _ _).mono ?_; rintro e w' ⟨rfl, rfl⟩; rw [HK.out]))
        go_ret3
        exact ⟨by rw [H.out]; rfl, b1⟩
  · have el : s.size = p.length + (q.length + 1) := by
      have := congrArg List.length e1
      simpa using this
    obtain ⟨A, hA⟩ : ∃ A, A = bs p := ⟨_, rfl⟩
    obtain ⟨B, hB⟩ : ∃ B, B = bs q := ⟨_, rfl⟩
    have sA : A.size ≤ maxLen := by rw [hA, bs_size]; unfold maxLen; omega
    have sB : B.size ≤ maxLen := by rw [hB, bs_size]; unfold maxLen; omega
    have lA : A.data.toList = p := by rw [hA, bs_list]
    have lB : B.data.toList = q := by rw [hB, bs_list]
    have hcl := countL_both (p := p) (q := q) h0
    rw [← e1] at hcl
    by_cases hq : (44 : UInt8) ∈ q
    · have H := Lib.hid (show countL s.data.toList = none by rw [hcl, numL_comma hq]; cases numL p <;> rfl)
      have HM := Lib.hid (fun w => split_many s hs w p q e1 h0 hq)
      rw [← hA] at HM
      clear e1 h0 hq hA hB lB sB hcl
      cases hn : numL A.data.toList with
      | none =>
        have HO := Lib.hid (one_none hn)
        clear hn lA el
        go_enter Tryz.func15, Tryz.ntmps15
        go_wp2_with (first
          | (go_at_call 34; refine (HM.out _).mono ?_; rintro e w1 ⟨b, off, cap, N, rfl, hN, hc, b1⟩; obtain ⟨hN0, hN2, hN3⟩ := past2 hN)
          | (go_at_call 23; refine (sReadNumber_any A _ sA).mono ?_; rintro e w' ⟨rfl, rfl⟩; rw [HO.out]))
        go_ret3
        exact ⟨by rw [H.out]; rfl, b1⟩
      | some n =>
        have HO := Lib.hid (one_some hn)
        clear hn lA el
        go_enter Tryz.func15, Tryz.ntmps15
        go_wp2_with (first
          | (go_at_call 34; refine (HM.out _).mono ?_; rintro e w1 ⟨b, off, cap, N, rfl, hN, hc, b1⟩; obtain ⟨hN0, hN2, hN3⟩ := past2 hN)
          | (go_at_call 23; refine (sReadNumber_any A _ sA).mono ?_; rintro e w' ⟨rfl, rfl⟩; rw [HO.out]))
        go_ret3
        exact ⟨by rw [H.out]; rfl, b1⟩
    · have HM := Lib.hid (fun w => split_both s hs w p q e1 h0 hq)
      rw [← hA, ← hB] at HM
      rw [← lA, ← lB] at hcl
      clear e1 h0 hq hA hB lA lB el
      cases hn : numL A.data.toList with
      | none =>
        have H := Lib.hid (show countL s.data.toList = none by rw [hcl, hn])
        have HO := Lib.hid (one_none hn)
        clear hn hcl
        cases hm : numL B.data.toList with
        | none =>
          have HO2 := Lib.hid (one_none hm)
          clear hm
          go_enter Tryz.func15, Tryz.ntmps15
          go_wp2_with (first
            | (go_at_call 34; refine (HM.out _).mono ?_; rintro e w1 ⟨b, off, cap, rfl, hc, hc2, b1⟩)
            | (go_at_call 23; refine (sReadNumber_any _ _ (by first | exact sA | exact sB)).mono ?_; rintro e w' ⟨rfl, rfl⟩; first | rw [HO.out] | rw [HO2.out]))
          go_ret3
          exact ⟨by rw [H.out]; rfl, b1⟩
        | some m =>
          have HO2 := Lib.hid (one_some hm)
          have hle2 := (numL_some hm).1
          clear hm
          by_cases hm0 : 0 < m
          · go_enter Tryz.func15, Tryz.ntmps15
            go_wp2_with (first
              | (go_at_call 34; refine (HM.out _).mono ?_; rintro e w1 ⟨b, off, cap, rfl, hc, hc2, b1⟩)
              | (go_at_call 23; refine (sReadNumber_any _ _ (by first | exact sA | exact sB)).mono ?_; rintro e w' ⟨rfl, rfl⟩; first | rw [HO.out] | rw [HO2.out]))
            go_ret3
            exact ⟨by rw [H.out]; rfl, b1⟩
          · go_enter Tryz.func15, Tryz.ntmps15
            go_wp2_with (first
              | (go_at_call 34; refine (HM.out _).mono ?_; rintro e w1 ⟨b, off, cap, rfl, hc, hc2, b1⟩)
              | (go_at_call 23; refine (sReadNumber_any _ _ (by first | exact sA | exact sB)).mono ?_; rintro e w' ⟨rfl, rfl⟩; first | rw [HO.out] | rw [HO2.out]))
            go_ret3
            exact ⟨by rw [H.out]; rfl, b1⟩
      | some n =>
        have HO := Lib.hid (one_some hn)
        have hle := (numL_some hn).1
        rw [hn] at hcl
        cases hm : numL B.data.toList with
        | none =>
          rw [hm] at hcl
          have H := Lib.hid (show countL s.data.toList = none from hcl)
          have HO2 := Lib.hid (one_none hm)
          clear hm hn hcl
          go_enter Tryz.func15, Tryz.ntmps15
          go_wp2_with (first
            | (go_at_call 34; refine (HM.out _).mono ?_; rintro e w1 ⟨b, off, cap, rfl, hc, hc2, b1⟩)
            | (go_at_call 23; refine (sReadNumber_any _ _ (by first | exact sA | exact sB)).mono ?_; rintro e w' ⟨rfl, rfl⟩; first | rw [HO.out] | rw [HO2.out]))
          go_ret3
          exact ⟨by rw [H.out]; rfl, b1⟩
        | some m =>
          rw [hm] at hcl
          simp only [] at hcl
          have HO2 := Lib.hid (one_some hm)
          have hle2 := (numL_some hm).1
          clear hm hn
          by_cases hm0 : 0 < m
          · rw [show numAt 0 m = 1 by unfold numAt; rw [if_neg (by omega)]] at hcl
            obtain ⟨d, hd⟩ : ∃ d : Int, d = (n : Int) - 1 := ⟨_, rfl⟩
            have hsub : IntKind.i64.wrap ((n : Int) - 1) = d := by simp [IntKind.wrap, IntKind.bits, IntKind.signed]; omega
            by_cases hg : 1 ≤ n ∧ n - 1 ≤ 999 ∧ m ≤ 999
            · have HK := Lib.hid (show okR d (m : Int) = true by simp [okR]; omega)
              have H := Lib.hid (show duo (countL s.data.toList) = .tuple #[.int .i64 d, .int .i64 (m : Int), .bool true] by rw [hcl, if_pos hg, duo_some, show ((n - 1 : Nat) : Int) = d by omega])
              clear hcl hd hg
              go_enter Tryz.func15, Tryz.ntmps15
              go_wp2_with (first
                | (go_at_call 34; refine (HM.out _).mono ?_; rintro e w1 ⟨b, off, cap, rfl, hc, hc2, b1⟩)
                | (go_at_call 23; refine (sReadNumber_any _ _ (by first | exact sA | exact sB)).mono ?_; rintro e w' ⟨rfl, rfl⟩; first | rw [HO.out] | rw [HO2.out])
                | (go_at_call 28; refine (l4Range_any _ _ _).mono ?_; rintro e w' ⟨rfl, rfl⟩; rw [HK.out]))
              go_ret3
              exact ⟨by rw [H.out]; rfl, b1⟩
            · have HK := Lib.hid (show okR d (m : Int) = false by rw [Bool.eq_false_iff]; simp [okR]; omega)
              have H := Lib.hid (show countL s.data.toList = none by rw [hcl, if_neg hg])
              clear hcl hd hg
              go_enter Tryz.func15, Tryz.ntmps15
              go_wp2_with (first
                | (go_at_call 34; refine (HM.out _).mono ?_; rintro e w1 ⟨b, off, cap, rfl, hc, hc2, b1⟩)
                | (go_at_call 23; refine (sReadNumber_any _ _ (by first | exact sA | exact sB)).mono ?_; rintro e w' ⟨rfl, rfl⟩; first | rw [HO.out] | rw [HO2.out])
                | (go_at_call 28; refine (l4Range_any _ _ _).mono ?_; rintro e w' ⟨rfl, rfl⟩; rw [HK.out]))
              go_ret3
              exact ⟨by rw [H.out]; rfl, b1⟩
          · obtain rfl : m = 0 := by omega
            rw [show numAt 0 0 = 0 from rfl] at hcl
            clear hm0
            by_cases hg : 0 ≤ n ∧ n - 0 ≤ 999 ∧ 0 ≤ 999
            · have HK := Lib.hid (show okR (n : Int) 0 = true by simp [okR]; omega)
              have H := Lib.hid (show duo (countL s.data.toList) = .tuple #[.int .i64 (n : Int), .int .i64 0, .bool true] by rw [hcl, if_pos hg, duo_some]; rfl)
              clear hcl hg
              go_enter Tryz.func15, Tryz.ntmps15
              go_wp2_with (first
                | (go_at_call 34; refine (HM.out _).mono ?_; rintro e w1 ⟨b, off, cap, rfl, hc, hc2, b1⟩)
                | (go_at_call 23; refine (sReadNumber_any _ _ (by first | exact sA | exact sB)).mono ?_; rintro e w' ⟨rfl, rfl⟩; first | rw [HO.out] | rw [HO2.out])
                | (go_at_call 28; refine (l4Range_any _ _ _).mono ?_; rintro e w' ⟨rfl, rfl⟩; rw [HK.out]))
              go_ret3
              exact ⟨by rw [H.out]; rfl, b1⟩
            · have HK := Lib.hid (show okR (n : Int) 0 = false by rw [Bool.eq_false_iff]; simp [okR]; omega)
              have H := Lib.hid (show countL s.data.toList = none by rw [hcl, if_neg hg])
              clear hcl hg
              go_enter Tryz.func15, Tryz.ntmps15
              go_wp2_with (first
                | (go_at_call 34; refine (HM.out _).mono ?_; rintro e w1 ⟨b, off, cap, rfl, hc, hc2, b1⟩)
                | (go_at_call 23; refine (sReadNumber_any _ _ (by first | exact sA | exact sB)).mono ?_; rintro e w' ⟨rfl, rfl⟩; first | rw [HO.out] | rw [HO2.out])
                | (go_at_call 28; refine (l4Range_any _ _ _).mono ?_; rintro e w' ⟨rfl, rfl⟩; rw [HK.out]))
              go_ret3
              exact ⟨by rw [H.out]; rfl, b1⟩

end Go.Proofs.YtaliljbijnbiaaaGreatDoor
