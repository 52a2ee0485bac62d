/-
  The law FnNumbers.
-/
import Derived.Test.YtaliljbijnbiaaaGreatDoorNDraw
import Derived.Test.YtaliljbijnbiaaaGreatDoorNEnd
import Derived.Deep.DeepCutAuto
set_option linter.unusedSimpArgs false
set_option linter.unusedVariables false
namespace Go.Proofs.YtaliljbijnbiaaaGreatDoor
open Go.RowKit M

theorem dec_comma (u : Nat) : (44 : UInt8) ∉ Lib.decDigits u := by
  intro h
  have := List.all_eq_true.1 (dec_all u) 44 h
  simp [digB] at this

theorem count_back (A B : Nat) (hA : A ≤ 999) (hB : B ≤ 999) : countL (countT A B) = some (A, B) := by
  unfold countT
  by_cases h : B = 1
  · subst h
    rw [if_neg (by omega), List.append_nil, countL_one (dec_comma _), numL_dec _ (by simp [numAt]; omega)]
    simp [numAt]; omega
  · rw [if_pos h, countL_both (dec_comma _), numL_dec _ (by simp [numAt]; split <;> omega), numL_dec _ (by omega)]
    simp only [numAt]
    by_cases h0 : B = 0
    · subst h0; simp; omega
    · simp only [if_neg h0]; simp; omega

theorem pair_back (A B : Nat) (h1 : A + B ≤ 1000) (h0 : 0 < B) : pairL (pairT A B) = some (A + 1, A + B) := by
  unfold pairT
  have hn : numAt A B = A + 1 := if_neg (by omega)
  rw [hn]
  by_cases h : 1 < B
  · rw [if_pos h]
    refine pairL_ok ?_ (by omega) (by omega)
    rw [twoL_hit (dec_comma _), numL_dec _ (by omega), numL_dec _ (by omega)]
  · obtain rfl : B = 1 := by omega
    rw [if_neg h, List.append_nil]
    refine pairL_ok ?_ (by omega) (by omega)
    rw [twoL_none (dec_comma _), numL_dec _ (by omega)]; rfl

theorem pairT_size (A B : Nat) (hA : A ≤ 999) (hB : B ≤ 999) : (bs (pairT A B)).size ≤ 20 := by
  rw [bs_size]
  unfold pairT
  have h1 := dec_len 5 (numAt A B) (by simp [numAt]; split <;> omega)
  have h2 := dec_len 5 (A + B) (by simp; omega)
  split <;> simp <;> omega
theorem countT_size (A B : Nat) (hA : A ≤ 999) (hB : B ≤ 999) : (bs (countT A B)).size ≤ 20 := by
  rw [bs_size]
  unfold countT
  have h1 := dec_len 5 (numAt A B) (by simp [numAt]; split <;> omega)
  have h2 := dec_len 5 B (by simp; omega)
  split <;> simp <;> omega

theorem range_texts (x y : Int) : ∃ (S T : ByteArray) (o : Bool), txt (countO x y) = .tuple #[.string S, .bool o] ∧ txt (pairO x y) = .tuple #[.string T, .bool o] ∧ S.size ≤ 20 ∧ T.size ≤ 20 ∧
    (S.toList == S.toList) = true ∧ (T.toList == T.toList) = true ∧
    (o = true → ∃ A B : Nat, x = (A : Int) ∧ y = (B : Int) ∧ A ≤ 999 ∧ B ≤ 999 ∧ countL S.data.toList = some (A, B) ∧ (A + B ≤ 1000 → 0 < B → pairL T.data.toList = some (A + 1, A + B))) := by
  cases h : okR x y with
  | false =>
    refine ⟨bs [], bs [], false, ?_, ?_, by rw [bs_size]; simp, by rw [bs_size]; simp, by simp, by simp, fun e => by cases e⟩
    · unfold countO; rw [h]; rfl
    · unfold pairO; rw [h]; rfl
  | true =>
    obtain ⟨A, B, rfl, rfl, hA, hB⟩ := okR_nat h
    refine ⟨bs (countT A B), bs (pairT A B), true, by rw [countO_nat h]; rfl, by rw [pairO_nat h]; rfl, countT_size A B hA hB, pairT_size A B hA hB, by simp, by simp, fun _ => ⟨A, B, rfl, rfl, hA, hB, ?_, fun h1 h2 => ?_⟩⟩
    · rw [bs_list]; exact count_back A B hA hB
    · rw [bs_list]; exact pair_back A B h1 h2

/-- A pair that is read is none that falls. -/
theorem pair_form (l : List UInt8) : ∃ (k m : Int) (b : Bool), duo (pairL l) = .tuple #[.int .i64 k, .int .i64 m, .bool b] ∧ k ≤ m := by
  refine ⟨_, _, _, rfl, ?_⟩
  cases h : pairL l with
  | none => simp
  | some x =>
    unfold pairL at h
    rw [Option.filter_eq_some_iff] at h
    obtain ⟨_, h2⟩ := h
    simp at h2
    simp; omega
theorem form2 (o : Option (Nat × Nat)) : ∃ (k m : Int) (b : Bool), duo o = .tuple #[.int .i64 k, .int .i64 m, .bool b] := ⟨_, _, _, rfl⟩
theorem form1 (o : Option Nat) : ∃ (k : Int) (b : Bool), one o = .tuple #[.int .i64 k, .bool b] := ⟨_, _, rfl⟩

set_option maxHeartbeats 6400000 in
set_option maxRecDepth 100000 in
theorem FnNumbers_any (w : World) (hv : VarsE w) (a : Option Addr) (n c : Nat) (ha : Bytes w a n) (b : Option Addr) (m d : Nat) (hb : Bytes w b m) :
    Calls Tryz.prog 3 #[.slice a n c, .slice b m d] w fun e w' => e = .returned (.bool true) ∧ Below w.heap.size w w' := by
  have HV := Lib.hid hv
  clear hv
  by_cases hbig : 1048576 < n + m
  · have HD := Lib.hid (show decide (1048576 < n + m) = true by simpa using hbig)
    go_enter Tryz.func3, Tryz.ntmps3
    go_wp2_with (go_at_call 4; refine (big_any a b n m c d _ ha.1 hb.1).mono ?_; rintro e w' ⟨rfl, rfl⟩; rw [HD.out])
    go_ret
    exact ⟨rfl, Below.refl _ _⟩
  · have HD := Lib.hid (show decide (1048576 < n + m) = false by simpa using hbig)
    have hn : n ≤ 1048576 := by omega
    have hm : m ≤ 1048576 := by omega
    have HA := Lib.hid ha
    have HB := Lib.hid hb
    have hbl := ha.1
    have hbm := hb.1
    clear ha hb hbig
    go_enter Tryz.func3, Tryz.ntmps3
    go_wp2_with fail
    refine (big_any a b n m c d _ hbl hbm).mono ?_
    rintro e w' ⟨rfl, rfl⟩
    rw [HD.out]
    go_wp2_with fail
    refine (DrawCountText_any a n c _ HA.out hn).mono ?_
    rintro e w1 ⟨x, y, hx, hy, rfl, b1⟩
    obtain ⟨S, T, o, hS, hT, sS, sT, qS, qT, hok⟩ := range_texts x y
    have HS := Lib.hid hS
    have HT := Lib.hid hT
    have HOK := Lib.hid hok
    clear hS hT hok
    go_wp2_with fail
    refine (CountText_any x y _ (HV.out.below b1).vars.tab).mono ?_
    rintro e w2 ⟨rfl, b2⟩
    rw [HS.out]
    have B2 := b1.next b2
    clear b1 b2
    go_wp2_with fail
    refine (sCountText_any x y _).mono ?_
    rintro e w3 ⟨rfl, b3⟩
    rw [HS.out]
    have B3 := B2.next b3
    clear B2 b3
    go_wp2_with fail
    refine (PairText_any x y _ (HV.out.below B3).vars.tab).mono ?_
    rintro e w4 ⟨rfl, b4⟩
    rw [HT.out]
    have B4 := B3.next b4
    clear B3 b4
    go_wp2_with fail
    refine (sPairText_any x y _).mono ?_
    rintro e w5 ⟨rfl, b5⟩
    rw [HT.out]
    have B5 := B4.next b5
    clear B4 b5
    go_wp2_with fail
    refine (EndText_any x y _ (HV.out.below B5).vars.tab).mono ?_
    rintro e w6 ⟨rfl, b6⟩
    rw [HT.out]
    have B6 := B5.next b6
    clear B5 b6
    go_wp2_with fail
    refine (sEndText_any x y _).mono ?_
    rintro e w7 ⟨rfl, b7⟩
    rw [HT.out]
    have B7 := B6.next b7
    clear B6 b7
    go_upto_if 133 with fail
    go_cut [] (fun wx => Below w7.heap.size w7 wx)
    case first => as_aux_lemma =>
      cases o with
      | false =>
        go_wp2_with fail
        go_meet
        case rel => exact Below.refl _ _
      | true =>
        obtain ⟨A, B, rfl, rfl, hA, hB, hcl, hpl⟩ := HOK.out rfl
        have HCL := Lib.hid (show duo (countL S.data.toList) = .tuple #[.int .i64 (A : Int), .int .i64 (B : Int), .bool true] by rw [hcl]; rfl)
        have hadd : IntKind.i64.wrap ((A : Int) + (B : Int)) = (A : Int) + (B : Int) := by simp [IntKind.wrap, IntKind.bits, IntKind.signed]; omega
        clear hcl HOK hx hy
        by_cases hc : A + B ≤ 1000 ∧ 0 < B
        · obtain ⟨hc1, hc2⟩ := hc
          have HPL := Lib.hid (show duo (pairL T.data.toList) = .tuple #[.int .i64 ((A : Int) + 1), .int .i64 ((A : Int) + (B : Int)), .bool true] by rw [hpl hc1 hc2]; rfl)
          have hd1 : decide ((A : Int) + (B : Int) ≤ 1000) = true := by simp; omega
          have hd2 : decide ((0 : Int) < (B : Int)) = true := by simp; omega
          clear hpl
          go_wp2_with fail
          refine (ReadCount_any S (by omega) _ (HV.out.below B7).vars).mono ?_
          rintro e w8 ⟨rfl, b8⟩
          rw [HCL.out]
          go_wp2_with fail
          refine (ReadPair_any T (by omega) _ (HV.out.below (B7.next b8)).vars).mono ?_
          rintro e w9 ⟨rfl, b9⟩
          rw [HPL.out]
          go_wp2_with fail
          go_meet
          case rel => exact b8.next b9
        · obtain ⟨k, l, q, hf⟩ := form2 (pairL T.data.toList)
          have HPL := Lib.hid hf
          have hd : (decide ((A : Int) + (B : Int) ≤ 1000) && decide ((0 : Int) < (B : Int))) = false := by
            rw [Bool.eq_false_iff]; simp; omega
          clear hf hpl
          go_wp2_with fail
          refine (ReadCount_any S (by omega) _ (HV.out.below B7).vars).mono ?_
          rintro e w8 ⟨rfl, b8⟩
          rw [HCL.out]
          go_wp2_with fail
          refine (ReadPair_any T (by omega) _ (HV.out.below (B7.next b8)).vars).mono ?_
          rintro e w9 ⟨rfl, b9⟩
          rw [HPL.out]
          go_wp2_with fail
          all_goals (go_meet; case rel => exact b8.next b9)
    case rest => as_aux_lemma =>
      have B8 := B7.next hcut
      clear hcut B7 HS HT HOK hx hy sS sT qS qT
      go_wp2_with fail
      refine (DrawReadCount_any b m d _ (HB.out.below B8) hm).mono ?_
      rintro e w9 ⟨s1, hs1, rfl, b9⟩
      obtain ⟨k1, l1, q1, hf1⟩ := form2 (countL s1.data.toList)
      have HF1 := Lib.hid hf1
      have B9 := B8.next b9
      clear hf1 B8 b9
      go_wp2_with fail
      refine (ReadCount_any s1 (by omega) _ (HV.out.below B9).vars).mono ?_
      rintro e w10 ⟨rfl, b10⟩
      rw [HF1.out]
      have B10 := B9.next b10
      clear B9 b10
      go_wp2_with fail
      refine (sReadCount_any s1 (by omega) _).mono ?_
      rintro e w11 ⟨rfl, b11⟩
      rw [HF1.out]
      have B11 := B10.next b11
      clear B10 b11
      go_wp2_with fail
      refine (DrawReadPair_any b m d _ (HB.out.below B11) hm).mono ?_
      rintro e w12 ⟨s2, hs2, rfl, b12⟩
      obtain ⟨k2, l2, q2, hf2, hkl⟩ := pair_form s2.data.toList
      have HF2 := Lib.hid hf2
      have B12 := B11.next b12
      clear hf2 B11 b12
      go_wp2_with fail
      refine (ReadPair_any s2 (by omega) _ (HV.out.below B12).vars).mono ?_
      rintro e w13 ⟨rfl, b13⟩
      rw [HF2.out]
      have B13 := B12.next b13
      clear B12 b13
      go_wp2_with fail
      refine (sReadPair_any s2 (by omega) _).mono ?_
      rintro e w14 ⟨rfl, b14⟩
      rw [HF2.out]
      have B14 := B13.next b14
      clear B13 b14
      go_wp2_with fail
      refine (DrawReadEnd_any b m d _ (HB.out.below B14) hm).mono ?_
      rintro e w15 ⟨s3, hs3, rfl, b15⟩
      obtain ⟨k3, l3, q3, hf3⟩ := form2 (endL s3.data.toList)
      have HF3 := Lib.hid hf3
      have B15 := B14.next b15
      clear hf3 B14 b15
      go_wp2_with fail
      refine (ReadEnd_any s3 (by omega) _ (HV.out.below B15)).mono ?_
      rintro e w16 ⟨rfl, b16⟩
      rw [HF3.out]
      have B16 := B15.next b16
      clear B15 b16
      go_wp2_with fail
      refine (sReadEnd_any s3 (by omega) _).mono ?_
      rintro e w17 ⟨rfl, b17⟩
      rw [HF3.out]
      have B17 := B16.next b17
      clear B16 b17
      go_wp2_with fail
      refine (DrawReadNumber_any b m d _ (HB.out.below B17) hm).mono ?_
      rintro e w18 ⟨s4, hs4, rfl, b18⟩
      obtain ⟨k4, q4, hf4⟩ := form1 (numL s4.data.toList)
      have HF4 := Lib.hid hf4
      have B18 := B17.next b18
      clear hf4 B17 b18
      go_wp2_with fail
      refine (ReadNumber_any s4 (by omega) _ (HV.out.below B18).vars).mono ?_
      rintro e w19 ⟨rfl, b19⟩
      rw [HF4.out]
      have B19 := B18.next b19
      clear B18 b19
      go_wp2_with fail
      refine (sReadNumber_any s4 _ (by unfold maxLen; omega)).mono ?_
      rintro e w20 ⟨rfl, rfl⟩
      rw [HF4.out]
      have hd : decide (k2 ≤ l2) = true := by simpa using hkl
      cases q2 with
      | false =>
        go_wp2
        go_ret
        exact ⟨rfl, B19⟩
      | true =>
        go_wp2
        go_ret
        exact ⟨rfl, B19⟩

end Go.Proofs.YtaliljbijnbiaaaGreatDoor
