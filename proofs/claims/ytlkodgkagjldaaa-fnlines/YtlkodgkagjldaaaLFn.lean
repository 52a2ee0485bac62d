/-
  The law FnLines.
-/
import Derived.Test.YtlkodgkagjldaaaLLines
import Derived.Test.YtlkodgkagjldaaaSame
import Derived.Test.YtlkodgkagjldaaaCutTwo
import Derived.Test.YtlkodgkagjldaaaDraw3
import Derived.Deep.DeepCutAuto
set_option linter.unusedSimpArgs false
set_option linter.unusedVariables false
namespace Go.Proofs.Ytlkodgkagjldaaa
open Go.RowKit M

theorem whole_cat {l : List ByteArray} (hne : ∀ s ∈ l, 1 ≤ s.size) (h0 : 0 < (cat l).size) : wholeB l = endsB (cat l) := by
  rcases List.eq_nil_or_concat l with rfl | ⟨r, t, rfl⟩
  · simp [cat, catL, ByteArray.size] at h0
  · have ht : 1 ≤ t.size := hne t (by simp)
    have e1 : wholeB (r ++ [t]) = endsB t := by unfold wholeB; simp
    have e2 : (cat (r ++ [t])).data.toList = catL r ++ t.data.toList := by simp [cat, catL]
    have hne2 : t.data.toList ≠ [] := fun e => by
      have : t.data.toList.length = t.size := by simp
      rw [e] at this
      simp at this
      omega
    rw [List.concat_eq_append, e1]
    unfold endsB
    rw [e2, List.getLast?_append, List.getLast?_eq_some_getLast hne2]
    rfl
theorem upto_true (p : Nat → Bool) : ∀ (f k j : Nat), k ≤ j → j < upto p f k → p j = true
  | 0, k, j, h1, h2 => by simp [upto] at h2; omega
  | f + 1, k, j, h1, h2 => by
    unfold upto at h2
    split at h2
    · rename_i hp
      by_cases e : j = k
      · subst e; exact hp
      · exact upto_true p f (k + 1) j (by omega) h2
    · omega
theorem ahead_take (l r : List ByteArray) : l.take (aheadT l r) = r.take (aheadT l r) := by
  have hle := ahead_le l r
  apply List.ext_getElem?
  intro j
  rw [List.getElem?_take, List.getElem?_take]
  split
  · rename_i h
    have := upto_true (aheadP l r) _ 0 j (Nat.zero_le _) h
    simpa [aheadP] using this
  · rfl
theorem behind_le (l r : List ByteArray) : aheadT l r + behindT l r ≤ l.length ∧ aheadT l r + behindT l r ≤ r.length := by
  have h1 := upto_le (behindP l r) (min l.length r.length - aheadT l r) 0
  have h2 := ahead_le l r
  unfold behindT
  omega

theorem ten_int (k : Nat) : (k == 10) = ((k : Int) == 10) := by rw [Bool.eq_iff_iff]; simp; omega
/-- What SameAhead and SameBehind answer, told together. -/
theorem same_cases (l r : List ByteArray) : ∃ (x y : Nat) (ok : Bool), sameAhead l r = (x, ok) ∧ sameBehind l r = (y, ok) ∧ x ≤ l.length ∧ y ≤ l.length ∧ (ok = true → partOf l 0 x = (l.take x, true) ∧ partOf r 0 x = (l.take x, true) ∧ x + y ≤ l.length ∧ x + y ≤ r.length) := by
  by_cases hg : (goodB l && goodB r) = true
  · have hg' : goodB l = true ∧ goodB r = true := by simpa using hg
    have h1 := behind_le l r
    refine ⟨aheadT l r, behindT l r, true, if_pos hg, if_pos hg, by omega, by omega, fun _ => ⟨?_, ?_, h1.1, h1.2⟩⟩
    · have := part_ok (lo := 0) (hi := aheadT l r) hg'.1 (Nat.zero_le _) (by omega)
      simpa using this
    · have := part_ok (lo := 0) (hi := aheadT l r) hg'.2 (Nat.zero_le _) (by omega)
      rw [ahead_take l r]
      simpa using this
  · exact ⟨0, 0, false, if_neg hg, if_neg hg, by omega, by omega, fun h => by cases h⟩
/-- What LinesOf answers, of lines that fit. -/
theorem lines_true {s : ByteArray} {P : List ByteArray} (h : linesOf s = (P, true)) : goodB P = true ∧ textOf P = (s, true) ∧ isWhole P = (wholeB P, true) ∧ (s.size = 0 → wholeB P = true) ∧ (0 < s.size → wholeB P = endsB s) := by
  unfold linesOf at h
  split at h
  · rename_i hf
    injection h with h _
    subst h
    have hg : goodB (cutOf s) = true := (cut_good s).trans hf
    have hne := good_ne hg
    refine ⟨hg, ?_, if_pos hg, fun h0 => ?_, fun h0 => ?_⟩
    · rw [show textOf (cutOf s) = (cat (cutOf s), true) from if_pos hg, cut_cat]
    · apply wholeB_nil
      have h1 := cat_size (cutOf s)
      rw [cut_cat, h0] at h1
      cases hc : cutOf s with
      | nil => rfl
      | cons t r =>
        have h2 := hne t (by rw [hc]; simp)
        rw [hc] at h1
        simp [total] at h1
        omega
    · have h1 := whole_cat hne (by rw [cut_cat]; exact h0)
      rwa [cut_cat] at h1
  · injection h with _ h
    cases h

set_option maxHeartbeats 4000000 in
set_option maxRecDepth 100000 in
theorem FnLines_any (w : World) (a : Option Addr) (n c : Nat) (ha : Bytes w a n) (b : Option Addr) (m d : Nat) (hb : Bytes w b m) :
    Calls Try.prog 3 #[.slice a n c, .slice b m d] w fun e w' => e = .returned (.bool true) ∧ Below w.heap.size w w' := by
  by_cases hbig : 1048576 < n + m
  · have hd : decide (1048576 < n + m) = true := by simpa using hbig
    go_enter Try.func3, Try.ntmps3
    go_wp2_with fail
    refine (big_any a b n m c d _ ha.1 hb.1).mono ?_
    rintro e w1 ⟨rfl, rfl⟩
    rw [hd]
    go_wp2
    go_ret
    exact ⟨rfl, Below.refl _ _⟩
  · have hd : decide (1048576 < n + m) = false := by simpa using hbig
    go_enter Try.func3, Try.ntmps3
    go_wp2_with fail
    refine (big_any a b n m c d _ ha.1 hb.1).mono ?_
    rintro e w1 ⟨rfl, rfl⟩
    rw [hd]
    go_wp2_with fail
    refine (DrawLinesOf_any a n c _ ha (by omega)).mono ?_
    rintro e w1 ⟨s, rfl, hs, b1⟩
    have hplen := linesOf_len s
    obtain ⟨P, ok, HPo⟩ : ∃ P ok, Hid (linesOf s = (P, ok)) := ⟨_, _, rfl⟩
    obtain ⟨p, HP, hp⟩ : ∃ p, Hid (P.length = p) ∧ p ≤ 40 := ⟨_, rfl, by rw [HPo.out] at hplen; exact hplen⟩
    clear hplen
    have heq := eqT_refl P
    go_wp2_with fail
    refine (implLinesOf_any s _ (by omega)).mono ?_
    rintro e w2 ⟨v2, rfl, o2, b2⟩
    rw [HPo.out] at o2 ⊢
    dsimp only at o2 ⊢
    obtain ⟨A2, cap2, rfl, hn21, hn22⟩ := o2.form HP.out
    go_wp2_with fail
    refine (specLinesOf_any s _ (by omega)).mono ?_
    rintro e w3 ⟨v3, rfl, o3, b3⟩
    rw [HPo.out] at o3 ⊢
    dsimp only at o3 ⊢
    obtain ⟨A3, cap3, rfl, hn31, hn32⟩ := o3.form HP.out
    go_wp2_with fail
    refine (sameTexts_any _ _ p p cap2 cap3 _ _ _ (o2.below b3).strs o3.strs).mono ?_
    rintro e w4 ⟨rfl, d4⟩
    have B4 := ((b1.next b2).next b3).next d4.below
    have hp4 := (o2.below b3).strs.below d4.below
    clear o2 o3 b1 b2 b3 d4
    go_upto_if 73 with fail
    go_cut [] (fun wx => Below w4.heap.size w4 wx)
    case first => as_aux_lemma =>
      cases ok with
      | false =>
        go_wp2_with fail
        go_meet
        case rel => exact Below.refl _ _
      | true =>
        obtain ⟨hg, htx, hwh, h0, h1⟩ := lines_true HPo.out
        have HG := Lib.hid hg
        have HTX := Lib.hid htx
        have HWH := Lib.hid hwh
        clear hg htx hwh HPo
        have hbq := beq_same s
        go_wp2_with fail
        refine (implTextOf_any _ _ _ P _ hp4 hn21).mono ?_
        rintro e w5 ⟨rfl, b5⟩
        rw [HTX.out]
        dsimp only
        go_wp2_with fail
        refine (implIsWhole_any _ _ cap2 P _ (hp4.below b5)).mono ?_
        rintro e w6 ⟨rfl, b6⟩
        rw [HWH.out]
        dsimp only
        by_cases hz : s.size = 0
        · have hw := h0 hz
          have he : s.toList.isEmpty = true := by
            have : s = ⟨#[]⟩ := ByteArray.size_eq_zero_iff.1 hz
            rw [this, nil_toList]; rfl
          clear h0 h1
          rw [hw]
          go_wp2_with fail
          refine (implGoodLines_any _ _ _ P _ (hp4.below (b5.next b6))).mono ?_
          rintro e w7 ⟨rfl, b7⟩
          rw [HG.out]
          go_wp2_with fail
          go_meet
          case rel => exact (b5.next b6).next b7
        · have hz : 0 < s.size := by omega
          have hw := h1 hz
          have he : s.toList.isEmpty = false := by
            cases h : s.toList with
            | nil => rw [ByteArray.toList_eq] at h; have : s.data.toList.length = s.size := by simp
                     rw [h] at this; simp at this; omega
            | cons x y => rfl
          clear h0 h1
          rw [hw]
          have hee := endsB_eq s hz
          have hi1 : IntKind.i64.wrap ((s.size : Int) - 1) = ((s.size - 1 : Nat) : Int) := by rw [IntKind.wrap_i64]; omega
          cases hends : endsB s with
          | true =>
            have hx : ((((s[s.size - 1]'(by omega)).toNat : Nat) : Int) == 10) = true := by
              rw [hends] at hee
              rw [← ten_int, ← hee]
            clear hee
            go_wp2_with fail
            refine (implGoodLines_any _ _ _ P _ (hp4.below (b5.next b6))).mono ?_
            rintro e w7 ⟨rfl, b7⟩
            rw [HG.out]
            go_wp2_with fail
            go_meet
            case rel => exact (b5.next b6).next b7
          | false =>
            have hx : ((((s[s.size - 1]'(by omega)).toNat : Nat) : Int) == 10) = false := by
              rw [hends] at hee
              rw [← ten_int, ← hee]
            clear hee
            go_wp2_with fail
            refine (implGoodLines_any _ _ _ P _ (hp4.below (b5.next b6))).mono ?_
            rintro e w7 ⟨rfl, b7⟩
            rw [HG.out]
            go_wp2_with fail
            go_meet
            case rel => exact (b5.next b6).next b7
    case rest => as_aux_lemma =>
      have B5 := B4.next hcut
      clear hcut hp4 B4 heq HPo HP
      go_wp2_with fail
      refine (DrawSameAhead_any b m d _ (hb.below B5) (by omega)).mono ?_
      rintro e w6 ⟨v6, v7, L, R, rfl, o6, o7, hL, hR, b6⟩
      obtain ⟨ln, HLN⟩ : ∃ x, Hid (L.length = x) := ⟨_, rfl⟩
      obtain ⟨rn, HRN⟩ : ∃ x, Hid (R.length = x) := ⟨_, rfl⟩
      obtain ⟨A6, cap6, rfl, hn61, hn62⟩ := o6.form HLN.out
      obtain ⟨A7, cap7, rfl, hn71, hn72⟩ := o7.form HRN.out
      have hln : ln ≤ 9 := by rw [← HLN.out]; exact hL
      have hrn : rn ≤ 12 := by rw [← HRN.out]; exact hR
      clear hL hR
      obtain ⟨x, y, ok2, hsa, hsb, hx, hy, hok⟩ := same_cases L R
      have HSA := Lib.hid hsa
      have HSB := Lib.hid hsb
      have HOK := Lib.hid hok
      have hx9 : x ≤ 9 := by rw [HLN.out] at hx; omega
      have hy9 : y ≤ 9 := by rw [HLN.out] at hy; omega
      clear hsa hsb hok hx hy
      have hs6 := o6.strs
      have hs7 := o7.strs
      have B6 := B5.next b6
      clear o6 o7 b6 B5
      go_wp2_with fail
      refine (implSameAhead_any A6 A7 ln rn cap6 cap7 L R _ hs6 hs7).mono ?_
      rintro e w7 ⟨rfl, b7⟩
      rw [HSA.out]
      dsimp only
      have hs6 := hs6.below b7
      have hs7 := hs7.below b7
      have B7 := B6.next b7
      clear b7 B6
      go_wp2_with fail
      refine (specSameAhead_any A6 A7 ln rn cap6 cap7 L R _ hs6 hs7).mono ?_
      rintro e w8 ⟨rfl, d8⟩
      rw [HSA.out]
      dsimp only
      have hs6 := hs6.below d8.below
      have hs7 := hs7.below d8.below
      have B8 := B7.next d8.below
      clear d8 B7
      go_wp2_with fail
      refine (implSameBehind_any A6 A7 ln rn cap6 cap7 L R _ hs6 hs7).mono ?_
      rintro e w9 ⟨rfl, b9⟩
      rw [HSB.out]
      dsimp only
      have hs6 := hs6.below b9
      have hs7 := hs7.below b9
      have B9 := B8.next b9
      clear b9 B8
      go_wp2_with fail
      refine (specSameBehind_any A6 A7 ln rn cap6 cap7 L R _ hs6 hs7).mono ?_
      rintro e w10 ⟨rfl, d10⟩
      rw [HSB.out]
      dsimp only
      have hs6 := hs6.below d10.below
      have hs7 := hs7.below d10.below
      have B10 := B9.next d10.below
      clear d10 B9
      go_upto_if 161 with fail
      go_cut [] (fun wx => Below w10.heap.size w10 wx)
      case first => as_aux_lemma =>
        cases ok2 with
        | false =>
          go_wp2_with fail
          go_meet
          case rel => exact Below.refl _ _
        | true =>
          obtain ⟨hpl, hpr, hxl, hxr⟩ := HOK.out rfl
          rw [HLN.out] at hxl
          rw [HRN.out] at hxr
          have HPL := Lib.hid hpl
          have HPR := Lib.hid hpr
          clear hpl hpr HSA HSB HOK
          obtain ⟨T, HT⟩ : ∃ T, Hid (L.take x = T) := ⟨_, rfl⟩
          obtain ⟨tn, HTN⟩ : ∃ x, Hid (T.length = x) := ⟨_, rfl⟩
          have heq := eqT_refl T
          go_wp2_with fail
          refine (implPartOf_any _ _ _ L 0 x _ hs6 hn61).mono ?_
          rintro e w11 ⟨v11, rfl, o11, b11⟩
          rw [HPL.out, HT.out] at o11
          rw [HPL.out]
          dsimp only at o11 ⊢
          obtain ⟨A11, cap11, rfl, hn111, hn112⟩ := o11.form HTN.out
          go_wp2_with fail
          refine (implPartOf_any _ _ _ R 0 x _ (hs7.below b11) hn71).mono ?_
          rintro e w12 ⟨v12, rfl, o12, b12⟩
          rw [HPR.out, HT.out] at o12
          rw [HPR.out]
          dsimp only at o12 ⊢
          obtain ⟨A12, cap12, rfl, hn121, hn122⟩ := o12.form HTN.out
          go_wp2_with fail
          refine (sameTexts_any _ _ tn tn cap11 cap12 T T _ (o11.below b12).strs o12.strs).mono ?_
          rintro e w13 ⟨rfl, d13⟩
          have hq1 : decide ((ln : Int) < (x : Int) + (y : Int)) = false := by simp; omega
          have hq2 : decide ((rn : Int) < (x : Int) + (y : Int)) = false := by simp; omega
          go_wp2_with fail
          go_meet
          case rel => exact (b11.next b12).next d13.below
      case rest => as_aux_lemma =>
        have B11 := B10.next hcut
        clear hcut hs6 hs7 B10 HSA HSB HOK HLN HRN
        go_wp2_with fail
        refine (DrawTextOf_any b m d _ (hb.below B11) (by omega)).mono ?_
        rintro e w12 ⟨v12, C, rfl, o12, hC, hsmC, b12⟩
        clear hsmC
        obtain ⟨cn, HCN⟩ : ∃ x, Hid (C.length = x) := ⟨_, rfl⟩
        obtain ⟨A12, cap12, rfl, hn121, hn122⟩ := o12.form HCN.out
        have hc12 := o12.strs
        have B12 := B11.next b12
        clear o12 b12 B11 hC
        obtain ⟨tx, tok, HTX⟩ : ∃ x y, Hid (textOf C = (x, y)) := ⟨_, _, rfl⟩
        obtain ⟨wh, wok, HWH⟩ : ∃ x y, Hid (isWhole C = (x, y)) := ⟨_, _, rfl⟩
        have hbt := beq_same tx
        go_wp2_with fail
        refine (implTextOf_any _ _ _ C _ hc12 hn121).mono ?_
        rintro e w13 ⟨rfl, b13⟩
        rw [HTX.out]
        dsimp only
        have hc13 := hc12.below b13
        have B13 := B12.next b13
        clear hc12 b13 B12
        go_wp2_with fail
        refine (specTextOf_any _ _ cap12 C _ hc13).mono ?_
        rintro e w14 ⟨rfl, rfl⟩
        rw [HTX.out]
        dsimp only
        go_wp2_with fail
        refine (implIsWhole_any _ _ cap12 C _ hc13).mono ?_
        rintro e w14 ⟨rfl, b14⟩
        rw [HWH.out]
        dsimp only
        have hc14 := hc13.below b14
        have B14 := B13.next b14
        clear hc13 b14 B13
        go_wp2_with fail
        refine (specIsWhole_any _ _ cap12 C _ hc14).mono ?_
        rintro e w15 ⟨rfl, rfl⟩
        rw [HWH.out]
        dsimp only
        go_wp2_with fail
        refine (DrawPartOf_any b m d _ (hb.below B14) (by omega)).mono ?_
        rintro e w15 ⟨v15, D, fr, tt, rfl, o15, hD, hsmD, hf1, hf2, ht1, ht2, b15⟩
        clear hsmD
        obtain ⟨dn, HDN⟩ : ∃ x, Hid (D.length = x) := ⟨_, rfl⟩
        obtain ⟨A15, cap15, rfl, hn151, hn152⟩ := o15.form HDN.out
        have hd15 := o15.strs
        have hc15 := hc14.below b15
        have B15 := B14.next b15
        clear hc14 o15 b15 B14 hD
        obtain ⟨Pt, pok, HPt⟩ : ∃ x y, Hid (partOf D fr tt = (x, y)) := ⟨_, _, rfl⟩
        obtain ⟨pn, HPN⟩ : ∃ x, Hid (Pt.length = x) := ⟨_, rfl⟩
        have heq := eqT_refl Pt
        go_wp2_with fail
        refine (implPartOf_any _ _ _ D fr tt _ hd15 hn151).mono ?_
        rintro e w16 ⟨v16, rfl, o16, b16⟩
        rw [HPt.out] at o16 ⊢
        dsimp only at o16 ⊢
        obtain ⟨A16, cap16, rfl, hn161, hn162⟩ := o16.form HPN.out
        have hp16 := o16.strs
        have hd16 := hd15.below b16
        have hc16 := hc15.below b16
        have B16 := B15.next b16
        clear hc15 hd15 o16 b16 B15
        go_wp2_with fail
        refine (specPartOf_any _ _ _ D fr tt _ hd16 hn151).mono ?_
        rintro e w17 ⟨v17, rfl, o17, b17⟩
        rw [HPt.out] at o17 ⊢
        dsimp only at o17 ⊢
        obtain ⟨A17, cap17, rfl, hn171, hn172⟩ := o17.form HPN.out
        have hp17 := hp16.below b17
        have hq17 := o17.strs
        have hc17 := hc16.below b17
        have B17 := B16.next b17
        clear hc16 hd16 o17 b17 B16 hp16
        go_wp2_with fail
        refine (DrawPlainOf_any b m d _ (hb.below B17) (by omega)).mono ?_
        rintro e w18 ⟨z, rfl, hz9, b18⟩
        have hzx : z.size ≤ maxLen := by unfold maxLen; omega
        obtain ⟨pl, lok, HPL⟩ : ∃ x y, Hid (plainOf z = (x, y)) := ⟨_, _, rfl⟩
        have hbp := beq_same pl
        go_wp2_with fail
        refine (implPlainOf_any z _ hzx).mono ?_
        rintro e w19 ⟨rfl, b19⟩
        rw [HPL.out]
        dsimp only
        go_wp2_with fail
        refine (specPlainOf_any z _ hzx).mono ?_
        rintro e w20 ⟨rfl, rfl⟩
        rw [HPL.out]
        dsimp only
        have b20 := b18.next b19
        have hp20 := hp17.below b20
        have hq20 := hq17.below b20
        have hc20 := hc17.below b20
        have B20 := B17.next b20
        clear b18 b19 b20 hp17 hq17 hc17 B17
        go_wp2_with fail
        refine (sameTexts_any _ _ pn pn cap16 cap17 Pt Pt _ hp20 hq20).mono ?_
        rintro e w21 ⟨rfl, d21⟩
        have hc21 := hc20.below d21.below
        have B21 := B20.next d21.below
        clear d21 hp20 hq20 hc20 B20
        go_wp2_with fail
        refine (implGoodLines_any _ _ _ C _ hc21).mono ?_
        rintro e w22 ⟨rfl, b22⟩
        go_wp2_with fail
        refine (specGoodLines_any _ _ _ C _ (hc21.below b22)).mono ?_
        rintro e w23 ⟨rfl, rfl⟩
        go_wp2
        go_ret
        exact ⟨by simp, B21.next b22⟩

end Go.Proofs.Ytlkodgkagjldaaa
