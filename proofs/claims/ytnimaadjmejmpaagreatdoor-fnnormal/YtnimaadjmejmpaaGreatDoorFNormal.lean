/-
  The law FnNormal.
-/
import Derived.Test.YtnimaadjmejmpaaGreatDoorSDraws
import Derived.Test.YtnimaadjmejmpaaGreatDoorSTxtT
import Derived.Test.YtnimaadjmejmpaaGreatDoorSApplies
import Derived.Test.YtnimaadjmejmpaaGreatDoorSMath
import Derived.Test.YtnimaadjmejmpaaGreatDoorSLaws
set_option linter.unusedSimpArgs false
set_option linter.unusedVariables false
namespace Go.Proofs.YtnimaadjmejmpaaGreatDoor
open Go.RowKit M

theorem norm_two (l : List ByteArray) (hs : List Hk) : ∃ P ok T one, normOf l hs = (P, ok) ∧ normT l hs = (T, one) ∧ (ok = false → one = false) ∧ (ok = true → patchOk l hs = true ∧ P = normH l hs ∧ patchOf l hs = (patchH l hs, true)) := by
  by_cases h : patchOk l hs = true
  · exact ⟨normH l hs, true, (normT l hs).1, (normT l hs).2, if_pos h, rfl, fun e => absurd e (by decide), fun _ => ⟨h, rfl, if_pos h⟩⟩
  · have h2 : normOf l hs = ([], false) := if_neg h
    exact ⟨_, false, [], false, h2, by unfold normT; rw [h2]; rfl, fun _ => rfl, fun e => by cases e⟩
theorem apply_zero (l : List ByteArray) (p : List Sp) : (applyOf l p).2.1 = 0 → (hunksOf l p).2.1 = 0 := by
  unfold applyOf
  split
  · next h => exact fun _ => h.2
  · exact fun e => e

set_option maxHeartbeats 4000000 in
set_option maxRecDepth 100000 in
theorem FnNormal_any (w : World) (hv : Tab w) (a : Option Addr) (n c : Nat) (ha : Bytes w a n) (b : Option Addr) (m d : Nat) (hb : Bytes w b m) :
    Calls Tryz.prog 4 #[.slice a n c, .slice b m d] w fun e w' => e = .returned (.bool true) ∧ Below w.heap.size w w' := by
  by_cases hbig : 1048576 < n + m
  · have hd : decide (1048576 < n + m) = true := by simpa using hbig
    go_enter Tryz.func4, Tryz.ntmps4
    go_wp2_with fail
    refine (big_any a b n m c d _ ha.1 hb.1).mono ?_
    rintro e w1 ⟨rfl, rfl⟩
    rw [hd]
    go_wp2
    go_ret
    exact ⟨rfl, Below.refl _ _⟩
  · have hd : decide (1048576 < n + m) = false := by simpa using hbig
    go_enter Tryz.func4, Tryz.ntmps4
    go_wp2_with fail
    refine (big_any a b n m c d _ ha.1 hb.1).mono ?_
    rintro e w1 ⟨rfl, rfl⟩
    rw [hd]
    go_wp2_with fail
    refine (DrawNormalSteps_any a n c _ ha (by omega)).mono ?_
    rintro e w1 ⟨A, n1, c1, l, A2, n2, c2, hs, rfl, d1, d2, d3, d4, d5, d6, d7, d8, d9⟩
    have D8 := Lib.hid (show ∀ x ∈ hs, x.new.length ≤ 1048576 from fun x hx => by obtain ⟨_, _, _, _, h1, _⟩ := d8 x hx; omega)
    have HV1 := Lib.hid (hv.below d9)
    have HSM := Lib.hid (sides_small (l := (normOf l hs).1) (by have := normOf_len l hs; omega))
    clear d4 d8 hv
    obtain ⟨P, ok, T, one, hP, hT, ho, hok⟩ := norm_two l hs
    have HPo := Lib.hid hP
    have HTo := Lib.hid hT
    have HO := Lib.hid ho
    have HOK := Lib.hid hok
    clear hP hT ho hok
    obtain ⟨np, HNP⟩ : ∃ np, Hid (P.length = np) := ⟨_, rfl⟩
    obtain ⟨S, HS⟩ : ∃ S, Hid (bs T = S) := ⟨_, rfl⟩
    go_wp2_with fail
    refine (implNormalSteps_any A n1 c1 l A2 n2 c2 hs _ d1 d2 d5 (by omega)).mono ?_
    rintro e w2 ⟨v2, vs2, rfl, o2, b2⟩
    rw [HPo.out] at o2 ⊢
    dsimp only at o2 ⊢
    obtain ⟨AP, cp, rfl, hp1, hp2⟩ := o2.form HNP.out
    go_wp2_with fail
    refine (specNormalSteps_any A n1 c1 l A2 n2 c2 hs _ (d1.below b2) d2 (d5.below b2) D8.out (by omega)).mono ?_
    rintro e w3 ⟨v3, vs3, rfl, o3, b3⟩
    rw [HPo.out] at o3 ⊢
    dsimp only at o3 ⊢
    obtain ⟨AQ, cq, rfl, hq1, hq2⟩ := o3.form HNP.out
    have B3 := b2.next b3
    go_wp2_with fail
    refine (implNormalText_any A n1 c1 l A2 n2 c2 hs _ (d1.below B3) d2 (d5.below B3) (by omega) (HV1.out.below B3)).mono ?_
    rintro e w4 ⟨rfl, b4⟩
    rw [HTo.out]
    dsimp only
    rw [HS.out]
    have B4 := B3.next b4
    go_wp2_with fail
    refine (specNormalText_any A n1 c1 l A2 n2 c2 hs _ (d1.below B4) d2 (d5.below B4) D8.out (by omega)).mono ?_
    rintro e w5 ⟨rfl, b5⟩
    rw [HTo.out]
    dsimp only
    rw [HS.out]
    have B5 := B4.next b5
    have s2 := o2.sps.below ((b3.next b4).next b5)
    have s3 := o3.sps.below (b4.next b5)
    have e1 := d1.below B5
    have e5 := d5.below B5
    have BV := d9.next B5
    rw [HPo.out] at HSM
    dsimp only at HSM
    clear o2 o3 b2 b3 b4 b5 B3 B4 B5 d1 d5 d9 HTo HV1 HPo
    cases ok with
    | false =>
      have h1 := HO.out rfl
      subst h1
      clear HO HOK HSM
      go_wp2_with fail
      refine (sameSteps_same AP AQ np cp cq P _ s2 s3).mono ?_
      rintro e w6 ⟨rfl, b6⟩
      have BW := BV.next b6
      clear BV b6 s2 s3 e1 e5
      go_wp2_with fail
      refine (DrawApplySteps_any b m d _ (hb.below BW) (by omega)).mono ?_
      rintro e x1 ⟨C, nc, cc, cl, Q, nq, cq, q, rfl, y1, y2, y3, y4, y5, y6, y7, y8, y9⟩
      have Y8 := Lib.hid (show ∀ x ∈ q, x.old.length ≤ 1048576 ∧ x.new.length ≤ 1048576 from fun x hx => by obtain ⟨_, h1, h2, _⟩ := y8 x hx; omega)
      have HZ := Lib.hid (show (applyOf cl q).2.1 = 0 → (hunksOf cl q).2.1 = 0 from apply_zero cl q)
      clear y4 y8
      obtain ⟨ap, ac, ao, HA⟩ : ∃ ap ac ao, Hid (applyOf cl q = (ap, ac, ao)) := ⟨_, _, _, rfl⟩
      obtain ⟨hp, hc, ho, HH⟩ : ∃ hp hc ho, Hid (hunksOf cl q = (hp, hc, ho)) := ⟨_, _, _, rfl⟩
      obtain ⟨na, HNA⟩ : ∃ na, Hid (ap.length = na) := ⟨_, rfl⟩
      obtain ⟨nh, HNH⟩ : ∃ nh, Hid (hp.length = nh) := ⟨_, rfl⟩
      have hz := HZ.out
      rw [HA.out, HH.out] at hz
      dsimp only at hz
      have hz2 : ((ac != 0) || (hc == 0)) = true := by
        by_cases e : ac = 0
        · simp [hz e]
        · simp [e]
      clear hz HZ
      go_wp2_with fail
      refine (implApplySteps_any C nc cc cl Q nq cq q _ y1 y2 y5 Y8.out (by omega)).mono ?_
      rintro e x2 ⟨v2, rfl, z2, u2⟩
      rw [HA.out] at z2 ⊢
      dsimp only at z2 ⊢
      obtain ⟨A2', c2', rfl, _, _⟩ := z2.form HNA.out
      go_wp2_with fail
      refine (specApplySteps_any C nc cc cl Q nq cq q _ (y1.below u2) y2 (y5.below u2) Y8.out (by omega)).mono ?_
      rintro e x3 ⟨v3, rfl, z3, u3⟩
      rw [HA.out] at z3 ⊢
      dsimp only at z3 ⊢
      obtain ⟨A3', c3', rfl, _, _⟩ := z3.form HNA.out
      have U3 := u2.next u3
      go_wp2_with fail
      refine (implStepsHunks_any C nc cc cl Q nq cq q _ (y1.below U3) y2 (y5.below U3) Y8.out (by omega)).mono ?_
      rintro e x4 ⟨v4, vs4, rfl, z4, u4⟩
      rw [HH.out] at z4 ⊢
      dsimp only at z4 ⊢
      obtain ⟨A4', c4', rfl, _, _⟩ := z4.form HNH.out
      have U4 := U3.next u4
      go_wp2_with fail
      refine (specStepsHunks_any C nc cc cl Q nq cq q _ (y1.below U4) y2 (y5.below U4) Y8.out (by omega)).mono ?_
      rintro e x5 ⟨v5, vs5, rfl, z5, u5⟩
      rw [HH.out] at z5 ⊢
      dsimp only at z5 ⊢
      obtain ⟨A5', c5', rfl, _, _⟩ := z5.form HNH.out
      have U5 := U4.next u5
      have r2 := z2.strs.below ((u3.next u4).next u5)
      have r3 := z3.strs.below (u4.next u5)
      have r4 := z4.hks.below u5
      have r5 := z5.hks
      have BX := (BW.next y9).next U5
      have HQT := Lib.hid (eqT_refl ap)
      clear z2 z3 z4 z5 u2 u3 u4 u5 U3 U4 U5 y1 y5 y9 HA HH BW
      go_wp2_with fail
      refine (sameTexts_any A2' A3' na na c2' c3' ap ap _ r2 r3).mono ?_
      rintro e x6 ⟨rfl, d6'⟩
      rw [HQT.out]
      have b6 := d6'.below
      go_wp2_with fail
      refine (sameHunks_same A4' A5' nh c4' c5' hp _ (r4.below b6) (r5.below b6)).mono ?_
      rintro e x7 ⟨rfl, b7⟩
      by_cases e2 : ac = 0
      · have q1 : (ac != 0) = false := by simp [e2]
        have q2 : (hc == 0) = true := by rw [q1] at hz2; simpa using hz2
        clear e2 hz2
        go_wp2
        go_ret
        exact ⟨rfl, (BX.next b6).next b7⟩
      · have q1 : (ac != 0) = true := by simp [e2]
        clear e2 hz2
        go_wp2
        go_ret
        exact ⟨rfl, (BX.next b6).next b7⟩
    | true =>
      obtain ⟨hpk, hPe, hpt⟩ := HOK.out rfl
      obtain ⟨g1, g2, g3⟩ := norm_back hpk
      rw [hpt] at g3
      rw [← hPe] at g1 g2 g3
      dsimp only at g3
      have G1 := Lib.hid g1
      have G2 := Lib.hid g2
      have G3 := Lib.hid g3
      have G4 := Lib.hid hpt
      clear hpk hPe hpt g1 g2 g3 HOK HO
      obtain ⟨L, HL⟩ : ∃ L, Hid (patchH l hs = L) := ⟨_, rfl⟩
      rw [HL.out] at G3 G4
      obtain ⟨nL, HNL⟩ : ∃ nL, Hid (L.length = nL) := ⟨_, rfl⟩
      have HN2 := Lib.hid e5.len
      clear HL
      cases one with
      | false => as_aux_lemma =>
        go_wp2_with fail
        refine (sameSteps_same AP AQ np cp cq P _ s2 s3).mono ?_
        rintro e w6 ⟨rfl, b6⟩
        replace BV := BV.next b6
        replace e1 := e1.below b6
        replace e5 := e5.below b6
        replace s2 := s2.below b6
        clear b6 s3
        go_wp2_with fail
        refine (implStepsHunks_any A n1 c1 l AP np cp P _ e1 d2 s2 HSM.out (by omega)).mono ?_
        rintro e w7 ⟨v7, vs7, rfl, o7, b7⟩
        rw [G2.out] at o7 ⊢
        dsimp only at o7 ⊢
        obtain ⟨A7, c7, rfl, _, _⟩ := o7.form HN2.out
        go_wp2_with fail
        refine (implApplySteps_any A n1 c1 l AP np cp P _ (e1.below b7) d2 (s2.below b7) HSM.out (by omega)).mono ?_
        rintro e w8 ⟨v8, rfl, o8, b8⟩
        rw [G3.out] at o8 ⊢
        dsimp only at o8 ⊢
        obtain ⟨A8, c8, rfl, _, _⟩ := o8.form HNL.out
        have B8 := b7.next b8
        go_wp2_with fail
        refine (implPatch_any A n1 c1 l A2 n2 c2 hs _ (e1.below B8) d2 (e5.below B8) (by omega)).mono ?_
        rintro e w9 ⟨v9, rfl, o9, b9⟩
        rw [G4.out] at o9 ⊢
        dsimp only at o9 ⊢
        obtain ⟨A9, c9, rfl, _, _⟩ := o9.form HNL.out
        have B9 := B8.next b9
        go_wp2_with fail
        refine (implGoodSteps_any AP np cp P _ (s2.below B9)).mono ?_
        rintro e w10 ⟨rfl, b10⟩
        rw [G1.out]
        go_wp2_with fail
        refine (sameHunks_same A7 A2 n2 c7 c2 hs _ (o7.hks.below ((b8.next b9).next b10)) (e5.below (B9.next b10))).mono ?_
        rintro e w11 ⟨rfl, b11⟩
        have HQT0 := Lib.hid (eqT_refl L)
        go_wp2_with fail
        refine (sameTexts_any A8 A9 nL nL c8 c9 L L _ (o8.strs.below ((b9.next b10).next b11)) (o9.strs.below (b10.next b11))).mono ?_
        rintro e w12 ⟨rfl, d12⟩
        rw [HQT0.out]
        have BW := (((BV.next B9).next b10).next b11).next d12.below
        clear BV b7 b8 b9 b10 b11 d12 B8 B9 o7 o8 o9 s2 e1 e5 G1 G2 G3 G4 HQT0
        go_wp2_with fail
        refine (DrawApplySteps_any b m d _ (hb.below BW) (by omega)).mono ?_
        rintro e x1 ⟨C, nc, cc, cl, Q, nq, cq, q, rfl, y1, y2, y3, y4, y5, y6, y7, y8, y9⟩
        have Y8 := Lib.hid (show ∀ x ∈ q, x.old.length ≤ 1048576 ∧ x.new.length ≤ 1048576 from fun x hx => by obtain ⟨_, h1, h2, _⟩ := y8 x hx; omega)
        have HZ := Lib.hid (show (applyOf cl q).2.1 = 0 → (hunksOf cl q).2.1 = 0 from apply_zero cl q)
        clear y4 y8
        obtain ⟨ap, ac, ao, HA⟩ : ∃ ap ac ao, Hid (applyOf cl q = (ap, ac, ao)) := ⟨_, _, _, rfl⟩
        obtain ⟨hp, hc, ho, HH⟩ : ∃ hp hc ho, Hid (hunksOf cl q = (hp, hc, ho)) := ⟨_, _, _, rfl⟩
        obtain ⟨na, HNA⟩ : ∃ na, Hid (ap.length = na) := ⟨_, rfl⟩
        obtain ⟨nh, HNH⟩ : ∃ nh, Hid (hp.length = nh) := ⟨_, rfl⟩
        have hz := HZ.out
        rw [HA.out, HH.out] at hz
        dsimp only at hz
        have hz2 : ((ac != 0) || (hc == 0)) = true := by
          by_cases e : ac = 0
          · simp [hz e]
          · simp [e]
        clear hz HZ
        go_wp2_with fail
        refine (implApplySteps_any C nc cc cl Q nq cq q _ y1 y2 y5 Y8.out (by omega)).mono ?_
        rintro e x2 ⟨v2, rfl, z2, u2⟩
        rw [HA.out] at z2 ⊢
        dsimp only at z2 ⊢
        obtain ⟨A2', c2', rfl, _, _⟩ := z2.form HNA.out
        go_wp2_with fail
        refine (specApplySteps_any C nc cc cl Q nq cq q _ (y1.below u2) y2 (y5.below u2) Y8.out (by omega)).mono ?_
        rintro e x3 ⟨v3, rfl, z3, u3⟩
        rw [HA.out] at z3 ⊢
        dsimp only at z3 ⊢
        obtain ⟨A3', c3', rfl, _, _⟩ := z3.form HNA.out
        have U3 := u2.next u3
        go_wp2_with fail
        refine (implStepsHunks_any C nc cc cl Q nq cq q _ (y1.below U3) y2 (y5.below U3) Y8.out (by omega)).mono ?_
        rintro e x4 ⟨v4, vs4, rfl, z4, u4⟩
        rw [HH.out] at z4 ⊢
        dsimp only at z4 ⊢
        obtain ⟨A4', c4', rfl, _, _⟩ := z4.form HNH.out
        have U4 := U3.next u4
        go_wp2_with fail
        refine (specStepsHunks_any C nc cc cl Q nq cq q _ (y1.below U4) y2 (y5.below U4) Y8.out (by omega)).mono ?_
        rintro e x5 ⟨v5, vs5, rfl, z5, u5⟩
        rw [HH.out] at z5 ⊢
        dsimp only at z5 ⊢
        obtain ⟨A5', c5', rfl, _, _⟩ := z5.form HNH.out
        have U5 := U4.next u5
        have r2 := z2.strs.below ((u3.next u4).next u5)
        have r3 := z3.strs.below (u4.next u5)
        have r4 := z4.hks.below u5
        have r5 := z5.hks
        have BX := (BW.next y9).next U5
        have HQT := Lib.hid (eqT_refl ap)
        clear z2 z3 z4 z5 u2 u3 u4 u5 U3 U4 U5 y1 y5 y9 HA HH BW
        go_wp2_with fail
        refine (sameTexts_any A2' A3' na na c2' c3' ap ap _ r2 r3).mono ?_
        rintro e x6 ⟨rfl, d6'⟩
        rw [HQT.out]
        have b6 := d6'.below
        go_wp2_with fail
        refine (sameHunks_same A4' A5' nh c4' c5' hp _ (r4.below b6) (r5.below b6)).mono ?_
        rintro e x7 ⟨rfl, b7⟩
        by_cases e2 : ac = 0
        · have q1 : (ac != 0) = false := by simp [e2]
          have q2 : (hc == 0) = true := by rw [q1] at hz2; simpa using hz2
          clear e2 hz2
          go_wp2
          go_ret
          exact ⟨rfl, (BX.next b6).next b7⟩
        · have q1 : (ac != 0) = true := by simp [e2]
          clear e2 hz2
          go_wp2
          go_ret
          exact ⟨rfl, (BX.next b6).next b7⟩
      | true => as_aux_lemma =>
        go_wp2_with fail
        refine (sameSteps_same AP AQ np cp cq P _ s2 s3).mono ?_
        rintro e w6 ⟨rfl, b6⟩
        replace BV := BV.next b6
        replace e1 := e1.below b6
        replace e5 := e5.below b6
        replace s2 := s2.below b6
        clear b6 s3
        go_wp2_with fail
        refine (implStepsHunks_any A n1 c1 l AP np cp P _ e1 d2 s2 HSM.out (by omega)).mono ?_
        rintro e w7 ⟨v7, vs7, rfl, o7, b7⟩
        rw [G2.out] at o7 ⊢
        dsimp only at o7 ⊢
        obtain ⟨A7, c7, rfl, _, _⟩ := o7.form HN2.out
        go_wp2_with fail
        refine (implApplySteps_any A n1 c1 l AP np cp P _ (e1.below b7) d2 (s2.below b7) HSM.out (by omega)).mono ?_
        rintro e w8 ⟨v8, rfl, o8, b8⟩
        rw [G3.out] at o8 ⊢
        dsimp only at o8 ⊢
        obtain ⟨A8, c8, rfl, _, _⟩ := o8.form HNL.out
        have B8 := b7.next b8
        go_wp2_with fail
        refine (implPatch_any A n1 c1 l A2 n2 c2 hs _ (e1.below B8) d2 (e5.below B8) (by omega)).mono ?_
        rintro e w9 ⟨v9, rfl, o9, b9⟩
        rw [G4.out] at o9 ⊢
        dsimp only at o9 ⊢
        obtain ⟨A9, c9, rfl, _, _⟩ := o9.form HNL.out
        have B9 := B8.next b9
        go_wp2_with fail
        refine (implGoodSteps_any AP np cp P _ (s2.below B9)).mono ?_
        rintro e w10 ⟨rfl, b10⟩
        rw [G1.out]
        go_wp2_with fail
        refine (sameHunks_same A7 A2 n2 c7 c2 hs _ (o7.hks.below ((b8.next b9).next b10)) (e5.below (B9.next b10))).mono ?_
        rintro e w11 ⟨rfl, b11⟩
        have HQT0 := Lib.hid (eqT_refl L)
        go_wp2_with fail
        refine (sameTexts_any A8 A9 nL nL c8 c9 L L _ (o8.strs.below ((b9.next b10).next b11)) (o9.strs.below (b10.next b11))).mono ?_
        rintro e w12 ⟨rfl, d12⟩
        rw [HQT0.out]
        have BW := (((BV.next B9).next b10).next b11).next d12.below
        clear BV b7 b8 b9 b10 b11 d12 B8 B9 o7 o8 o9 s2 e1 e5 G1 G2 G3 G4 HQT0
        go_wp2_with fail
        refine (DrawApplySteps_any b m d _ (hb.below BW) (by omega)).mono ?_
        rintro e x1 ⟨C, nc, cc, cl, Q, nq, cq, q, rfl, y1, y2, y3, y4, y5, y6, y7, y8, y9⟩
        have Y8 := Lib.hid (show ∀ x ∈ q, x.old.length ≤ 1048576 ∧ x.new.length ≤ 1048576 from fun x hx => by obtain ⟨_, h1, h2, _⟩ := y8 x hx; omega)
        have HZ := Lib.hid (show (applyOf cl q).2.1 = 0 → (hunksOf cl q).2.1 = 0 from apply_zero cl q)
        clear y4 y8
        obtain ⟨ap, ac, ao, HA⟩ : ∃ ap ac ao, Hid (applyOf cl q = (ap, ac, ao)) := ⟨_, _, _, rfl⟩
        obtain ⟨hp, hc, ho, HH⟩ : ∃ hp hc ho, Hid (hunksOf cl q = (hp, hc, ho)) := ⟨_, _, _, rfl⟩
        obtain ⟨na, HNA⟩ : ∃ na, Hid (ap.length = na) := ⟨_, rfl⟩
        obtain ⟨nh, HNH⟩ : ∃ nh, Hid (hp.length = nh) := ⟨_, rfl⟩
        have hz := HZ.out
        rw [HA.out, HH.out] at hz
        dsimp only at hz
        have hz2 : ((ac != 0) || (hc == 0)) = true := by
          by_cases e : ac = 0
          · simp [hz e]
          · simp [e]
        clear hz HZ
        go_wp2_with fail
        refine (implApplySteps_any C nc cc cl Q nq cq q _ y1 y2 y5 Y8.out (by omega)).mono ?_
        rintro e x2 ⟨v2, rfl, z2, u2⟩
        rw [HA.out] at z2 ⊢
        dsimp only at z2 ⊢
        obtain ⟨A2', c2', rfl, _, _⟩ := z2.form HNA.out
        go_wp2_with fail
        refine (specApplySteps_any C nc cc cl Q nq cq q _ (y1.below u2) y2 (y5.below u2) Y8.out (by omega)).mono ?_
        rintro e x3 ⟨v3, rfl, z3, u3⟩
        rw [HA.out] at z3 ⊢
        dsimp only at z3 ⊢
        obtain ⟨A3', c3', rfl, _, _⟩ := z3.form HNA.out
        have U3 := u2.next u3
        go_wp2_with fail
        refine (implStepsHunks_any C nc cc cl Q nq cq q _ (y1.below U3) y2 (y5.below U3) Y8.out (by omega)).mono ?_
        rintro e x4 ⟨v4, vs4, rfl, z4, u4⟩
        rw [HH.out] at z4 ⊢
        dsimp only at z4 ⊢
        obtain ⟨A4', c4', rfl, _, _⟩ := z4.form HNH.out
        have U4 := U3.next u4
        go_wp2_with fail
        refine (specStepsHunks_any C nc cc cl Q nq cq q _ (y1.below U4) y2 (y5.below U4) Y8.out (by omega)).mono ?_
        rintro e x5 ⟨v5, vs5, rfl, z5, u5⟩
        rw [HH.out] at z5 ⊢
        dsimp only at z5 ⊢
        obtain ⟨A5', c5', rfl, _, _⟩ := z5.form HNH.out
        have U5 := U4.next u5
        have r2 := z2.strs.below ((u3.next u4).next u5)
        have r3 := z3.strs.below (u4.next u5)
        have r4 := z4.hks.below u5
        have r5 := z5.hks
        have BX := (BW.next y9).next U5
        have HQT := Lib.hid (eqT_refl ap)
        clear z2 z3 z4 z5 u2 u3 u4 u5 U3 U4 U5 y1 y5 y9 HA HH BW
        go_wp2_with fail
        refine (sameTexts_any A2' A3' na na c2' c3' ap ap _ r2 r3).mono ?_
        rintro e x6 ⟨rfl, d6'⟩
        rw [HQT.out]
        have b6 := d6'.below
        go_wp2_with fail
        refine (sameHunks_same A4' A5' nh c4' c5' hp _ (r4.below b6) (r5.below b6)).mono ?_
        rintro e x7 ⟨rfl, b7⟩
        by_cases e2 : ac = 0
        · have q1 : (ac != 0) = false := by simp [e2]
          have q2 : (hc == 0) = true := by rw [q1] at hz2; simpa using hz2
          clear e2 hz2
          go_wp2
          go_ret
          exact ⟨rfl, (BX.next b6).next b7⟩
        · have q1 : (ac != 0) = true := by simp [e2]
          clear e2 hz2
          go_wp2
          go_ret
          exact ⟨rfl, (BX.next b6).next b7⟩

end Go.Proofs.YtnimaadjmejmpaaGreatDoor
