/-
  Texts that are spoilt, and what is drawn for ReadNormal.
  The law FnSteps.
-/
import Derived.Test.YtnimaadjmejmpaaGreatDoorSDraws
import Derived.Test.YtnimaadjmejmpaaGreatDoorSTxtT
import Derived.Test.YtnimaadjmejmpaaGreatDoorLawT
import Derived.BigQuiet
import Derived.Test.YtnimaadjmejmpaaGreatDoorRReads
set_option linter.unusedSimpArgs false
set_option linter.unusedVariables false
namespace Go.Proofs.YtnimaadjmejmpaaGreatDoor
open Go.RowKit M

theorem size_app (s t : ByteArray) : (s ++ t).size = s.size + t.size := ByteArray.size_append

set_option maxHeartbeats 4000000 in
set_option maxRecDepth 100000 in
theorem spoilt_any (g M : Nat) (t wi : ByteArray) (ht : t.size ≤ 3000) (hw1 : 1 ≤ wi.size) (hw2 : wi.size ≤ 100) (w : World) (h : Curs w g M) (hM : M ≤ 900000) :
    Calls Tryz.prog 44 #[.pointer (some ⟨g, 0, none⟩), .string t, .string wi] w fun e w' => ∃ s : ByteArray, s.size ≤ 3010 ∧ e = .returned (.string s) ∧ Curs w' g (M + 20) ∧ w.grownBy w' (some g) := by
  have HGL := Lib.hid h.lt
  go_enter Tryz.func44, Tryz.ntmps44
  go_wp2_with fail
  refine (pick_any g M 2 _ h (by omega) (by omega)).mono ?_
  rintro e w1 ⟨x, rfl, hx0, hx1, c1, g1⟩
  obtain ⟨k0, rfl⟩ := Int.eq_ofNat_of_zero_le hx0
  have hk0 : k0 ≤ 1 := by omega
  clear hx0 hx1
  go_wp2
  go_loopw [1, 7] (fun tv nv w' => ∃ (u : ByteArray) (k : Nat), tv = .string u ∧ nv = .int .i64 (k : Int) ∧ k ≤ 2 ∧ u.size + k ≤ 3002 ∧ Curs w' g (M + 2 + 6 * (2 - k)) ∧ w.grownBy w' (some g)) (fun _ nv _ => (intOf nv).toNat)
  case atStart => exact ⟨t, 1 + k0, rfl, by go_num, by omega, by omega, c1.more (by omega), g1⟩
  case round =>
    obtain ⟨u, k, rfl, rfl, hk, hu, c2, g2⟩ := hrel
    by_cases hk1 : 0 < k
    · have hd1 : decide (0 < k) = true := by simp; omega
      by_cases hu1 : 0 < u.size
      · have hd2 : decide (0 < u.size) = true := by simp; omega
        go_wp2_with fail
        refine (pick_any g _ (u.size : Int) _ c2 (by omega) (by omega)).mono ?_
        rintro e w3 ⟨x, rfl, hx0, hx1, c3, g3⟩
        obtain ⟨i, rfl⟩ := Int.eq_ofNat_of_zero_le hx0
        have hi : i < u.size := by omega
        clear hx0 hx1
        have G3 := Lib.hid (g2.trans g3)
        clear g2 g3 c2
        go_wp2_with fail
        refine (pick_any g _ (wi.size : Int) _ c3 (by omega) (by omega)).mono ?_
        rintro e w4 ⟨x, rfl, hx0, hx1, c4, g4⟩
        obtain ⟨j, rfl⟩ := Int.eq_ofNat_of_zero_le hx0
        have hj : j < wi.size := by omega
        clear hx0 hx1
        obtain ⟨z, hz⟩ : ∃ z : Int, z = ((wi[j]'hj).toNat : Int) := ⟨_, rfl⟩
        have hcv := conv_one z w4
        obtain ⟨y, hy⟩ : ∃ y : ByteArray, y = ⟨#[UInt8.ofNat z.toNat]⟩ := ⟨_, rfl⟩
        have hys : y.size = 1 := by rw [hy]; rfl
        rw [← hy] at hcv
        rw [hz] at hcv
        have HC4 := Lib.hid (c4.below (below_alloc w4 (.cells #[.int .u8 ((wi[j]'hj).toNat : Int)] 5)))
        have G4 := Lib.hid (grown_alloc (G3.out.trans g4) (.cells #[.int .u8 ((wi[j]'hj).toNat : Int)] 5))
        clear hz hy c3 c4 g4
        go_wp2_with fail
        refine (pick_any g _ 3 _ HC4.out (by omega) (by omega)).mono ?_
        rintro e w5 ⟨q, rfl, hq0, hq1, c5, g5⟩
        have G5 := Lib.hid (G4.out.trans g5)
        have HC5 := Lib.hid c5
        have hwr : IntKind.i64.wrap ((i : Int) + 1) = (i : Int) + 1 := by rw [IntKind.wrap_i64]; omega
        have z1 : (u.extract 0 i).size = i := by rw [ByteArray.size_extract]; omega
        have z2 : (u.extract i u.size).size = u.size - i := by rw [ByteArray.size_extract]; omega
        have z3 : (u.extract (i + 1) u.size).size = u.size - (i + 1) := by rw [ByteArray.size_extract]; omega
        obtain ⟨X1, HX1⟩ : ∃ X, Hid (X = u.extract 0 i) := ⟨_, rfl⟩
        obtain ⟨X2, HX2⟩ : ∃ X, Hid (X = u.extract i u.size) := ⟨_, rfl⟩
        obtain ⟨X3, HX3⟩ : ∃ X, Hid (X = u.extract (i + 1) u.size) := ⟨_, rfl⟩
        clear c5 g5 hcv
        by_cases hqa : q = 0
        · have hqb : (q == 0) = true := by simp [hqa]
          clear hqa hq0 hq1
          have l1 : (9223372036854775807 < (u.extract 0 i).size + y.size) = False := eq_false (by rw [z1, hys]; omega)
          have l2 : (9223372036854775807 < (u.extract 0 i ++ y).size + (u.extract i u.size).size) = False := eq_false (by rw [size_app, z1, z2, hys]; omega)
          have HSZ := Lib.hid (show (u.extract 0 i ++ y ++ u.extract i u.size).size = u.size + 1 by rw [size_app, size_app, z1, z2, hys]; omega)
          go_wp2
          go_quiet (fail)
          go_wp2
          go_roundw
          case rel => exact ⟨_, k - 1, rfl, by go_num, by omega, by rw [HSZ.out]; omega, (HC5.out.below (below_drewN (Below.refl _ _) _)).more (by omega), grown_below G5.out (below_drewN (Below.refl _ _) _)⟩
          case measure => simp [intOf]; omega
        · have hqb : (q == 0) = false := by simpa using hqa
          by_cases hqc : q = 1
          · have hqd : (q == 1) = true := by simp [hqc]
            clear hqa hqc hq0 hq1
            have l1 : (9223372036854775807 < (u.extract 0 i).size + y.size) = False := eq_false (by rw [z1, hys]; omega)
            have l2 : (9223372036854775807 < (u.extract 0 i ++ y).size + (u.extract (i + 1) u.size).size) = False := eq_false (by rw [size_app, z1, z3, hys]; omega)
            have HSZ := Lib.hid (show (u.extract 0 i ++ y ++ u.extract (i + 1) u.size).size = u.size by rw [size_app, size_app, z1, z3, hys]; omega)
            go_wp2
            go_quiet (fail)
            go_wp2
            go_roundw
            case rel => exact ⟨_, k - 1, rfl, by go_num, by omega, by rw [HSZ.out]; omega, (HC5.out.below (below_drewN (Below.refl _ _) _)).more (by omega), grown_below G5.out (below_drewN (Below.refl _ _) _)⟩
            case measure => simp [intOf]; omega
          · have hqd : (q == 1) = false := by simpa using hqc
            clear hqa hqc hq0 hq1
            have l1 : (9223372036854775807 < (u.extract 0 i).size + (u.extract (i + 1) u.size).size) = False := eq_false (by rw [z1, z3]; omega)
            have HSZ := Lib.hid (show (u.extract 0 i ++ u.extract (i + 1) u.size).size ≤ u.size by rw [size_app, z1, z3]; omega)
            go_wp2
            go_quiet (fail)
            go_wp2
            go_roundw
            case rel => exact ⟨_, k - 1, rfl, by go_num, by omega, by have := HSZ.out; omega, (HC5.out.below (below_drewN (Below.refl _ _) _)).more (by omega), grown_below G5.out (below_drewN (Below.refl _ _) _)⟩
            case measure => simp [intOf]; omega
      · have hd2 : decide (0 < u.size) = false := decide_eq_false hu1
        go_wp2
        go_ret
        exact ⟨u, by omega, rfl, c2.more (by omega), g2⟩
    · have hd1 : decide (0 < k) = false := by simp; omega
      go_wp2
      go_ret
      exact ⟨u, by omega, rfl, c2.more (by omega), g2⟩

def readTexts : List ByteArray := [⟨#[]⟩, ⟨#[49, 97, 50, 10, 62, 32, 120, 10]⟩, ⟨#[49, 97, 50, 10, 62, 32, 120]⟩, ⟨#[49, 97, 50, 10, 62, 32, 120, 10, 92, 32, 110, 111, 110, 101, 10]⟩, ⟨#[49, 100, 48, 10, 60, 32, 10, 92, 32, 110, 111, 110, 101, 10]⟩, ⟨#[49, 99, 49, 10, 60, 32, 97, 10, 62, 32, 98, 10]⟩, ⟨#[49, 99, 49, 10, 60, 32, 97, 10, 45, 45, 45, 10, 62, 32, 98, 10]⟩, ⟨#[48, 97, 49, 44, 50, 10, 62, 32, 120, 10, 62, 32, 121, 10]⟩, ⟨#[48, 49, 97, 50, 10, 62, 32, 120, 10]⟩]
theorem readTexts_small : ∀ s ∈ readTexts, s.size ≤ 20 := by decide

set_option maxHeartbeats 2000000 in
set_option maxRecDepth 100000 in
theorem DrawReadNormal_any (a : Option Addr) (n c : Nat) (w : World) (h : Bytes w a n) (hn : n ≤ 1048576) :
    Calls Tryz.prog 14 #[.slice a n c] w fun e w' => ∃ s : ByteArray, s.size ≤ 3010 ∧ e = .returned (.string s) ∧ Below w.heap.size w w' := by
  have c0 := Curs.new (c := c) h hn
  go_enter Tryz.func14, Tryz.ntmps14
  go_wp2_with fail
  refine (steps_any _ 0 _ c0 (by omega)).mono ?_
  rintro e w1 ⟨vl, l, v, p, rows, rfl, o1, h1, h2, o2, h3, h4, c3, g1⟩
  obtain ⟨A2, c2, rfl, hc2, _⟩ := o2.form rfl
  obtain ⟨A1, c1, rfl, _, _⟩ := o1.form rfl
  have D4 := Lib.hid (show ∀ x ∈ p, x.old.length ≤ 1048576 ∧ x.new.length ≤ 1048576 from fun x hx => by obtain ⟨_, h1, h2, _⟩ := h4 x hx; omega)
  have HSP := Lib.hid o2.sps
  obtain ⟨T, ok, HT⟩ : ∃ T ok, Hid (textP p = (T, ok)) := ⟨_, _, rfl⟩
  have HTL := Lib.hid (show T.length ≤ 3000 by have := textP_len p; rw [HT.out] at this; exact this)
  obtain ⟨S, HS⟩ : ∃ S, Hid (bs T = S) := ⟨_, rfl⟩
  have hS : S.size ≤ 3000 := by rw [← HS.out, bs_size]; exact HTL.out
  have G1 := Lib.hid g1
  clear h1 h2 h3 h4 o1 o2 g1 c0
  go_wp2_with fail
  refine (specStepsText_any A2 p.length c2 p _ HSP.out D4.out).mono ?_
  rintro e w2 ⟨rfl, b2⟩
  rw [HT.out]
  dsimp only
  rw [HS.out]
  have G2 := Lib.hid (grown_below G1.out b2)
  have C2 := Lib.hid (c3.below b2)
  clear b2 c3
  go_wp2_with fail
  refine (pick_any w.heap.size _ 4 _ C2.out (by omega) (by omega)).mono ?_
  rintro e w3 ⟨q, rfl, hq0, hq1, c4, g4⟩
  have G3 := Lib.hid (G2.out.trans g4)
  clear g4
  by_cases hqa : q = 0
  · have hqb : (q == 0) = true := by simp [hqa]
    clear hqa hq0 hq1
    go_wp2_with fail
    refine (spoilt_any w.heap.size _ S ⟨#[97, 99, 100, 60, 62, 45, 44, 49, 10, 32]⟩ hS (by decide) (by decide) _ c4 (by omega)).mono ?_
    rintro e w4 ⟨s, hs, rfl, c5, g5⟩
    have BL := Lib.hid (below_new (G3.out.trans g5))
    clear g5
    go_wp2
    go_ret
    exact ⟨s, hs, rfl, BL.out⟩
  · have hqb : (q == 0) = false := by simpa using hqa
    by_cases hqc : q = 1
    · have hqd : (q == 1) = true := by simp [hqc]
      have hst := strs_lit w3 readTexts (by decide) (fun s hs => by have := readTexts_small s hs; unfold maxLen; omega)
      have hgl := c4.lt
      clear hqa hqc hq0 hq1
      go_wp2_with fail
      refine (of_any w.heap.size _ _ 9 9 readTexts _ (c4.below (below_alloc _ _)) (by omega) hst (by omega) (by omega) (fun x e => by injection e with e; subst e; simp; omega)).mono ?_
      rintro e w4 ⟨s, hs, rfl, c5, g5⟩
      have HSS := Lib.hid (readTexts_small s hs)
      have BL := Lib.hid (below_new ((grown_alloc G3.out _).trans g5))
      clear g5 hs
      go_wp2
      go_ret
      exact ⟨s, by have := HSS.out; omega, rfl, BL.out⟩
    · have hqd : (q == 1) = false := by simpa using hqc
      have BL := Lib.hid (below_new G3.out)
      clear hqa hqc hq0 hq1
      go_wp2
      go_ret
      exact ⟨S, by omega, rfl, BL.out⟩

end Go.Proofs.YtnimaadjmejmpaaGreatDoor

namespace Go.Proofs.YtnimaadjmejmpaaGreatDoor
open Go.RowKit M

theorem readN_cases (s : List UInt8) : (∃ P, readN s = (P, 0, true) ∧ textP P = (s, true)) ∨ readN s = ([], 1, false) := by
  cases e : textSteps s with
  | none => exact .inr (readN_bad e)
  | some P =>
    obtain ⟨h1, h2, h3⟩ := textSteps_some.1 e
    refine .inl ⟨P, by unfold readN; rw [e], ?_⟩
    unfold textP
    rw [if_pos ⟨h2, by rw [h3]; exact h1⟩, h3]

set_option maxHeartbeats 4000000 in
set_option maxRecDepth 100000 in
theorem FnSteps_any (w : World) (hv : Vars w) (a : Option Addr) (n c : Nat) (ha : Bytes w a n) (b : Option Addr) (m d : Nat) (hb : Bytes w b m) :
    Calls Tryz.prog 3 #[.slice a n c, .slice b m d] w fun e w' => e = .returned (.bool true) ∧ Below w.heap.size w w' := by
  by_cases hbig : 1048576 < n + m
  · have hd : decide (1048576 < n + m) = true := by simpa using hbig
    go_enter Tryz.func3, Tryz.ntmps3
    go_wp2_with fail
    refine (big_any a b n m c d _ ha.1 hb.1).mono ?_
    rintro e w1 ⟨rfl, rfl⟩
    rw [hd]
    go_wp2
    go_ret
    exact ⟨rfl, Below.refl _ _⟩
  · have hd : decide (1048576 < n + m) = false := by simpa using hbig
    go_enter Tryz.func3, Tryz.ntmps3
    go_wp2_with fail
    refine (big_any a b n m c d _ ha.1 hb.1).mono ?_
    rintro e w1 ⟨rfl, rfl⟩
    rw [hd]
    go_wp2_with fail
    refine (DrawStepsText_any a n c _ ha (by omega)).mono ?_
    rintro e w1 ⟨A, n1, c1, p, rfl, d1, d2, d3, d4, d5⟩
    have D4 := Lib.hid (show ∀ x ∈ p, x.old.length ≤ 1048576 ∧ x.new.length ≤ 1048576 from fun x hx => by obtain ⟨_, h1, h2, _⟩ := d4 x hx; omega)
    have HV := Lib.hid hv
    have HL1 := Lib.hid d1.len
    clear d4 hv
    obtain ⟨T, ok, HT⟩ : ∃ T ok, Hid (textP p = (T, ok)) := ⟨_, _, rfl⟩
    have HTL := Lib.hid (show T.length ≤ 3000 by have := textP_len p; rw [HT.out] at this; exact this)
    obtain ⟨S, HS⟩ : ∃ S, Hid (bs T = S) := ⟨_, rfl⟩
    have hSS := beq_same S
    have HSL := Lib.hid (show S.data.toList = T by rw [← HS.out, bs_list])
    have hSz : S.size ≤ 1048576 := by rw [← HS.out, bs_size]; have := HTL.out; omega
    obtain ⟨G, HG⟩ : ∃ G, Hid (stepsB p = G) := ⟨_, rfl⟩
    go_wp2_with fail
    refine (implStepsText_any A n1 c1 p _ d1 (HV.out.below d5).tab).mono ?_
    rintro e w2 ⟨rfl, b2⟩
    rw [HT.out]
    dsimp only
    rw [HS.out]
    go_wp2_with fail
    refine (specStepsText_any A n1 c1 p _ (d1.below b2) D4.out).mono ?_
    rintro e w3 ⟨rfl, b3⟩
    rw [HT.out]
    dsimp only
    rw [HS.out]
    have B3 := b2.next b3
    go_wp2_with fail
    refine (implGoodSteps_any A n1 c1 p _ (d1.below B3)).mono ?_
    rintro e w4 ⟨rfl, b4⟩
    rw [HG.out]
    have B4 := B3.next b4
    go_wp2_with fail
    refine (specGoodSteps_any A n1 c1 p _ (d1.below B4) D4.out).mono ?_
    rintro e w5 ⟨rfl, b5⟩
    rw [HG.out]
    have B5 := Lib.hid (d5.next (B4.next b5))
    have s1 := d1.below (B4.next b5)
    clear b2 b3 b4 b5 B3 B4 d1 d5
    cases ok with
    | false =>
      go_wp2_with fail
      refine (DrawReadNormal_any b m d _ (hb.below B5.out) (by omega)).mono ?_
      rintro e x1 ⟨t, hts, rfl, y1⟩
      have C1 := Lib.hid (B5.out.next y1)
      clear y1
      rcases readN_cases t.data.toList with ⟨P, hP, hTP⟩ | hP
      · have HP := Lib.hid hP
        have HTP := Lib.hid hTP
        obtain ⟨np, HNP⟩ : ∃ np, Hid (P.length = np) := ⟨_, rfl⟩
        have htt := beq_same t
        clear hP hTP
        go_wp2_with fail
        refine (implReadNormal_any t (by omega) _ (HV.out.below C1.out)).mono ?_
        rintro e x2 ⟨v2, r2, rfl, z2, u2⟩
        rw [HP.out] at z2 ⊢
        dsimp only at z2 ⊢
        obtain ⟨E2, f2, rfl, _, _⟩ := z2.form HNP.out
        go_wp2_with fail
        refine (specReadNormal_any t (by omega) _).mono ?_
        rintro e x3 ⟨v3, r3, rfl, z3, u3⟩
        rw [HP.out] at z3 ⊢
        dsimp only at z3 ⊢
        obtain ⟨E3, f3, rfl, _, _⟩ := z3.form HNP.out
        go_wp2_with fail
        refine (sameSteps_same E2 E3 np f2 f3 P _ (z2.sps.below u3) z3.sps).mono ?_
        rintro e x4 ⟨rfl, u4⟩
        have C4 := C1.out.next ((u2.next u3).next u4)
        go_wp2_with fail
        refine (implStepsText_any E2 np f2 P _ ((z2.sps.below u3).below u4) (HV.out.below C4).tab).mono ?_
        rintro e x5 ⟨rfl, u5⟩
        rw [HTP.out]
        dsimp only
        rw [bs_self]
        have C5 := Lib.hid (C4.next u5)
        clear z2 z3 u2 u3 u4 u5 C4
        go_wp2
        go_ret
        exact ⟨rfl, C5.out⟩
      · have HP := Lib.hid hP
        clear hP
        go_wp2_with fail
        refine (implReadNormal_any t (by omega) _ (HV.out.below C1.out)).mono ?_
        rintro e x2 ⟨v2, r2, rfl, z2, u2⟩
        rw [HP.out] at z2 ⊢
        dsimp only at z2 ⊢
        obtain ⟨E2, f2, rfl, _, _⟩ := z2.form rfl
        go_wp2_with fail
        refine (specReadNormal_any t (by omega) _).mono ?_
        rintro e x3 ⟨v3, r3, rfl, z3, u3⟩
        rw [HP.out] at z3 ⊢
        dsimp only at z3 ⊢
        obtain ⟨E3, f3, rfl, _, _⟩ := z3.form rfl
        go_wp2_with fail
        refine (sameSteps_same E2 E3 0 f2 f3 [] _ (z2.sps.below u3) z3.sps).mono ?_
        rintro e x4 ⟨rfl, u4⟩
        have C4 := Lib.hid (C1.out.next ((u2.next u3).next u4))
        clear z2 z3 u2 u3 u4
        go_wp2
        go_ret
        exact ⟨rfl, C4.out⟩
    | true =>
      have HR := Lib.hid (show readN S.data.toList = (p, 0, true) from readN_ok (by rw [HT.out]) (by rw [HT.out, HSL.out]))
      go_wp2_with fail
      refine (implReadNormal_any S hSz _ (HV.out.below B5.out)).mono ?_
      rintro e w6 ⟨v6, r6, rfl, o6, b6⟩
      rw [HR.out] at o6 ⊢
      dsimp only at o6 ⊢
      obtain ⟨A6, c6, rfl, _, _⟩ := o6.form HL1.out
      go_wp2_with fail
      refine (sameSteps_same A6 A n1 c6 c1 p _ o6.sps (s1.below b6)).mono ?_
      rintro e w7 ⟨rfl, b7⟩
      replace B5 := Lib.hid ((B5.out.next b6).next b7)
      clear o6 b6 b7 s1 HR
      go_wp2_with fail
      refine (DrawReadNormal_any b m d _ (hb.below B5.out) (by omega)).mono ?_
      rintro e x1 ⟨t, hts, rfl, y1⟩
      have C1 := Lib.hid (B5.out.next y1)
      clear y1
      rcases readN_cases t.data.toList with ⟨P, hP, hTP⟩ | hP
      · have HP := Lib.hid hP
        have HTP := Lib.hid hTP
        obtain ⟨np, HNP⟩ : ∃ np, Hid (P.length = np) := ⟨_, rfl⟩
        have htt := beq_same t
        clear hP hTP
        go_wp2_with fail
        refine (implReadNormal_any t (by omega) _ (HV.out.below C1.out)).mono ?_
        rintro e x2 ⟨v2, r2, rfl, z2, u2⟩
        rw [HP.out] at z2 ⊢
        dsimp only at z2 ⊢
        obtain ⟨E2, f2, rfl, _, _⟩ := z2.form HNP.out
        go_wp2_with fail
        refine (specReadNormal_any t (by omega) _).mono ?_
        rintro e x3 ⟨v3, r3, rfl, z3, u3⟩
        rw [HP.out] at z3 ⊢
        dsimp only at z3 ⊢
        obtain ⟨E3, f3, rfl, _, _⟩ := z3.form HNP.out
        go_wp2_with fail
        refine (sameSteps_same E2 E3 np f2 f3 P _ (z2.sps.below u3) z3.sps).mono ?_
        rintro e x4 ⟨rfl, u4⟩
        have C4 := C1.out.next ((u2.next u3).next u4)
        go_wp2_with fail
        refine (implStepsText_any E2 np f2 P _ ((z2.sps.below u3).below u4) (HV.out.below C4).tab).mono ?_
        rintro e x5 ⟨rfl, u5⟩
        rw [HTP.out]
        dsimp only
        rw [bs_self]
        have C5 := Lib.hid (C4.next u5)
        clear z2 z3 u2 u3 u4 u5 C4
        go_wp2
        go_ret
        exact ⟨rfl, C5.out⟩
      · have HP := Lib.hid hP
        clear hP
        go_wp2_with fail
        refine (implReadNormal_any t (by omega) _ (HV.out.below C1.out)).mono ?_
        rintro e x2 ⟨v2, r2, rfl, z2, u2⟩
        rw [HP.out] at z2 ⊢
        dsimp only at z2 ⊢
        obtain ⟨E2, f2, rfl, _, _⟩ := z2.form rfl
        go_wp2_with fail
        refine (specReadNormal_any t (by omega) _).mono ?_
        rintro e x3 ⟨v3, r3, rfl, z3, u3⟩
        rw [HP.out] at z3 ⊢
        dsimp only at z3 ⊢
        obtain ⟨E3, f3, rfl, _, _⟩ := z3.form rfl
        go_wp2_with fail
        refine (sameSteps_same E2 E3 0 f2 f3 [] _ (z2.sps.below u3) z3.sps).mono ?_
        rintro e x4 ⟨rfl, u4⟩
        have C4 := Lib.hid (C1.out.next ((u2.next u3).next u4))
        clear z2 z3 u2 u3 u4
        go_wp2
        go_ret
        exact ⟨rfl, C4.out⟩

end Go.Proofs.YtnimaadjmejmpaaGreatDoor
