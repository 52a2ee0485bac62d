/-
  From what the row of ReadUnified lists of variables to what its walk takes of them.
  The law FnUnified.
-/
import Derived.Test.YtkamenidgkjodaaGreatDoorQaUDoor
import Derived.Test.YtkamenidgkjodaaGreatDoorQaURdr
import Derived.Test.YtkamenidgkjodaaGreatDoorQaUDraws
import Derived.Test.YtkamenidgkjodaaGreatDoorQaUSame
import Derived.Test.YtkamenidgkjodaaGreatDoorQaUReadI
import Derived.Test.YtkamenidgkjodaaGreatDoorQaUUniS
import Derived.Test.YtkamenidgkjodaaGreatDoorQaGGoodT
set_option linter.unusedSimpArgs false
set_option linter.unusedVariables false
namespace Go.Proofs.YtkamenidgkjodaaGreatDoor
open Go.RowKit Go.Lib M

/-- The list of three tables, the two faults and the signs. -/
abbrev laidS6 : List (String × DataW Unit) := laid5 ++ [("loop.example/g00825/impl.rowSigns", Rows.laid_loop_example_g00825_impl_rowSigns)]
set_option maxRecDepth 100000 in
theorem varsS_of_6 {W : World} (h : laidMet Tryz.prog laidS6 W) (hsh : W.ShapedOpen Tryz.prog) : VarsS W :=
  ⟨⟨tab_of_head h.tail.tail, syn_of_head h.tail.tail.tail.tail, rng_of_head h.tail.tail.tail, Tryz.laysM145.s1_3 W hsh⟩, sgn_of_head h.tail.tail.tail.tail.tail⟩
set_option maxRecDepth 100000 in
theorem plainS6 (W : World) : laidMetH Tryz.prog laidS6 W = laidMet Tryz.prog laidS6 W := MakeChecks.laidMetH_plain _ _ _ (by kernel_rfl)

end Go.Proofs.YtkamenidgkjodaaGreatDoor

namespace Go.Proofs.YtkamenidgkjodaaGreatDoor
open Go.RowKit M

set_option maxHeartbeats 4000000 in
set_option maxRecDepth 100000 in
theorem FnUnified_any (w : World) (hv : VarsS w) (a : Option Addr) (n c : Nat) (ha : Bytes w a n) (b : Option Addr) (m d : Nat) (hb : Bytes w b m) :
    Calls Tryz.prog 3 #[.slice a n c, .slice b m d] w fun e w' => e = .returned (.bool true) ∧ Below w.heap.size w w' := by
  by_cases hbig : 1048576 < n + m
  · have hd : decide (1048576 < n + m) = true := by simpa using hbig
    go_enter Tryz.func3, Tryz.ntmps3
    go_wp2_with fail
    refine (big_any a b n m c d _ ha.1 hb.1).mono ?_
    rintro e w1 ⟨rfl, rfl⟩
    rw [hd]
    go_wp2
    go_ret
    exact ⟨rfl, Below.refl _ _⟩
  · have hd : decide (1048576 < n + m) = false := by simpa using hbig
    go_enter Tryz.func3, Tryz.ntmps3
    go_wp2_with fail
    refine (big_any a b n m c d _ ha.1 hb.1).mono ?_
    rintro e w1 ⟨rfl, rfl⟩
    rw [hd]
    go_wp2_with fail
    refine (DrawGroupsText_any a n c _ ha (by omega)).mono ?_
    rintro e w1 ⟨A, n1, c1, p, rfl, d1, d2, d3, d4, d5⟩
    have D4 := Lib.hid d4
    have HV := Lib.hid hv
    have HL1 := Lib.hid d1.len
    clear d4 hv
    obtain ⟨T, ok, HT⟩ : ∃ T ok, Hid (textG p = (T, ok)) := ⟨_, _, rfl⟩
    have HTL := Lib.hid (show T.length ≤ 3000 by have := textG_len p; rw [HT.out] at this; exact this)
    obtain ⟨S, HS⟩ : ∃ S, Hid (bs T = S) := ⟨_, rfl⟩
    have hSS := beq_same S
    have HSL := Lib.hid (show S.data.toList = T by rw [← HS.out, bs_list])
    have hSz : S.size ≤ 1048576 := by rw [← HS.out, bs_size]; have := HTL.out; omega
    obtain ⟨G, HG⟩ : ∃ G, Hid (goodG p = G) := ⟨_, rfl⟩
    go_wp2_with fail
    refine (implGroupsText_any A n1 c1 p _ d1 (HV.out.below d5).lib.tab (HV.out.below d5).sgn).mono ?_
    rintro e w2 ⟨rfl, b2⟩
    rw [HT.out]
    dsimp only
    rw [HS.out]
    go_wp2_with fail
    refine (specGroupsText_any A n1 c1 p _ (d1.below b2) D4.out).mono ?_
    rintro e w3 ⟨rfl, b3⟩
    rw [HT.out]
    dsimp only
    rw [HS.out]
    have B3 := b2.next b3
    go_wp2_with fail
    refine (implGoodGroups_any A n1 c1 p _ (d1.below B3)).mono ?_
    rintro e w4 ⟨rfl, b4⟩
    rw [HG.out]
    have B4 := B3.next b4
    go_wp2_with fail
    refine (specGoodGroups_any A n1 c1 p _ (d1.below B4) D4.out).mono ?_
    rintro e w5 ⟨rfl, b5⟩
    rw [HG.out]
    have B5 := Lib.hid (d5.next (B4.next b5))
    have s1 := d1.below (B4.next b5)
    clear b2 b3 b4 b5 B3 B4 d1 d5
    cases ok with
    | false =>
      go_wp2_with fail
      refine (DrawReadUnified_any b m d _ (hb.below B5.out) (by omega)).mono ?_
      rintro e x1 ⟨t, hts, rfl, y1⟩
      have C1 := Lib.hid (B5.out.next y1)
      clear y1
      go_wp2_with fail
      refine (implReadUnified_any t (by omega) _ (HV.out.below C1.out)).mono ?_
      rintro e x2 ⟨v2, r2, P, k2, o2, rfl, z2, HR2, u2⟩
      obtain ⟨np, HNP⟩ : ∃ np, Hid (P.length = np) := ⟨_, rfl⟩
      obtain ⟨E2, f2, rfl, _, _⟩ := z2.form HNP.out
      go_wp2_with fail
      refine (specReadUnified_any t (by omega) _).mono ?_
      rintro e x3 ⟨v3, r3, P', k3, o3, rfl, z3, HR3, u3⟩
      obtain ⟨rfl, rfl, rfl⟩ := HR3.same HR2
      obtain ⟨E3, f3, rfl, _, _⟩ := z3.form HNP.out
      have C3 := Lib.hid (C1.out.next (u2.next u3))
      have Z2 := Lib.hid (z2.gps.below u3)
      have Z3 := Lib.hid z3.gps
      clear z2 z3 u2 u3 HR3
      rcases HR2.cases_ with ⟨rfl, rfl, hgd, htx, hle⟩ | ⟨rfl, rfl, rfl⟩
      · have HTX := Lib.hid htx
        have hTl : (gpsT P').length ≤ 3000 := by have := textG_len P'; rw [HTX.out] at this; exact this
        obtain ⟨S2, HS2⟩ : ∃ S2, Hid (bs (gpsT P') = S2) := ⟨_, rfl⟩
        have hsz2 : S2.size ≤ t.size := by rw [← HS2.out, bs_size]; exact hle
        have hdd : decide (t.size < S2.size) = false := decide_eq_false (by omega)
        have hdI : decide ((t.size : Int) < (S2.size : Int)) = false := decide_eq_false (by omega)
        have HSL2 := Lib.hid (show S2.data.toList = gpsT P' by rw [← HS2.out, bs_list])
        have hs2 : S2.size ≤ 1048576 := by omega
        clear hgd htx hle hTl
        go_wp2_with fail
        refine (sameGroups_same E2 E3 np f2 f3 P' _ Z2.out Z3.out).mono ?_
        rintro e x4 ⟨rfl, u4⟩
        have C4 := Lib.hid (C3.out.next u4)
        have Z4 := Lib.hid (Z2.out.below u4)
        clear u4
        go_wp2_with fail
        refine (implGroupsText_any E2 np f2 P' _ Z4.out (HV.out.below C4.out).lib.tab (HV.out.below C4.out).sgn).mono ?_
        rintro e x5 ⟨rfl, u5⟩
        rw [HTX.out]
        dsimp only
        rw [HS2.out]
        have C5 := Lib.hid (C4.out.next u5)
        have Z5 := Lib.hid (Z4.out.below u5)
        clear u5
        go_wp2_with fail
        refine (implReadUnified_any S2 hs2 _ (HV.out.below C5.out)).mono ?_
        rintro e x6 ⟨v6, r6, P6, k6, o6, rfl, z6, HR6, u6⟩
        obtain ⟨rfl, rfl, rfl⟩ := ReadIs.text (g := P') (by rw [HTX.out]) (by rw [HTX.out]; dsimp only; rw [← HSL2.out]; exact HR6)
        obtain ⟨E6, f6, rfl, _, _⟩ := z6.form HNP.out
        have C6 := Lib.hid (C5.out.next u6)
        have Z6 := Lib.hid z6.gps
        have Z7 := Lib.hid (Z5.out.below u6)
        clear u6 z6 HR6
        go_wp2_with fail
        refine (sameGroups_same E6 E2 np f6 f2 P6 _ Z6.out Z7.out).mono ?_
        rintro e x7 ⟨rfl, u7⟩
        have C7 := Lib.hid (C6.out.next u7)
        clear u7
        go_wp2
        go_ret
        exact ⟨rfl, C7.out⟩
      · go_wp2_with fail
        refine (sameGroups_same E2 E3 np f2 f3 [] _ Z2.out Z3.out).mono ?_
        rintro e x4 ⟨rfl, u4⟩
        have C4 := Lib.hid (C3.out.next u4)
        clear u4
        go_wp2
        go_ret
        exact ⟨rfl, C4.out⟩
    | true =>
      go_wp2_with fail
      refine (implReadUnified_any S hSz _ (HV.out.below B5.out)).mono ?_
      rintro e w6 ⟨v6, r6, P6, k6, o6, rfl, z6, HR6, b6⟩
      obtain ⟨rfl, rfl, rfl⟩ := ReadIs.text (g := p) (by rw [HT.out]) (by rw [HT.out]; dsimp only; rw [← HSL.out]; exact HR6)
      obtain ⟨A6, c6, rfl, _, _⟩ := z6.form HL1.out
      go_wp2_with fail
      refine (sameGroups_same A6 A n1 c6 c1 P6 _ z6.gps (s1.below b6)).mono ?_
      rintro e w7 ⟨rfl, b7⟩
      replace B5 := Lib.hid ((B5.out.next b6).next b7)
      clear z6 b6 b7 s1 HR6
      go_wp2_with fail
      refine (DrawReadUnified_any b m d _ (hb.below B5.out) (by omega)).mono ?_
      rintro e x1 ⟨t, hts, rfl, y1⟩
      have C1 := Lib.hid (B5.out.next y1)
      clear y1
      go_wp2_with fail
      refine (implReadUnified_any t (by omega) _ (HV.out.below C1.out)).mono ?_
      rintro e x2 ⟨v2, r2, P, k2, o2, rfl, z2, HR2, u2⟩
      obtain ⟨np, HNP⟩ : ∃ np, Hid (P.length = np) := ⟨_, rfl⟩
      obtain ⟨E2, f2, rfl, _, _⟩ := z2.form HNP.out
      go_wp2_with fail
      refine (specReadUnified_any t (by omega) _).mono ?_
      rintro e x3 ⟨v3, r3, P', k3, o3, rfl, z3, HR3, u3⟩
      obtain ⟨rfl, rfl, rfl⟩ := HR3.same HR2
      obtain ⟨E3, f3, rfl, _, _⟩ := z3.form HNP.out
      have C3 := Lib.hid (C1.out.next (u2.next u3))
      have Z2 := Lib.hid (z2.gps.below u3)
      have Z3 := Lib.hid z3.gps
      clear z2 z3 u2 u3 HR3
      rcases HR2.cases_ with ⟨rfl, rfl, hgd, htx, hle⟩ | ⟨rfl, rfl, rfl⟩
      · have HTX := Lib.hid htx
        have hTl : (gpsT P').length ≤ 3000 := by have := textG_len P'; rw [HTX.out] at this; exact this
        obtain ⟨S2, HS2⟩ : ∃ S2, Hid (bs (gpsT P') = S2) := ⟨_, rfl⟩
        have hsz2 : S2.size ≤ t.size := by rw [← HS2.out, bs_size]; exact hle
        have hdd : decide (t.size < S2.size) = false := decide_eq_false (by omega)
        have hdI : decide ((t.size : Int) < (S2.size : Int)) = false := decide_eq_false (by omega)
        have HSL2 := Lib.hid (show S2.data.toList = gpsT P' by rw [← HS2.out, bs_list])
        have hs2 : S2.size ≤ 1048576 := by omega
        clear hgd htx hle hTl
        go_wp2_with fail
        refine (sameGroups_same E2 E3 np f2 f3 P' _ Z2.out Z3.out).mono ?_
        rintro e x4 ⟨rfl, u4⟩
        have C4 := Lib.hid (C3.out.next u4)
        have Z4 := Lib.hid (Z2.out.below u4)
        clear u4
        go_wp2_with fail
        refine (implGroupsText_any E2 np f2 P' _ Z4.out (HV.out.below C4.out).lib.tab (HV.out.below C4.out).sgn).mono ?_
        rintro e x5 ⟨rfl, u5⟩
        rw [HTX.out]
        dsimp only
        rw [HS2.out]
        have C5 := Lib.hid (C4.out.next u5)
        have Z5 := Lib.hid (Z4.out.below u5)
        clear u5
        go_wp2_with fail
        refine (implReadUnified_any S2 hs2 _ (HV.out.below C5.out)).mono ?_
        rintro e x6 ⟨v6, r6, P6, k6, o6, rfl, z6, HR6, u6⟩
        obtain ⟨rfl, rfl, rfl⟩ := ReadIs.text (g := P') (by rw [HTX.out]) (by rw [HTX.out]; dsimp only; rw [← HSL2.out]; exact HR6)
        obtain ⟨E6, f6, rfl, _, _⟩ := z6.form HNP.out
        have C6 := Lib.hid (C5.out.next u6)
        have Z6 := Lib.hid z6.gps
        have Z7 := Lib.hid (Z5.out.below u6)
        clear u6 z6 HR6
        go_wp2_with fail
        refine (sameGroups_same E6 E2 np f6 f2 P6 _ Z6.out Z7.out).mono ?_
        rintro e x7 ⟨rfl, u7⟩
        have C7 := Lib.hid (C6.out.next u7)
        clear u7
        go_wp2
        go_ret
        exact ⟨rfl, C7.out⟩
      · go_wp2_with fail
        refine (sameGroups_same E2 E3 np f2 f3 [] _ Z2.out Z3.out).mono ?_
        rintro e x4 ⟨rfl, u4⟩
        have C4 := Lib.hid (C3.out.next u4)
        clear u4
        go_wp2
        go_ret
        exact ⟨rfl, C4.out⟩

end Go.Proofs.YtkamenidgkjodaaGreatDoor
