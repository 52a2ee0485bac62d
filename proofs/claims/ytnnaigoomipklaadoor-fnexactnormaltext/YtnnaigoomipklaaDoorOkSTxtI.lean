/-
  The text of a step, and of steps: the program's.
-/
import Derived.Test.YtnnaigoomipklaaDoorOkSTxt
import Derived.Test.YtnnaigoomipklaaDoorOkSGoods
set_option linter.unusedSimpArgs false
set_option linter.unusedVariables false
namespace Go.Proofs.YtnnaigoomipklaaDoor
open Go.RowKit M

set_option maxHeartbeats 4000000 in
set_option maxRecDepth 100000 in
theorem twoText_any (x : Sp) (A : Option Addr) (m c : Nat) (B : Option Addr) (m2 d : Nat) (w : World) (hl : Strs w A m x.old) (hl2 : Strs w B m2 x.new) (hx : stepB x = true) (hv : Tab w) :
    Calls Tryd.prog 50 #[sidesV x A m c B m2 d] w fun e w' => e = .returned (.string (bs (spT x))) ∧ Below w.heap.size w w' := by
  obtain ⟨s1, s2, hpos⟩ := stepB_parts hx
  obtain ⟨a0, b0, e1, e2, q1', q2', g1, _⟩ := side_le s1
  obtain ⟨c0, e0, e3, e4, q3', q4', g2, _⟩ := side_le s2
  obtain ⟨fr, to_, old, at_, en, new⟩ := x
  dsimp only at e1 e2 e3 e4 hl hl2 g1 g2 hpos s1 s2
  subst e1 e2 e3 e4
  unfold sidesV
  dsimp only
  have HG1 := Lib.hid g1
  have HG2 := Lib.hid g2
  have HL1 := Lib.hid hl.len
  have HL2 := Lib.hid hl2.len
  obtain ⟨W, HW⟩ : ∃ W, Hid (W = w.alloc (.cells #[.int .i64 (a0 : Int), .int .i64 (b0 : Int), .slice A m c, .int .i64 (c0 : Int), .int .i64 (e0 : Int), .slice B m2 d] 91)) := ⟨_, rfl⟩
  have HB := Lib.hid (show Below w.heap.size w W by rw [HW.out]; exact below_alloc w _)
  have k0 : W.cell? ⟨w.heap.size, 0, none⟩ = some (.int .i64 (a0 : Int)) := by rw [HW.out]; simp
  have k1 : W.cell? ⟨w.heap.size, 1, none⟩ = some (.int .i64 (b0 : Int)) := by rw [HW.out]; simp
  have k2 : W.cell? ⟨w.heap.size, 2, none⟩ = some (.slice A m c) := by rw [HW.out]; simp
  have k3 : W.cell? ⟨w.heap.size, 3, none⟩ = some (.int .i64 (c0 : Int)) := by rw [HW.out]; simp
  have k4 : W.cell? ⟨w.heap.size, 4, none⟩ = some (.int .i64 (e0 : Int)) := by rw [HW.out]; simp
  have k5 : W.cell? ⟨w.heap.size, 5, none⟩ = some (.slice B m2 d) := by rw [HW.out]; simp
  have HV := Lib.hid (hv.below HB.out)
  obtain ⟨T1, HT1⟩ : ∃ T1, Hid (bs (numsL a0 b0) = T1) := ⟨_, rfl⟩
  obtain ⟨T2, HT2⟩ : ∃ T2, Hid (bs (numsL c0 e0) = T2) := ⟨_, rfl⟩
  obtain ⟨L, HLW⟩ : ∃ L, Hid (wordB ⟨(a0 : Int), (b0 : Int), old, (c0 : Int), (e0 : Int), new⟩ = L) := ⟨_, rfl⟩
  obtain ⟨S1, HS1⟩ : ∃ S1, Hid (bs (sideT (⟨#[60, 32]⟩ : ByteArray).data.toList old) = S1) := ⟨_, rfl⟩
  obtain ⟨S2, HS2⟩ : ∃ S2, Hid (bs (sideT (⟨#[62, 32]⟩ : ByteArray).data.toList new) = S2) := ⟨_, rfl⟩
  have z1 : T1.size ≤ 11 := by rw [← HT1.out, bs_size]; exact numsL_len (by omega) (by omega)
  have z2 : T2.size ≤ 11 := by rw [← HT2.out, bs_size]; exact numsL_len (by omega) (by omega)
  have z3 : L.size = 1 := by rw [← HLW.out]; unfold wordB; rw [bs_size]; rfl
  have z4 : S1.size ≤ 1600 := by rw [← HS1.out, bs_size]; have := sideT_take (sign := [60, 32]) rfl g1 old.length; rw [List.take_length] at this; exact this
  have z5 : S2.size ≤ 1600 := by rw [← HS2.out, bs_size]; have := sideT_take (sign := [62, 32]) rfl g2 new.length; rw [List.take_length] at this; exact this
  have y1 : (9223372036854775807 < T1.size + L.size) = False := eq_false (by omega)
  have y2 : (9223372036854775807 < T1.size + L.size + T2.size) = False := eq_false (by omega)
  have y3 : (9223372036854775807 < T1.size + L.size + T2.size + 1) = False := eq_false (by omega)
  obtain ⟨HD, HHD⟩ : ∃ HD, Hid (T1 ++ L ++ T2 ++ (⟨#[10]⟩ : ByteArray) = HD) := ⟨_, rfl⟩
  have z6 : HD.size ≤ 30 := by rw [← HHD.out]; simp [ByteArray.size_append]; have : (⟨#[10]⟩ : ByteArray).size = 1 := rfl; omega
  have y4 : (9223372036854775807 < HD.size + S1.size) = False := eq_false (by omega)
  have y5 : (9223372036854775807 < HD.size + S1.size + S2.size) = False := eq_false (by omega)
  have y6 : (9223372036854775807 < HD.size + S1.size + 4) = False := eq_false (by omega)
  have y7 : (9223372036854775807 < HD.size + S1.size + 4 + S2.size) = False := eq_false (by omega)
  have HHL := Lib.hid (show HD.data.toList = headL ⟨(a0 : Int), (b0 : Int), old, (c0 : Int), (e0 : Int), new⟩ ++ [10] by
    rw [← HHD.out, ← HT1.out, ← HT2.out, ← HLW.out]
    unfold wordB headL
    simp [bs])
  have HF := Lib.hid (show bs (spT ⟨(a0 : Int), (b0 : Int), old, (c0 : Int), (e0 : Int), new⟩) = HD ++ S1 ++ bs (midT ⟨(a0 : Int), (b0 : Int), old, (c0 : Int), (e0 : Int), new⟩) ++ S2 by
    rw [← HS1.out, ← HS2.out, add_bs, add_bs, add_bs, bs_list, bs_list, bs_list, bs_list, bs_list, HHL.out]
    rfl)
  clear hv hx s1 s2 g1 g2 z1 z2 z3 z6 z4 z5
  go_enter Tryd.func50, Tryd.ntmps50
  go_wp2
  rw [← HW.out]
  go_region_held3 (fun w' => w'.cell? ⟨w.heap.size, 0, none⟩ = some (.int .i64 (a0 : Int)) ∧ w'.cell? ⟨w.heap.size, 1, none⟩ = some (.int .i64 (b0 : Int)) ∧ w'.cell? ⟨w.heap.size, 2, none⟩ = some (.slice A m c) ∧ w'.cell? ⟨w.heap.size, 3, none⟩ = some (.int .i64 (c0 : Int)) ∧ w'.cell? ⟨w.heap.size, 4, none⟩ = some (.int .i64 (e0 : Int)) ∧ w'.cell? ⟨w.heap.size, 5, none⟩ = some (.slice B m2 d)) (first | with_reducible exact ⟨k0, k1, k2, k3, k4, k5⟩ | with_reducible exact ⟨cell_keep B3.out k0, cell_keep B3.out k1, cell_keep B3.out k2, cell_keep B3.out k3, cell_keep B3.out k4, cell_keep B3.out k5⟩ | with_reducible exact ⟨cell_keep B4.out k0, cell_keep B4.out k1, cell_keep B4.out k2, cell_keep B4.out k3, cell_keep B4.out k4, cell_keep B4.out k5⟩ | with_reducible exact ⟨cell_keep B5.out k0, cell_keep B5.out k1, cell_keep B5.out k2, cell_keep B5.out k3, cell_keep B5.out k4, cell_keep B5.out k5⟩ | go_keep)
    (first
      | (go_at_call 75; with_reducible show Calls _ _ #[.agg #[.int .i64 (a0 : Int), .int .i64 (b0 : Int), .slice A m c]] _ _; refine (numbers_any a0 b0 A m c (by omega) (by omega) W.drew (HV.out.below (Below.refl _ W).drew)).mono ?_; rintro e w3 ⟨rfl, b3⟩
         rw [HT1.out]
         have B3 := Lib.hid (show Below W.heap.size W w3 from (Below.refl _ W).drew.next b3))
      | (go_at_call 76; refine (letter_any ⟨(a0 : Int), (b0 : Int), old, (c0 : Int), (e0 : Int), new⟩ A m c B m2 d w3 HL1.out HL2.out).mono ?_; rintro e w4 ⟨rfl, b4⟩
         rw [HLW.out]
         have B4 := Lib.hid (show Below W.heap.size W w4 from B3.out.next b4))
      | (go_at_call 75; refine (numbers_any c0 e0 B m2 d (by omega) (by omega) w4 (HV.out.below B4.out)).mono ?_; rintro e w5 ⟨rfl, b5⟩
         rw [HT2.out]
         have B5 := Lib.hid (show Below W.heap.size W w5 from B4.out.next b5))
      | fail)
  clear y1 y2 y3
  replace k0 := cell_keep B5.out k0
  replace k1 := cell_keep B5.out k1
  replace k2 := cell_keep B5.out k2
  replace k3 := cell_keep B5.out k3
  replace k4 := cell_keep B5.out k4
  replace k5 := cell_keep B5.out k5
  rw [HHD.out]
  by_cases hm1 : m = 0
  · have HMID := Lib.hid (show bs (midT ⟨(a0 : Int), (b0 : Int), old, (c0 : Int), (e0 : Int), new⟩) = ⟨#[]⟩ from by have hw : wordL ⟨(a0 : Int), (b0 : Int), old, (c0 : Int), (e0 : Int), new⟩ = 97 := if_pos (show old.length = 0 by rw [HL1.out]; exact hm1); (unfold midT; rw [hw]; rfl))
    have q1 : decide (0 < m) = false := by simp [hm1]
    clear hm1
    go_wp2_with fail
    refine (takesAway_any (a0 : Int) (b0 : Int) A m c _).mono ?_
    rintro e w6 ⟨rfl, b6⟩
    rw [q1]
    have B6 := Lib.hid (B5.out.next b6)
    replace k0 := cell_keep b6 k0
    replace k1 := cell_keep b6 k1
    replace k2 := cell_keep b6 k2
    replace k3 := cell_keep b6 k3
    replace k4 := cell_keep b6 k4
    replace k5 := cell_keep b6 k5
    clear b6
    obtain ⟨w7, HW7⟩ : ∃ w7, Hid (w7 = w6) := ⟨_, rfl⟩
    have B7 := Lib.hid (show Below W.heap.size W w7 by rw [HW7.out]; exact B6.out)
    rw [← HW7.out] at k0 k1 k2 k3 k4 k5 ⊢
    go_wp2
    go_region_held3 (fun w' => w'.cell? ⟨w.heap.size, 0, none⟩ = some (.int .i64 (a0 : Int)) ∧ w'.cell? ⟨w.heap.size, 1, none⟩ = some (.int .i64 (b0 : Int)) ∧ w'.cell? ⟨w.heap.size, 2, none⟩ = some (.slice A m c) ∧ w'.cell? ⟨w.heap.size, 3, none⟩ = some (.int .i64 (c0 : Int)) ∧ w'.cell? ⟨w.heap.size, 4, none⟩ = some (.int .i64 (e0 : Int)) ∧ w'.cell? ⟨w.heap.size, 5, none⟩ = some (.slice B m2 d)) (first | with_reducible exact ⟨k0, k1, k2, k3, k4, k5⟩ | with_reducible exact ⟨cell_keep B8.out k0, cell_keep B8.out k1, cell_keep B8.out k2, cell_keep B8.out k3, cell_keep B8.out k4, cell_keep B8.out k5⟩ | with_reducible exact ⟨cell_keep B9.out k0, cell_keep B9.out k1, cell_keep B9.out k2, cell_keep B9.out k3, cell_keep B9.out k4, cell_keep B9.out k5⟩ | go_keep)
      (first
        | (go_at_call 79; with_reducible show Calls _ _ #[.agg #[.int .i64 (a0 : Int), .int .i64 (b0 : Int), .slice A m c], _] _ _; refine (shown_any (a0 : Int) (b0 : Int) ⟨#[60, 32]⟩ A m c old w7.drew ((hl.below (HB.out.next B7.out)).below (Below.refl _ w7).drew) rfl HG1.out).mono ?_; rintro e w8 ⟨rfl, b8⟩
           rw [HS1.out]
           have B8 := Lib.hid (show Below w7.heap.size w7 w8 from (Below.refl _ w7).drew.next b8))
        | (go_at_call 79; refine (shown_any (c0 : Int) (e0 : Int) ⟨#[62, 32]⟩ B m2 d new w8 ((hl2.below (HB.out.next B7.out)).below B8.out) rfl HG2.out).mono ?_; rintro e w9 ⟨rfl, b9⟩
           rw [HS2.out]
           have B9 := Lib.hid (show Below w7.heap.size w7 w9 from B8.out.next b9))
        | fail)
    go_wp2
    go_ret
    exact ⟨ret_str (by rw [HF.out, HMID.out]), (HB.out.next B7.out).next B9.out⟩
  · have q1 : decide (0 < m) = true := by simp; omega
    by_cases hm2 : m2 = 0
    · have HMID := Lib.hid (show bs (midT ⟨(a0 : Int), (b0 : Int), old, (c0 : Int), (e0 : Int), new⟩) = ⟨#[]⟩ from by have hw : wordL ⟨(a0 : Int), (b0 : Int), old, (c0 : Int), (e0 : Int), new⟩ = 100 := (if_neg (show ¬ old.length = 0 by rw [HL1.out]; exact hm1)).trans (if_pos (show new.length = 0 by rw [HL2.out]; exact hm2)); (unfold midT; rw [hw]; rfl))
      have q2 : decide (0 < m2) = false := by simp [hm2]
      clear hm1 hm2
      go_wp2_with fail
      refine (takesAway_any (a0 : Int) (b0 : Int) A m c _).mono ?_
      rintro e w6 ⟨rfl, b6⟩
      rw [q1]
      have B6 := Lib.hid (B5.out.next b6)
      replace k0 := cell_keep b6 k0
      replace k1 := cell_keep b6 k1
      replace k2 := cell_keep b6 k2
      replace k3 := cell_keep b6 k3
      replace k4 := cell_keep b6 k4
      replace k5 := cell_keep b6 k5
      clear b6
      go_wp2_with fail
      refine (brings_any (c0 : Int) (e0 : Int) B m2 d _).mono ?_
      rintro e w7 ⟨rfl, b7⟩
      rw [q2]
      have B7 := Lib.hid (B6.out.next b7)
      replace k0 := cell_keep b7 k0
      replace k1 := cell_keep b7 k1
      replace k2 := cell_keep b7 k2
      replace k3 := cell_keep b7 k3
      replace k4 := cell_keep b7 k4
      replace k5 := cell_keep b7 k5
      clear b7
      go_wp2
      go_region_held3 (fun w' => w'.cell? ⟨w.heap.size, 0, none⟩ = some (.int .i64 (a0 : Int)) ∧ w'.cell? ⟨w.heap.size, 1, none⟩ = some (.int .i64 (b0 : Int)) ∧ w'.cell? ⟨w.heap.size, 2, none⟩ = some (.slice A m c) ∧ w'.cell? ⟨w.heap.size, 3, none⟩ = some (.int .i64 (c0 : Int)) ∧ w'.cell? ⟨w.heap.size, 4, none⟩ = some (.int .i64 (e0 : Int)) ∧ w'.cell? ⟨w.heap.size, 5, none⟩ = some (.slice B m2 d)) (first | with_reducible exact ⟨k0, k1, k2, k3, k4, k5⟩ | with_reducible exact ⟨cell_keep B8.out k0, cell_keep B8.out k1, cell_keep B8.out k2, cell_keep B8.out k3, cell_keep B8.out k4, cell_keep B8.out k5⟩ | with_reducible exact ⟨cell_keep B9.out k0, cell_keep B9.out k1, cell_keep B9.out k2, cell_keep B9.out k3, cell_keep B9.out k4, cell_keep B9.out k5⟩ | go_keep)
        (first
          | (go_at_call 79; with_reducible show Calls _ _ #[.agg #[.int .i64 (a0 : Int), .int .i64 (b0 : Int), .slice A m c], _] _ _; refine (shown_any (a0 : Int) (b0 : Int) ⟨#[60, 32]⟩ A m c old w7.drew ((hl.below (HB.out.next B7.out)).below (Below.refl _ w7).drew) rfl HG1.out).mono ?_; rintro e w8 ⟨rfl, b8⟩
             rw [HS1.out]
             have B8 := Lib.hid (show Below w7.heap.size w7 w8 from (Below.refl _ w7).drew.next b8))
          | (go_at_call 79; refine (shown_any (c0 : Int) (e0 : Int) ⟨#[62, 32]⟩ B m2 d new w8 ((hl2.below (HB.out.next B7.out)).below B8.out) rfl HG2.out).mono ?_; rintro e w9 ⟨rfl, b9⟩
             rw [HS2.out]
             have B9 := Lib.hid (show Below w7.heap.size w7 w9 from B8.out.next b9))
          | fail)
      go_wp2
      go_ret
      exact ⟨ret_str (by rw [HF.out, HMID.out]), (HB.out.next B7.out).next B9.out⟩
    · have HMID := Lib.hid (show bs (midT ⟨(a0 : Int), (b0 : Int), old, (c0 : Int), (e0 : Int), new⟩) = ⟨#[45, 45, 45, 10]⟩ from by have hw : wordL ⟨(a0 : Int), (b0 : Int), old, (c0 : Int), (e0 : Int), new⟩ = 99 := (if_neg (show ¬ old.length = 0 by rw [HL1.out]; exact hm1)).trans (if_neg (show ¬ new.length = 0 by rw [HL2.out]; exact hm2)); (unfold midT; rw [hw]; rfl))
      have q2 : decide (0 < m2) = true := by simp; omega
      clear hm1 hm2
      go_wp2_with fail
      refine (takesAway_any (a0 : Int) (b0 : Int) A m c _).mono ?_
      rintro e w6 ⟨rfl, b6⟩
      rw [q1]
      have B6 := Lib.hid (B5.out.next b6)
      replace k0 := cell_keep b6 k0
      replace k1 := cell_keep b6 k1
      replace k2 := cell_keep b6 k2
      replace k3 := cell_keep b6 k3
      replace k4 := cell_keep b6 k4
      replace k5 := cell_keep b6 k5
      clear b6
      go_wp2_with fail
      refine (brings_any (c0 : Int) (e0 : Int) B m2 d _).mono ?_
      rintro e w7 ⟨rfl, b7⟩
      rw [q2]
      have B7 := Lib.hid (B6.out.next b7)
      replace k0 := cell_keep b7 k0
      replace k1 := cell_keep b7 k1
      replace k2 := cell_keep b7 k2
      replace k3 := cell_keep b7 k3
      replace k4 := cell_keep b7 k4
      replace k5 := cell_keep b7 k5
      clear b7
      go_wp2
      go_region_held3 (fun w' => w'.cell? ⟨w.heap.size, 0, none⟩ = some (.int .i64 (a0 : Int)) ∧ w'.cell? ⟨w.heap.size, 1, none⟩ = some (.int .i64 (b0 : Int)) ∧ w'.cell? ⟨w.heap.size, 2, none⟩ = some (.slice A m c) ∧ w'.cell? ⟨w.heap.size, 3, none⟩ = some (.int .i64 (c0 : Int)) ∧ w'.cell? ⟨w.heap.size, 4, none⟩ = some (.int .i64 (e0 : Int)) ∧ w'.cell? ⟨w.heap.size, 5, none⟩ = some (.slice B m2 d)) (first | with_reducible exact ⟨k0, k1, k2, k3, k4, k5⟩ | with_reducible exact ⟨cell_keep B8.out k0, cell_keep B8.out k1, cell_keep B8.out k2, cell_keep B8.out k3, cell_keep B8.out k4, cell_keep B8.out k5⟩ | with_reducible exact ⟨cell_keep B9.out k0, cell_keep B9.out k1, cell_keep B9.out k2, cell_keep B9.out k3, cell_keep B9.out k4, cell_keep B9.out k5⟩ | go_keep)
        (first
          | (go_at_call 79; with_reducible show Calls _ _ #[.agg #[.int .i64 (a0 : Int), .int .i64 (b0 : Int), .slice A m c], _] _ _; refine (shown_any (a0 : Int) (b0 : Int) ⟨#[60, 32]⟩ A m c old w7.drew ((hl.below (HB.out.next B7.out)).below (Below.refl _ w7).drew) rfl HG1.out).mono ?_; rintro e w8 ⟨rfl, b8⟩
             rw [HS1.out]
             have B8 := Lib.hid (show Below w7.heap.size w7 w8 from (Below.refl _ w7).drew.next b8))
          | (go_at_call 79; refine (shown_any (c0 : Int) (e0 : Int) ⟨#[62, 32]⟩ B m2 d new w8 ((hl2.below (HB.out.next B7.out)).below B8.out) rfl HG2.out).mono ?_; rintro e w9 ⟨rfl, b9⟩
             rw [HS2.out]
             have B9 := Lib.hid (show Below w7.heap.size w7 w9 from B8.out.next b9))
          | fail)
      go_wp2
      go_ret
      exact ⟨ret_str (by rw [HF.out, HMID.out]), (HB.out.next B7.out).next B9.out⟩

set_option maxHeartbeats 2000000 in
theorem implStepsText_any (a : Option Addr) (n c : Nat) (p : List Sp) (w : World) (hp : Sps w a n p) (hv : Tab w) :
    Calls Tryd.prog 25 #[.slice a n c] w fun e w' => e = .returned (.tuple #[.string (bs (textP p).1), .bool (textP p).2]) ∧ Below w.heap.size w w' := by
  have HN := Lib.hid hp.len
  cases hgp : stepsB p
  · have hf := Lib.hid (show textP p = ([], false) by unfold textP; rw [hgp]; simp)
    have HGP := Lib.hid hgp
    clear hgp
    go_enter Tryd.func25, Tryd.ntmps25
    go_wp2_with fail
    refine (implGoodSteps_any a n c p _ hp).mono ?_
    rintro e w1 ⟨rfl, b1⟩
    rw [HGP.out]
    go_wp2
    go_ret2
    exact ⟨by rw [hf.out]; rfl, b1⟩
  have HGP := Lib.hid hgp
  have HALL := Lib.hid (show ∀ x ∈ p, stepB x = true by unfold stepsB at hgp; simp only [Bool.and_eq_true] at hgp; exact List.all_eq_true.1 hgp.1)
  have hn20 : n ≤ 20 := by unfold stepsB at hgp; simp only [Bool.and_eq_true, decide_eq_true_eq] at hgp; rw [← hp.len]; exact hgp.2
  have HLEN := Lib.hid (stepsT_take hgp)
  have HV := Lib.hid hv
  clear hgp hv
  go_enter Tryd.func25, Tryd.ntmps25
  go_wp2_with fail
  refine (implGoodSteps_any a n c p _ hp).mono ?_
  rintro e w1 ⟨rfl, b1⟩
  rw [HGP.out]
  have B1 := Lib.hid b1
  have HBD := Lib.hid (Bld.new w1 w.heap.size b1.size)
  clear b1
  go_wp2
  go_loopw [11] (fun i w' => ∃ j : Nat, i = .int .i64 j ∧ j ≤ n ∧ Bld w' w.heap.size w1.heap.size (stepsT (p.take j)) ∧ Below w.heap.size w w') (fun i _ => n - (intOf i).toNat)
  case atStart => exact ⟨0, rfl, by omega, HBD.out, B1.out.next (below_alloc _ _)⟩
  case round =>
    obtain ⟨j, rfl, hj, hbd, hb⟩ := hrel
    by_cases hlt : j < n
    · obtain ⟨b, off, A, m, c', B, m2, c2', x, rfl, hx, c0, c1, c2, c3, c4, c5, hs, hmc, hs2, hmc2, hok⟩ := (hp.below hb).at_ hlt
      have HX := Lib.hid (HALL.out x (List.mem_of_getElem? hx))
      have HSN := Lib.hid (show stepsT (p.take (j + 1)) = stepsT (p.take j) ++ (bs (spT x)).data.toList by rw [take_snoc hx, stepsT_snoc, bs_list])
      have HLX := Lib.hid (spT_len HX.out)
      clear hx hok
      go_wp2_with fail
      refine (sidesOf_any b (off + j * 6) x A m c' B m2 c2' _ ⟨c0, c1, c2, c3, c4, c5⟩).mono ?_
      rintro e w3 ⟨rfl, b3⟩
      clear c0 c1 c2 c3 c4 c5
      go_wp2_with fail
      refine (twoText_any x A m c' B m2 c2' _ (hs.below b3) (hs2.below b3) HX.out (HV.out.below (hb.next b3))).mono ?_
      rintro e w4 ⟨rfl, b4⟩
      go_wp2_with fail
      refine (WriteString_any w.heap.size w1.heap.size _ (bs (spT x)) _ ((hbd.keep b3).keep b4) (by have := HLEN.out j; have := HLX.out; rw [bs_size]; omega) ((hb.next b3).next b4).size).mono ?_
      rintro e w5 ⟨⟨r, rfl⟩, hbd5, b5⟩
      go_wp2
      go_roundw
      case rel => exact ⟨j + 1, by go_num, by omega, by rw [HSN.out]; exact hbd5, ((hb.next b3).next b4).trans b5⟩
      case measure => simp [intOf]; omega
    · have htk : p.take j = p := List.take_of_length_le (by rw [HN.out]; omega)
      have HLP := Lib.hid (HLEN.out j)
      rw [htk] at hbd HLP
      have HCL := Lib.hid (show (Lib.byteCells (stepsT p)).length = (stepsT p).length by simp [Lib.byteCells])
      by_cases h3 : 3000 < (stepsT p).length
      · have hf := Lib.hid (show textP p = ([], false) by unfold textP; rw [if_neg (fun e => by omega)])
        go_wp2_with fail
        refine (Tryd.Builder_Len w.heap.size w1.heap.size _ _ hbd).mono ?_
        rintro e w2 ⟨rfl, rfl⟩
        rw [HCL.out]
        go_wp2
        go_ret2
        exact ⟨by rw [hf.out]; rfl, hb⟩
      · have hf := Lib.hid (show textP p = (stepsT p, true) by unfold textP; rw [if_pos ⟨HGP.out, by omega⟩])
        go_wp2_with fail
        refine (Tryd.Builder_Len w.heap.size w1.heap.size _ _ hbd).mono ?_
        rintro e w2 ⟨rfl, rfl⟩
        rw [HCL.out]
        go_wp2_with fail
        refine (Tryd.Builder_String_any w.heap.size w1.heap.size _ _ hbd hb.size).mono ?_
        rintro e w3 ⟨rfl, b3⟩
        go_wp2
        go_ret2
        exact ⟨by rw [hf.out]; rfl, hb.trans b3⟩

end Go.Proofs.YtnnaigoomipklaaDoor
