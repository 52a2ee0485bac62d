/-
  Texts that are spoilt.
-/
import Derived.Test.YtnnaigoomipklaaGreatDoorOhDraw
import Derived.Test.YtnnaigoomipklaaGreatDoorOhMemT
import Derived.BigQuiet
set_option linter.unusedSimpArgs false
set_option linter.unusedVariables false
namespace Go.Proofs.YtnnaigoomipklaaGreatDoor
open Go.RowKit M

theorem size_app (s t : ByteArray) : (s ++ t).size = s.size + t.size := ByteArray.size_append

set_option maxHeartbeats 4000000 in
set_option maxRecDepth 100000 in
theorem spoilt_any (g M : Nat) (t wi : ByteArray) (ht : t.size ≤ 3000) (hw1 : 1 ≤ wi.size) (hw2 : wi.size ≤ 100) (w : World) (h : Curs w g M) (hM : M ≤ 900000) :
    Calls Tryz.prog 69 #[.pointer (some ⟨g, 0, none⟩), .string t, .string wi] w fun e w' => ∃ s : ByteArray, s.size ≤ 3010 ∧ e = .returned (.string s) ∧ Curs w' g (M + 20) ∧ w.grownBy w' (some g) := by
  have HGL := Lib.hid h.lt
  go_enter Tryz.func69, Tryz.ntmps69
  go_wp2_with fail
  refine (pick_any g M 2 _ h (by omega) (by omega)).mono ?_
  rintro e w1 ⟨x, rfl, hx0, hx1, c1, g1⟩
  obtain ⟨k0, rfl⟩ := Int.eq_ofNat_of_zero_le hx0
  have hk0 : k0 ≤ 1 := by omega
  clear hx0 hx1
  go_wp2
  go_loopw [1, 7] (fun tv nv w' => ∃ (u : ByteArray) (k : Nat), tv = .string u ∧ nv = .int .i64 (k : Int) ∧ k ≤ 2 ∧ u.size + k ≤ 3002 ∧ Curs w' g (M + 2 + 6 * (2 - k)) ∧ w.grownBy w' (some g)) (fun _ nv _ => (intOf nv).toNat)
  case atStart => exact ⟨t, 1 + k0, rfl, by go_num, by omega, by omega, c1.more (by omega), g1⟩
  case round =>
    obtain ⟨u, k, rfl, rfl, hk, hu, c2, g2⟩ := hrel
    by_cases hk1 : 0 < k
    · have hd1 : decide (0 < k) = true := by simp; omega
      by_cases hu1 : 0 < u.size
      · have hd2 : decide (0 < u.size) = true := by simp; omega
        go_wp2_with fail
        refine (pick_any g _ (u.size : Int) _ c2 (by omega) (by omega)).mono ?_
        rintro e w3 ⟨x, rfl, hx0, hx1, c3, g3⟩
        obtain ⟨i, rfl⟩ := Int.eq_ofNat_of_zero_le hx0
        have hi : i < u.size := by omega
        clear hx0 hx1
        have G3 := Lib.hid (g2.trans g3)
        clear g2 g3 c2
        go_wp2_with fail
        refine (pick_any g _ (wi.size : Int) _ c3 (by omega) (by omega)).mono ?_
        rintro e w4 ⟨x, rfl, hx0, hx1, c4, g4⟩
        obtain ⟨j, rfl⟩ := Int.eq_ofNat_of_zero_le hx0
        have hj : j < wi.size := by omega
        clear hx0 hx1
        obtain ⟨z, hz⟩ : ∃ z : Int, z = ((wi[j]'hj).toNat : Int) := ⟨_, rfl⟩
        have hcv := conv_one z w4
        obtain ⟨y, hy⟩ : ∃ y : ByteArray, y = ⟨#[UInt8.ofNat z.toNat]⟩ := ⟨_, rfl⟩
        have hys : y.size = 1 := by rw [hy]; rfl
        rw [← hy] at hcv
        rw [hz] at hcv
        have HC4 := Lib.hid (c4.below (below_alloc w4 (.cells #[.int .u8 ((wi[j]'hj).toNat : Int)] 5)))
        have G4 := Lib.hid (grown_alloc (G3.out.trans g4) (.cells #[.int .u8 ((wi[j]'hj).toNat : Int)] 5))
        clear hz hy c3 c4 g4
        go_wp2_with fail
        refine (pick_any g _ 3 _ HC4.out (by omega) (by omega)).mono ?_
        rintro e w5 ⟨q, rfl, hq0, hq1, c5, g5⟩
        have G5 := Lib.hid (G4.out.trans g5)
        have HC5 := Lib.hid c5
        have hwr : IntKind.i64.wrap ((i : Int) + 1) = (i : Int) + 1 := by rw [IntKind.wrap_i64]; omega
        have z1 : (u.extract 0 i).size = i := by rw [ByteArray.size_extract]; omega
        have z2 : (u.extract i u.size).size = u.size - i := by rw [ByteArray.size_extract]; omega
        have z3 : (u.extract (i + 1) u.size).size = u.size - (i + 1) := by rw [ByteArray.size_extract]; omega
        obtain ⟨X1, HX1⟩ : ∃ X, Hid (X = u.extract 0 i) := ⟨_, rfl⟩
        obtain ⟨X2, HX2⟩ : ∃ X, Hid (X = u.extract i u.size) := ⟨_, rfl⟩
        obtain ⟨X3, HX3⟩ : ∃ X, Hid (X = u.extract (i + 1) u.size) := ⟨_, rfl⟩
        clear c5 g5 hcv
        by_cases hqa : q = 0
        · have hqb : (q == 0) = true := by simp [hqa]
          clear hqa hq0 hq1
          have l1 : (9223372036854775807 < (u.extract 0 i).size + y.size) = False := eq_false (by rw [z1, hys]; omega)
          have l2 : (9223372036854775807 < (u.extract 0 i ++ y).size + (u.extract i u.size).size) = False := eq_false (by rw [size_app, z1, z2, hys]; omega)
          have HSZ := Lib.hid (show (u.extract 0 i ++ y ++ u.extract i u.size).size = u.size + 1 by rw [size_app, size_app, z1, z2, hys]; omega)
          go_wp2
          go_quiet (fail)
          go_wp2
          go_roundw
          case rel => exact ⟨_, k - 1, rfl, by go_num, by omega, by rw [HSZ.out]; omega, (HC5.out.below (below_drewN (Below.refl _ _) _)).more (by omega), grown_below G5.out (below_drewN (Below.refl _ _) _)⟩
          case measure => simp [intOf]; omega
        · have hqb : (q == 0) = false := by simpa using hqa
          by_cases hqc : q = 1
          · have hqd : (q == 1) = true := by simp [hqc]
            clear hqa hqc hq0 hq1
            have l1 : (9223372036854775807 < (u.extract 0 i).size + y.size) = False := eq_false (by rw [z1, hys]; omega)
            have l2 : (9223372036854775807 < (u.extract 0 i ++ y).size + (u.extract (i + 1) u.size).size) = False := eq_false (by rw [size_app, z1, z3, hys]; omega)
            have HSZ := Lib.hid (show (u.extract 0 i ++ y ++ u.extract (i + 1) u.size).size = u.size by rw [size_app, size_app, z1, z3, hys]; omega)
            go_wp2
            go_quiet (fail)
            go_wp2
            go_roundw
            case rel => exact ⟨_, k - 1, rfl, by go_num, by omega, by rw [HSZ.out]; omega, (HC5.out.below (below_drewN (Below.refl _ _) _)).more (by omega), grown_below G5.out (below_drewN (Below.refl _ _) _)⟩
            case measure => simp [intOf]; omega
          · have hqd : (q == 1) = false := by simpa using hqc
            clear hqa hqc hq0 hq1
            have l1 : (9223372036854775807 < (u.extract 0 i).size + (u.extract (i + 1) u.size).size) = False := eq_false (by rw [z1, z3]; omega)
            have HSZ := Lib.hid (show (u.extract 0 i ++ u.extract (i + 1) u.size).size ≤ u.size by rw [size_app, z1, z3]; omega)
            go_wp2
            go_quiet (fail)
            go_wp2
            go_roundw
            case rel => exact ⟨_, k - 1, rfl, by go_num, by omega, by have := HSZ.out; omega, (HC5.out.below (below_drewN (Below.refl _ _) _)).more (by omega), grown_below G5.out (below_drewN (Below.refl _ _) _)⟩
            case measure => simp [intOf]; omega
      · have hd2 : decide (0 < u.size) = false := decide_eq_false hu1
        go_wp2
        go_ret
        exact ⟨u, by omega, rfl, c2.more (by omega), g2⟩
    · have hd1 : decide (0 < k) = false := by simp; omega
      go_wp2
      go_ret
      exact ⟨u, by omega, rfl, c2.more (by omega), g2⟩

end Go.Proofs.YtnnaigoomipklaaGreatDoor
