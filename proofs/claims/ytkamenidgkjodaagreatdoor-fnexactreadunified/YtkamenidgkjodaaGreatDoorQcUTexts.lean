/-
  Signs and shown rows: the program's table of signs, a line shown with one sign, both ways.
  The text of groups all in one: the program's headOf and GroupsText.
  The text of groups all in one: the model's l7Text, GroupsText; UnifiedText of both.
  GroupsText, the model's; UnifiedText of both.
-/
import Derived.Test.YtkamenidgkjodaaGreatDoorQcUBase
import Derived.Test.YtkamenidgkjodaaGreatDoorQcNSpecs
import Derived.Test.YtkamenidgkjodaaGreatDoorProg
import Derived.Test.YtkamenidgkjodaaGreatDoorQcMemT
import Derived.Test.YtkamenidgkjodaaGreatDoorQcShelf
import Derived.Lib.Builder
import Derived.Lib.AppendStr
import Derived.Test.YtkamenidgkjodaaGreatDoorQcGGood
import Derived.Deep.RegionHeld3
import Derived.StillTailTactics
import Derived.Test.YtkamenidgkjodaaGreatDoorQcGGoodT
import Derived.Test.YtkamenidgkjodaaGreatDoorQcGRowsN
import Derived.Test.YtkamenidgkjodaaGreatDoorQcGTake
import Derived.Test.YtkamenidgkjodaaGreatDoorQcHPatch
import Derived.Test.YtkamenidgkjodaaGreatDoorQcGMem
import Derived.Test.YtkamenidgkjodaaGreatDoorQcHBases
import Derived.Deep.DeepCutAuto
import Derived.Test.YtkamenidgkjodaaGreatDoorQcHMems
import Derived.Test.YtkamenidgkjodaaGreatDoorQcGood
set_option linter.unusedSimpArgs false
set_option linter.unusedVariables false
namespace Go.Proofs.YtkamenidgkjodaaGreatDoor
open Go.RowKit M

/-- The table of signs lies there. -/
structure Sgn (w : World) : Prop where
  s1 : w.cell? ⟨0, 1, none⟩ = some (.string ⟨#[32]⟩)
  s2 : w.cell? ⟨0, 2, none⟩ = some (.string ⟨#[45]⟩)
  s3 : w.cell? ⟨0, 3, none⟩ = some (.string ⟨#[43]⟩)
theorem Sgn.below {w w' : World} (h : Sgn w) (hb : Below w.heap.size w w') : Sgn w' := ⟨cell_keep hb h.s1, cell_keep hb h.s2, cell_keep hb h.s3⟩
def sgnB (k : Int) : ByteArray := ⟨#[signB k]⟩
theorem Sgn.at_ {w : World} (h : Sgn w) {k : Nat} (h1 : 1 ≤ k) (h3 : k ≤ 3) : w.cell? ⟨0, k, none⟩ = some (.string (sgnB k)) := by
  rcases (by omega : k = 1 ∨ k = 2 ∨ k = 3) with rfl | rfl | rfl
  · exact h.s1
  · exact h.s2
  · exact h.s3

theorem add_bs (a b : ByteArray) : a ++ b = bs (a.data.toList ++ b.data.toList) := by apply ByteArray.ext; simp [bs]
/-- A line that is shown, as a text. -/
def showB (sign s : ByteArray) : ByteArray := bs (showT sign.data.toList s.data.toList)
theorem ends_same (s : ByteArray) : endsL s.data.toList = endsB s := rfl
theorem showB_yes {sign s : ByteArray} (h : endsB s = true) : sign ++ s = showB sign s := by
  unfold showB; rw [showT_eq, ends_same, h, if_pos rfl, add_bs]
theorem showB_no2 {sign s : ByteArray} (h : endsB s = false) : sign ++ s ++ (⟨#[10, 92, 32, 110, 111, 110, 101, 10]⟩ : ByteArray) = showB sign s := by
  unfold showB; rw [showT_eq, ends_same, h, if_neg (by simp), add_bs, add_bs, bs_list]; simp [noneL]
theorem showB_row (x : Rw) : showB (sgnB x.kind) x.line = bs (rowT x) := rfl

set_option maxHeartbeats 1000000 in
theorem l5Shown_any (sign s : ByteArray) (w : World) (h2 : sign.size = 1) (h1 : 1 ≤ s.size) (hs : s.size ≤ 30) :
    Calls Tryz.prog 73 #[.string sign, .string s] w fun e w' => e = .returned (.string (showB sign s)) ∧ w = w' := by
  have hm : s.size ≤ maxLen := by unfold maxLen; omega
  cases h : endsB s
  · have HE := Lib.hid h
    clear h
    go_enter Tryz.func73, Tryz.ntmps73
    go_wp2_with (go_at_call 52; refine (l1Ends_any s _ hm h1).mono ?_; rintro e w' ⟨rfl, rfl⟩; rw [HE.out])
    go_ret
    exact ⟨ret_str (showB_no2 HE.out), rfl⟩
  · have HE := Lib.hid h
    clear h
    go_enter Tryz.func73, Tryz.ntmps73
    go_wp2_with (go_at_call 52; refine (l1Ends_any s _ hm h1).mono ?_; rintro e w' ⟨rfl, rfl⟩; rw [HE.out])
    go_ret
    exact ⟨ret_str (showB_yes HE.out), rfl⟩

theorem sign_cut {k : Nat} (h1 : 1 ≤ k) (h3 : k ≤ 3) : (⟨#[63, 32, 45, 43]⟩ : ByteArray).extract k (k + 1) = sgnB k := by
  rcases (by omega : k = 1 ∨ k = 2 ∨ k = 3) with rfl | rfl | rfl <;> rfl
theorem l7Sign_any (k : Nat) (h1 : 1 ≤ k) (h3 : k ≤ 3) (w : World) :
    Calls Tryz.prog 74 #[.int .i64 (k : Int)] w fun e w' => e = .returned (.string (sgnB k)) ∧ w = w' := by
  have HC := Lib.hid (sign_cut h1 h3)
  have hz : (⟨#[63, 32, 45, 43]⟩ : ByteArray).size = 4 := rfl
  go_enter Tryz.func74, Tryz.ntmps74
  go_wp2
  go_ret
  exact ⟨ret_str (by rw [← HC.out]), rfl⟩

end Go.Proofs.YtkamenidgkjodaaGreatDoor

namespace Go.Proofs.YtkamenidgkjodaaGreatDoor
open Go.RowKit Go.ChangeShapes Go.WideShapes M

/-- The numbers of a good group. -/
theorem group_nums {x : Gp} (h : groupB x = true) : ∃ A T m3 m2 : Nat, x.at_ = (A : Int) ∧ x.to_ = (T : Int) ∧ (lw 3 x.rows).length = m3 ∧ (lw 2 x.rows).length = m2 ∧ A ≤ 999 ∧ T ≤ 999 ∧ m3 ≤ 40 ∧ m2 ≤ 40 ∧ x.rows.length ≤ 80 ∧ gpHead x = headT A m3 T m2 := by
  obtain ⟨h1, h2, h3, h4, h5, h6, h7⟩ := groupB_len h
  refine ⟨x.at_.toNat, x.to_.toNat, _, _, by omega, by omega, rfl, rfl, by omega, by omega, h6, h7, h1, rfl⟩

end Go.Proofs.YtkamenidgkjodaaGreatDoor

namespace Go.Proofs.YtkamenidgkjodaaGreatDoor
open Go.RowKit Go.ChangeShapes Go.WideShapes M

theorem l5Shown_still (sign s : ByteArray) (w : World) (h2 : sign.size = 1) (h1 : 1 ≤ s.size) (hs : s.size ≤ 30) :
    Calls Tryz.prog 73 #[.string sign, .string s] w fun e w' => e = .returned (.string (showB sign s)) ∧ w' = w :=
  (l5Shown_any sign s w h2 h1 hs).mono fun e w' ⟨h1, h2⟩ => ⟨h1, h2.symm⟩
theorem l7Sign_still (k : Nat) (h1 : 1 ≤ k) (h3 : k ≤ 3) (w : World) :
    Calls Tryz.prog 74 #[.int .i64 (k : Int)] w fun e w' => e = .returned (.string (sgnB k)) ∧ w' = w :=
  (l7Sign_any k h1 h3 w).mono fun e w' ⟨h1, h2⟩ => ⟨h1, h2.symm⟩

set_option maxHeartbeats 4000000 in
set_option maxRecDepth 100000 in
theorem l7Text_any (a : Option Addr) (n c : Nat) (g : List Gp) (w : World) (hg : Gps w a n g) (hgg : goodG g = true) :
    Calls Tryz.prog 36 #[.slice a n c] w fun e w' => e = .returned (.string (bs (gpsT g))) ∧ Below w.heap.size w w' := by
  have HN := Lib.hid hg.len
  have HALL := Lib.hid (goodG_parts hgg).2.2
  have hn20 : n ≤ 20 := by rw [← hg.len]; exact (goodG_parts hgg).1
  have HLEN := Lib.hid (gpsT_take hgg)
  clear hgg
  go_enter Tryz.func36, Tryz.ntmps36
  go_wp2
  go_loopw [3, 10] (fun t i w' => ∃ j : Nat, i = .int .i64 j ∧ j ≤ n ∧ t = .string (bs (gpsT (g.take j))) ∧ Below w.heap.size w w') (fun _ i _ => n - (intOf i).toNat)
  case atStart => exact ⟨0, rfl, by omega, rfl, Below.refl _ _⟩
  case round =>
    obtain ⟨j, rfl, hj, rfl, hb⟩ := hrel
    by_cases hlt : j < n
    · obtain ⟨b, off, A, m, c', x, rfl, hx, c0, c1, c2, hr, hmc, hok⟩ := (hg.below hb).at_ hlt
      have HX := Lib.hid (HALL.out x (List.mem_of_getElem? hx))
      have HSN := Lib.hid (show gpsT (g.take (j + 1)) = gpsT (g.take j) ++ gpT x by rw [take_snoc hx, gpsT_snoc])
      obtain ⟨Aa, T, m3, m2, eA, eT, e3, e2, hA, hT, h3, h2, h80, hh⟩ := group_nums HX.out
      have HML := Lib.hid hr.len
      have hm80 : m ≤ 80 := by rw [← hr.len]; exact h80
      have HLINE := Lib.hid (groupB_line HX.out)
      have HLJ := Lib.hid (HLEN.out j)
      rw [eA] at c0
      rw [eT] at c1
      have H3 := Lib.hid e3
      have H2 := Lib.hid e2
      have HEA := Lib.hid eA
      have HET := Lib.hid eT
      obtain ⟨W, HW⟩ : ∃ W, Hid (W = wr.alloc (.cells #[.int .i64 (Aa : Int), .int .i64 (T : Int), .slice A m c'] 60)) := ⟨_, rfl⟩
      have HB := Lib.hid (show Below wr.heap.size wr W by rw [HW.out]; exact below_alloc _ _)
      have k0 : W.cell? ⟨wr.heap.size, 0, none⟩ = some (.int .i64 (Aa : Int)) := by rw [HW.out]; simp
      have k1 : W.cell? ⟨wr.heap.size, 1, none⟩ = some (.int .i64 (T : Int)) := by rw [HW.out]; simp
      have k2 : W.cell? ⟨wr.heap.size, 2, none⟩ = some (.slice A m c') := by rw [HW.out]; simp
      have HR := Lib.hid (hr.below HB.out)
      have HBB := Lib.hid (hb.next HB.out)
      obtain ⟨C1, HC1⟩ : ∃ C, Hid (bs (countT Aa m3) = C) := ⟨_, rfl⟩
      obtain ⟨C2, HC2⟩ : ∃ C, Hid (bs (countT T m2) = C) := ⟨_, rfl⟩
      obtain ⟨T0, HT0⟩ : ∃ T0, Hid (bs (gpsT (g.take j)) = T0) := ⟨_, rfl⟩
      have z1 : C1.size ≤ 9 := by rw [← HC1.out, bs_size]; exact countT_len hA (by omega)
      have z2 : C2.size ≤ 9 := by rw [← HC2.out, bs_size]; exact countT_len hT (by omega)
      have z0 : T0.size ≤ 64000 := by rw [← HT0.out, bs_size]; exact HLJ.out
      have y1 : (9223372036854775807 < 4 + C1.size) = False := eq_false (by omega)
      have y2 : (9223372036854775807 < 4 + C1.size + 2) = False := eq_false (by omega)
      have y3 : (9223372036854775807 < 4 + C1.size + 2 + C2.size) = False := eq_false (by omega)
      have y4 : (9223372036854775807 < 4 + C1.size + 2 + C2.size + 4) = False := eq_false (by omega)
      have y5 : (9223372036854775807 < T0.size + (4 + C1.size + 2 + C2.size + 4)) = False := eq_false (by omega)
      obtain ⟨K, HK⟩ : ∃ K : List UInt8, Hid (K = gpsT (g.take j) ++ (gpHead x ++ [10])) := ⟨_, Lib.hid rfl⟩
      have HATS := Lib.hid (show T0 ++ ((⟨#[64, 64, 32, 45]⟩ : ByteArray) ++ C1 ++ ⟨#[32, 43]⟩ ++ C2 ++ ⟨#[32, 64, 64, 10]⟩) = bs K by
        rw [HK.out, hh, ← HT0.out, ← HC1.out, ← HC2.out]
        simp only [add_bs, bs_list]
        unfold headT
        simp)
      have HKL := Lib.hid (show K.length ≤ 64100 by
        rw [HK.out, hh]
        have h1 := HLJ.out
        have h2 := headT_len (a := Aa) (n := m3) (t := T) (m := m2) hA (by omega) hT (by omega)
        simp only [List.length_append, List.length_singleton]; omega)
      rw [HT0.out]
      clear hx hok h80 hr eA eT e3 e2 hh hb
      go_wp2
      rw [← HW.out]
      go_region_held3 (fun w' => w'.cell? ⟨wr.heap.size, 0, none⟩ = some (.int .i64 (Aa : Int)) ∧ w'.cell? ⟨wr.heap.size, 1, none⟩ = some (.int .i64 (T : Int)) ∧ w'.cell? ⟨wr.heap.size, 2, none⟩ = some (.slice A m c')) (first | with_reducible exact ⟨k0, k1, k2⟩ | with_reducible exact ⟨cell_keep B3.out k0, cell_keep B3.out k1, cell_keep B3.out k2⟩ | with_reducible exact ⟨cell_keep B4.out k0, cell_keep B4.out k1, cell_keep B4.out k2⟩ | with_reducible exact ⟨cell_keep B5.out k0, cell_keep B5.out k1, cell_keep B5.out k2⟩ | with_reducible exact ⟨cell_keep B6.out k0, cell_keep B6.out k1, cell_keep B6.out k2⟩ | go_keep)
        (first
          | (go_at_call 71; refine (l6Old_any A m c' ⟨(Aa : Int), (T : Int), x.rows⟩ W.drew (HR.out.below (Below.refl _ W).drew) (by omega)).mono ?_; rintro e w3 ⟨v3, rfl, o3, b3⟩
             obtain ⟨A3, k3, rfl, hk3, _⟩ := o3.form H3.out
             have B3 := Lib.hid (show Below W.heap.size W w3 from (Below.refl _ W).drew.next b3)
             clear o3 b3)
          | (go_at_call 50; with_reducible show Calls _ _ #[.int .i64 (Aa : Int), .int .i64 (m3 : Int)] _ _; refine (l4Count_any Aa m3 hA (by omega) w3).mono ?_; rintro e w4 ⟨rfl, b4⟩
             rw [HC1.out]
             have B4 := Lib.hid (show Below W.heap.size W w4 from B3.out.next b4)
             clear b4)
          | (go_at_call 72; refine (l6New_any A m c' ⟨(Aa : Int), (T : Int), x.rows⟩ w4 (HR.out.below B4.out) (by omega)).mono ?_; rintro e w5 ⟨v5, rfl, o5, b5⟩
             obtain ⟨A5, k5, rfl, hk5, _⟩ := o5.form H2.out
             have B5 := Lib.hid (show Below W.heap.size W w5 from B4.out.next b5)
             clear o5 b5)
          | (go_at_call 50; refine (l4Count_any T m2 hT (by omega) w5).mono ?_; rintro e w6 ⟨rfl, b6⟩
             rw [HC2.out]
             have B6 := Lib.hid (show Below W.heap.size W w6 from B5.out.next b6)
             clear b6)
          | fail)
      replace k2 := cell_keep B6.out k2
      have HR6 := Lib.hid (HR.out.below B6.out)
      have HB6 := Lib.hid (HBB.out.next B6.out)
      clear y1 y2 y3 y4 y5 k0 k1
      go_wp2
      go_loopw [3, 35] (fun t i w' => ∃ k : Nat, i = .int .i64 k ∧ k ≤ m ∧ t = .string (bs (K ++ rowsT (x.rows.take k))) ∧ Below w.heap.size w w' ∧ Below w6.heap.size w6 w') (fun _ i _ => m - (intOf i).toNat)
      case atStart => exact ⟨0, rfl, by omega, congrArg Value.string (by rw [List.take_zero, rowsT_nil, List.append_nil]; exact HATS.out), HB6.out, Below.refl _ _⟩
      case round =>
        obtain ⟨k, rfl, hk, rfl, hb, hb6⟩ := hrel
        by_cases hlk : k < m
        · obtain ⟨b', off', y, rfl, hy, d0, d1, hyo⟩ := (HR6.out.below hb6).at_ hlk
          obtain ⟨y1, y2, y3⟩ := HLINE.out y (List.mem_of_getElem? hy)
          obtain ⟨y4, y5⟩ := lineB_size y1
          obtain ⟨kk, hkk⟩ := Int.eq_ofNat_of_zero_le (show 0 ≤ y.kind by omega)
          obtain ⟨U, HU⟩ : ∃ U, Hid (bs (K ++ rowsT (x.rows.take k)) = U) := ⟨_, rfl⟩
          obtain ⟨V, HV⟩ : ∃ V, Hid (showB (sgnB kk) y.line = V) := ⟨_, rfl⟩
          have zu : U.size ≤ 70000 := by
            rw [← HU.out, bs_size]
            have h1 := HKL.out
            have h3 := rowsT_len (l := x.rows.take k) (fun z hz => (lineB_size (HLINE.out z (List.mem_of_mem_take hz)).1).2)
            have h4 : (x.rows.take k).length ≤ k := by simp; omega
            simp only [List.length_append]; omega
          have zv : V.size ≤ 39 := by rw [← HV.out, ← hkk, showB_row, bs_size]; exact rowT_len y5
          have yy : (9223372036854775807 < U.size + V.size) = False := eq_false (by omega)
          have HRN := Lib.hid (show U ++ V = bs (K ++ rowsT (x.rows.take (k + 1))) by
            rw [← HU.out, ← HV.out, ← hkk, take_snoc hy, rowsT_snoc, showB_row, bs_app, List.append_assoc])
          rw [hkk] at d0
          rw [HU.out]
          obtain ⟨W2, HW2⟩ : ∃ W2, Hid (W2 = wr.alloc (.cells #[.int .i64 (kk : Int), .string y.line] 62)) := ⟨_, rfl⟩
          have hB2 := Lib.hid (show Below wr.heap.size wr W2 by rw [HW2.out]; exact below_alloc _ _)
          have e0 : W2.cell? ⟨wr.heap.size, 0, none⟩ = some (.int .i64 (kk : Int)) := by rw [HW2.out]; simp
          have e1 : W2.cell? ⟨wr.heap.size, 1, none⟩ = some (.string y.line) := by rw [HW2.out]; simp
          have q1 : 1 ≤ kk := by omega
          have q3 : kk ≤ 3 := by omega
          have BB := Lib.hid (hb.next hB2.out)
          have BB6 := Lib.hid (hb6.next hB2.out)
          clear hy hyo y1 y2 y3 hkk hb hb6
          go_wp2
          rw [← HW2.out]
          go_region_held3 (fun w' => w' = W2.drew) (first | with_reducible rfl | go_keep)
            (first
              | (go_at_call 74; refine (l7Sign_still kk q1 q3 _).mono ?_; rintro e w7 ⟨rfl, rfl⟩)
              | (go_at_call 73; refine (l5Shown_still (sgnB kk) y.line _ rfl y4 y5).mono ?_; rintro e w8 ⟨rfl, rfl⟩; rw [HV.out])
              | fail)
          go_wp2
          go_roundw
          case rel => exact ⟨k + 1, by go_num, by omega, congrArg Value.string HRN.out, BB.out.drew, BB6.out.drew⟩
          case measure => simp [intOf]; omega
        · have hfk := Lib.hid (show x.rows.take k = x.rows from List.take_of_length_le (by rw [HML.out]; omega))
          have HFIN := Lib.hid (show bs (K ++ rowsT x.rows) = bs (gpsT (g.take (j + 1))) by rw [HSN.out, HK.out, gpT, List.append_assoc])
          rw [hfk.out]
          go_wp2
          go_roundw
          case rel => exact ⟨j + 1, by go_num, by omega, congrArg Value.string HFIN.out, hb⟩
          case measure => simp [intOf]; omega
    · have htk : g.take j = g := List.take_of_length_le (by rw [HN.out]; omega)
      rw [htk]
      go_wp2
      go_ret
      exact ⟨rfl, hb⟩

end Go.Proofs.YtkamenidgkjodaaGreatDoor

