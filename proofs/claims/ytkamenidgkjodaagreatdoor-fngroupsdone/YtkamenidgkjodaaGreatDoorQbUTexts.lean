/-
  Signs and shown rows: the program's table of signs, a line shown with one sign, both ways.
  The text of groups all in one: the program's headOf and GroupsText.
  The text of groups all in one: the model's l7Text, GroupsText; UnifiedText of both.
  GroupsText, the model's; UnifiedText of both.
-/
import Derived.Test.YtkamenidgkjodaaGreatDoorQbUBase
import Derived.Test.YtkamenidgkjodaaGreatDoorQbNSpecs
import Derived.Test.YtkamenidgkjodaaGreatDoorQbSBld
import Derived.Test.YtkamenidgkjodaaGreatDoorQbGGood
import Derived.Deep.RegionHeld3
import Derived.StillTailTactics
import Derived.Test.YtkamenidgkjodaaGreatDoorQbGGoodT
import Derived.Test.YtkamenidgkjodaaGreatDoorQbGSpecs
import Derived.Test.YtkamenidgkjodaaGreatDoorQbGImpl
set_option linter.unusedSimpArgs false
set_option linter.unusedVariables false
namespace Go.Proofs.YtkamenidgkjodaaGreatDoor
open Go.RowKit M

structure Sgn (w : World) : Prop where
  s1 : w.cell? ⟨0, 1, none⟩ = some (.string ⟨#[32]⟩)
  s2 : w.cell? ⟨0, 2, none⟩ = some (.string ⟨#[45]⟩)
  s3 : w.cell? ⟨0, 3, none⟩ = some (.string ⟨#[43]⟩)
theorem Sgn.below {w w' : World} (h : Sgn w) (hb : Below w.heap.size w w') : Sgn w' := ⟨cell_keep hb h.s1, cell_keep hb h.s2, cell_keep hb h.s3⟩
def sgnB (k : Int) : ByteArray := ⟨#[signB k]⟩
theorem Sgn.at_ {w : World} (h : Sgn w) {k : Nat} (h1 : 1 ≤ k) (h3 : k ≤ 3) : w.cell? ⟨0, k, none⟩ = some (.string (sgnB k)) := by
  rcases (by omega : k = 1 ∨ k = 2 ∨ k = 3) with rfl | rfl | rfl
  · exact h.s1
  · exact h.s2
  · exact h.s3

theorem add_bs (a b : ByteArray) : a ++ b = bs (a.data.toList ++ b.data.toList) := by apply ByteArray.ext; simp [bs]
def showB (sign s : ByteArray) : ByteArray := bs (showT sign.data.toList s.data.toList)
theorem ends_same (s : ByteArray) : endsL s.data.toList = endsB s := rfl
theorem showB_yes {sign s : ByteArray} (h : endsB s = true) : sign ++ s = showB sign s := by
  unfold showB; rw [showT_eq, ends_same, h, if_pos rfl, add_bs]
theorem showB_no {sign s : ByteArray} (h : endsB s = false) : sign ++ s ++ (⟨#[10]⟩ : ByteArray) ++ ⟨#[92, 32, 110, 111, 110, 101, 10]⟩ = showB sign s := by
  unfold showB; rw [showT_eq, ends_same, h, if_neg (by simp), add_bs, add_bs, add_bs, bs_list, bs_list]; rfl
theorem showB_no2 {sign s : ByteArray} (h : endsB s = false) : sign ++ s ++ (⟨#[10, 92, 32, 110, 111, 110, 101, 10]⟩ : ByteArray) = showB sign s := by
  unfold showB; rw [showT_eq, ends_same, h, if_neg (by simp), add_bs, add_bs, bs_list]; simp [noneL]
theorem showB_row (x : Rw) : showB (sgnB x.kind) x.line = bs (rowT x) := rfl

set_option maxHeartbeats 1000000 in
theorem shownLine_any (sign s : ByteArray) (w : World) (h2 : sign.size = 1) (hs : s.size ≤ 30) :
    Calls Tryz.prog 32 #[.string sign, .string s] w fun e w' => e = .returned (.string (showB sign s)) ∧ w = w' := by
  have hm : s.size ≤ maxLen := by unfold maxLen; omega
  cases h : endsB s
  · have HE := Lib.hid h
    clear h
    go_enter Tryz.func32, Tryz.ntmps32
    go_wp2_with (go_at_call 69; refine (hasEnd_any s _ hm).mono ?_; rintro e w' ⟨rfl, rfl⟩; rw [HE.out])
    go_ret
    exact ⟨ret_str (showB_no HE.out), rfl⟩
  · have HE := Lib.hid h
    clear h
    go_enter Tryz.func32, Tryz.ntmps32
    go_wp2_with (go_at_call 69; refine (hasEnd_any s _ hm).mono ?_; rintro e w' ⟨rfl, rfl⟩; rw [HE.out])
    go_ret
    exact ⟨ret_str (showB_yes HE.out), rfl⟩
set_option maxHeartbeats 1000000 in
theorem l5Shown_any (sign s : ByteArray) (w : World) (h2 : sign.size = 1) (h1 : 1 ≤ s.size) (hs : s.size ≤ 30) :
    Calls Tryz.prog 73 #[.string sign, .string s] w fun e w' => e = .returned (.string (showB sign s)) ∧ w = w' := by
  have hm : s.size ≤ maxLen := by unfold maxLen; omega
  cases h : endsB s
  · have HE := Lib.hid h
    clear h
    go_enter Tryz.func73, Tryz.ntmps73
    go_wp2_with (go_at_call 52; refine (l1Ends_any s _ hm h1).mono ?_; rintro e w' ⟨rfl, rfl⟩; rw [HE.out])
    go_ret
    exact ⟨ret_str (showB_no2 HE.out), rfl⟩
  · have HE := Lib.hid h
    clear h
    go_enter Tryz.func73, Tryz.ntmps73
    go_wp2_with (go_at_call 52; refine (l1Ends_any s _ hm h1).mono ?_; rintro e w' ⟨rfl, rfl⟩; rw [HE.out])
    go_ret
    exact ⟨ret_str (showB_yes HE.out), rfl⟩

theorem sign_cut {k : Nat} (h1 : 1 ≤ k) (h3 : k ≤ 3) : (⟨#[63, 32, 45, 43]⟩ : ByteArray).extract k (k + 1) = sgnB k := by
  rcases (by omega : k = 1 ∨ k = 2 ∨ k = 3) with rfl | rfl | rfl <;> rfl
theorem l7Sign_any (k : Nat) (h1 : 1 ≤ k) (h3 : k ≤ 3) (w : World) :
    Calls Tryz.prog 74 #[.int .i64 (k : Int)] w fun e w' => e = .returned (.string (sgnB k)) ∧ w = w' := by
  have HC := Lib.hid (sign_cut h1 h3)
  have hz : (⟨#[63, 32, 45, 43]⟩ : ByteArray).size = 4 := rfl
  go_enter Tryz.func74, Tryz.ntmps74
  go_wp2
  go_ret
  exact ⟨ret_str (by rw [← HC.out]), rfl⟩

end Go.Proofs.YtkamenidgkjodaaGreatDoor

namespace Go.Proofs.YtkamenidgkjodaaGreatDoor
open Go.RowKit Go.ChangeShapes Go.WideShapes M

theorem group_nums {x : Gp} (h : groupB x = true) : ∃ A T m3 m2 : Nat, x.at_ = (A : Int) ∧ x.to_ = (T : Int) ∧ (lw 3 x.rows).length = m3 ∧ (lw 2 x.rows).length = m2 ∧ A ≤ 999 ∧ T ≤ 999 ∧ m3 ≤ 40 ∧ m2 ≤ 40 ∧ x.rows.length ≤ 80 ∧ gpHead x = headT A m3 T m2 := by
  obtain ⟨h1, h2, h3, h4, h5, h6, h7⟩ := groupB_len h
  refine ⟨x.at_.toNat, x.to_.toNat, _, _, by omega, by omega, rfl, rfl, by omega, by omega, h6, h7, h1, rfl⟩
theorem count_txt {A B : Nat} (hA : A ≤ 999) (hB : B ≤ 999) : txt (countO (A : Int) (B : Int)) = .tuple #[.string (bs (countT A B)), .bool true] := by
  rw [countO_nat (by unfold okR; simp; omega)]; rfl

set_option maxHeartbeats 2000000 in
set_option maxRecDepth 100000 in
theorem headOf_any (b off : Nat) (a : Option Addr) (n c : Nat) (x : Gp) (w : World) (d0 : w.cell? ⟨b, off, none⟩ = some (.int .i64 x.at_)) (d1 : w.cell? ⟨b, off + 1, none⟩ = some (.int .i64 x.to_)) (d2 : w.cell? ⟨b, off + 2, none⟩ = some (.slice a n c)) (hl : Rws w a n x.rows) (hx : groupB x = true) (hv : Tab w) :
    Calls Tryz.prog 31 #[.pointer (some ⟨b, off, none⟩)] w fun e w' => e = .returned (.string (bs (gpHead x ++ [10]))) ∧ Below w.heap.size w w' := by
  obtain ⟨A, T, m3, m2, eA, eT, e3, e2, hA, hT, h3, h2, h80, hh⟩ := group_nums hx
  have hn : n ≤ 1048576 := by have := hl.len; omega
  rw [eA] at d0
  rw [eT] at d1
  have H3 := Lib.hid e3
  have H2 := Lib.hid e2
  have HV := Lib.hid hv
  have HL := Lib.hid hl
  have D2c := Lib.hid d2
  obtain ⟨C1, HC1⟩ : ∃ C, Hid (bs (countT A m3) = C) := ⟨_, rfl⟩
  obtain ⟨C2, HC2⟩ : ∃ C, Hid (bs (countT T m2) = C) := ⟨_, rfl⟩
  have HT1 := Lib.hid (show txt (countO (A : Int) (m3 : Int)) = .tuple #[.string C1, .bool true] by rw [← HC1.out]; exact count_txt hA (by omega))
  have HT2 := Lib.hid (show txt (countO (T : Int) (m2 : Int)) = .tuple #[.string C2, .bool true] by rw [← HC2.out]; exact count_txt hT (by omega))
  have z1 : C1.size ≤ 9 := by rw [← HC1.out, bs_size]; exact countT_len hA (by omega)
  have z2 : C2.size ≤ 9 := by rw [← HC2.out, bs_size]; exact countT_len hT (by omega)
  have HF := Lib.hid (show bs (gpHead x ++ [10]) = (⟨#[64, 64, 32, 45]⟩ : ByteArray) ++ C1 ++ ⟨#[32, 43]⟩ ++ C2 ++ ⟨#[32, 64, 64]⟩ ++ ⟨#[10]⟩ by
    rw [hh, ← HC1.out, ← HC2.out]
    simp only [add_bs, bs_list]
    unfold headT
    simp)
  clear hx hv hl eA eT e3 e2 hh d2
  go_enter Tryz.func31, Tryz.ntmps31
  go_wp2
  go_region_held3 (fun w' => w'.cell? ⟨b, off, none⟩ = some (.int .i64 (A : Int))) (first | with_reducible exact d0 | with_reducible exact cell_keep D5.out d0 | with_reducible exact cell_keep D6.out d0 | go_keep)
    (first
      | (go_at_call 38; refine (oldIn_any b off a n c x.rows w.drew (cell_keep (Below.refl _ w).drew D2c.out) (HL.out.below (Below.refl _ w).drew) hn).mono ?_; rintro e w5 ⟨v5, rfl, o5, b5⟩
         obtain ⟨A5, k5, rfl, hk5, _⟩ := o5.form H3.out
         have D5 := Lib.hid (show Below w.heap.size w w5 from (Below.refl _ w).drew.next b5)
         clear o5 b5)
      | (go_at_call 68; refine (CountText_any (A : Int) (m3 : Int) w5 (HV.out.below D5.out)).mono ?_; rintro e w6 ⟨rfl, b6⟩
         rw [HT1.out]
         have D6 := Lib.hid (show Below w.heap.size w w6 from D5.out.next b6)
         clear b6)
      | fail)
  replace d1 := cell_keep D6.out d1
  go_wp2
  go_region_held3 (fun w' => w'.cell? ⟨b, off + 1, none⟩ = some (.int .i64 (T : Int))) (first | with_reducible exact d1 | with_reducible exact cell_keep D7.out d1 | with_reducible exact cell_keep D8.out d1 | go_keep)
    (first
      | (go_at_call 39; refine (newIn_any b off a n c x.rows w6.drew (cell_keep D6.out.drew D2c.out) (HL.out.below D6.out.drew) hn).mono ?_; rintro e w7 ⟨v7, rfl, o7, b7⟩
         obtain ⟨A7, k7, rfl, hk7, _⟩ := o7.form H2.out
         have D7 := Lib.hid (show Below w6.heap.size w6 w7 from (Below.refl _ w6).drew.next b7)
         clear o7 b7)
      | (go_at_call 68; refine (CountText_any (T : Int) (m2 : Int) w7 (HV.out.below (D6.out.next D7.out))).mono ?_; rintro e w8 ⟨rfl, b8⟩
         rw [HT2.out]
         have D8 := Lib.hid (show Below w6.heap.size w6 w8 from D7.out.next b8)
         clear b8)
      | fail)
  go_wp2
  go_ret
  exact ⟨ret_str HF.out.symm, D6.out.next D8.out⟩

theorem shownLine_still (sign s : ByteArray) (w : World) (h2 : sign.size = 1) (hs : s.size ≤ 30) :
    Calls Tryz.prog 32 #[.string sign, .string s] w fun e w' => e = .returned (.string (showB sign s)) ∧ w' = w :=
  (shownLine_any sign s w h2 hs).mono fun e w' ⟨h1, h2⟩ => ⟨h1, h2.symm⟩
theorem text_two {g : List Gp} (h : goodG g = true) : textG g = if (gpsT g).length ≤ 3000 then (gpsT g, true) else ([], false) := by
  unfold textG
  by_cases h3 : (gpsT g).length ≤ 3000
  · rw [if_pos ⟨h, h3⟩, if_pos h3]
  · rw [if_neg (fun e => h3 e.2), if_neg h3]

set_option maxHeartbeats 4000000 in
set_option maxRecDepth 100000 in
theorem implGroupsText_any (a : Option Addr) (n c : Nat) (g : List Gp) (w : World) (hg : Gps w a n g) (hv : Tab w) (hs : Sgn w) :
    Calls Tryz.prog 8 #[.slice a n c] w fun e w' => e = .returned (.tuple #[.string (bs (textG g).1), .bool (textG g).2]) ∧ Below w.heap.size w w' := by
  have HN := Lib.hid hg.len
  cases hgg : goodG g
  · have hf := Lib.hid (show textG g = ([], false) by unfold textG; rw [hgg]; simp)
    have HGG := Lib.hid hgg
    clear hgg
    go_enter Tryz.func8, Tryz.ntmps8
    go_wp2_with fail
    refine (implGoodGroups_any a n c g _ hg).mono ?_
    rintro e w1 ⟨rfl, b1⟩
    rw [HGG.out]
    go_wp2
    go_ret2
    exact ⟨by rw [hf.out]; rfl, b1⟩
  have HGG := Lib.hid hgg
  have HALL := Lib.hid (goodG_parts hgg).2.2
  have hn20 : n ≤ 20 := by rw [← hg.len]; exact (goodG_parts hgg).1
  have HLEN := Lib.hid (gpsT_take hgg)
  have HT2 := Lib.hid (text_two hgg)
  have HV := Lib.hid hv
  have HS := Lib.hid hs
  clear hgg hv hs
  go_enter Tryz.func8, Tryz.ntmps8
  go_wp2_with fail
  refine (implGoodGroups_any a n c g _ hg).mono ?_
  rintro e w1 ⟨rfl, b1⟩
  rw [HGG.out]
  have B1 := Lib.hid b1
  have HBD := Lib.hid (Bld.new w1 w.heap.size b1.size)
  clear b1
  go_wp2
  go_loopw [13] (fun i w' => ∃ j : Nat, i = .int .i64 j ∧ j ≤ n ∧ Bld w' w.heap.size w1.heap.size (gpsT (g.take j)) ∧ Below w.heap.size w w') (fun i _ => n - (intOf i).toNat)
  case atStart => exact ⟨0, rfl, by omega, HBD.out, B1.out.next (below_alloc _ _)⟩
  case round =>
    obtain ⟨j, rfl, hj, hbd, hb⟩ := hrel
    by_cases hlt : j < n
    · obtain ⟨b, off, A, m, c', x, rfl, hx, c0, c1, c2, hr, hmc, hok⟩ := hg.at_ hlt
      have HX := Lib.hid (HALL.out x (List.mem_of_getElem? hx))
      have HSN := Lib.hid (show gpsT (g.take (j + 1)) = gpsT (g.take j) ++ gpT x by rw [take_snoc hx, gpsT_snoc])
      have hl80 := (groupB_len HX.out).1
      have HML := Lib.hid hr.len
      have hm80 : m ≤ 80 := by rw [← hr.len]; exact hl80
      have HLINE := Lib.hid (groupB_line HX.out)
      have HR := Lib.hid hr
      have HLJ := Lib.hid (HLEN.out j)
      have HHL := Lib.hid (show (gpHead x).length ≤ 27 by obtain ⟨A, T, m3, m2, _, _, _, _, _, _, _, _, _, e⟩ := group_nums HX.out; rw [e]; exact headT_len (by omega) (by omega) (by omega) (by omega))
      have C0 := Lib.hid c0
      have C1 := Lib.hid c1
      have C2 := Lib.hid c2
      clear hx hok hl80 hr c0 c1 c2
      go_wp2_with fail
      refine (headOf_any b (off + j * 3) A m c' x _ (cell_keep hb C0.out) (cell_keep hb C1.out) (cell_keep hb C2.out) (HR.out.below hb) HX.out (HV.out.below hb)).mono ?_
      rintro e w3 ⟨rfl, b3⟩
      have B3 := Lib.hid (hb.next b3)
      go_wp2_with fail
      refine (WriteString_any w.heap.size w1.heap.size _ (bs (gpHead x ++ [10])) _ (hbd.keep b3) (by have := HLJ.out; have := HHL.out; rw [bs_size, List.length_append, List.length_singleton]; omega) B3.out.size).mono ?_
      rintro e w4 ⟨⟨r4, rfl⟩, hbd4, b4⟩
      rw [bs_list] at hbd4
      have B4 := Lib.hid (B3.out.trans b4)
      clear b3 b4
      have c2 := cell_keep B4.out C2.out
      go_wp2
      go_loopw [27] (fun i w' => ∃ k : Nat, i = .int .i64 k ∧ k ≤ m ∧ Bld w' w.heap.size w1.heap.size (gpsT (g.take j) ++ (gpHead x ++ [10]) ++ rowsT (x.rows.take k)) ∧ Below w.heap.size w w') (fun i _ => m - (intOf i).toNat)
      case atStart => exact ⟨0, rfl, by omega, by rw [List.take_zero, rowsT_nil, List.append_nil]; exact hbd4, B4.out⟩
      case round =>
        obtain ⟨k, rfl, hk, hbk, hbb⟩ := hrel
        by_cases hlk : k < m
        · obtain ⟨b', off', y, rfl, hy, d0, d1, hyo⟩ := (HR.out.below hbb).at_ hlk
          obtain ⟨y1, y2, y3⟩ := HLINE.out y (List.mem_of_getElem? hy)
          obtain ⟨y4, y5⟩ := lineB_size y1
          have HRN := Lib.hid (show gpsT (g.take j) ++ (gpHead x ++ [10]) ++ rowsT (x.rows.take (k + 1)) = gpsT (g.take j) ++ (gpHead x ++ [10]) ++ rowsT (x.rows.take k) ++ (showB (sgnB y.kind) y.line).data.toList by
            rw [take_snoc hy, rowsT_snoc, showB_row, bs_list]; simp only [List.append_assoc])
          have HRL := Lib.hid (show (gpsT (g.take j) ++ (gpHead x ++ [10]) ++ rowsT (x.rows.take k)).length ≤ 70000 by
            have h1 := HLJ.out
            have h2 := HHL.out
            have h3 := rowsT_len (l := x.rows.take k) (fun z hz => (lineB_size (HLINE.out z (List.mem_of_mem_take hz)).1).2)
            have h4 : (x.rows.take k).length ≤ k := by simp; omega
            simp only [List.length_append, List.length_singleton]; omega)
          have HYL := Lib.hid (show (showB (sgnB y.kind) y.line).size ≤ 39 by rw [showB_row, bs_size]; exact rowT_len y5)
          obtain ⟨kk, hkk⟩ := Int.eq_ofNat_of_zero_le (show 0 ≤ y.kind by omega)
          have HG := Lib.hid ((HS.out.below hbb).at_ (k := kk) (by omega) (by omega))
          have HKK := Lib.hid hkk
          rw [hkk] at d0
          obtain ⟨W, HW⟩ : ∃ W, Hid (W = wr.alloc (.cells #[.int .i64 (kk : Int), .string y.line] 62)) := ⟨_, rfl⟩
          have HB := Lib.hid (show Below wr.heap.size wr W by rw [HW.out]; exact below_alloc _ _)
          have e0 : W.cell? ⟨wr.heap.size, 0, none⟩ = some (.int .i64 (kk : Int)) := by rw [HW.out]; simp
          have e1 : W.cell? ⟨wr.heap.size, 1, none⟩ = some (.string y.line) := by rw [HW.out]; simp
          have e2 : W.cell? ⟨0, kk, none⟩ = some (.string (sgnB kk)) := cell_keep HB.out HG.out
          have hkk4 : kk < 4 := by omega
          have hkk5 : (kk : Int) < 4 := by omega
          have hkk6 : decide (kk < 4) = true := by simp; omega
          have BK := Lib.hid (hbk.keep HB.out)
          have BB := Lib.hid (hbb.next HB.out)
          clear hy hyo y1 y2 y3 hkk hbk
          go_wp2
          rw [← HW.out]
          refine wp_region_still_tail 7 (by kernel_rfl) (by kernel_rfl) ?_
          simp only [List.take_succ_cons, List.take_zero, List.drop_succ_cons, List.drop_zero]
          repeat still_step
          still_call (shownLine_still (sgnB kk) y.line _ rfl y5)
          repeat still_step
          refine wpStill_nil ?_
          go_wp2_with fail
          refine (WriteString_any w.heap.size w1.heap.size _ (showB (sgnB kk) y.line) _ (BK.out.keep (Below.refl _ W).drew) (by have h1 := HRL.out; have h2 := HYL.out; rw [HKK.out] at h2; omega) BB.out.drew.size).mono ?_
          rintro e w8 ⟨⟨r8, rfl⟩, hbd8, b8⟩
          have HF := HRN.out
          rw [HKK.out] at HF
          rw [← HF] at hbd8
          clear HF
          go_wp2
          go_roundw
          case rel => exact ⟨k + 1, by go_num, by omega, hbd8, BB.out.drew.trans b8⟩
          case measure => simp [intOf]; omega
        · have hfk := Lib.hid (show x.rows.take k = x.rows from List.take_of_length_le (by rw [HML.out]; omega))
          rw [hfk.out] at hbk
          go_wp2
          go_roundw
          case rel => exact ⟨j + 1, by go_num, by omega, by rw [HSN.out]; unfold gpT; rw [List.append_assoc] at hbk; exact hbk, hbb⟩
          case measure => simp [intOf]; omega
    · have htk : g.take j = g := List.take_of_length_le (by rw [HN.out]; omega)
      have HLP := Lib.hid (HLEN.out j)
      rw [htk] at hbd HLP
      have HCL := Lib.hid (show (Lib.byteCells (gpsT g)).length = (gpsT g).length by simp [Lib.byteCells])
      by_cases h3 : 3000 < (gpsT g).length
      · have hf := Lib.hid (show textG g = ([], false) by rw [HT2.out, if_neg (by omega)])
        go_wp2_with fail
        refine (Tryz.Builder_Len w.heap.size w1.heap.size _ _ hbd).mono ?_
        rintro e w2 ⟨rfl, rfl⟩
        rw [HCL.out]
        go_wp2
        go_ret2
        exact ⟨by rw [hf.out]; rfl, hb⟩
      · have hf := Lib.hid (show textG g = (gpsT g, true) by rw [HT2.out, if_pos (by omega)])
        go_wp2_with fail
        refine (Tryz.Builder_Len w.heap.size w1.heap.size _ _ hbd).mono ?_
        rintro e w2 ⟨rfl, rfl⟩
        rw [HCL.out]
        go_wp2_with fail
        refine (Tryz.Builder_String_any w.heap.size w1.heap.size _ _ hbd hb.size).mono ?_
        rintro e w3 ⟨rfl, b3⟩
        go_wp2
        go_ret2
        exact ⟨by rw [hf.out]; rfl, hb.trans b3⟩

end Go.Proofs.YtkamenidgkjodaaGreatDoor

namespace Go.Proofs.YtkamenidgkjodaaGreatDoor
open Go.RowKit Go.ChangeShapes Go.WideShapes M

theorem l5Shown_still (sign s : ByteArray) (w : World) (h2 : sign.size = 1) (h1 : 1 ≤ s.size) (hs : s.size ≤ 30) :
    Calls Tryz.prog 73 #[.string sign, .string s] w fun e w' => e = .returned (.string (showB sign s)) ∧ w' = w :=
  (l5Shown_any sign s w h2 h1 hs).mono fun e w' ⟨h1, h2⟩ => ⟨h1, h2.symm⟩
theorem l7Sign_still (k : Nat) (h1 : 1 ≤ k) (h3 : k ≤ 3) (w : World) :
    Calls Tryz.prog 74 #[.int .i64 (k : Int)] w fun e w' => e = .returned (.string (sgnB k)) ∧ w' = w :=
  (l7Sign_any k h1 h3 w).mono fun e w' ⟨h1, h2⟩ => ⟨h1, h2.symm⟩

set_option maxHeartbeats 4000000 in
set_option maxRecDepth 100000 in
theorem l7Text_any (a : Option Addr) (n c : Nat) (g : List Gp) (w : World) (hg : Gps w a n g) (hgg : goodG g = true) :
    Calls Tryz.prog 36 #[.slice a n c] w fun e w' => e = .returned (.string (bs (gpsT g))) ∧ Below w.heap.size w w' := by
  have HN := Lib.hid hg.len
  have HALL := Lib.hid (goodG_parts hgg).2.2
  have hn20 : n ≤ 20 := by rw [← hg.len]; exact (goodG_parts hgg).1
  have HLEN := Lib.hid (gpsT_take hgg)
  clear hgg
  go_enter Tryz.func36, Tryz.ntmps36
  go_wp2
  go_loopw [3, 10] (fun t i w' => ∃ j : Nat, i = .int .i64 j ∧ j ≤ n ∧ t = .string (bs (gpsT (g.take j))) ∧ Below w.heap.size w w') (fun _ i _ => n - (intOf i).toNat)
  case atStart => exact ⟨0, rfl, by omega, rfl, Below.refl _ _⟩
  case round =>
    obtain ⟨j, rfl, hj, rfl, hb⟩ := hrel
    by_cases hlt : j < n
    · obtain ⟨b, off, A, m, c', x, rfl, hx, c0, c1, c2, hr, hmc, hok⟩ := (hg.below hb).at_ hlt
      have HX := Lib.hid (HALL.out x (List.mem_of_getElem? hx))
      have HSN := Lib.hid (show gpsT (g.take (j + 1)) = gpsT (g.take j) ++ gpT x by rw [take_snoc hx, gpsT_snoc])
      obtain ⟨Aa, T, m3, m2, eA, eT, e3, e2, hA, hT, h3, h2, h80, hh⟩ := group_nums HX.out
      have HML := Lib.hid hr.len
      have hm80 : m ≤ 80 := by rw [← hr.len]; exact h80
      have HLINE := Lib.hid (groupB_line HX.out)
      have HLJ := Lib.hid (HLEN.out j)
      rw [eA] at c0
      rw [eT] at c1
      have H3 := Lib.hid e3
      have H2 := Lib.hid e2
      have HEA := Lib.hid eA
      have HET := Lib.hid eT
      obtain ⟨W, HW⟩ : ∃ W, Hid (W = wr.alloc (.cells #[.int .i64 (Aa : Int), .int .i64 (T : Int), .slice A m c'] 60)) := ⟨_, rfl⟩
      have HB := Lib.hid (show Below wr.heap.size wr W by rw [HW.out]; exact below_alloc _ _)
      have k0 : W.cell? ⟨wr.heap.size, 0, none⟩ = some (.int .i64 (Aa : Int)) := by rw [HW.out]; simp
      have k1 : W.cell? ⟨wr.heap.size, 1, none⟩ = some (.int .i64 (T : Int)) := by rw [HW.out]; simp
      have k2 : W.cell? ⟨wr.heap.size, 2, none⟩ = some (.slice A m c') := by rw [HW.out]; simp
      have HR := Lib.hid (hr.below HB.out)
      have HBB := Lib.hid (hb.next HB.out)
      obtain ⟨C1, HC1⟩ : ∃ C, Hid (bs (countT Aa m3) = C) := ⟨_, rfl⟩
      obtain ⟨C2, HC2⟩ : ∃ C, Hid (bs (countT T m2) = C) := ⟨_, rfl⟩
      obtain ⟨T0, HT0⟩ : ∃ T0, Hid (bs (gpsT (g.take j)) = T0) := ⟨_, rfl⟩
      have z1 : C1.size ≤ 9 := by rw [← HC1.out, bs_size]; exact countT_len hA (by omega)
      have z2 : C2.size ≤ 9 := by rw [← HC2.out, bs_size]; exact countT_len hT (by omega)
      have z0 : T0.size ≤ 64000 := by rw [← HT0.out, bs_size]; exact HLJ.out
      have y1 : (9223372036854775807 < 4 + C1.size) = False := eq_false (by omega)
      have y2 : (9223372036854775807 < 4 + C1.size + 2) = False := eq_false (by omega)
      have y3 : (9223372036854775807 < 4 + C1.size + 2 + C2.size) = False := eq_false (by omega)
      have y4 : (9223372036854775807 < 4 + C1.size + 2 + C2.size + 4) = False := eq_false (by omega)
      have y5 : (9223372036854775807 < T0.size + (4 + C1.size + 2 + C2.size + 4)) = False := eq_false (by omega)
      obtain ⟨K, HK⟩ : ∃ K : List UInt8, Hid (K = gpsT (g.take j) ++ (gpHead x ++ [10])) := ⟨_, Lib.hid rfl⟩
      have HATS := Lib.hid (show T0 ++ ((⟨#[64, 64, 32, 45]⟩ : ByteArray) ++ C1 ++ ⟨#[32, 43]⟩ ++ C2 ++ ⟨#[32, 64, 64, 10]⟩) = bs K by
        rw [HK.out, hh, ← HT0.out, ← HC1.out, ← HC2.out]
        simp only [add_bs, bs_list]
        unfold headT
        simp)
      have HKL := Lib.hid (show K.length ≤ 64100 by
        rw [HK.out, hh]
        have h1 := HLJ.out
        have h2 := headT_len (a := Aa) (n := m3) (t := T) (m := m2) hA (by omega) hT (by omega)
        simp only [List.length_append, List.length_singleton]; omega)
      rw [HT0.out]
      clear hx hok h80 hr eA eT e3 e2 hh hb
      go_wp2
      rw [← HW.out]
      go_region_held3 (fun w' => w'.cell? ⟨wr.heap.size, 0, none⟩ = some (.int .i64 (Aa : Int)) ∧ w'.cell? ⟨wr.heap.size, 1, none⟩ = some (.int .i64 (T : Int)) ∧ w'.cell? ⟨wr.heap.size, 2, none⟩ = some (.slice A m c')) (first | with_reducible exact ⟨k0, k1, k2⟩ | with_reducible exact ⟨cell_keep B3.out k0, cell_keep B3.out k1, cell_keep B3.out k2⟩ | with_reducible exact ⟨cell_keep B4.out k0, cell_keep B4.out k1, cell_keep B4.out k2⟩ | with_reducible exact ⟨cell_keep B5.out k0, cell_keep B5.out k1, cell_keep B5.out k2⟩ | with_reducible exact ⟨cell_keep B6.out k0, cell_keep B6.out k1, cell_keep B6.out k2⟩ | go_keep)
        (first
          | (go_at_call 71; refine (l6Old_any A m c' ⟨(Aa : Int), (T : Int), x.rows⟩ W.drew (HR.out.below (Below.refl _ W).drew) (by omega)).mono ?_; rintro e w3 ⟨v3, rfl, o3, b3⟩
             obtain ⟨A3, k3, rfl, hk3, _⟩ := o3.form H3.out
             have B3 := Lib.hid (show Below W.heap.size W w3 from (Below.refl _ W).drew.next b3)
             clear o3 b3)
          | (go_at_call 50; with_reducible show Calls _ _ #[.int .i64 (Aa : Int), .int .i64 (m3 : Int)] _ _; refine (l4Count_any Aa m3 hA (by omega) w3).mono ?_; rintro e w4 ⟨rfl, b4⟩
             rw [HC1.out]
             have B4 := Lib.hid (show Below W.heap.size W w4 from B3.out.next b4)
             clear b4)
          | (go_at_call 72; refine (l6New_any A m c' ⟨(Aa : Int), (T : Int), x.rows⟩ w4 (HR.out.below B4.out) (by omega)).mono ?_; rintro e w5 ⟨v5, rfl, o5, b5⟩
             obtain ⟨A5, k5, rfl, hk5, _⟩ := o5.form H2.out
             have B5 := Lib.hid (show Below W.heap.size W w5 from B4.out.next b5)
             clear o5 b5)
          | (go_at_call 50; refine (l4Count_any T m2 hT (by omega) w5).mono ?_; rintro e w6 ⟨rfl, b6⟩
             rw [HC2.out]
             have B6 := Lib.hid (show Below W.heap.size W w6 from B5.out.next b6)
             clear b6)
          | fail)
      replace k2 := cell_keep B6.out k2
      have HR6 := Lib.hid (HR.out.below B6.out)
      have HB6 := Lib.hid (HBB.out.next B6.out)
      clear y1 y2 y3 y4 y5 k0 k1
      go_wp2
      go_loopw [3, 35] (fun t i w' => ∃ k : Nat, i = .int .i64 k ∧ k ≤ m ∧ t = .string (bs (K ++ rowsT (x.rows.take k))) ∧ Below w.heap.size w w' ∧ Below w6.heap.size w6 w') (fun _ i _ => m - (intOf i).toNat)
      case atStart => exact ⟨0, rfl, by omega, congrArg Value.string (by rw [List.take_zero, rowsT_nil, List.append_nil]; exact HATS.out), HB6.out, Below.refl _ _⟩
      case round =>
        obtain ⟨k, rfl, hk, rfl, hb, hb6⟩ := hrel
        by_cases hlk : k < m
        · obtain ⟨b', off', y, rfl, hy, d0, d1, hyo⟩ := (HR6.out.below hb6).at_ hlk
          obtain ⟨y1, y2, y3⟩ := HLINE.out y (List.mem_of_getElem? hy)
          obtain ⟨y4, y5⟩ := lineB_size y1
          obtain ⟨kk, hkk⟩ := Int.eq_ofNat_of_zero_le (show 0 ≤ y.kind by omega)
          obtain ⟨U, HU⟩ : ∃ U, Hid (bs (K ++ rowsT (x.rows.take k)) = U) := ⟨_, rfl⟩
          obtain ⟨V, HV⟩ : ∃ V, Hid (showB (sgnB kk) y.line = V) := ⟨_, rfl⟩
          have zu : U.size ≤ 70000 := by
            rw [← HU.out, bs_size]
            have h1 := HKL.out
            have h3 := rowsT_len (l := x.rows.take k) (fun z hz => (lineB_size (HLINE.out z (List.mem_of_mem_take hz)).1).2)
            have h4 : (x.rows.take k).length ≤ k := by simp; omega
            simp only [List.length_append]; omega
          have zv : V.size ≤ 39 := by rw [← HV.out, ← hkk, showB_row, bs_size]; exact rowT_len y5
          have yy : (9223372036854775807 < U.size + V.size) = False := eq_false (by omega)
          have HRN := Lib.hid (show U ++ V = bs (K ++ rowsT (x.rows.take (k + 1))) by
            rw [← HU.out, ← HV.out, ← hkk, take_snoc hy, rowsT_snoc, showB_row, bs_app, List.append_assoc])
          rw [hkk] at d0
          rw [HU.out]
          obtain ⟨W2, HW2⟩ : ∃ W2, Hid (W2 = wr.alloc (.cells #[.int .i64 (kk : Int), .string y.line] 62)) := ⟨_, rfl⟩
          have hB2 := Lib.hid (show Below wr.heap.size wr W2 by rw [HW2.out]; exact below_alloc _ _)
          have e0 : W2.cell? ⟨wr.heap.size, 0, none⟩ = some (.int .i64 (kk : Int)) := by rw [HW2.out]; simp
          have e1 : W2.cell? ⟨wr.heap.size, 1, none⟩ = some (.string y.line) := by rw [HW2.out]; simp
          have q1 : 1 ≤ kk := by omega
          have q3 : kk ≤ 3 := by omega
          have BB := Lib.hid (hb.next hB2.out)
          have BB6 := Lib.hid (hb6.next hB2.out)
          clear hy hyo y1 y2 y3 hkk hb hb6
          go_wp2
          rw [← HW2.out]
          go_region_held3 (fun w' => w' = W2.drew) (first | with_reducible rfl | go_keep)
            (first
              | (go_at_call 74; refine (l7Sign_still kk q1 q3 _).mono ?_; rintro e w7 ⟨rfl, rfl⟩)
              | (go_at_call 73; refine (l5Shown_still (sgnB kk) y.line _ rfl y4 y5).mono ?_; rintro e w8 ⟨rfl, rfl⟩; rw [HV.out])
              | fail)
          go_wp2
          go_roundw
          case rel => exact ⟨k + 1, by go_num, by omega, congrArg Value.string HRN.out, BB.out.drew, BB6.out.drew⟩
          case measure => simp [intOf]; omega
        · have hfk := Lib.hid (show x.rows.take k = x.rows from List.take_of_length_le (by rw [HML.out]; omega))
          have HFIN := Lib.hid (show bs (K ++ rowsT x.rows) = bs (gpsT (g.take (j + 1))) by rw [HSN.out, HK.out, gpT, List.append_assoc])
          rw [hfk.out]
          go_wp2
          go_roundw
          case rel => exact ⟨j + 1, by go_num, by omega, congrArg Value.string HFIN.out, hb⟩
          case measure => simp [intOf]; omega
    · have htk : g.take j = g := List.take_of_length_le (by rw [HN.out]; omega)
      rw [htk]
      go_wp2
      go_ret
      exact ⟨rfl, hb⟩

end Go.Proofs.YtkamenidgkjodaaGreatDoor

namespace Go.Proofs.YtkamenidgkjodaaGreatDoor
open Go.RowKit Go.ChangeShapes Go.WideShapes M

set_option maxHeartbeats 1000000 in
theorem specGroupsText_any (a : Option Addr) (n c : Nat) (g : List Gp) (w : World) (hg : Gps w a n g) (hsm : ∀ x ∈ g, x.rows.length ≤ 1048576) :
    Calls Tryz.prog 9 #[.slice a n c] w fun e w' => e = .returned (.tuple #[.string (bs (textG g).1), .bool (textG g).2]) ∧ Below w.heap.size w w' := by
  cases hgg : goodG g
  · have hf := Lib.hid (show textG g = ([], false) by unfold textG; rw [hgg]; simp)
    have HGG := Lib.hid hgg
    clear hgg
    go_enter Tryz.func9, Tryz.ntmps9
    go_wp2_with fail
    refine (l6Good_any a n c g _ hg hsm).mono ?_
    rintro e w1 ⟨rfl, b1⟩
    rw [HGG.out]
    go_wp2
    go_ret2
    exact ⟨by rw [hf.out]; rfl, b1⟩
  · have HGG := Lib.hid hgg
    have HT2 := Lib.hid (text_two hgg)
    obtain ⟨T, HT⟩ : ∃ T, Hid (bs (gpsT g) = T) := ⟨_, rfl⟩
    have HSZ := Lib.hid (show T.size = (gpsT g).length by rw [← HT.out, bs_size])
    have hle : T.size ≤ 64000 := by rw [HSZ.out]; exact gpsT_all hgg
    clear hgg
    by_cases h3 : 3000 < T.size
    · have hf := Lib.hid (show textG g = ([], false) by rw [HT2.out, if_neg (by have := HSZ.out; omega)])
      go_enter Tryz.func9, Tryz.ntmps9
      go_wp2_with fail
      refine (l6Good_any a n c g _ hg hsm).mono ?_
      rintro e w1 ⟨rfl, b1⟩
      rw [HGG.out]
      go_wp2_with fail
      refine (l7Text_any a n c g _ (hg.below b1) HGG.out).mono ?_
      rintro e w2 ⟨rfl, b2⟩
      rw [HT.out]
      go_wp2
      go_ret2
      exact ⟨by rw [hf.out]; rfl, b1.next b2⟩
    · have hf := Lib.hid (show textG g = (gpsT g, true) by rw [HT2.out, if_pos (by have := HSZ.out; omega)])
      go_enter Tryz.func9, Tryz.ntmps9
      go_wp2_with fail
      refine (l6Good_any a n c g _ hg hsm).mono ?_
      rintro e w1 ⟨rfl, b1⟩
      rw [HGG.out]
      go_wp2_with fail
      refine (l7Text_any a n c g _ (hg.below b1) HGG.out).mono ?_
      rintro e w2 ⟨rfl, b2⟩
      rw [HT.out]
      go_wp2_with fail
      refine (l7Text_any a n c g _ ((hg.below b1).below b2) HGG.out).mono ?_
      rintro e w3 ⟨rfl, b3⟩
      rw [HT.out]
      go_wp2
      go_ret2
      exact ⟨by rw [hf.out, ← HT.out]; rfl, (b1.next b2).next b3⟩

def unifT (l : List ByteArray) (hs : List Hk) (W : Int) : List UInt8 × Bool := if (groupsOf l hs W).2 = true then textG (groupsOf l hs W).1 else ([], false)
theorem groupsOf_rows (l : List ByteArray) (hs : List Hk) (W : Int) : ∀ x ∈ (groupsOf l hs W).1, x.rows.length ≤ 1048576 := fun x hx => by
  have h1 := totalG_mem hx
  have h2 := groupsOf_len l hs W
  unfold bulkG at h1
  omega
theorem unifT_len (l : List ByteArray) (hs : List Hk) (W : Int) : (unifT l hs W).1.length ≤ 3000 := by
  unfold unifT
  split
  · exact textG_len _
  · simp

set_option maxHeartbeats 1000000 in
theorem specUnifiedText_any (a : Option Addr) (nl cl : Nat) (l : List ByteArray) (b0 : Option Addr) (n c : Nat) (hs : List Hk) (Wi : Int) (w : World) (hl : Strs w a nl l) (hcl : nl ≤ cl) (hh : Hks w b0 n hs) (hc : n ≤ c) (hnew : ∀ x ∈ hs, x.new.length ≤ 1048576) (hnl : nl ≤ 1048576) :
    Calls Tryz.prog 18 #[.slice a nl cl, .slice b0 n c, .int .i64 Wi] w fun e w' => e = .returned (.tuple #[.string (bs (unifT l hs Wi).1), .bool (unifT l hs Wi).2]) ∧ Below w.heap.size w w' := by
  have hsm := groupsOf_rows l hs Wi
  obtain ⟨P, ok, HP⟩ : ∃ P ok, Hid (groupsOf l hs Wi = (P, ok)) := ⟨_, _, rfl⟩
  have HNT := Lib.hid (show unifT l hs Wi = if ok = true then textG P else ([], false) by unfold unifT; rw [HP.out])
  rw [HP.out] at hsm
  have HSM := Lib.hid hsm
  obtain ⟨q, HQ⟩ : ∃ q, Hid (P.length = q) := ⟨_, rfl⟩
  clear hsm
  cases ok
  · have hf := Lib.hid (show unifT l hs Wi = ([], false) by rw [HNT.out]; rfl)
    go_enter Tryz.func18, Tryz.ntmps18
    go_wp2_with fail
    refine (specGroupsOf_any a nl cl l b0 n c hs Wi _ hl hcl hh hc hnew hnl).mono ?_
    rintro e w1 ⟨v, vs, rfl, o1, b1⟩
    rw [HP.out] at o1 ⊢
    dsimp only at o1 ⊢
    go_wp2
    go_ret2
    exact ⟨by rw [hf.out]; rfl, b1⟩
  · have hf := Lib.hid (show unifT l hs Wi = textG P by rw [HNT.out]; rfl)
    go_enter Tryz.func18, Tryz.ntmps18
    go_wp2_with fail
    refine (specGroupsOf_any a nl cl l b0 n c hs Wi _ hl hcl hh hc hnew hnl).mono ?_
    rintro e w1 ⟨v, vs, rfl, o1, b1⟩
    rw [HP.out] at o1 ⊢
    dsimp only at o1 ⊢
    obtain ⟨A1, c1, rfl, h11, h12⟩ := o1.form HQ.out
    go_wp2_with fail
    refine (specGroupsText_any A1 q c1 P _ o1.gps HSM.out).mono ?_
    rintro e w2 ⟨rfl, b2⟩
    go_wp2
    go_ret2
    exact ⟨by rw [hf.out]; rfl, b1.next b2⟩

set_option maxHeartbeats 1000000 in
theorem implUnifiedText_any (a : Option Addr) (nl cl : Nat) (l : List ByteArray) (b0 : Option Addr) (n c : Nat) (hs : List Hk) (Wi : Int) (w : World) (hl : Strs w a nl l) (hcl : nl ≤ cl) (hh : Hks w b0 n hs) (hc : n ≤ c) (hnl : nl ≤ 1048576) (hv : Tab w) (hsg : Sgn w) :
    Calls Tryz.prog 17 #[.slice a nl cl, .slice b0 n c, .int .i64 Wi] w fun e w' => e = .returned (.tuple #[.string (bs (unifT l hs Wi).1), .bool (unifT l hs Wi).2]) ∧ Below w.heap.size w w' := by
  obtain ⟨P, ok, HP⟩ : ∃ P ok, Hid (groupsOf l hs Wi = (P, ok)) := ⟨_, _, rfl⟩
  have HNT := Lib.hid (show unifT l hs Wi = if ok = true then textG P else ([], false) by unfold unifT; rw [HP.out])
  obtain ⟨q, HQ⟩ : ∃ q, Hid (P.length = q) := ⟨_, rfl⟩
  have HV := Lib.hid hv
  have HS := Lib.hid hsg
  clear hv hsg
  cases ok
  · have hf := Lib.hid (show unifT l hs Wi = ([], false) by rw [HNT.out]; rfl)
    go_enter Tryz.func17, Tryz.ntmps17
    go_wp2_with fail
    refine (implGroupsOf_any a nl cl l b0 n c hs Wi _ hl hcl hh hc hnl).mono ?_
    rintro e w1 ⟨v, vs, rfl, o1, b1⟩
    rw [HP.out] at o1 ⊢
    dsimp only at o1 ⊢
    go_wp2
    go_ret2
    exact ⟨by rw [hf.out]; rfl, b1⟩
  · have hf := Lib.hid (show unifT l hs Wi = textG P by rw [HNT.out]; rfl)
    go_enter Tryz.func17, Tryz.ntmps17
    go_wp2_with fail
    refine (implGroupsOf_any a nl cl l b0 n c hs Wi _ hl hcl hh hc hnl).mono ?_
    rintro e w1 ⟨v, vs, rfl, o1, b1⟩
    rw [HP.out] at o1 ⊢
    dsimp only at o1 ⊢
    obtain ⟨A1, c1, rfl, h11, h12⟩ := o1.form HQ.out
    go_wp2_with fail
    refine (implGroupsText_any A1 q c1 P _ o1.gps (HV.out.below b1) (HS.out.below b1)).mono ?_
    rintro e w2 ⟨rfl, b2⟩
    go_wp2
    go_ret2
    exact ⟨by rw [hf.out]; rfl, b1.next b2⟩

end Go.Proofs.YtkamenidgkjodaaGreatDoor
