/-
  Pieces of the text of steps: numbers, letters, shown lines; the model's and the program's.
-/
import Derived.Test.YtnnaigoomipklaaDoorOkSTxtB
import Derived.Test.YtnnaigoomipklaaDoorOkSBld
import Derived.Test.YtnnaigoomipklaaDoorOkSGoods
import Derived.Test.YtnnaigoomipklaaDoorOkNSpecs
set_option linter.unusedSimpArgs false
set_option linter.unusedVariables false
namespace Go.Proofs.YtnnaigoomipklaaDoor
open Go.RowKit M

theorem add_bs (a b : ByteArray) : a ++ b = bs (a.data.toList ++ b.data.toList) := by apply ByteArray.ext; simp [bs]
/-- A line that is shown, as a text. -/
def showB (sign s : ByteArray) : ByteArray := bs (showT sign.data.toList s.data.toList)
theorem ends_same (s : ByteArray) : endsL s.data.toList = endsB s := rfl
theorem showB_yes {sign s : ByteArray} (h : endsB s = true) : sign ++ s = showB sign s := by
  unfold showB; rw [showT_eq, ends_same, h, if_pos rfl, add_bs]
theorem showB_no {sign s : ByteArray} (h : endsB s = false) : sign ++ s ++ (⟨#[10]⟩ : ByteArray) ++ ⟨#[92, 32, 110, 111, 110, 101, 10]⟩ = showB sign s := by
  unfold showB; rw [showT_eq, ends_same, h, if_neg (by simp), add_bs, add_bs, add_bs, bs_list, bs_list]; rfl
theorem showB_no2 {sign s : ByteArray} (h : endsB s = false) : sign ++ s ++ (⟨#[10, 92, 32, 110, 111, 110, 101, 10]⟩ : ByteArray) = showB sign s := by
  unfold showB; rw [showT_eq, ends_same, h, if_neg (by simp), add_bs, add_bs, bs_list]; simp [noneL]
theorem showB_size {sign s : ByteArray} (h2 : sign.size = 2) (h : s.size ≤ 30) : (showB sign s).size ≤ 40 := by
  unfold showB; rw [bs_size]; exact showT_len (by simpa using h2) h

set_option maxHeartbeats 1000000 in
theorem shownLine_any (sign s : ByteArray) (w : World) (h2 : sign.size = 2) (hs : s.size ≤ 30) :
    Calls Tryd.prog 102 #[.string sign, .string s] w fun e w' => e = .returned (.string (showB sign s)) ∧ w = w' := by
  have hm : s.size ≤ maxLen := by unfold maxLen; omega
  cases h : endsB s
  · have HE := Lib.hid h
    clear h
    go_enter Tryd.func102, Tryd.ntmps102
    go_wp2_with (go_at_call 107; refine (hasEnd_any s _ hm).mono ?_; rintro e w' ⟨rfl, rfl⟩; rw [HE.out])
    go_ret
    exact ⟨ret_str (showB_no HE.out), rfl⟩
  · have HE := Lib.hid h
    clear h
    go_enter Tryd.func102, Tryd.ntmps102
    go_wp2_with (go_at_call 107; refine (hasEnd_any s _ hm).mono ?_; rintro e w' ⟨rfl, rfl⟩; rw [HE.out])
    go_ret
    exact ⟨ret_str (showB_yes HE.out), rfl⟩
set_option maxHeartbeats 1000000 in
theorem l5Shown_any (sign s : ByteArray) (w : World) (h2 : sign.size = 2) (h1 : 1 ≤ s.size) (hs : s.size ≤ 30) :
    Calls Tryd.prog 73 #[.string sign, .string s] w fun e w' => e = .returned (.string (showB sign s)) ∧ w = w' := by
  have hm : s.size ≤ maxLen := by unfold maxLen; omega
  cases h : endsB s
  · have HE := Lib.hid h
    clear h
    go_enter Tryd.func73, Tryd.ntmps73
    go_wp2_with (go_at_call 99; refine (l1Ends_any s _ hm h1).mono ?_; rintro e w' ⟨rfl, rfl⟩; rw [HE.out])
    go_ret
    exact ⟨ret_str (showB_no2 HE.out), rfl⟩
  · have HE := Lib.hid h
    clear h
    go_enter Tryd.func73, Tryd.ntmps73
    go_wp2_with (go_at_call 99; refine (l1Ends_any s _ hm h1).mono ?_; rintro e w' ⟨rfl, rfl⟩; rw [HE.out])
    go_ret
    exact ⟨ret_str (showB_yes HE.out), rfl⟩

set_option maxHeartbeats 1000000 in
theorem l5Numbers_any (a b : Nat) (ha : a ≤ 1000) (hb : b ≤ 1000) (w : World) :
    Calls Tryd.prog 53 #[.int .i64 (a : Int), .int .i64 (b : Int)] w fun e w' => e = .returned (.string (bs (numsL a b))) ∧ Below w.heap.size w w' := by
  have hR := dec_room a b (by omega) (by omega)
  by_cases h : a = b
  · have H := Lib.hid (show numsL a b = Lib.decDigits a by unfold numsL; rw [if_pos h])
    have hq : ((a : Int) == (b : Int)) = true := by simp [h]
    clear h
    go_enter Tryd.func53, Tryd.ntmps53
    go_wp2_with (go_at_call 82; refine (l1Num_any a (by omega) _).mono ?_; rintro e w1 ⟨rfl, b1⟩)
    go_ret
    exact ⟨ret_str (by rw [H.out]), b1⟩
  · have H := Lib.hid (show numsL a b = Lib.decDigits a ++ 44 :: Lib.decDigits b by unfold numsL; rw [if_neg h])
    have hq : ((a : Int) == (b : Int)) = false := by simp; omega
    have hT : bs (Lib.decDigits a) ++ (⟨#[44]⟩ : ByteArray) ++ bs (Lib.decDigits b) = bs (numsL a b) := by
      rw [H.out, show (⟨#[44]⟩ : ByteArray) = bs [44] from rfl, bs_app, bs_app]; simp
    have HT := Lib.hid hT
    clear h hT
    go_enter Tryd.func53, Tryd.ntmps53
    go_wp2_with fail
    refine (l1Num_any a (by omega) _).mono ?_
    rintro e w1 ⟨rfl, b1⟩
    go_wp2_with fail
    refine (l1Num_any b (by omega) _).mono ?_
    rintro e w2 ⟨rfl, b2⟩
    go_wp2
    go_ret
    exact ⟨ret_str HT.out, b1.next b2⟩

set_option maxHeartbeats 1000000 in
theorem numbersText_any (a b : Nat) (ha : a ≤ 1000) (hb : b ≤ 1000) (w : World) (hv : Tab w) :
    Calls Tryd.prog 58 #[.int .i64 (a : Int), .int .i64 (b : Int)] w fun e w' => e = .returned (.string (bs (numsL a b))) ∧ Below w.heap.size w w' := by
  have hR := dec_room a b (by omega) (by omega)
  have HV := Lib.hid hv
  clear hv
  by_cases h : a = b
  · have H := Lib.hid (show numsL a b = Lib.decDigits a by unfold numsL; rw [if_pos h])
    have hq : ((b : Int) != (a : Int)) = false := by simp [h]
    clear h
    go_enter Tryd.func58, Tryd.ntmps58
    go_wp2_with fail
    refine (Itoa_any a (by omega) _ HV.out).mono ?_
    rintro e w1 ⟨rfl, b1⟩
    go_wp2
    go_ret
    exact ⟨ret_str (by rw [H.out]), b1⟩
  · have H := Lib.hid (show numsL a b = Lib.decDigits a ++ 44 :: Lib.decDigits b by unfold numsL; rw [if_neg h])
    have hq : ((b : Int) != (a : Int)) = true := by simp; omega
    have hT : bs (Lib.decDigits a) ++ ((⟨#[44]⟩ : ByteArray) ++ bs (Lib.decDigits b)) = bs (numsL a b) := by rw [H.out, comma_text]
    have HT := Lib.hid hT
    clear h hT
    go_enter Tryd.func58, Tryd.ntmps58
    go_wp2_with fail
    refine (Itoa_any a (by omega) _ HV.out).mono ?_
    rintro e w1 ⟨rfl, b1⟩
    go_wp2_with fail
    refine (Itoa_any b (by omega) _ (HV.out.below b1)).mono ?_
    rintro e w2 ⟨rfl, b2⟩
    go_wp2
    go_ret
    exact ⟨ret_str HT.out, b1.next b2⟩

set_option maxHeartbeats 1000000 in
theorem numbers_any (a b : Nat) (A : Option Addr) (n c : Nat) (ha : a ≤ 1000) (hb : b ≤ 1000) (w : World) (hv : Tab w) :
    Calls Tryd.prog 75 #[.agg #[.int .i64 (a : Int), .int .i64 (b : Int), .slice A n c]] w fun e w' => e = .returned (.string (bs (numsL a b))) ∧ Below w.heap.size w w' := by
  obtain ⟨W, HW⟩ : ∃ W, Hid (W = w.alloc (.cells #[.int .i64 (a : Int), .int .i64 (b : Int), .slice A n c] 86)) := ⟨_, rfl⟩
  have HB := Lib.hid (show Below w.heap.size w W by rw [HW.out]; exact below_alloc w _)
  have k0 : W.cell? ⟨w.heap.size, 0, none⟩ = some (.int .i64 (a : Int)) := by rw [HW.out]; simp
  have k1 : W.cell? ⟨w.heap.size, 1, none⟩ = some (.int .i64 (b : Int)) := by rw [HW.out]; simp
  have HV := Lib.hid (hv.below HB.out)
  clear hv
  go_enter Tryd.func75, Tryd.ntmps75
  go_wp2_with fail
  try rw [← HW.out]
  refine (numbersText_any a b ha hb _ HV.out).mono ?_
  rintro e w1 ⟨rfl, b1⟩
  go_wp2
  go_ret
  exact ⟨rfl, HB.out.next b1⟩

/-- The letter of a step, as a text. -/
def wordB (x : Sp) : ByteArray := bs [wordL x]
set_option maxHeartbeats 1000000 in
theorem letter_any (x : Sp) (A : Option Addr) (m c : Nat) (B : Option Addr) (m2 d : Nat) (w : World) (hl : x.old.length = m) (hl2 : x.new.length = m2) :
    Calls Tryd.prog 76 #[sidesV x A m c B m2 d] w fun e w' => e = .returned (.string (wordB x)) ∧ Below w.heap.size w w' := by
  unfold sidesV
  obtain ⟨W, HW⟩ : ∃ W, Hid (W = w.alloc (.cells #[.int .i64 x.fr, .int .i64 x.to_, .slice A m c, .int .i64 x.at_, .int .i64 x.en, .slice B m2 d] 91)) := ⟨_, rfl⟩
  have HB := Lib.hid (show Below w.heap.size w W by rw [HW.out]; exact below_alloc w _)
  have k3 : W.cell? ⟨w.heap.size, 3, none⟩ = some (.int .i64 x.at_) := by rw [HW.out]; simp
  have k4 : W.cell? ⟨w.heap.size, 4, none⟩ = some (.int .i64 x.en) := by rw [HW.out]; simp
  have k5 : W.cell? ⟨w.heap.size, 5, none⟩ = some (.slice B m2 d) := by rw [HW.out]; simp
  by_cases h1 : m = 0
  · have hf := Lib.hid (show wordB x = ⟨#[97]⟩ by unfold wordB wordL; rw [if_pos (by rw [hl]; exact h1)]; rfl)
    have q1 : decide (0 < m) = false := by simp [h1]
    clear h1
    go_enter Tryd.func76, Tryd.ntmps76
    go_wp2_with fail
    rw [← HW.out]
    refine (takesAway_any x.fr x.to_ A m c _).mono ?_
    rintro e w1 ⟨rfl, b1⟩
    rw [q1]
    go_wp2
    go_ret
    exact ⟨ret_str hf.out.symm, HB.out.next b1⟩
  · have q1 : decide (0 < m) = true := by simp; omega
    by_cases h2 : m2 = 0
    · have hf := Lib.hid (show wordB x = ⟨#[100]⟩ by unfold wordB wordL; rw [if_neg (by rw [hl]; exact h1), if_pos (by rw [hl2]; exact h2)]; rfl)
      have q2 : decide (0 < m2) = false := by simp [h2]
      clear h1 h2
      go_enter Tryd.func76, Tryd.ntmps76
      go_wp2_with fail
      rw [← HW.out]
      refine (takesAway_any x.fr x.to_ A m c _).mono ?_
      rintro e w1 ⟨rfl, b1⟩
      replace k3 := cell_keep b1 k3
      replace k4 := cell_keep b1 k4
      replace k5 := cell_keep b1 k5
      rw [q1]
      go_wp2_with fail
      refine (brings_any x.at_ x.en B m2 d _).mono ?_
      rintro e w2 ⟨rfl, b2⟩
      rw [q2]
      go_wp2
      go_ret
      exact ⟨ret_str hf.out.symm, (HB.out.next b1).next b2⟩
    · have hf := Lib.hid (show wordB x = ⟨#[99]⟩ by unfold wordB wordL; rw [if_neg (by rw [hl]; exact h1), if_neg (by rw [hl2]; exact h2)]; rfl)
      have q2 : decide (0 < m2) = true := by simp; omega
      clear h1 h2
      go_enter Tryd.func76, Tryd.ntmps76
      go_wp2_with fail
      rw [← HW.out]
      refine (takesAway_any x.fr x.to_ A m c _).mono ?_
      rintro e w1 ⟨rfl, b1⟩
      replace k3 := cell_keep b1 k3
      replace k4 := cell_keep b1 k4
      replace k5 := cell_keep b1 k5
      rw [q1]
      go_wp2_with fail
      refine (brings_any x.at_ x.en B m2 d _).mono ?_
      rintro e w2 ⟨rfl, b2⟩
      rw [q2]
      go_wp2
      go_ret
      exact ⟨ret_str hf.out.symm, (HB.out.next b1).next b2⟩

set_option maxHeartbeats 1000000 in
theorem shown_any (x y : Int) (sign : ByteArray) (a : Option Addr) (n c : Nat) (l : List ByteArray) (w : World) (hl : Strs w a n l) (h2 : sign.size = 2) (hg : goodB l = true) :
    Calls Tryd.prog 79 #[.agg #[.int .i64 x, .int .i64 y, .slice a n c], .string sign] w fun e w' => e = .returned (.string (bs (sideT sign.data.toList l))) ∧ Below w.heap.size w w' := by
  have HL := Lib.hid hl.len
  have hn40 : n ≤ 40 := by rw [← hl.len]; exact goodB_len hg
  have HG := Lib.hid hg
  have hsl : sign.data.toList.length = 2 := by simpa using h2
  have HSL := Lib.hid hsl
  clear hg hsl
  obtain ⟨W, HW⟩ : ∃ W, Hid (W = (w.alloc (.cells #[.int .i64 x, .int .i64 y, .slice a n c] 86)).alloc (.cells #[.pointer none, .slice none 0 0] 58)) := ⟨_, rfl⟩
  have HB := Lib.hid (show Below w.heap.size w W by rw [HW.out]; exact (below_alloc w _).next (below_alloc _ _))
  have HBD := Lib.hid (show Bld W w.heap.size (w.heap.size + 1) [] by rw [HW.out]; have := Bld.new (w.alloc (.cells #[.int .i64 x, .int .i64 y, .slice a n c] 86)) w.heap.size (by simp); simpa using this)
  have HQ := Lib.hid (show W.heap[w.heap.size]? = some (.cells #[.int .i64 x, .int .i64 y, .slice a n c] 86 (0, 0)) by
    rw [HW.out, Below.heap_alloc _ _ _ (by simp)]; exact heap_alloc_new w _)
  have k2 : W.cell? ⟨w.heap.size, 2, none⟩ = some (.slice a n c) := by simp [World.cell?, HQ.out]
  go_enter Tryd.func79, Tryd.ntmps79
  go_wp2
  go_loopw [11] (fun i w' => ∃ j : Nat, i = .int .i64 j ∧ j ≤ n ∧ Bld w' w.heap.size (w.heap.size + 1) (sideT sign.data.toList (l.take j)) ∧ Below w.heap.size w w') (fun i _ => n - (intOf i).toNat)
  case atStart => exact ⟨0, rfl, by omega, by rw [← HW.out]; exact HBD.out, by rw [← HW.out]; exact HB.out⟩
  case round =>
    obtain ⟨j, rfl, hj, hbd, hb⟩ := hrel
    by_cases hlt : j < n
    · obtain ⟨b, off, s, rfl, hs, hsz, hc⟩ := (hl.below hb).at_ hlt
      have hline := lineB_size (good_lines HG.out s (List.mem_of_getElem? hs))
      have HSN := Lib.hid (show sideT sign.data.toList (l.take (j + 1)) = sideT sign.data.toList (l.take j) ++ (showB sign s).data.toList by
        have e : l.take (j + 1) = l.take j ++ [s] := by rw [List.take_add_one, hs]; rfl
        rw [e, sideT_snoc]; unfold showB; rw [bs_list])
      have HLN := Lib.hid (sideT_take HSL.out HG.out j)
      have HSZ := Lib.hid (showB_size (sign := sign) (s := s) h2 hline.2)
      clear hs hsz
      go_wp2_with fail
      refine (shownLine_any sign s _ h2 hline.2).mono ?_
      rintro e w1 ⟨rfl, rfl⟩
      go_wp2_with fail
      refine (WriteString_any w.heap.size (w.heap.size + 1) _ (showB sign s) _ hbd (by have := HLN.out; have := HSZ.out; omega) hb.size).mono ?_
      rintro e w2 ⟨⟨r, rfl⟩, hbd2, b2⟩
      go_wp2
      go_roundw
      case rel => exact ⟨j + 1, by go_num, by omega, by rw [HSN.out]; exact hbd2, hb.trans b2⟩
      case measure => simp [intOf]; omega
    · have hf := Lib.hid (show l.take j = l from List.take_of_length_le (by rw [HL.out]; omega))
      rw [hf.out] at hbd
      go_wp2_with fail
      refine (Tryd.Builder_String_any w.heap.size (w.heap.size + 1) _ _ hbd hb.size).mono ?_
      rintro e w2 ⟨rfl, b2⟩
      go_wp2
      go_ret
      exact ⟨rfl, hb.trans b2⟩

end Go.Proofs.YtnnaigoomipklaaDoor
