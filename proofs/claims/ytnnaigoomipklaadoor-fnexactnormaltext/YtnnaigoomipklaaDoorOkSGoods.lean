/-
  Good steps: the model's GoodSteps.
  Good steps: the program's GoodSteps.
  Good steps: the program's GoodSteps over whole lists, and the model's.
-/
import Derived.Test.YtnnaigoomipklaaDoorOkSMem
import Derived.Test.YtnnaigoomipklaaDoorOkGood
import Derived.StillTailTactics
import Derived.Test.YtnnaigoomipklaaDoorOkSMath
set_option linter.unusedSimpArgs false
set_option linter.unusedVariables false
namespace Go.Proofs.YtnnaigoomipklaaDoor
open Go.RowKit Go.ChangeShapes Go.WideShapes M

set_option maxHeartbeats 1000000 in
theorem l5Lines_any (a : Option Addr) (n c : Nat) (l : List ByteArray) (w : World) (hl : Strs w a n l) :
    Calls Tryd.prog 110 #[.slice a n c] w fun e w' => e = .returned (.bool (goodB l)) ∧ w = w' := by
  have hlim := hl.lim
  unfold maxLen at hlim
  have HL := Lib.hid hl.len
  go_enter Tryd.func110, Tryd.ntmps110
  go_wp2
  go_loop [7] (fun i => ∃ k : Nat, i = .int .i64 k ∧ k ≤ n ∧ Hid (∀ j s, j < k → l[j]? = some s → okAt l.length j s = true)) (fun i => n - (intOf i).toNat)
  case atStart => exact ⟨0, rfl, by omega, fun j s h => by omega⟩
  case round =>
    obtain ⟨k, rfl, hk, H⟩ := hrel
    by_cases hlt : k < n
    · obtain ⟨b, off, s, rfl, hs, hsz, hc⟩ := hl.at_ hlt
      have HS := Lib.hid hs
      clear hs
      by_cases h1 : lineB s = true
      · have hp := (lineB_size h1).1
        by_cases h2 : k + 1 < n
        · by_cases h3 : endsB s = true
          · have hstep := Lib.hid (show okAt l.length k s = true by simp [okAt, h1, h3])
            go_wp2_with (first | (go_at_call 103; refine (l1Line_any s _ hsz).mono ?_; rintro e w' ⟨rfl, rfl⟩) | (go_at_call 99; refine (l1Ends_any s _ hsz hp).mono ?_; rintro e w' ⟨rfl, rfl⟩))
            go_round
            case rel => exact ⟨k + 1, by go_num, by omega, step_ok H.out HS.out hstep.out⟩
            case measure => simp [intOf]; omega
          · have h3 : endsB s = false := by simpa using h3
            have hf := Lib.hid (goodB_bad HS.out (show okAt l.length k s = false by simp [okAt, h3, HL.out]; omega))
            go_wp2_with (first | (go_at_call 103; refine (l1Line_any s _ hsz).mono ?_; rintro e w' ⟨rfl, rfl⟩) | (go_at_call 99; refine (l1Ends_any s _ hsz hp).mono ?_; rintro e w' ⟨rfl, rfl⟩))
            go_ret
            exact ⟨ret_bool hf.out.symm, rfl⟩
        · have hd : decide ((k : Int) < (n : Int) - 1) = false := by simp; omega
          have hstep := Lib.hid (show okAt l.length k s = true by simp [okAt, h1, HL.out]; omega)
          go_wp2_with (first | (go_at_call 103; refine (l1Line_any s _ hsz).mono ?_; rintro e w' ⟨rfl, rfl⟩))
          go_round
          case rel => exact ⟨k + 1, by go_num, by omega, step_ok H.out HS.out hstep.out⟩
          case measure => simp [intOf]; omega
      · have h1 : lineB s = false := by simpa using h1
        have hf := Lib.hid (goodB_bad HS.out (show okAt l.length k s = false by simp [okAt, h1]))
        go_wp2_with (first | (go_at_call 103; refine (l1Line_any s _ hsz).mono ?_; rintro e w' ⟨rfl, rfl⟩))
        go_ret
        exact ⟨ret_bool hf.out.symm, rfl⟩
    · have hf := Lib.hid (all_ok H.out (by rw [HL.out]; omega))
      go_wp2
      go_ret
      exact ⟨ret_bool (by rw [hf.out, HL.out]; simp; omega), rfl⟩

set_option maxHeartbeats 1000000 in
theorem l5Side_any (x y : Int) (a : Option Addr) (n c : Nat) (l : List ByteArray) (w : World) (hl : Strs w a n l) :
    Calls Tryd.prog 98 #[.int .i64 x, .int .i64 y, .slice a n c] w fun e w' => e = .returned (.bool (sideB x y l)) ∧ w = w' := by
  have hlim := hl.lim
  unfold maxLen at hlim
  have HL := Lib.hid hl.len
  have hin : ∀ z : Int, (decide (0 ≤ z) && decide (z ≤ 1000)) = true ↔ 0 ≤ z ∧ z ≤ 1000 := fun z => by simp
  by_cases h1 : 0 ≤ x ∧ x ≤ 1000
  case neg =>
    have q1 : (decide (0 ≤ x) && decide (x ≤ 1000)) = false := by rw [Bool.eq_false_iff]; intro e; exact h1 ((hin x).1 e)
    have hf := Lib.hid (show sideB x y l = false by simp only [sideB, q1, Bool.false_and])
    clear h1
    go_enter Tryd.func98, Tryd.ntmps98
    go_wp2_with (first | (go_at_call 80; refine (l1In_any _ _ _ _).mono ?_; rintro e w' ⟨rfl, rfl⟩; rw [q1]))
    go_ret
    exact ⟨ret_bool hf.out.symm, rfl⟩
  have q1 : (decide (0 ≤ x) && decide (x ≤ 1000)) = true := (hin x).2 h1
  by_cases h2 : 0 ≤ y ∧ y ≤ 1000
  case neg =>
    have q2 : (decide (0 ≤ y) && decide (y ≤ 1000)) = false := by rw [Bool.eq_false_iff]; intro e; exact h2 ((hin y).1 e)
    have hf := Lib.hid (show sideB x y l = false by simp only [sideB, q2, Bool.and_false, Bool.false_and])
    clear h2 h1
    go_enter Tryd.func98, Tryd.ntmps98
    go_wp2_with (first | (go_at_call 80; refine (l1In_any _ _ _ _).mono ?_; rintro e w' ⟨rfl, rfl⟩; first | rw [q1] | rw [q2]))
    go_ret
    exact ⟨ret_bool hf.out.symm, rfl⟩
  have q2 : (decide (0 ≤ y) && decide (y ≤ 1000)) = true := (hin y).2 h2
  cases h3 : goodB l
  case false =>
    have hf := Lib.hid (show sideB x y l = false by simp only [sideB, h3, Bool.and_false, Bool.false_and])
    have H3 := Lib.hid h3
    clear h2 h1 h3
    go_enter Tryd.func98, Tryd.ntmps98
    go_wp2_with (first | (go_at_call 80; refine (l1In_any _ _ _ _).mono ?_; rintro e w' ⟨rfl, rfl⟩; first | rw [q1] | rw [q2]) | (go_at_call 110; refine (l5Lines_any a n c l _ hl).mono ?_; rintro e w' ⟨rfl, rfl⟩; rw [H3.out]))
    go_ret
    exact ⟨ret_bool hf.out.symm, rfl⟩
  have H3 := Lib.hid h3
  have hs : sideB x y l = (if l.length = 0 then decide (y = x) else decide (1 ≤ x) && decide (y - x + 1 = l.length)) := by
    simp only [sideB, q1, q2, h3, Bool.true_and]
  obtain ⟨hx0, hx1⟩ := h1
  obtain ⟨hy0, hy1⟩ := h2
  have hsub : IntKind.i64.wrap (y - x) = y - x := by rw [IntKind.wrap_i64]; omega
  have hsub2 : IntKind.i64.wrap (y - x + 1) = y - x + 1 := by rw [IntKind.wrap_i64]; omega
  clear h3
  by_cases h4 : n = 0
  · have hf := Lib.hid (show sideB x y l = decide (y = x) by rw [hs, if_pos (by rw [HL.out]; exact h4)])
    subst h4
    clear hs
    cases h5 : decide (y = x)
    all_goals
      have h6 : (y == x) = decide (y = x) := rfl
      rw [h5] at h6
      have H5 := Lib.hid h5
      clear h5
      go_enter Tryd.func98, Tryd.ntmps98
      go_wp2_with (first | (go_at_call 80; refine (l1In_any _ _ _ _).mono ?_; rintro e w' ⟨rfl, rfl⟩; first | rw [q1] | rw [q2]) | (go_at_call 110; refine (l5Lines_any a _ c l _ hl).mono ?_; rintro e w' ⟨rfl, rfl⟩; rw [H3.out]))
      go_ret
      exact ⟨ret_bool (by rw [hf.out, H5.out]), rfl⟩
  · have hf := Lib.hid (show sideB x y l = (decide (1 ≤ x) && decide (y - x + 1 = (n : Int))) by rw [hs, if_neg (by rw [HL.out]; exact h4), HL.out])
    have h40 : ((n : Int) == 0) = false := by simp; omega
    clear hs
    by_cases h5 : 1 ≤ x
    · cases h7 : decide (y - x + 1 = (n : Int))
      all_goals
        have h6 : (y - x + 1 == (n : Int)) = decide (y - x + 1 = (n : Int)) := rfl
        rw [h7] at h6
        have H7 := Lib.hid h7
        have H5 := Lib.hid h5
        clear h7
        go_enter Tryd.func98, Tryd.ntmps98
        go_wp2_with (first | (go_at_call 80; refine (l1In_any _ _ _ _).mono ?_; rintro e w' ⟨rfl, rfl⟩; first | rw [q1] | rw [q2]) | (go_at_call 110; refine (l5Lines_any a n c l _ hl).mono ?_; rintro e w' ⟨rfl, rfl⟩; rw [H3.out]))
        go_ret
        exact ⟨ret_bool (by rw [hf.out, H7.out]; simp [H5.out]), rfl⟩
    · have H5 := Lib.hid h5
      go_enter Tryd.func98, Tryd.ntmps98
      go_wp2_with (first | (go_at_call 80; refine (l1In_any _ _ _ _).mono ?_; rintro e w' ⟨rfl, rfl⟩; first | rw [q1] | rw [q2]) | (go_at_call 110; refine (l5Lines_any a n c l _ hl).mono ?_; rintro e w' ⟨rfl, rfl⟩; rw [H3.out]))
      go_ret
      exact ⟨ret_bool (by rw [hf.out, decide_eq_false (show ¬ 1 ≤ x by have := H5.out; omega), Bool.false_and]), rfl⟩

end Go.Proofs.YtnnaigoomipklaaDoor

namespace Go.Proofs.YtnnaigoomipklaaDoor
open Go.RowKit Go.ChangeShapes Go.WideShapes M

theorem hasLines_any (x y : Int) (a : Option Addr) (n c : Nat) (w : World) :
    Calls Tryd.prog 101 #[.agg #[.int .i64 x, .int .i64 y, .slice a n c]] w fun e w' => e = .returned (.bool (decide (0 < n))) ∧ Below w.heap.size w w' := by
  by_cases h : 0 < n
  · have h2 : decide (0 < n) = true := by simp [h]
    rw [h2]
    go_enter Tryd.func101, Tryd.ntmps101
    go_wp2
    go_ret
    exact ⟨rfl, below_alloc _ _⟩
  · have h2 : decide (0 < n) = false := by simp [h]
    rw [h2]
    go_enter Tryd.func101, Tryd.ntmps101
    go_wp2
    go_ret
    exact ⟨rfl, below_alloc _ _⟩

theorem takesAway_any (x y : Int) (a : Option Addr) (n c : Nat) (w : World) :
    Calls Tryd.prog 77 #[.agg #[.int .i64 x, .int .i64 y, .slice a n c]] w fun e w' => e = .returned (.bool (decide (0 < n))) ∧ Below w.heap.size w w' := by
  go_enter Tryd.func77, Tryd.ntmps77
  go_wp2_with fail
  refine (hasLines_any x y a n c _).mono ?_
  rintro e w1 ⟨rfl, b1⟩
  go_wp2
  go_ret
  exact ⟨rfl, (below_alloc _ _).next b1⟩
theorem brings_any (x y : Int) (a : Option Addr) (n c : Nat) (w : World) :
    Calls Tryd.prog 78 #[.agg #[.int .i64 x, .int .i64 y, .slice a n c]] w fun e w' => e = .returned (.bool (decide (0 < n))) ∧ Below w.heap.size w w' := by
  go_enter Tryd.func78, Tryd.ntmps78
  go_wp2_with fail
  refine (hasLines_any x y a n c _).mono ?_
  rintro e w1 ⟨rfl, b1⟩
  go_wp2
  go_ret
  exact ⟨rfl, (below_alloc _ _).next b1⟩

/-- The cells of a step behind a pointer. -/
structure SpC (w : World) (b off : Nat) (x : Sp) (A : Option Addr) (m c : Nat) (B : Option Addr) (m2 d : Nat) : Prop where
  c0 : w.cell? ⟨b, off, none⟩ = some (.int .i64 x.fr)
  c1 : w.cell? ⟨b, off + 1, none⟩ = some (.int .i64 x.to_)
  c2 : w.cell? ⟨b, off + 2, none⟩ = some (.slice A m c)
  c3 : w.cell? ⟨b, off + 3, none⟩ = some (.int .i64 x.at_)
  c4 : w.cell? ⟨b, off + 4, none⟩ = some (.int .i64 x.en)
  c5 : w.cell? ⟨b, off + 5, none⟩ = some (.slice B m2 d)
/-- A step as both of its sides. -/
def sidesV (x : Sp) (A : Option Addr) (m c : Nat) (B : Option Addr) (m2 d : Nat) : Value := .agg #[.int .i64 x.fr, .int .i64 x.to_, .slice A m c, .int .i64 x.at_, .int .i64 x.en, .slice B m2 d]

set_option maxHeartbeats 1000000 in
set_option maxRecDepth 100000 in
theorem sidesOf_any (b off : Nat) (x : Sp) (A : Option Addr) (m c : Nat) (B : Option Addr) (m2 d : Nat) (w : World) (h : SpC w b off x A m c B m2 d) :
    Calls Tryd.prog 49 #[.pointer (some ⟨b, off, none⟩)] w fun e w' => e = .returned (sidesV x A m c B m2 d) ∧ Below w.heap.size w w' := by
  obtain ⟨h0, h1, h2, h3, h4, h5⟩ := h
  obtain ⟨W, HW⟩ : ∃ W, Hid (W = w.alloc (.cells #[.int .i64 0, .int .i64 0, .slice none 0 0, .int .i64 0, .int .i64 0, .slice none 0 0] 91)) := ⟨_, rfl⟩
  have HB := Lib.hid (show Below w.heap.size w W by rw [HW.out]; exact below_alloc w _)
  replace h0 := cell_keep HB.out h0
  replace h1 := cell_keep HB.out h1
  replace h2 := cell_keep HB.out h2
  replace h3 := cell_keep HB.out h3
  replace h4 := cell_keep HB.out h4
  replace h5 := cell_keep HB.out h5
  go_enter Tryd.func49, Tryd.ntmps49
  go_wp2
  rw [← HW.out]
  have d0 : W.cell? ⟨w.heap.size, 0, none⟩ = some (.int .i64 0) := by rw [HW.out]; simp
  have d1 : W.cell? ⟨w.heap.size, 1, none⟩ = some (.int .i64 0) := by rw [HW.out]; simp
  have d2 : W.cell? ⟨w.heap.size, 2, none⟩ = some (.slice none 0 0) := by rw [HW.out]; simp
  have d3 : W.cell? ⟨w.heap.size, 3, none⟩ = some (.int .i64 0) := by rw [HW.out]; simp
  have d4 : W.cell? ⟨w.heap.size, 4, none⟩ = some (.int .i64 0) := by rw [HW.out]; simp
  have d5 : W.cell? ⟨w.heap.size, 5, none⟩ = some (.slice none 0 0) := by rw [HW.out]; simp
  have fz : ∀ j, W.frozen? ⟨w.heap.size, j, none⟩ = false := fun j => by rw [HW.out, frozen?_alloc_cells]; simp [World.frozen?]
  go_still_tail 29, (by kernel_rfl)
  go_wp2
  (try simp only [Exit.inBlock, Exit.then])
  refine bodyPost_ret (v := sidesV x A m c B m2 d) (by simp [results, Tryd.results49, go_sem, d0, d1, d2, d3, d4, d5, sidesV]) rfl ?_
  refine ⟨rfl, Below.drew ?_⟩
  exact (((((HB.out.setCell (Nat.le_refl _) _).setCell (Nat.le_refl _) _).setCell (Nat.le_refl _) _).setCell (Nat.le_refl _) _).setCell (Nat.le_refl _) _).setCell (Nat.le_refl _) _

theorem side_split (x y : Int) (l : List ByteArray) : sideB x y l = (decide (0 ≤ x) && decide (x ≤ y) && decide (y ≤ 1000) && goodB l && (if l.length = 0 then decide (y = x) else decide (0 < x) && decide (y - x + 1 = l.length))) := by
  unfold sideB
  cases goodB l
  · simp
  · rw [Bool.eq_iff_iff]
    by_cases h : l.length = 0
    · simp only [if_pos h, Bool.and_eq_true, decide_eq_true_eq, and_true, true_and]; omega
    · simp only [if_neg h, Bool.and_eq_true, decide_eq_true_eq, and_true, true_and]; omega

set_option maxHeartbeats 1000000 in
theorem isGood_any (x y : Int) (a : Option Addr) (n c : Nat) (l : List ByteArray) (w : World) (hl : Strs w a n l) :
    Calls Tryd.prog 100 #[.agg #[.int .i64 x, .int .i64 y, .slice a n c]] w fun e w' => e = .returned (.bool (sideB x y l)) ∧ Below w.heap.size w w' := by
  have HL := Lib.hid hl.len
  obtain ⟨W, HW⟩ : ∃ W, Hid (W = w.alloc (.cells #[.int .i64 x, .int .i64 y, .slice a n c] 86)) := ⟨_, rfl⟩
  have HB := Lib.hid (show Below w.heap.size w W by rw [HW.out]; exact below_alloc w _)
  have k0 : W.cell? ⟨w.heap.size, 0, none⟩ = some (.int .i64 x) := by rw [HW.out]; simp
  have k1 : W.cell? ⟨w.heap.size, 1, none⟩ = some (.int .i64 y) := by rw [HW.out]; simp
  have k2 : W.cell? ⟨w.heap.size, 2, none⟩ = some (.slice a n c) := by rw [HW.out]; simp
  have HS := Lib.hid (side_split x y l)
  by_cases h1 : x < 0
  · have hf := Lib.hid (show sideB x y l = false by rw [HS.out, decide_eq_false (by omega)]; rfl)
    go_enter Tryd.func100, Tryd.ntmps100
    go_wp2
    go_ret
    exact ⟨ret_bool hf.out.symm, by rw [← HW.out]; exact HB.out⟩
  by_cases h2 : y < x
  · have hf := Lib.hid (show sideB x y l = false by rw [HS.out, decide_eq_false (show ¬ x ≤ y by omega)]; simp)
    go_enter Tryd.func100, Tryd.ntmps100
    go_wp2
    go_ret
    exact ⟨ret_bool hf.out.symm, by rw [← HW.out]; exact HB.out⟩
  by_cases h3 : 1000 < y
  · have hf := Lib.hid (show sideB x y l = false by rw [HS.out, decide_eq_false (show ¬ y ≤ 1000 by omega)]; simp)
    go_enter Tryd.func100, Tryd.ntmps100
    go_wp2
    go_ret
    exact ⟨ret_bool hf.out.symm, by rw [← HW.out]; exact HB.out⟩
  cases h4 : goodB l
  · have hf := Lib.hid (show sideB x y l = false by rw [HS.out, h4]; simp)
    have H4 := Lib.hid h4
    clear h4
    go_enter Tryd.func100, Tryd.ntmps100
    go_wp2_with fail
    rw [← HW.out]
    refine (implGoodLines_any a n c l _ (hl.below HB.out)).mono ?_
    rintro e w1 ⟨rfl, b1⟩
    rw [H4.out]
    go_wp2
    go_ret
    exact ⟨ret_bool hf.out.symm, HB.out.next b1⟩
  have H4 := Lib.hid h4
  have hs : sideB x y l = (if n = 0 then decide (y = x) else decide (0 < x) && decide (y - x + 1 = (n : Int))) := by
    rw [HS.out, h4, decide_eq_true (show 0 ≤ x by omega), decide_eq_true (show x ≤ y by omega), decide_eq_true (show y ≤ 1000 by omega), HL.out]; simp
  have hsub : IntKind.i64.wrap (y - x) = y - x := by rw [IntKind.wrap_i64]; omega
  have hsub2 : IntKind.i64.wrap (y - x + 1) = y - x + 1 := by rw [IntKind.wrap_i64]; omega
  clear h4
  by_cases h5 : n = 0
  · have hf := Lib.hid (show sideB x y l = decide (y = x) by rw [hs, if_pos h5])
    have h50 : decide (0 < n) = false := by simp [h5]
    clear hs h5
    cases h6 : decide (y = x)
    all_goals
      have h7 : (y == x) = decide (y = x) := rfl
      rw [h6] at h7
      have H6 := Lib.hid h6
      clear h6
      go_enter Tryd.func100, Tryd.ntmps100
      go_wp2_with fail
      rw [← HW.out]
      refine (implGoodLines_any a n c l _ (hl.below HB.out)).mono ?_
      rintro e w1 ⟨rfl, b1⟩
      have k0 := cell_keep b1 k0
      have k1 := cell_keep b1 k1
      have k2 := cell_keep b1 k2
      rw [H4.out]
      go_wp2_with fail
      refine (hasLines_any x y a n c _).mono ?_
      rintro e w2 ⟨rfl, b2⟩
      have k0 := cell_keep b2 k0
      have k1 := cell_keep b2 k1
      rw [h50]
      go_wp2
      go_ret
      exact ⟨ret_bool (by rw [hf.out, H6.out]), (HB.out.next b1).next b2⟩
  · have hf := Lib.hid (show sideB x y l = (decide (0 < x) && decide (y - x + 1 = (n : Int))) by rw [hs, if_neg h5])
    have h50 : decide (0 < n) = true := by simp; omega
    clear hs h5
    by_cases h8 : 0 < x
    · cases h6 : decide (y - x + 1 = (n : Int))
      all_goals
        have h7 : (y - x + 1 == (n : Int)) = decide (y - x + 1 = (n : Int)) := rfl
        rw [h6] at h7
        have H6 := Lib.hid h6
        have H8 := Lib.hid h8
        clear h6
        go_enter Tryd.func100, Tryd.ntmps100
        go_wp2_with fail
        rw [← HW.out]
        refine (implGoodLines_any a n c l _ (hl.below HB.out)).mono ?_
        rintro e w1 ⟨rfl, b1⟩
        have k0 := cell_keep b1 k0
        have k1 := cell_keep b1 k1
        have k2 := cell_keep b1 k2
        rw [H4.out]
        go_wp2_with fail
        refine (hasLines_any x y a n c _).mono ?_
        rintro e w2 ⟨rfl, b2⟩
        have k0 := cell_keep b2 k0
        have k1 := cell_keep b2 k1
        have k2 := cell_keep b2 k2
        rw [h50]
        go_wp2
        go_ret
        exact ⟨ret_bool (by rw [hf.out, H6.out]; simp [H8.out]), (HB.out.next b1).next b2⟩
    · have H8 := Lib.hid h8
      go_enter Tryd.func100, Tryd.ntmps100
      go_wp2_with fail
      rw [← HW.out]
      refine (implGoodLines_any a n c l _ (hl.below HB.out)).mono ?_
      rintro e w1 ⟨rfl, b1⟩
      have k0 := cell_keep b1 k0
      have k1 := cell_keep b1 k1
      have k2 := cell_keep b1 k2
      rw [H4.out]
      go_wp2_with fail
      refine (hasLines_any x y a n c _).mono ?_
      rintro e w2 ⟨rfl, b2⟩
      have k0 := cell_keep b2 k0
      have k1 := cell_keep b2 k1
      have k2 := cell_keep b2 k2
      rw [h50]
      go_wp2
      go_ret
      exact ⟨ret_bool (by rw [hf.out, decide_eq_false (show ¬ 0 < x by have := H8.out; omega), Bool.false_and]), (HB.out.next b1).next b2⟩

end Go.Proofs.YtnnaigoomipklaaDoor

namespace Go.Proofs.YtnnaigoomipklaaDoor
open Go.RowKit Go.ChangeShapes Go.WideShapes M

theorem stepB_eq (x : Sp) : stepB x = ((decide (0 < x.old.length) || decide (0 < x.new.length)) && sideB x.fr x.to_ x.old && sideB x.at_ x.en x.new) := by
  unfold stepB
  cases sideB x.fr x.to_ x.old <;> cases sideB x.at_ x.en x.new <;> simp
  rw [Bool.eq_iff_iff]; simp; omega

set_option maxHeartbeats 1000000 in
theorem twoGood_any (x : Sp) (A : Option Addr) (m c : Nat) (B : Option Addr) (m2 d : Nat) (w : World) (hl : Strs w A m x.old) (hl2 : Strs w B m2 x.new) :
    Calls Tryd.prog 74 #[sidesV x A m c B m2 d] w fun e w' => e = .returned (.bool (stepB x)) ∧ Below w.heap.size w w' := by
  unfold sidesV
  have HS := Lib.hid (stepB_eq x)
  rw [hl.len, hl2.len] at HS
  obtain ⟨W, HW⟩ : ∃ W, Hid (W = w.alloc (.cells #[.int .i64 x.fr, .int .i64 x.to_, .slice A m c, .int .i64 x.at_, .int .i64 x.en, .slice B m2 d] 91)) := ⟨_, rfl⟩
  have HB := Lib.hid (show Below w.heap.size w W by rw [HW.out]; exact below_alloc w _)
  have k0 : W.cell? ⟨w.heap.size, 0, none⟩ = some (.int .i64 x.fr) := by rw [HW.out]; simp
  have k1 : W.cell? ⟨w.heap.size, 1, none⟩ = some (.int .i64 x.to_) := by rw [HW.out]; simp
  have k2 : W.cell? ⟨w.heap.size, 2, none⟩ = some (.slice A m c) := by rw [HW.out]; simp
  have k3 : W.cell? ⟨w.heap.size, 3, none⟩ = some (.int .i64 x.at_) := by rw [HW.out]; simp
  have k4 : W.cell? ⟨w.heap.size, 4, none⟩ = some (.int .i64 x.en) := by rw [HW.out]; simp
  have k5 : W.cell? ⟨w.heap.size, 5, none⟩ = some (.slice B m2 d) := by rw [HW.out]; simp
  cases h0 : decide (0 < m)
  · have H1 := Lib.hid h0
    clear h0
    cases h1 : decide (0 < m2)
    · have H2 := Lib.hid h1
      clear h1
      have hf := Lib.hid (show stepB x = false by rw [HS.out, H1.out, H2.out] <;> simp)
      go_enter Tryd.func74, Tryd.ntmps74
      have B0 := HB.out
      go_wp2_with fail
      rw [← HW.out]
      refine (takesAway_any x.fr x.to_ A m c _).mono ?_
      rintro e w1 ⟨rfl, b1⟩
      replace k0 := cell_keep b1 k0
      replace k1 := cell_keep b1 k1
      replace k2 := cell_keep b1 k2
      replace k3 := cell_keep b1 k3
      replace k4 := cell_keep b1 k4
      replace k5 := cell_keep b1 k5
      have B1 := B0.next b1
      clear b1
      rw [H1.out]
      go_wp2_with fail
      refine (brings_any x.at_ x.en B m2 d _).mono ?_
      rintro e w2 ⟨rfl, b1⟩
      replace k0 := cell_keep b1 k0
      replace k1 := cell_keep b1 k1
      replace k2 := cell_keep b1 k2
      replace k3 := cell_keep b1 k3
      replace k4 := cell_keep b1 k4
      replace k5 := cell_keep b1 k5
      have B2 := B1.next b1
      clear b1
      rw [H2.out]
      go_wp2
      go_ret
      exact ⟨ret_bool hf.out.symm, B2⟩
    · have H2 := Lib.hid h1
      clear h1
      cases h2 : sideB x.fr x.to_ x.old
      · have H3 := Lib.hid h2
        clear h2
        have hf := Lib.hid (show stepB x = false by rw [HS.out, H1.out, H2.out, H3.out] <;> simp)
        go_enter Tryd.func74, Tryd.ntmps74
        have B0 := HB.out
        go_wp2_with fail
        rw [← HW.out]
        refine (takesAway_any x.fr x.to_ A m c _).mono ?_
        rintro e w1 ⟨rfl, b1⟩
        replace k0 := cell_keep b1 k0
        replace k1 := cell_keep b1 k1
        replace k2 := cell_keep b1 k2
        replace k3 := cell_keep b1 k3
        replace k4 := cell_keep b1 k4
        replace k5 := cell_keep b1 k5
        have B1 := B0.next b1
        clear b1
        rw [H1.out]
        go_wp2_with fail
        refine (brings_any x.at_ x.en B m2 d _).mono ?_
        rintro e w2 ⟨rfl, b1⟩
        replace k0 := cell_keep b1 k0
        replace k1 := cell_keep b1 k1
        replace k2 := cell_keep b1 k2
        replace k3 := cell_keep b1 k3
        replace k4 := cell_keep b1 k4
        replace k5 := cell_keep b1 k5
        have B2 := B1.next b1
        clear b1
        rw [H2.out]
        go_wp2_with fail
        refine (isGood_any x.fr x.to_ A m c x.old _ (hl.below B2)).mono ?_
        rintro e w3 ⟨rfl, b1⟩
        replace k0 := cell_keep b1 k0
        replace k1 := cell_keep b1 k1
        replace k2 := cell_keep b1 k2
        replace k3 := cell_keep b1 k3
        replace k4 := cell_keep b1 k4
        replace k5 := cell_keep b1 k5
        have B3 := B2.next b1
        clear b1
        rw [H3.out]
        go_wp2
        go_ret
        exact ⟨ret_bool hf.out.symm, B3⟩
      · have H3 := Lib.hid h2
        clear h2
        cases h3 : sideB x.at_ x.en x.new
        · have H4 := Lib.hid h3
          clear h3
          have hf := Lib.hid (show stepB x = false by rw [HS.out, H1.out, H2.out, H3.out, H4.out] <;> simp)
          go_enter Tryd.func74, Tryd.ntmps74
          have B0 := HB.out
          go_wp2_with fail
          rw [← HW.out]
          refine (takesAway_any x.fr x.to_ A m c _).mono ?_
          rintro e w1 ⟨rfl, b1⟩
          replace k0 := cell_keep b1 k0
          replace k1 := cell_keep b1 k1
          replace k2 := cell_keep b1 k2
          replace k3 := cell_keep b1 k3
          replace k4 := cell_keep b1 k4
          replace k5 := cell_keep b1 k5
          have B1 := B0.next b1
          clear b1
          rw [H1.out]
          go_wp2_with fail
          refine (brings_any x.at_ x.en B m2 d _).mono ?_
          rintro e w2 ⟨rfl, b1⟩
          replace k0 := cell_keep b1 k0
          replace k1 := cell_keep b1 k1
          replace k2 := cell_keep b1 k2
          replace k3 := cell_keep b1 k3
          replace k4 := cell_keep b1 k4
          replace k5 := cell_keep b1 k5
          have B2 := B1.next b1
          clear b1
          rw [H2.out]
          go_wp2_with fail
          refine (isGood_any x.fr x.to_ A m c x.old _ (hl.below B2)).mono ?_
          rintro e w3 ⟨rfl, b1⟩
          replace k0 := cell_keep b1 k0
          replace k1 := cell_keep b1 k1
          replace k2 := cell_keep b1 k2
          replace k3 := cell_keep b1 k3
          replace k4 := cell_keep b1 k4
          replace k5 := cell_keep b1 k5
          have B3 := B2.next b1
          clear b1
          rw [H3.out]
          go_wp2_with fail
          refine (isGood_any x.at_ x.en B m2 d x.new _ (hl2.below B3)).mono ?_
          rintro e w4 ⟨rfl, b1⟩
          replace k0 := cell_keep b1 k0
          replace k1 := cell_keep b1 k1
          replace k2 := cell_keep b1 k2
          replace k3 := cell_keep b1 k3
          replace k4 := cell_keep b1 k4
          replace k5 := cell_keep b1 k5
          have B4 := B3.next b1
          clear b1
          rw [H4.out]
          go_wp2
          go_ret
          exact ⟨ret_bool hf.out.symm, B4⟩
        · have H4 := Lib.hid h3
          clear h3
          have hf := Lib.hid (show stepB x = true by rw [HS.out, H1.out, H2.out, H3.out, H4.out] <;> simp)
          go_enter Tryd.func74, Tryd.ntmps74
          have B0 := HB.out
          go_wp2_with fail
          rw [← HW.out]
          refine (takesAway_any x.fr x.to_ A m c _).mono ?_
          rintro e w1 ⟨rfl, b1⟩
          replace k0 := cell_keep b1 k0
          replace k1 := cell_keep b1 k1
          replace k2 := cell_keep b1 k2
          replace k3 := cell_keep b1 k3
          replace k4 := cell_keep b1 k4
          replace k5 := cell_keep b1 k5
          have B1 := B0.next b1
          clear b1
          rw [H1.out]
          go_wp2_with fail
          refine (brings_any x.at_ x.en B m2 d _).mono ?_
          rintro e w2 ⟨rfl, b1⟩
          replace k0 := cell_keep b1 k0
          replace k1 := cell_keep b1 k1
          replace k2 := cell_keep b1 k2
          replace k3 := cell_keep b1 k3
          replace k4 := cell_keep b1 k4
          replace k5 := cell_keep b1 k5
          have B2 := B1.next b1
          clear b1
          rw [H2.out]
          go_wp2_with fail
          refine (isGood_any x.fr x.to_ A m c x.old _ (hl.below B2)).mono ?_
          rintro e w3 ⟨rfl, b1⟩
          replace k0 := cell_keep b1 k0
          replace k1 := cell_keep b1 k1
          replace k2 := cell_keep b1 k2
          replace k3 := cell_keep b1 k3
          replace k4 := cell_keep b1 k4
          replace k5 := cell_keep b1 k5
          have B3 := B2.next b1
          clear b1
          rw [H3.out]
          go_wp2_with fail
          refine (isGood_any x.at_ x.en B m2 d x.new _ (hl2.below B3)).mono ?_
          rintro e w4 ⟨rfl, b1⟩
          replace k0 := cell_keep b1 k0
          replace k1 := cell_keep b1 k1
          replace k2 := cell_keep b1 k2
          replace k3 := cell_keep b1 k3
          replace k4 := cell_keep b1 k4
          replace k5 := cell_keep b1 k5
          have B4 := B3.next b1
          clear b1
          rw [H4.out]
          go_wp2
          go_ret
          exact ⟨ret_bool hf.out.symm, B4⟩
  · have H1 := Lib.hid h0
    clear h0
    cases h2 : sideB x.fr x.to_ x.old
    · have H3 := Lib.hid h2
      clear h2
      have hf := Lib.hid (show stepB x = false by rw [HS.out, H1.out, H3.out] <;> simp)
      go_enter Tryd.func74, Tryd.ntmps74
      have B0 := HB.out
      go_wp2_with fail
      rw [← HW.out]
      refine (takesAway_any x.fr x.to_ A m c _).mono ?_
      rintro e w1 ⟨rfl, b1⟩
      replace k0 := cell_keep b1 k0
      replace k1 := cell_keep b1 k1
      replace k2 := cell_keep b1 k2
      replace k3 := cell_keep b1 k3
      replace k4 := cell_keep b1 k4
      replace k5 := cell_keep b1 k5
      have B1 := B0.next b1
      clear b1
      rw [H1.out]
      go_wp2_with fail
      refine (isGood_any x.fr x.to_ A m c x.old _ (hl.below B1)).mono ?_
      rintro e w2 ⟨rfl, b1⟩
      replace k0 := cell_keep b1 k0
      replace k1 := cell_keep b1 k1
      replace k2 := cell_keep b1 k2
      replace k3 := cell_keep b1 k3
      replace k4 := cell_keep b1 k4
      replace k5 := cell_keep b1 k5
      have B2 := B1.next b1
      clear b1
      rw [H3.out]
      go_wp2
      go_ret
      exact ⟨ret_bool hf.out.symm, B2⟩
    · have H3 := Lib.hid h2
      clear h2
      cases h3 : sideB x.at_ x.en x.new
      · have H4 := Lib.hid h3
        clear h3
        have hf := Lib.hid (show stepB x = false by rw [HS.out, H1.out, H3.out, H4.out] <;> simp)
        go_enter Tryd.func74, Tryd.ntmps74
        have B0 := HB.out
        go_wp2_with fail
        rw [← HW.out]
        refine (takesAway_any x.fr x.to_ A m c _).mono ?_
        rintro e w1 ⟨rfl, b1⟩
        replace k0 := cell_keep b1 k0
        replace k1 := cell_keep b1 k1
        replace k2 := cell_keep b1 k2
        replace k3 := cell_keep b1 k3
        replace k4 := cell_keep b1 k4
        replace k5 := cell_keep b1 k5
        have B1 := B0.next b1
        clear b1
        rw [H1.out]
        go_wp2_with fail
        refine (isGood_any x.fr x.to_ A m c x.old _ (hl.below B1)).mono ?_
        rintro e w2 ⟨rfl, b1⟩
        replace k0 := cell_keep b1 k0
        replace k1 := cell_keep b1 k1
        replace k2 := cell_keep b1 k2
        replace k3 := cell_keep b1 k3
        replace k4 := cell_keep b1 k4
        replace k5 := cell_keep b1 k5
        have B2 := B1.next b1
        clear b1
        rw [H3.out]
        go_wp2_with fail
        refine (isGood_any x.at_ x.en B m2 d x.new _ (hl2.below B2)).mono ?_
        rintro e w3 ⟨rfl, b1⟩
        replace k0 := cell_keep b1 k0
        replace k1 := cell_keep b1 k1
        replace k2 := cell_keep b1 k2
        replace k3 := cell_keep b1 k3
        replace k4 := cell_keep b1 k4
        replace k5 := cell_keep b1 k5
        have B3 := B2.next b1
        clear b1
        rw [H4.out]
        go_wp2
        go_ret
        exact ⟨ret_bool hf.out.symm, B3⟩
      · have H4 := Lib.hid h3
        clear h3
        have hf := Lib.hid (show stepB x = true by rw [HS.out, H1.out, H3.out, H4.out] <;> simp)
        go_enter Tryd.func74, Tryd.ntmps74
        have B0 := HB.out
        go_wp2_with fail
        rw [← HW.out]
        refine (takesAway_any x.fr x.to_ A m c _).mono ?_
        rintro e w1 ⟨rfl, b1⟩
        replace k0 := cell_keep b1 k0
        replace k1 := cell_keep b1 k1
        replace k2 := cell_keep b1 k2
        replace k3 := cell_keep b1 k3
        replace k4 := cell_keep b1 k4
        replace k5 := cell_keep b1 k5
        have B1 := B0.next b1
        clear b1
        rw [H1.out]
        go_wp2_with fail
        refine (isGood_any x.fr x.to_ A m c x.old _ (hl.below B1)).mono ?_
        rintro e w2 ⟨rfl, b1⟩
        replace k0 := cell_keep b1 k0
        replace k1 := cell_keep b1 k1
        replace k2 := cell_keep b1 k2
        replace k3 := cell_keep b1 k3
        replace k4 := cell_keep b1 k4
        replace k5 := cell_keep b1 k5
        have B2 := B1.next b1
        clear b1
        rw [H3.out]
        go_wp2_with fail
        refine (isGood_any x.at_ x.en B m2 d x.new _ (hl2.below B2)).mono ?_
        rintro e w3 ⟨rfl, b1⟩
        replace k0 := cell_keep b1 k0
        replace k1 := cell_keep b1 k1
        replace k2 := cell_keep b1 k2
        replace k3 := cell_keep b1 k3
        replace k4 := cell_keep b1 k4
        replace k5 := cell_keep b1 k5
        have B3 := B2.next b1
        clear b1
        rw [H4.out]
        go_wp2
        go_ret
        exact ⟨ret_bool hf.out.symm, B3⟩

set_option maxHeartbeats 1000000 in
theorem implGoodSteps_any (a : Option Addr) (n c : Nat) (l : List Sp) (w : World) (hl : Sps w a n l) :
    Calls Tryd.prog 48 #[.slice a n c] w fun e w' => e = .returned (.bool (stepsB l)) ∧ Below w.heap.size w w' := by
  have hlim := hl.lim
  unfold maxLen at hlim
  have HL := Lib.hid hl.len
  by_cases hn : 20 < n
  · have hf := Lib.hid (show stepsB l = false by unfold stepsB; rw [decide_eq_false (by rw [HL.out]; omega), Bool.and_false])
    go_enter Tryd.func48, Tryd.ntmps48
    go_wp2
    go_ret
    exact ⟨ret_bool hf.out.symm, Below.refl _ _⟩
  · have HS := Lib.hid (show stepsB l = l.all stepB by unfold stepsB; rw [decide_eq_true (by rw [HL.out]; omega), Bool.and_true])
    go_enter Tryd.func48, Tryd.ntmps48
    go_wp2
    go_loopw [9] (fun i w' => ∃ k : Nat, i = .int .i64 k ∧ k ≤ n ∧ Hid (∀ (j : Nat) x, j < k → l[j]? = some x → stepB x = true) ∧ Below w.heap.size w w') (fun i _ => n - (intOf i).toNat)
    case atStart => exact ⟨0, rfl, by omega, fun j s h => by omega, Below.refl _ _⟩
    case round =>
      obtain ⟨k, rfl, hk, H, hb⟩ := hrel
      by_cases hlt : k < n
      · obtain ⟨b, off, A, m, c', B, m2, c2', x, rfl, hx, c0, c1, c2, c3, c4, c5, hs, hmc, hs2, hmc2, hok⟩ := (hl.below hb).at_ hlt
        have HX := Lib.hid hx
        clear hx
        go_wp2_with fail
        refine (sidesOf_any b (off + k * 6) x A m c' B m2 c2' _ ⟨c0, c1, c2, c3, c4, c5⟩).mono ?_
        rintro e w1 ⟨rfl, b1⟩
        go_wp2_with fail
        refine (twoGood_any x A m c' B m2 c2' _ (hs.below b1) (hs2.below b1)).mono ?_
        rintro e w2 ⟨rfl, b2⟩
        cases hq : stepB x
        · have hf := Lib.hid (show stepsB l = false by
            rw [HS.out, List.all_eq_false]; exact ⟨x, List.mem_of_getElem? HX.out, by simp [hq]⟩)
          go_wp2
          go_ret
          exact ⟨ret_bool hf.out.symm, (hb.next b1).next b2⟩
        · have HQ := Lib.hid hq
          go_wp2
          go_roundw
          case rel =>
            refine ⟨k + 1, by go_num, by omega, fun j y hj hy => ?_, (hb.next b1).next b2⟩
            by_cases e : j = k
            · subst e; rw [HX.out] at hy; injection hy with hy; rw [← hy]; exact HQ.out
            · exact H.out j y (by omega) hy
          case measure => simp [intOf]; omega
      · have hf := Lib.hid (show stepsB l = true by
          rw [HS.out, List.all_eq_true]; intro x hx
          obtain ⟨j, hj⟩ := List.mem_iff_getElem?.1 hx
          exact H.out j x (by have := (List.getElem?_eq_some_iff.1 hj).1; have := HL.out; omega) hj)
        go_wp2
        go_ret
        exact ⟨ret_bool hf.out.symm, hb⟩

set_option maxHeartbeats 1000000 in
theorem l5Step_any (x : Sp) (A : Option Addr) (m c : Nat) (B : Option Addr) (m2 d : Nat) (w : World) (hl : Strs w A m x.old) (hl2 : Strs w B m2 x.new) (hm : m ≤ 1048576) (hm2 : m2 ≤ 1048576) :
    Calls Tryd.prog 72 #[.agg #[.int .i64 x.fr, .int .i64 x.to_, .slice A m c, .int .i64 x.at_, .int .i64 x.en, .slice B m2 d]] w fun e w' => e = .returned (.bool (stepB x)) ∧ Below w.heap.size w w' := by
  have HS := Lib.hid (show stepB x = (sideB x.fr x.to_ x.old && sideB x.at_ x.en x.new && decide (0 < m + m2)) by unfold stepB; rw [hl.len, hl2.len])
  have hb := below_alloc w (.cells #[.int .i64 x.fr, .int .i64 x.to_, .slice A m c, .int .i64 x.at_, .int .i64 x.en, .slice B m2 d] 83)
  cases h1 : sideB x.fr x.to_ x.old
  · have H1 := Lib.hid h1
    have hf := Lib.hid (show stepB x = false by rw [HS.out, h1]; rfl)
    clear h1
    go_enter Tryd.func72, Tryd.ntmps72
    go_wp2_with fail
    refine (l5Side_any x.fr x.to_ A m c x.old _ (hl.below hb)).mono ?_
    rintro e w1 ⟨rfl, rfl⟩
    rw [H1.out]
    go_wp2
    go_ret
    exact ⟨ret_bool hf.out.symm, hb⟩
  · have H1 := Lib.hid h1
    cases h2 : sideB x.at_ x.en x.new
    · have H2 := Lib.hid h2
      have hf := Lib.hid (show stepB x = false by rw [HS.out, h1, h2]; rfl)
      clear h1 h2
      go_enter Tryd.func72, Tryd.ntmps72
      go_wp2_with fail
      refine (l5Side_any x.fr x.to_ A m c x.old _ (hl.below hb)).mono ?_
      rintro e w1 ⟨rfl, rfl⟩
      rw [H1.out]
      go_wp2_with fail
      refine (l5Side_any x.at_ x.en B m2 d x.new _ (hl2.below hb)).mono ?_
      rintro e w1 ⟨rfl, rfl⟩
      rw [H2.out]
      go_wp2
      go_ret
      exact ⟨ret_bool hf.out.symm, hb⟩
    · have H2 := Lib.hid h2
      have hf := Lib.hid (show stepB x = decide (0 < m + m2) by rw [HS.out, h1, h2]; rfl)
      have hsum : IntKind.i64.wrap ((m : Int) + (m2 : Int)) = (m : Int) + (m2 : Int) := by rw [IntKind.wrap_i64]; omega
      clear h1 h2
      by_cases h3 : 0 < m + m2
      all_goals
        have H3 := Lib.hid h3
        go_enter Tryd.func72, Tryd.ntmps72
        go_wp2_with fail
        refine (l5Side_any x.fr x.to_ A m c x.old _ (hl.below hb)).mono ?_
        rintro e w1 ⟨rfl, rfl⟩
        rw [H1.out]
        go_wp2_with fail
        refine (l5Side_any x.at_ x.en B m2 d x.new _ (hl2.below hb)).mono ?_
        rintro e w1 ⟨rfl, rfl⟩
        rw [H2.out]
        go_wp2
        go_ret
        exact ⟨ret_bool (by rw [hf.out]; have := H3.out; simp; omega), hb⟩

set_option maxHeartbeats 1000000 in
theorem specGoodSteps_any (a : Option Addr) (n c : Nat) (l : List Sp) (w : World) (hl : Sps w a n l) (hb : ∀ x ∈ l, x.old.length ≤ 1048576 ∧ x.new.length ≤ 1048576) :
    Calls Tryd.prog 45 #[.slice a n c] w fun e w' => e = .returned (.bool (stepsB l)) ∧ Below w.heap.size w w' := by
  have hlim := hl.lim
  unfold maxLen at hlim
  have HL := Lib.hid hl.len
  have HBB := Lib.hid hb
  clear hb
  go_enter Tryd.func45, Tryd.ntmps45
  go_wp2
  go_loopw [7] (fun i w' => ∃ k : Nat, i = .int .i64 k ∧ k ≤ n ∧ Hid (∀ (j : Nat) x, j < k → l[j]? = some x → stepB x = true) ∧ Below w.heap.size w w') (fun i _ => n - (intOf i).toNat)
  case atStart => exact ⟨0, rfl, by omega, fun j s h => by omega, Below.refl _ _⟩
  case round =>
    obtain ⟨k, rfl, hk, H, hb⟩ := hrel
    by_cases hlt : k < n
    · obtain ⟨b, off, A, m, c', B, m2, c2', x, rfl, hx, c0, c1, c2, c3, c4, c5, hs, hmc, hs2, hmc2, hok⟩ := (hl.below hb).at_ hlt
      have HX := Lib.hid hx
      have hm := HBB.out x (List.mem_of_getElem? hx)
      rw [hs.len, hs2.len] at hm
      obtain ⟨hm, hm2⟩ := hm
      have hb1 := below_alloc wr (.cells #[.int .i64 x.fr, .int .i64 x.to_, .slice A m c', .int .i64 x.at_, .int .i64 x.en, .slice B m2 c2'] 83)
      clear hx
      go_wp2_with fail
      refine (l5Step_any x A m c' B m2 c2' _ (hs.below hb1) (hs2.below hb1) hm hm2).mono ?_
      rintro e w2 ⟨rfl, b2⟩
      have hb2 := (hb.next hb1).next b2
      cases hq : stepB x
      · have hf := Lib.hid (show stepsB l = false by
          unfold stepsB
          rw [show l.all stepB = false by rw [List.all_eq_false]; exact ⟨x, List.mem_of_getElem? HX.out, by simp [hq]⟩, Bool.false_and])
        go_wp2
        go_ret
        exact ⟨ret_bool hf.out.symm, hb2⟩
      · have HQ := Lib.hid hq
        go_wp2
        go_roundw
        case rel =>
          refine ⟨k + 1, by go_num, by omega, fun j y hj hy => ?_, hb2⟩
          by_cases e : j = k
          · subst e; rw [HX.out] at hy; injection hy with hy; rw [← hy]; exact HQ.out
          · exact H.out j y (by omega) hy
        case measure => simp [intOf]; omega
    · have hf := Lib.hid (show stepsB l = decide (n ≤ 20) by
        unfold stepsB
        rw [show l.all stepB = true by
          rw [List.all_eq_true]; intro x hx
          obtain ⟨j, hj⟩ := List.mem_iff_getElem?.1 hx
          exact H.out j x (by have := (List.getElem?_eq_some_iff.1 hj).1; have := HL.out; omega) hj, Bool.true_and, HL.out])
      go_wp2
      go_ret
      exact ⟨ret_bool (by rw [hf.out]; simp; omega), hb⟩

end Go.Proofs.YtnnaigoomipklaaDoor
