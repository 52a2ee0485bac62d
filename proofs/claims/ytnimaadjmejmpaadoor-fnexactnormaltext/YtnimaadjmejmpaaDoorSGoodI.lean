/-
  Good steps: the program's GoodSteps.
-/
import Derived.Test.YtnimaadjmejmpaaDoorSGood
import Derived.StillTailTactics
set_option linter.unusedSimpArgs false
set_option linter.unusedVariables false
namespace Go.Proofs.YtnimaadjmejmpaaDoor
open Go.RowKit Go.ChangeShapes Go.WideShapes M

theorem hasLines_any (x y : Int) (a : Option Addr) (n c : Nat) (w : World) :
    Calls Tryd.prog 62 #[.agg #[.int .i64 x, .int .i64 y, .slice a n c]] w fun e w' => e = .returned (.bool (decide (0 < n))) ∧ Below w.heap.size w w' := by
  by_cases h : 0 < n
  · have h2 : decide (0 < n) = true := by simp [h]
    rw [h2]
    go_enter Tryd.func62, Tryd.ntmps62
    go_wp2
    go_ret
    exact ⟨rfl, below_alloc _ _⟩
  · have h2 : decide (0 < n) = false := by simp [h]
    rw [h2]
    go_enter Tryd.func62, Tryd.ntmps62
    go_wp2
    go_ret
    exact ⟨rfl, below_alloc _ _⟩

theorem takesAway_any (x y : Int) (a : Option Addr) (n c : Nat) (w : World) :
    Calls Tryd.prog 46 #[.agg #[.int .i64 x, .int .i64 y, .slice a n c]] w fun e w' => e = .returned (.bool (decide (0 < n))) ∧ Below w.heap.size w w' := by
  go_enter Tryd.func46, Tryd.ntmps46
  go_wp2_with fail
  refine (hasLines_any x y a n c _).mono ?_
  rintro e w1 ⟨rfl, b1⟩
  go_wp2
  go_ret
  exact ⟨rfl, (below_alloc _ _).next b1⟩
theorem brings_any (x y : Int) (a : Option Addr) (n c : Nat) (w : World) :
    Calls Tryd.prog 47 #[.agg #[.int .i64 x, .int .i64 y, .slice a n c]] w fun e w' => e = .returned (.bool (decide (0 < n))) ∧ Below w.heap.size w w' := by
  go_enter Tryd.func47, Tryd.ntmps47
  go_wp2_with fail
  refine (hasLines_any x y a n c _).mono ?_
  rintro e w1 ⟨rfl, b1⟩
  go_wp2
  go_ret
  exact ⟨rfl, (below_alloc _ _).next b1⟩

/-- The cells of a step behind a pointer. -/
structure SpC (w : World) (b off : Nat) (x : Sp) (A : Option Addr) (m c : Nat) (B : Option Addr) (m2 d : Nat) : Prop where
  c0 : w.cell? ⟨b, off, none⟩ = some (.int .i64 x.fr)
  c1 : w.cell? ⟨b, off + 1, none⟩ = some (.int .i64 x.to_)
  c2 : w.cell? ⟨b, off + 2, none⟩ = some (.slice A m c)
  c3 : w.cell? ⟨b, off + 3, none⟩ = some (.int .i64 x.at_)
  c4 : w.cell? ⟨b, off + 4, none⟩ = some (.int .i64 x.en)
  c5 : w.cell? ⟨b, off + 5, none⟩ = some (.slice B m2 d)
/-- A step as both of its sides. -/
def sidesV (x : Sp) (A : Option Addr) (m c : Nat) (B : Option Addr) (m2 d : Nat) : Value := .agg #[.int .i64 x.fr, .int .i64 x.to_, .slice A m c, .int .i64 x.at_, .int .i64 x.en, .slice B m2 d]

set_option maxHeartbeats 1000000 in
set_option maxRecDepth 100000 in
theorem sidesOf_any (b off : Nat) (x : Sp) (A : Option Addr) (m c : Nat) (B : Option Addr) (m2 d : Nat) (w : World) (h : SpC w b off x A m c B m2 d) :
    Calls Tryd.prog 29 #[.pointer (some ⟨b, off, none⟩)] w fun e w' => e = .returned (sidesV x A m c B m2 d) ∧ Below w.heap.size w w' := by
  obtain ⟨h0, h1, h2, h3, h4, h5⟩ := h
  obtain ⟨W, HW⟩ : ∃ W, Hid (W = w.alloc (.cells #[.int .i64 0, .int .i64 0, .slice none 0 0, .int .i64 0, .int .i64 0, .slice none 0 0] 70)) := ⟨_, rfl⟩
  have HB := Lib.hid (show Below w.heap.size w W by rw [HW.out]; exact below_alloc w _)
  replace h0 := cell_keep HB.out h0
  replace h1 := cell_keep HB.out h1
  replace h2 := cell_keep HB.out h2
  replace h3 := cell_keep HB.out h3
  replace h4 := cell_keep HB.out h4
  replace h5 := cell_keep HB.out h5
  go_enter Tryd.func29, Tryd.ntmps29
  go_wp2
  rw [← HW.out]
  have d0 : W.cell? ⟨w.heap.size, 0, none⟩ = some (.int .i64 0) := by rw [HW.out]; simp
  have d1 : W.cell? ⟨w.heap.size, 1, none⟩ = some (.int .i64 0) := by rw [HW.out]; simp
  have d2 : W.cell? ⟨w.heap.size, 2, none⟩ = some (.slice none 0 0) := by rw [HW.out]; simp
  have d3 : W.cell? ⟨w.heap.size, 3, none⟩ = some (.int .i64 0) := by rw [HW.out]; simp
  have d4 : W.cell? ⟨w.heap.size, 4, none⟩ = some (.int .i64 0) := by rw [HW.out]; simp
  have d5 : W.cell? ⟨w.heap.size, 5, none⟩ = some (.slice none 0 0) := by rw [HW.out]; simp
  have fz : ∀ j, W.frozen? ⟨w.heap.size, j, none⟩ = false := fun j => by rw [HW.out, frozen?_alloc_cells]; simp [World.frozen?]
  go_still_tail 29, (by kernel_rfl)
  go_wp2
  (try simp only [Exit.inBlock, Exit.then])
  refine bodyPost_ret (v := sidesV x A m c B m2 d) (by simp [results, Tryd.results29, go_sem, d0, d1, d2, d3, d4, d5, sidesV]) rfl ?_
  refine ⟨rfl, Below.drew ?_⟩
  exact (((((HB.out.setCell (Nat.le_refl _) _).setCell (Nat.le_refl _) _).setCell (Nat.le_refl _) _).setCell (Nat.le_refl _) _).setCell (Nat.le_refl _) _).setCell (Nat.le_refl _) _

theorem side_split (x y : Int) (l : List ByteArray) : sideB x y l = (decide (0 ≤ x) && decide (x ≤ y) && decide (y ≤ 1000) && goodB l && (if l.length = 0 then decide (y = x) else decide (0 < x) && decide (y - x + 1 = l.length))) := by
  unfold sideB
  cases goodB l
  · simp
  · rw [Bool.eq_iff_iff]
    by_cases h : l.length = 0
    · simp only [if_pos h, Bool.and_eq_true, decide_eq_true_eq, and_true, true_and]; omega
    · simp only [if_neg h, Bool.and_eq_true, decide_eq_true_eq, and_true, true_and]; omega

set_option maxHeartbeats 1000000 in
theorem isGood_any (x y : Int) (a : Option Addr) (n c : Nat) (l : List ByteArray) (w : World) (hl : Strs w a n l) :
    Calls Tryd.prog 59 #[.agg #[.int .i64 x, .int .i64 y, .slice a n c]] w fun e w' => e = .returned (.bool (sideB x y l)) ∧ Below w.heap.size w w' := by
  have HL := Lib.hid hl.len
  obtain ⟨W, HW⟩ : ∃ W, Hid (W = w.alloc (.cells #[.int .i64 x, .int .i64 y, .slice a n c] 65)) := ⟨_, rfl⟩
  have HB := Lib.hid (show Below w.heap.size w W by rw [HW.out]; exact below_alloc w _)
  have k0 : W.cell? ⟨w.heap.size, 0, none⟩ = some (.int .i64 x) := by rw [HW.out]; simp
  have k1 : W.cell? ⟨w.heap.size, 1, none⟩ = some (.int .i64 y) := by rw [HW.out]; simp
  have k2 : W.cell? ⟨w.heap.size, 2, none⟩ = some (.slice a n c) := by rw [HW.out]; simp
  have HS := Lib.hid (side_split x y l)
  by_cases h1 : x < 0
  · have hf := Lib.hid (show sideB x y l = false by rw [HS.out, decide_eq_false (by omega)]; rfl)
    go_enter Tryd.func59, Tryd.ntmps59
    go_wp2
    go_ret
    exact ⟨ret_bool hf.out.symm, by rw [← HW.out]; exact HB.out⟩
  by_cases h2 : y < x
  · have hf := Lib.hid (show sideB x y l = false by rw [HS.out, decide_eq_false (show ¬ x ≤ y by omega)]; simp)
    go_enter Tryd.func59, Tryd.ntmps59
    go_wp2
    go_ret
    exact ⟨ret_bool hf.out.symm, by rw [← HW.out]; exact HB.out⟩
  by_cases h3 : 1000 < y
  · have hf := Lib.hid (show sideB x y l = false by rw [HS.out, decide_eq_false (show ¬ y ≤ 1000 by omega)]; simp)
    go_enter Tryd.func59, Tryd.ntmps59
    go_wp2
    go_ret
    exact ⟨ret_bool hf.out.symm, by rw [← HW.out]; exact HB.out⟩
  cases h4 : goodB l
  · have hf := Lib.hid (show sideB x y l = false by rw [HS.out, h4]; simp)
    have H4 := Lib.hid h4
    clear h4
    go_enter Tryd.func59, Tryd.ntmps59
    go_wp2_with fail
    rw [← HW.out]
    refine (implGoodLines_any a n c l _ (hl.below HB.out)).mono ?_
    rintro e w1 ⟨rfl, b1⟩
    rw [H4.out]
    go_wp2
    go_ret
    exact ⟨ret_bool hf.out.symm, HB.out.next b1⟩
  have H4 := Lib.hid h4
  have hs : sideB x y l = (if n = 0 then decide (y = x) else decide (0 < x) && decide (y - x + 1 = (n : Int))) := by
    rw [HS.out, h4, decide_eq_true (show 0 ≤ x by omega), decide_eq_true (show x ≤ y by omega), decide_eq_true (show y ≤ 1000 by omega), HL.out]; simp
  have hsub : IntKind.i64.wrap (y - x) = y - x := by rw [IntKind.wrap_i64]; omega
  have hsub2 : IntKind.i64.wrap (y - x + 1) = y - x + 1 := by rw [IntKind.wrap_i64]; omega
  clear h4
  by_cases h5 : n = 0
  · have hf := Lib.hid (show sideB x y l = decide (y = x) by rw [hs, if_pos h5])
    have h50 : decide (0 < n) = false := by simp [h5]
    clear hs h5
    cases h6 : decide (y = x)
    all_goals
      have h7 : (y == x) = decide (y = x) := rfl
      rw [h6] at h7
      have H6 := Lib.hid h6
      clear h6
      go_enter Tryd.func59, Tryd.ntmps59
      go_wp2_with fail
      rw [← HW.out]
      refine (implGoodLines_any a n c l _ (hl.below HB.out)).mono ?_
      rintro e w1 ⟨rfl, b1⟩
      have k0 := cell_keep b1 k0
      have k1 := cell_keep b1 k1
      have k2 := cell_keep b1 k2
      rw [H4.out]
      go_wp2_with fail
      refine (hasLines_any x y a n c _).mono ?_
      rintro e w2 ⟨rfl, b2⟩
      have k0 := cell_keep b2 k0
      have k1 := cell_keep b2 k1
      rw [h50]
      go_wp2
      go_ret
      exact ⟨ret_bool (by rw [hf.out, H6.out]), (HB.out.next b1).next b2⟩
  · have hf := Lib.hid (show sideB x y l = (decide (0 < x) && decide (y - x + 1 = (n : Int))) by rw [hs, if_neg h5])
    have h50 : decide (0 < n) = true := by simp; omega
    clear hs h5
    by_cases h8 : 0 < x
    · cases h6 : decide (y - x + 1 = (n : Int))
      all_goals
        have h7 : (y - x + 1 == (n : Int)) = decide (y - x + 1 = (n : Int)) := rfl
        rw [h6] at h7
        have H6 := Lib.hid h6
        have H8 := Lib.hid h8
        clear h6
        go_enter Tryd.func59, Tryd.ntmps59
        go_wp2_with fail
        rw [← HW.out]
        refine (implGoodLines_any a n c l _ (hl.below HB.out)).mono ?_
        rintro e w1 ⟨rfl, b1⟩
        have k0 := cell_keep b1 k0
        have k1 := cell_keep b1 k1
        have k2 := cell_keep b1 k2
        rw [H4.out]
        go_wp2_with fail
        refine (hasLines_any x y a n c _).mono ?_
        rintro e w2 ⟨rfl, b2⟩
        have k0 := cell_keep b2 k0
        have k1 := cell_keep b2 k1
        have k2 := cell_keep b2 k2
        rw [h50]
        go_wp2
        go_ret
        exact ⟨ret_bool (by rw [hf.out, H6.out]; simp [H8.out]), (HB.out.next b1).next b2⟩
    · have H8 := Lib.hid h8
      go_enter Tryd.func59, Tryd.ntmps59
      go_wp2_with fail
      rw [← HW.out]
      refine (implGoodLines_any a n c l _ (hl.below HB.out)).mono ?_
      rintro e w1 ⟨rfl, b1⟩
      have k0 := cell_keep b1 k0
      have k1 := cell_keep b1 k1
      have k2 := cell_keep b1 k2
      rw [H4.out]
      go_wp2_with fail
      refine (hasLines_any x y a n c _).mono ?_
      rintro e w2 ⟨rfl, b2⟩
      have k0 := cell_keep b2 k0
      have k1 := cell_keep b2 k1
      have k2 := cell_keep b2 k2
      rw [h50]
      go_wp2
      go_ret
      exact ⟨ret_bool (by rw [hf.out, decide_eq_false (show ¬ 0 < x by have := H8.out; omega), Bool.false_and]), (HB.out.next b1).next b2⟩

end Go.Proofs.YtnimaadjmejmpaaDoor
