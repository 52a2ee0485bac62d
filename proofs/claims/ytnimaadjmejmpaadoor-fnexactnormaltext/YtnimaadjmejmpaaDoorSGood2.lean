/-
  Good steps: the program's GoodSteps over whole lists, and the model's.
-/
import Derived.Test.YtnimaadjmejmpaaDoorSGoodI
import Derived.Test.YtnimaadjmejmpaaDoorSBase2
set_option linter.unusedSimpArgs false
set_option linter.unusedVariables false
namespace Go.Proofs.YtnimaadjmejmpaaDoor
open Go.RowKit Go.ChangeShapes Go.WideShapes M

theorem stepB_eq (x : Sp) : stepB x = ((decide (0 < x.old.length) || decide (0 < x.new.length)) && sideB x.fr x.to_ x.old && sideB x.at_ x.en x.new) := by
  unfold stepB
  cases sideB x.fr x.to_ x.old <;> cases sideB x.at_ x.en x.new <;> simp
  rw [Bool.eq_iff_iff]; simp; omega

set_option maxHeartbeats 1000000 in
theorem twoGood_any (x : Sp) (A : Option Addr) (m c : Nat) (B : Option Addr) (m2 d : Nat) (w : World) (hl : Strs w A m x.old) (hl2 : Strs w B m2 x.new) :
    Calls Tryd.prog 42 #[sidesV x A m c B m2 d] w fun e w' => e = .returned (.bool (stepB x)) ∧ Below w.heap.size w w' := by
  unfold sidesV
  have HS := Lib.hid (stepB_eq x)
  rw [hl.len, hl2.len] at HS
  obtain ⟨W, HW⟩ : ∃ W, Hid (W = w.alloc (.cells #[.int .i64 x.fr, .int .i64 x.to_, .slice A m c, .int .i64 x.at_, .int .i64 x.en, .slice B m2 d] 70)) := ⟨_, rfl⟩
  have HB := Lib.hid (show Below w.heap.size w W by rw [HW.out]; exact below_alloc w _)
  have k0 : W.cell? ⟨w.heap.size, 0, none⟩ = some (.int .i64 x.fr) := by rw [HW.out]; simp
  have k1 : W.cell? ⟨w.heap.size, 1, none⟩ = some (.int .i64 x.to_) := by rw [HW.out]; simp
  have k2 : W.cell? ⟨w.heap.size, 2, none⟩ = some (.slice A m c) := by rw [HW.out]; simp
  have k3 : W.cell? ⟨w.heap.size, 3, none⟩ = some (.int .i64 x.at_) := by rw [HW.out]; simp
  have k4 : W.cell? ⟨w.heap.size, 4, none⟩ = some (.int .i64 x.en) := by rw [HW.out]; simp
  have k5 : W.cell? ⟨w.heap.size, 5, none⟩ = some (.slice B m2 d) := by rw [HW.out]; simp
  cases h0 : decide (0 < m)
  · have H1 := Lib.hid h0
    clear h0
    cases h1 : decide (0 < m2)
    · have H2 := Lib.hid h1
      clear h1
      have hf := Lib.hid (show stepB x = false by rw [HS.out, H1.out, H2.out] <;> simp)
      go_enter Tryd.func42, Tryd.ntmps42
      have B0 := HB.out
      go_wp2_with fail
      rw [← HW.out]
      refine (takesAway_any x.fr x.to_ A m c _).mono ?_
      rintro e w1 ⟨rfl, b1⟩
      replace k0 := cell_keep b1 k0
      replace k1 := cell_keep b1 k1
      replace k2 := cell_keep b1 k2
      replace k3 := cell_keep b1 k3
      replace k4 := cell_keep b1 k4
      replace k5 := cell_keep b1 k5
      have B1 := B0.next b1
      clear b1
      rw [H1.out]
      go_wp2_with fail
      refine (brings_any x.at_ x.en B m2 d _).mono ?_
      rintro e w2 ⟨rfl, b1⟩
      replace k0 := cell_keep b1 k0
      replace k1 := cell_keep b1 k1
      replace k2 := cell_keep b1 k2
      replace k3 := cell_keep b1 k3
      replace k4 := cell_keep b1 k4
      replace k5 := cell_keep b1 k5
      have B2 := B1.next b1
      clear b1
      rw [H2.out]
      go_wp2
      go_ret
      exact ⟨ret_bool hf.out.symm, B2⟩
    · have H2 := Lib.hid h1
      clear h1
      cases h2 : sideB x.fr x.to_ x.old
      · have H3 := Lib.hid h2
        clear h2
        have hf := Lib.hid (show stepB x = false by rw [HS.out, H1.out, H2.out, H3.out] <;> simp)
        go_enter Tryd.func42, Tryd.ntmps42
        have B0 := HB.out
        go_wp2_with fail
        rw [← HW.out]
        refine (takesAway_any x.fr x.to_ A m c _).mono ?_
        rintro e w1 ⟨rfl, b1⟩
        replace k0 := cell_keep b1 k0
        replace k1 := cell_keep b1 k1
        replace k2 := cell_keep b1 k2
        replace k3 := cell_keep b1 k3
        replace k4 := cell_keep b1 k4
        replace k5 := cell_keep b1 k5
        have B1 := B0.next b1
        clear b1
        rw [H1.out]
        go_wp2_with fail
        refine (brings_any x.at_ x.en B m2 d _).mono ?_
        rintro e w2 ⟨rfl, b1⟩
        replace k0 := cell_keep b1 k0
        replace k1 := cell_keep b1 k1
        replace k2 := cell_keep b1 k2
        replace k3 := cell_keep b1 k3
        replace k4 := cell_keep b1 k4
        replace k5 := cell_keep b1 k5
        have B2 := B1.next b1
        clear b1
        rw [H2.out]
        go_wp2_with fail
        refine (isGood_any x.fr x.to_ A m c x.old _ (hl.below B2)).mono ?_
        rintro e w3 ⟨rfl, b1⟩
        replace k0 := cell_keep b1 k0
        replace k1 := cell_keep b1 k1
        replace k2 := cell_keep b1 k2
        replace k3 := cell_keep b1 k3
        replace k4 := cell_keep b1 k4
        replace k5 := cell_keep b1 k5
        have B3 := B2.next b1
        clear b1
        rw [H3.out]
        go_wp2
        go_ret
        exact ⟨ret_bool hf.out.symm, B3⟩
      · have H3 := Lib.hid h2
        clear h2
        cases h3 : sideB x.at_ x.en x.new
        · have H4 := Lib.hid h3
          clear h3
          have hf := Lib.hid (show stepB x = false by rw [HS.out, H1.out, H2.out, H3.out, H4.out] <;> simp)
          go_enter Tryd.func42, Tryd.ntmps42
          have B0 := HB.out
          go_wp2_with fail
          rw [← HW.out]
          refine (takesAway_any x.fr x.to_ A m c _).mono ?_
          rintro e w1 ⟨rfl, b1⟩
          replace k0 := cell_keep b1 k0
          replace k1 := cell_keep b1 k1
          replace k2 := cell_keep b1 k2
          replace k3 := cell_keep b1 k3
          replace k4 := cell_keep b1 k4
          replace k5 := cell_keep b1 k5
          have B1 := B0.next b1
          clear b1
          rw [H1.out]
          go_wp2_with fail
          refine (brings_any x.at_ x.en B m2 d _).mono ?_
          rintro e w2 ⟨rfl, b1⟩
          replace k0 := cell_keep b1 k0
          replace k1 := cell_keep b1 k1
          replace k2 := cell_keep b1 k2
          replace k3 := cell_keep b1 k3
          replace k4 := cell_keep b1 k4
          replace k5 := cell_keep b1 k5
          have B2 := B1.next b1
          clear b1
          rw [H2.out]
          go_wp2_with fail
          refine (isGood_any x.fr x.to_ A m c x.old _ (hl.below B2)).mono ?_
          rintro e w3 ⟨rfl, b1⟩
          replace k0 := cell_keep b1 k0
          replace k1 := cell_keep b1 k1
          replace k2 := cell_keep b1 k2
          replace k3 := cell_keep b1 k3
          replace k4 := cell_keep b1 k4
          replace k5 := cell_keep b1 k5
          have B3 := B2.next b1
          clear b1
          rw [H3.out]
          go_wp2_with fail
          refine (isGood_any x.at_ x.en B m2 d x.new _ (hl2.below B3)).mono ?_
          rintro e w4 ⟨rfl, b1⟩
          replace k0 := cell_keep b1 k0
          replace k1 := cell_keep b1 k1
          replace k2 := cell_keep b1 k2
          replace k3 := cell_keep b1 k3
          replace k4 := cell_keep b1 k4
          replace k5 := cell_keep b1 k5
          have B4 := B3.next b1
          clear b1
          rw [H4.out]
          go_wp2
          go_ret
          exact ⟨ret_bool hf.out.symm, B4⟩
        · have H4 := Lib.hid h3
          clear h3
          have hf := Lib.hid (show stepB x = true by rw [HS.out, H1.out, H2.out, H3.out, H4.out] <;> simp)
          go_enter Tryd.func42, Tryd.ntmps42
          have B0 := HB.out
          go_wp2_with fail
          rw [← HW.out]
          refine (takesAway_any x.fr x.to_ A m c _).mono ?_
          rintro e w1 ⟨rfl, b1⟩
          replace k0 := cell_keep b1 k0
          replace k1 := cell_keep b1 k1
          replace k2 := cell_keep b1 k2
          replace k3 := cell_keep b1 k3
          replace k4 := cell_keep b1 k4
          replace k5 := cell_keep b1 k5
          have B1 := B0.next b1
          clear b1
          rw [H1.out]
          go_wp2_with fail
          refine (brings_any x.at_ x.en B m2 d _).mono ?_
          rintro e w2 ⟨rfl, b1⟩
          replace k0 := cell_keep b1 k0
          replace k1 := cell_keep b1 k1
          replace k2 := cell_keep b1 k2
          replace k3 := cell_keep b1 k3
          replace k4 := cell_keep b1 k4
          replace k5 := cell_keep b1 k5
          have B2 := B1.next b1
          clear b1
          rw [H2.out]
          go_wp2_with fail
          refine (isGood_any x.fr x.to_ A m c x.old _ (hl.below B2)).mono ?_
          rintro e w3 ⟨rfl, b1⟩
          replace k0 := cell_keep b1 k0
          replace k1 := cell_keep b1 k1
          replace k2 := cell_keep b1 k2
          replace k3 := cell_keep b1 k3
          replace k4 := cell_keep b1 k4
          replace k5 := cell_keep b1 k5
          have B3 := B2.next b1
          clear b1
          rw [H3.out]
          go_wp2_with fail
          refine (isGood_any x.at_ x.en B m2 d x.new _ (hl2.below B3)).mono ?_
          rintro e w4 ⟨rfl, b1⟩
          replace k0 := cell_keep b1 k0
          replace k1 := cell_keep b1 k1
          replace k2 := cell_keep b1 k2
          replace k3 := cell_keep b1 k3
          replace k4 := cell_keep b1 k4
          replace k5 := cell_keep b1 k5
          have B4 := B3.next b1
          clear b1
          rw [H4.out]
          go_wp2
          go_ret
          exact ⟨ret_bool hf.out.symm, B4⟩
  · have H1 := Lib.hid h0
    clear h0
    cases h2 : sideB x.fr x.to_ x.old
    · have H3 := Lib.hid h2
      clear h2
      have hf := Lib.hid (show stepB x = false by rw [HS.out, H1.out, H3.out] <;> simp)
      go_enter Tryd.func42, Tryd.ntmps42
      have B0 := HB.out
      go_wp2_with fail
      rw [← HW.out]
      refine (takesAway_any x.fr x.to_ A m c _).mono ?_
      rintro e w1 ⟨rfl, b1⟩
      replace k0 := cell_keep b1 k0
      replace k1 := cell_keep b1 k1
      replace k2 := cell_keep b1 k2
      replace k3 := cell_keep b1 k3
      replace k4 := cell_keep b1 k4
      replace k5 := cell_keep b1 k5
      have B1 := B0.next b1
      clear b1
      rw [H1.out]
      go_wp2_with fail
      refine (isGood_any x.fr x.to_ A m c x.old _ (hl.below B1)).mono ?_
      rintro e w2 ⟨rfl, b1⟩
      replace k0 := cell_keep b1 k0
      replace k1 := cell_keep b1 k1
      replace k2 := cell_keep b1 k2
      replace k3 := cell_keep b1 k3
      replace k4 := cell_keep b1 k4
      replace k5 := cell_keep b1 k5
      have B2 := B1.next b1
      clear b1
      rw [H3.out]
      go_wp2
      go_ret
      exact ⟨ret_bool hf.out.symm, B2⟩
    · have H3 := Lib.hid h2
      clear h2
      cases h3 : sideB x.at_ x.en x.new
      · have H4 := Lib.hid h3
        clear h3
        have hf := Lib.hid (show stepB x = false by rw [HS.out, H1.out, H3.out, H4.out] <;> simp)
        go_enter Tryd.func42, Tryd.ntmps42
        have B0 := HB.out
        go_wp2_with fail
        rw [← HW.out]
        refine (takesAway_any x.fr x.to_ A m c _).mono ?_
        rintro e w1 ⟨rfl, b1⟩
        replace k0 := cell_keep b1 k0
        replace k1 := cell_keep b1 k1
        replace k2 := cell_keep b1 k2
        replace k3 := cell_keep b1 k3
        replace k4 := cell_keep b1 k4
        replace k5 := cell_keep b1 k5
        have B1 := B0.next b1
        clear b1
        rw [H1.out]
        go_wp2_with fail
        refine (isGood_any x.fr x.to_ A m c x.old _ (hl.below B1)).mono ?_
        rintro e w2 ⟨rfl, b1⟩
        replace k0 := cell_keep b1 k0
        replace k1 := cell_keep b1 k1
        replace k2 := cell_keep b1 k2
        replace k3 := cell_keep b1 k3
        replace k4 := cell_keep b1 k4
        replace k5 := cell_keep b1 k5
        have B2 := B1.next b1
        clear b1
        rw [H3.out]
        go_wp2_with fail
        refine (isGood_any x.at_ x.en B m2 d x.new _ (hl2.below B2)).mono ?_
        rintro e w3 ⟨rfl, b1⟩
        replace k0 := cell_keep b1 k0
        replace k1 := cell_keep b1 k1
        replace k2 := cell_keep b1 k2
        replace k3 := cell_keep b1 k3
        replace k4 := cell_keep b1 k4
        replace k5 := cell_keep b1 k5
        have B3 := B2.next b1
        clear b1
        rw [H4.out]
        go_wp2
        go_ret
        exact ⟨ret_bool hf.out.symm, B3⟩
      · have H4 := Lib.hid h3
        clear h3
        have hf := Lib.hid (show stepB x = true by rw [HS.out, H1.out, H3.out, H4.out] <;> simp)
        go_enter Tryd.func42, Tryd.ntmps42
        have B0 := HB.out
        go_wp2_with fail
        rw [← HW.out]
        refine (takesAway_any x.fr x.to_ A m c _).mono ?_
        rintro e w1 ⟨rfl, b1⟩
        replace k0 := cell_keep b1 k0
        replace k1 := cell_keep b1 k1
        replace k2 := cell_keep b1 k2
        replace k3 := cell_keep b1 k3
        replace k4 := cell_keep b1 k4
        replace k5 := cell_keep b1 k5
        have B1 := B0.next b1
        clear b1
        rw [H1.out]
        go_wp2_with fail
        refine (isGood_any x.fr x.to_ A m c x.old _ (hl.below B1)).mono ?_
        rintro e w2 ⟨rfl, b1⟩
        replace k0 := cell_keep b1 k0
        replace k1 := cell_keep b1 k1
        replace k2 := cell_keep b1 k2
        replace k3 := cell_keep b1 k3
        replace k4 := cell_keep b1 k4
        replace k5 := cell_keep b1 k5
        have B2 := B1.next b1
        clear b1
        rw [H3.out]
        go_wp2_with fail
        refine (isGood_any x.at_ x.en B m2 d x.new _ (hl2.below B2)).mono ?_
        rintro e w3 ⟨rfl, b1⟩
        replace k0 := cell_keep b1 k0
        replace k1 := cell_keep b1 k1
        replace k2 := cell_keep b1 k2
        replace k3 := cell_keep b1 k3
        replace k4 := cell_keep b1 k4
        replace k5 := cell_keep b1 k5
        have B3 := B2.next b1
        clear b1
        rw [H4.out]
        go_wp2
        go_ret
        exact ⟨ret_bool hf.out.symm, B3⟩

set_option maxHeartbeats 1000000 in
theorem implGoodSteps_any (a : Option Addr) (n c : Nat) (l : List Sp) (w : World) (hl : Sps w a n l) :
    Calls Tryd.prog 27 #[.slice a n c] w fun e w' => e = .returned (.bool (stepsB l)) ∧ Below w.heap.size w w' := by
  have hlim := hl.lim
  unfold maxLen at hlim
  have HL := Lib.hid hl.len
  by_cases hn : 20 < n
  · have hf := Lib.hid (show stepsB l = false by unfold stepsB; rw [decide_eq_false (by rw [HL.out]; omega), Bool.and_false])
    go_enter Tryd.func27, Tryd.ntmps27
    go_wp2
    go_ret
    exact ⟨ret_bool hf.out.symm, Below.refl _ _⟩
  · have HS := Lib.hid (show stepsB l = l.all stepB by unfold stepsB; rw [decide_eq_true (by rw [HL.out]; omega), Bool.and_true])
    go_enter Tryd.func27, Tryd.ntmps27
    go_wp2
    go_loopw [9] (fun i w' => ∃ k : Nat, i = .int .i64 k ∧ k ≤ n ∧ Hid (∀ (j : Nat) x, j < k → l[j]? = some x → stepB x = true) ∧ Below w.heap.size w w') (fun i _ => n - (intOf i).toNat)
    case atStart => exact ⟨0, rfl, by omega, fun j s h => by omega, Below.refl _ _⟩
    case round =>
      obtain ⟨k, rfl, hk, H, hb⟩ := hrel
      by_cases hlt : k < n
      · obtain ⟨b, off, A, m, c', B, m2, c2', x, rfl, hx, c0, c1, c2, c3, c4, c5, hs, hmc, hs2, hmc2, hok⟩ := (hl.below hb).at_ hlt
        have HX := Lib.hid hx
        clear hx
        go_wp2_with fail
        refine (sidesOf_any b (off + k * 6) x A m c' B m2 c2' _ ⟨c0, c1, c2, c3, c4, c5⟩).mono ?_
        rintro e w1 ⟨rfl, b1⟩
        go_wp2_with fail
        refine (twoGood_any x A m c' B m2 c2' _ (hs.below b1) (hs2.below b1)).mono ?_
        rintro e w2 ⟨rfl, b2⟩
        cases hq : stepB x
        · have hf := Lib.hid (show stepsB l = false by
            rw [HS.out, List.all_eq_false]; exact ⟨x, List.mem_of_getElem? HX.out, by simp [hq]⟩)
          go_wp2
          go_ret
          exact ⟨ret_bool hf.out.symm, (hb.next b1).next b2⟩
        · have HQ := Lib.hid hq
          go_wp2
          go_roundw
          case rel =>
            refine ⟨k + 1, by go_num, by omega, fun j y hj hy => ?_, (hb.next b1).next b2⟩
            by_cases e : j = k
            · subst e; rw [HX.out] at hy; injection hy with hy; rw [← hy]; exact HQ.out
            · exact H.out j y (by omega) hy
          case measure => simp [intOf]; omega
      · have hf := Lib.hid (show stepsB l = true by
          rw [HS.out, List.all_eq_true]; intro x hx
          obtain ⟨j, hj⟩ := List.mem_iff_getElem?.1 hx
          exact H.out j x (by have := (List.getElem?_eq_some_iff.1 hj).1; have := HL.out; omega) hj)
        go_wp2
        go_ret
        exact ⟨ret_bool hf.out.symm, hb⟩

set_option maxHeartbeats 1000000 in
theorem l5Step_any (x : Sp) (A : Option Addr) (m c : Nat) (B : Option Addr) (m2 d : Nat) (w : World) (hl : Strs w A m x.old) (hl2 : Strs w B m2 x.new) (hm : m ≤ 1048576) (hm2 : m2 ≤ 1048576) :
    Calls Tryd.prog 39 #[.agg #[.int .i64 x.fr, .int .i64 x.to_, .slice A m c, .int .i64 x.at_, .int .i64 x.en, .slice B m2 d]] w fun e w' => e = .returned (.bool (stepB x)) ∧ Below w.heap.size w w' := by
  have HS := Lib.hid (show stepB x = (sideB x.fr x.to_ x.old && sideB x.at_ x.en x.new && decide (0 < m + m2)) by unfold stepB; rw [hl.len, hl2.len])
  have hb := below_alloc w (.cells #[.int .i64 x.fr, .int .i64 x.to_, .slice A m c, .int .i64 x.at_, .int .i64 x.en, .slice B m2 d] 54)
  cases h1 : sideB x.fr x.to_ x.old
  · have H1 := Lib.hid h1
    have hf := Lib.hid (show stepB x = false by rw [HS.out, h1]; rfl)
    clear h1
    go_enter Tryd.func39, Tryd.ntmps39
    go_wp2_with fail
    refine (l5Side_any x.fr x.to_ A m c x.old _ (hl.below hb)).mono ?_
    rintro e w1 ⟨rfl, rfl⟩
    rw [H1.out]
    go_wp2
    go_ret
    exact ⟨ret_bool hf.out.symm, hb⟩
  · have H1 := Lib.hid h1
    cases h2 : sideB x.at_ x.en x.new
    · have H2 := Lib.hid h2
      have hf := Lib.hid (show stepB x = false by rw [HS.out, h1, h2]; rfl)
      clear h1 h2
      go_enter Tryd.func39, Tryd.ntmps39
      go_wp2_with fail
      refine (l5Side_any x.fr x.to_ A m c x.old _ (hl.below hb)).mono ?_
      rintro e w1 ⟨rfl, rfl⟩
      rw [H1.out]
      go_wp2_with fail
      refine (l5Side_any x.at_ x.en B m2 d x.new _ (hl2.below hb)).mono ?_
      rintro e w1 ⟨rfl, rfl⟩
      rw [H2.out]
      go_wp2
      go_ret
      exact ⟨ret_bool hf.out.symm, hb⟩
    · have H2 := Lib.hid h2
      have hf := Lib.hid (show stepB x = decide (0 < m + m2) by rw [HS.out, h1, h2]; rfl)
      have hsum : IntKind.i64.wrap ((m : Int) + (m2 : Int)) = (m : Int) + (m2 : Int) := by rw [IntKind.wrap_i64]; omega
      clear h1 h2
      by_cases h3 : 0 < m + m2
      all_goals
        have H3 := Lib.hid h3
        go_enter Tryd.func39, Tryd.ntmps39
        go_wp2_with fail
        refine (l5Side_any x.fr x.to_ A m c x.old _ (hl.below hb)).mono ?_
        rintro e w1 ⟨rfl, rfl⟩
        rw [H1.out]
        go_wp2_with fail
        refine (l5Side_any x.at_ x.en B m2 d x.new _ (hl2.below hb)).mono ?_
        rintro e w1 ⟨rfl, rfl⟩
        rw [H2.out]
        go_wp2
        go_ret
        exact ⟨ret_bool (by rw [hf.out]; have := H3.out; simp; omega), hb⟩

set_option maxHeartbeats 1000000 in
theorem specGoodSteps_any (a : Option Addr) (n c : Nat) (l : List Sp) (w : World) (hl : Sps w a n l) (hb : ∀ x ∈ l, x.old.length ≤ 1048576 ∧ x.new.length ≤ 1048576) :
    Calls Tryd.prog 24 #[.slice a n c] w fun e w' => e = .returned (.bool (stepsB l)) ∧ Below w.heap.size w w' := by
  have hlim := hl.lim
  unfold maxLen at hlim
  have HL := Lib.hid hl.len
  have HBB := Lib.hid hb
  clear hb
  go_enter Tryd.func24, Tryd.ntmps24
  go_wp2
  go_loopw [7] (fun i w' => ∃ k : Nat, i = .int .i64 k ∧ k ≤ n ∧ Hid (∀ (j : Nat) x, j < k → l[j]? = some x → stepB x = true) ∧ Below w.heap.size w w') (fun i _ => n - (intOf i).toNat)
  case atStart => exact ⟨0, rfl, by omega, fun j s h => by omega, Below.refl _ _⟩
  case round =>
    obtain ⟨k, rfl, hk, H, hb⟩ := hrel
    by_cases hlt : k < n
    · obtain ⟨b, off, A, m, c', B, m2, c2', x, rfl, hx, c0, c1, c2, c3, c4, c5, hs, hmc, hs2, hmc2, hok⟩ := (hl.below hb).at_ hlt
      have HX := Lib.hid hx
      have hm := HBB.out x (List.mem_of_getElem? hx)
      rw [hs.len, hs2.len] at hm
      obtain ⟨hm, hm2⟩ := hm
      have hb1 := below_alloc wr (.cells #[.int .i64 x.fr, .int .i64 x.to_, .slice A m c', .int .i64 x.at_, .int .i64 x.en, .slice B m2 c2'] 54)
      clear hx
      go_wp2_with fail
      refine (l5Step_any x A m c' B m2 c2' _ (hs.below hb1) (hs2.below hb1) hm hm2).mono ?_
      rintro e w2 ⟨rfl, b2⟩
      have hb2 := (hb.next hb1).next b2
      cases hq : stepB x
      · have hf := Lib.hid (show stepsB l = false by
          unfold stepsB
          rw [show l.all stepB = false by rw [List.all_eq_false]; exact ⟨x, List.mem_of_getElem? HX.out, by simp [hq]⟩, Bool.false_and])
        go_wp2
        go_ret
        exact ⟨ret_bool hf.out.symm, hb2⟩
      · have HQ := Lib.hid hq
        go_wp2
        go_roundw
        case rel =>
          refine ⟨k + 1, by go_num, by omega, fun j y hj hy => ?_, hb2⟩
          by_cases e : j = k
          · subst e; rw [HX.out] at hy; injection hy with hy; rw [← hy]; exact HQ.out
          · exact H.out j y (by omega) hy
        case measure => simp [intOf]; omega
    · have hf := Lib.hid (show stepsB l = decide (n ≤ 20) by
        unfold stepsB
        rw [show l.all stepB = true by
          rw [List.all_eq_true]; intro x hx
          obtain ⟨j, hj⟩ := List.mem_iff_getElem?.1 hx
          exact H.out j x (by have := (List.getElem?_eq_some_iff.1 hj).1; have := HL.out; omega) hj, Bool.true_and, HL.out])
      go_wp2
      go_ret
      exact ⟨ret_bool (by rw [hf.out]; simp; omega), hb⟩

end Go.Proofs.YtnimaadjmejmpaaDoor
