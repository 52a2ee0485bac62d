/-
  The law on LinesOf.
-/
import Derived.Test.YtlkodgkagjldaaaLinesI
set_option linter.unusedSimpArgs false
set_option linter.unusedVariables false
namespace Go.Proofs.Ytlkodgkagjldaaa
open Go.RowKit M

theorem linesOf_len (s : ByteArray) : (linesOf s).1.length ≤ 40 := by
  unfold linesOf
  split
  · rename_i h
    unfold fits at h
    rw [Bool.and_eq_true] at h
    exact of_decide_eq_true h.1
  · simp

set_option maxHeartbeats 4000000 in
set_option maxRecDepth 100000 in
theorem FnExactLinesOf_any (w : World) (s : ByteArray) (hs : s.size ≤ maxLen) :
    Calls Try.prog 5 #[.string s] w fun e w' => e = .returned (.bool true) ∧ Below w.heap.size w w' := by
  unfold maxLen at hs
  by_cases hbig : s.size ≤ 1048576
  · have hplen := linesOf_len s
    obtain ⟨P, q, HP⟩ : ∃ P q, Hid (linesOf s = (P, q)) := ⟨_, _, rfl⟩
    obtain ⟨p, HPL, hp⟩ : ∃ p, Hid (P.length = p) ∧ p ≤ 40 := ⟨_, rfl, by rw [HP.out] at hplen; exact hplen⟩
    clear hplen
    have heqP := eqT_refl P
    have hd : decide ((1048576 : Int) < (s.size : Int)) = false := by simp; omega
    go_enter Try.func5, Try.ntmps5
    go_wp2_with fail
    refine (specLinesOf_any s _ hbig).mono ?_
    rintro e w2 ⟨v0, rfl, o2, b2⟩
    rw [HP.out] at o2 ⊢
    dsimp only at o2 ⊢
    obtain ⟨A0, c0, rfl, hc0, hm0⟩ := o2.form HPL.out
    have hold0 : ∀ g, (Value.slice A0 p c0).ownBlock = some g → g < w2.heap.size := fun g e => (o2.lt e).2
    have hz2 := b2.size
    go_wp2_with fail
    refine (implLinesOf_any s _ hbig).mono ?_
    rintro e w4 ⟨v1, rfl, o4, b4⟩
    rw [HP.out] at o4 ⊢
    dsimp only at o4 ⊢
    obtain ⟨A1, c1, rfl, hc1, hm1⟩ := o4.form HPL.out
    have hnew1 : ∀ g, (Value.slice A1 p c1).ownBlock = some g → w2.heap.size ≤ g := fun g e => (o4.lt e).1
    have B4 := b2.next b4
    have o0 := o2.below b4
    clear o2
    go_wp2_with fail
    refine (eqStringS_any _ _ p p c1 c0 P P _ o4.strs o0.strs).mono ?_
    rintro e w9 ⟨rfl, d9⟩
    have B9 := B4.next d9.below
    have o0 := o0.below d9.below
    have o4 := o4.below d9.below
    go_wp2_with fail
    refine (markStringS_any _ p c1 _ 1 P _ o4 (by omega) (by omega)).mono ?_
    rintro e w10 ⟨rfl, x10, g10⟩
    have o0 := o0.kept g10 (fun g e h => by have := hold0 g h; have := hnew1 g e; omega)
    have B10 := B9.grown g10 B9.size (fun g e => by have := hnew1 g e; omega)
    go_wp2_with fail
    refine (heldStringS_any _ p c1 1 _ x10.strs (by omega) (by omega)).mono ?_
    rintro e w11 ⟨rfl, b11⟩
    go_wp2_with fail
    refine (implLinesOf_any s _ hbig).mono ?_
    rintro e w13 ⟨v2, rfl, o13, b13⟩
    rw [HP.out] at o13 ⊢
    dsimp only at o13 ⊢
    obtain ⟨A2, c2, rfl, hc2, hm2⟩ := o13.form HPL.out
    have b14 := b11.next b13
    go_wp2_with fail
    refine (eqStringS_any _ _ p p c2 c0 P P _ o13.strs (o0.below b14).strs).mono ?_
    rintro e w15 ⟨rfl, d15⟩
    have b15 := b14.next d15.below
    go_wp2_with fail
    refine (heldStringS_any _ p c1 1 _ (x10.below b15).strs (by omega) (by omega)).mono ?_
    rintro e w16 ⟨rfl, b16⟩
    go_wp2
    go_ret
    exact ⟨rfl, (B10.next b15).next b16⟩
  · have hd : decide ((1048576 : Int) < (s.size : Int)) = true := by simp; omega
    go_enter Try.func5, Try.ntmps5
    go_wp2
    go_ret
    exact ⟨rfl, Below.refl _ _⟩

end Go.Proofs.Ytlkodgkagjldaaa
