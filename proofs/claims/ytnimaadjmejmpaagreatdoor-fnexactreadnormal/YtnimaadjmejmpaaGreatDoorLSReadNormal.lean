/-
  The law FnExactReadNormal: the walk.
-/
import Derived.Test.YtnimaadjmejmpaaGreatDoorRSpec
import Derived.Test.YtnimaadjmejmpaaGreatDoorRNorm
import Derived.Test.YtnimaadjmejmpaaGreatDoorSLaws
set_option linter.unusedSimpArgs false
set_option linter.unusedVariables false
namespace Go.Proofs.YtnimaadjmejmpaaGreatDoor
open Go.RowKit M

theorem good_bulk {x : Sp} (h : stepB x = true) : bulk x ≤ 2480 := by
  obtain ⟨s1, s2, _⟩ := stepB_parts h
  obtain ⟨_, _, _, _, _, _, g1, _⟩ := side_le s1
  obtain ⟨_, _, _, _, _, _, g2, _⟩ := side_le s2
  have q1 := lines_total (goodB_lines g1)
  have q2 := lines_total (goodB_lines g2)
  unfold bulk
  omega
theorem readN_len (s : List UInt8) : (readN s).1.length + totalP (readN s).1 ≤ 60000 := by
  unfold readN
  cases e : textSteps s with
  | none => simp [totalP]
  | some p =>
    obtain ⟨_, h, _⟩ := textSteps_some.1 e
    unfold stepsB at h
    simp only [Bool.and_eq_true, decide_eq_true_eq] at h
    have h5 := totalP_le (l := p) (b := 2480) (fun x hx => good_bulk (List.all_eq_true.1 h.1 x hx))
    have h6 : p.length * 2480 ≤ 20 * 2480 := Nat.mul_le_mul_right _ h.2
    dsimp only
    omega

set_option maxHeartbeats 4000000 in
set_option maxRecDepth 100000 in
theorem FnExactReadNormal_any (w : World) (hv : Vars w) (s : ByteArray) (hs : s.size ≤ maxLen) :
    Calls Tryz.prog 5 #[.string s] w fun e w' => e = .returned (.bool true) ∧ Below w.heap.size w w' := by
  unfold maxLen at hs
  have B0 := Below.refl w.heap.size w
  by_cases hbig : 1048576 < s.size
  · go_enter Tryz.func5, Tryz.ntmps5
    go_wp2
    go_ret
    exact ⟨rfl, B0⟩
  have hbs : s.size ≤ 1048576 := by omega
  obtain ⟨P, q1, q2, HP⟩ : ∃ P q1 q2, Hid (readN s.data.toList = (P, q1, q2)) := ⟨_, _, _, rfl⟩
  have hbd := readN_len s.data.toList
  rw [HP.out] at hbd
  have HBD := Lib.hid hbd
  clear hbd
  obtain ⟨p, HPL⟩ : ∃ p, Hid (P.length = p) := ⟨_, rfl⟩
  have heqP := eqPS_refl P
  have hp : p ≤ 1048576 := by have := HBD.out; have := HPL.out; (try dsimp only at *); omega
  go_enter Tryz.func5, Tryz.ntmps5
  go_wp2_with fail
  refine (specReadNormal_any s hbs _).mono ?_
  rintro e v1 ⟨ov, os, rfl, o, b1⟩
  rw [HP.out] at o ⊢
  dsimp only at o ⊢
  obtain ⟨ya, yc, rfl, oh1, oh2⟩ := o.form HPL.out
  have HO := Lib.hid (show ∀ j, (BlkR (Value.slice ya p yc) os) j → j < v1.heap.size from fun j e => (o.lt e).2)
  replace B0 := B0.next b1
  clear b1
  go_wp2_with fail
  refine (implReadNormal_any s hbs _ (hv.below B0)).mono ?_
  rintro e v2 ⟨gv, gs, rfl, g, b1⟩
  rw [HP.out] at g ⊢
  dsimp only at g ⊢
  obtain ⟨gA, gc, rfl, gh1, gh2⟩ := g.form HPL.out
  have HG := Lib.hid (show ∀ j, (BlkR (Value.slice gA p gc) gs) j → v1.heap.size ≤ j from fun j e => (g.lt e).1)
  have HGW := Lib.hid (show ∀ j, (BlkR (Value.slice gA p gc) gs) j → w.heap.size ≤ j from fun j e => Nat.le_trans B0.size (g.lt e).1)
  replace B0 := B0.next b1
  replace o := o.below b1
  clear b1
  go_wp2_with fail
  refine (eqStepS_any _ _ p p gc yc P P _ g.sps o.sps).mono ?_
  rintro e v3 ⟨rfl, b1⟩
  replace B0 := B0.next b1
  replace o := o.below b1
  replace g := g.below b1
  clear b1
  go_wp2_with fail
  refine (markStepS_any _ p gc _ 1 P _ _ g (by have := HBD.out; (try dsimp only at *); omega) (by have := HBD.out; (try dsimp only at *); omega)).mono ?_
  rintro e v4 ⟨rfl, ⟨gms, gm⟩, g1⟩
  replace B0 := Wrote.below' B0 g1 (fun j e => HGW.out j e)
  replace o := o.wrote g1 (fun j e e2 => by have h3 := HO.out j e; have h4 := HG.out j e2; omega)
  clear g1
  have hz1 : decide (((endS 1 P : Nat) : Int) < 0) = false := by simp <;> omega
  have hz2 : (((endS 1 P : Nat) : Int) != ((endS 1 P : Nat) : Int)) = false := by simp
  go_wp2_with fail
  refine (heldStepS_any _ p gc 1 P _ gm.sps (by have := HBD.out; (try dsimp only at *); omega) (by have := HBD.out; (try dsimp only at *); omega)).mono ?_
  rintro e v5 ⟨rfl, b1⟩
  replace B0 := B0.next b1
  replace o := o.below b1
  replace gm := gm.below b1
  clear b1
  go_wp2_with fail
  refine (implReadNormal_any s hbs _ (hv.below B0)).mono ?_
  rintro e v6 ⟨fv, fs, rfl, f, b1⟩
  rw [HP.out] at f ⊢
  dsimp only at f ⊢
  obtain ⟨fA, fc, rfl, fh1, fh2⟩ := f.form HPL.out
  replace B0 := B0.next b1
  replace o := o.below b1
  replace gm := gm.below b1
  clear b1
  go_wp2_with fail
  refine (eqStepS_any _ _ p p fc yc P P _ f.sps o.sps).mono ?_
  rintro e v7 ⟨rfl, b1⟩
  replace B0 := B0.next b1
  replace gm := gm.below b1
  clear b1
  go_wp2_with fail
  refine (heldStepS_any _ p gc 1 P _ gm.sps (by have := HBD.out; (try dsimp only at *); omega) (by have := HBD.out; (try dsimp only at *); omega)).mono ?_
  rintro e v8 ⟨rfl, b1⟩
  replace B0 := B0.next b1
  go_wp2
  go_ret
  exact ⟨rfl, B0⟩

end Go.Proofs.YtnimaadjmejmpaaGreatDoor
