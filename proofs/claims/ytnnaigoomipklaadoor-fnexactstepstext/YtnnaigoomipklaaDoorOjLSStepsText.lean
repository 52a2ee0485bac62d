/-
  The law FnExactStepsText: the walk.
-/
import Derived.Test.YtnnaigoomipklaaDoorOjSTxtT
import Derived.Test.YtnnaigoomipklaaDoorOjSLaws
set_option linter.unusedSimpArgs false
set_option linter.unusedVariables false
namespace Go.Proofs.YtnnaigoomipklaaDoor
open Go.RowKit M

set_option maxHeartbeats 4000000 in
set_option maxRecDepth 100000 in
theorem FnExactStepsText_any (w : World) (hv : Tab w) (a0 : Option Addr) (n0 c0 : Nat) (l0 : List Sp) (h0 : Sps w a0 n0 l0) :
    Calls Tryd.prog 6 #[.slice a0 n0 c0] w fun e w' => e = .returned (.bool true) ∧ Below w.heap.size w w' := by
  have B0 := Below.refl w.heap.size w
  have HL0 := Lib.hid h0.len
  go_enter Tryd.func6, Tryd.ntmps6
  by_cases hbig0 : (1048576 : Int) < l0.length + totalP l0
  · go_wp2_with fail
    refine (szP_neg a0 n0 c0 l0 _ _ (h0.below B0) (by omega) (by omega) hbig0).mono ?_
    rintro e w1 ⟨rfl, b1⟩
    go_wp2
    go_ret
    exact ⟨rfl, B0.next b1⟩
  have hbig0 : (l0.length : Int) + totalP l0 ≤ 1048576 := by omega
  have HN0 := Lib.hid (show l0.length + totalP l0 ≤ 1048576 by omega)
  have hn0 : n0 ≤ 1048576 := by have := HN0.out; have := HL0.out; omega
  go_wp2_with fail
  refine (szP_more a0 n0 c0 l0 _ _ (h0.below B0) (by omega) (by omega) hbig0).mono ?_
  rintro e w0x ⟨r0, hr00, hr01, HB0, rfl, b1⟩
  replace B0 := B0.next b1
  clear b1
  have HNS0 := Lib.hid (sides_small HN0.out)
  clear hbig0
  obtain ⟨q0, q1, HP⟩ : ∃ q0 q1, Hid (textP l0 = (q0, q1)) := ⟨_, _, rfl⟩
  have hbe0 := beq_same (bs q0)
  have heq0 := eqPS_refl l0
  go_wp2_with fail
  refine (toStepS_any a0 n0 c0 l0 _ (h0.below B0) HN0.out).mono ?_
  rintro e v1 ⟨rfl, ⟨s0s, s0⟩, b1⟩
  replace B0 := B0.next b1
  clear b1
  go_wp2_with fail
  refine (specStepsText_any _ n0 n0 l0 _ s0.sps HNS0.out).mono ?_
  rintro e v2 ⟨rfl, b1⟩
  rw [HP.out]
  dsimp only
  replace B0 := B0.next b1
  replace s0 := s0.below b1
  clear b1
  go_wp2_with fail
  refine (toStepS_any a0 n0 c0 l0 _ (h0.below B0) HN0.out).mono ?_
  rintro e v3 ⟨rfl, ⟨x0s, x0⟩, b1⟩
  replace B0 := B0.next b1
  clear b1
  go_wp2_with fail
  refine (implStepsText_any _ n0 n0 l0 _ x0.sps (hv.below B0)).mono ?_
  rintro e v4 ⟨rfl, b1⟩
  rw [HP.out]
  dsimp only
  replace B0 := B0.next b1
  replace x0 := x0.below b1
  clear b1
  go_wp2_with fail
  refine (toStepS_any a0 n0 c0 l0 _ (h0.below B0) HN0.out).mono ?_
  rintro e v5 ⟨rfl, ⟨y0s, y0⟩, b1⟩
  replace B0 := B0.next b1
  replace x0 := x0.below b1
  clear b1
  go_wp2_with fail
  refine (eqStepS_any _ _ n0 n0 n0 n0 l0 l0 _ x0.sps y0.sps).mono ?_
  rintro e v6 ⟨rfl, b1⟩
  replace B0 := B0.next b1
  replace x0 := x0.below b1
  replace y0 := y0.below b1
  clear b1
  go_wp2
  go_ret
  exact ⟨rfl, B0⟩

end Go.Proofs.YtnnaigoomipklaaDoor
