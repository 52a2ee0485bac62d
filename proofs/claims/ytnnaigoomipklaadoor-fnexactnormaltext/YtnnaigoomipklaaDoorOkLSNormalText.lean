/-
  The law FnExactNormalText: the walk.
-/
import Derived.Test.YtnnaigoomipklaaDoorOkSTxtT
import Derived.Test.YtnnaigoomipklaaDoorOkSLaws
set_option linter.unusedSimpArgs false
set_option linter.unusedVariables false
namespace Go.Proofs.YtnnaigoomipklaaDoor
open Go.RowKit M

set_option maxHeartbeats 4000000 in
set_option maxRecDepth 100000 in
theorem FnExactNormalText_any (w : World) (hv : Tab w) (a0 : Option Addr) (n0 c0 : Nat) (l0 : List ByteArray) (h0 : Strs w a0 n0 l0) (a1 : Option Addr) (n1 c1 : Nat) (l1 : List Hk) (h1 : Hks w a1 n1 l1) :
    Calls Tryd.prog 5 #[.slice a0 n0 c0, .slice a1 n1 c1] w fun e w' => e = .returned (.bool true) ∧ Below w.heap.size w w' := by
  have B0 := Below.refl w.heap.size w
  have HL0 := Lib.hid h0.len
  have HL1 := Lib.hid h1.len
  go_enter Tryd.func5, Tryd.ntmps5
  by_cases hbig0 : (1048576 : Int) < l0.length + total l0
  · go_wp2_with fail
    refine (sz_neg a0 n0 c0 l0 _ _ (h0.below B0) (by omega) (by omega) hbig0).mono ?_
    rintro e w1 ⟨rfl, rfl⟩
    go_wp2
    go_ret
    exact ⟨rfl, B0⟩
  have hbig0 : (l0.length : Int) + total l0 ≤ 1048576 := by omega
  have HN0 := Lib.hid (show l0.length + total l0 ≤ 1048576 by omega)
  have hn0 : n0 ≤ 1048576 := by have := HN0.out; have := HL0.out; omega
  go_wp2_with fail
  refine (szT_more a0 n0 c0 l0 _ _ (h0.below B0) (by omega) (by omega) hbig0).mono ?_
  rintro e w0x ⟨r0, hr00, hr01, HB0, rfl, rfl⟩
  clear hbig0
  by_cases hbig1 : (r0 : Int) < l1.length + totalH l1
  · go_wp2_with fail
    refine (szH_neg a1 n1 c1 l1 _ _ (h1.below B0) hr00 hr01 hbig1).mono ?_
    rintro e w1 ⟨rfl, b1⟩
    go_wp2
    go_ret
    exact ⟨rfl, B0.next b1⟩
  have hbig1 : (l1.length : Int) + totalH l1 ≤ r0 := by omega
  have HN1 := Lib.hid (show l1.length + totalH l1 ≤ 1048576 by omega)
  have hn1 : n1 ≤ 1048576 := by have := HN1.out; have := HL1.out; omega
  go_wp2_with fail
  refine (szH_more a1 n1 c1 l1 _ _ (h1.below B0) hr00 hr01 hbig1).mono ?_
  rintro e w1x ⟨r1, hr10, hr11, HB1, rfl, b1⟩
  replace B0 := B0.next b1
  clear b1
  have HNS1 := Lib.hid (new_small HN1.out)
  clear hbig1
  obtain ⟨q0, q1, HP⟩ : ∃ q0 q1, Hid (normT l0 l1 = (q0, q1)) := ⟨_, _, rfl⟩
  have hbe0 := beq_same (bs q0)
  have heq0 := eqT_refl l0
  have heq1 := eqHS_refl l1
  go_wp2_with fail
  refine (toStringS_any a0 n0 c0 l0 _ (h0.below B0) hn0).mono ?_
  rintro e v1 ⟨rfl, s0, b1⟩
  replace B0 := B0.next b1
  clear b1
  go_wp2_with fail
  refine (toHunkS_any a1 n1 c1 l1 _ (h1.below B0) HN1.out).mono ?_
  rintro e v2 ⟨rfl, ⟨s1s, s1⟩, b1⟩
  replace B0 := B0.next b1
  replace s0 := s0.below b1
  clear b1
  go_wp2_with fail
  refine (specNormalText_any _ n0 n0 l0 _ n1 n1 l1 _ s0.strs (Nat.le_refl _) s1.hks HNS1.out hn0).mono ?_
  rintro e v3 ⟨rfl, b1⟩
  rw [HP.out]
  dsimp only
  replace B0 := B0.next b1
  replace s0 := s0.below b1
  replace s1 := s1.below b1
  clear b1
  go_wp2_with fail
  refine (toStringS_any a0 n0 c0 l0 _ (h0.below B0) hn0).mono ?_
  rintro e v4 ⟨rfl, x0, b1⟩
  replace B0 := B0.next b1
  clear b1
  go_wp2_with fail
  refine (toHunkS_any a1 n1 c1 l1 _ (h1.below B0) HN1.out).mono ?_
  rintro e v5 ⟨rfl, ⟨x1s, x1⟩, b1⟩
  replace B0 := B0.next b1
  replace x0 := x0.below b1
  clear b1
  go_wp2_with fail
  refine (implNormalText_any _ n0 n0 l0 _ n1 n1 l1 _ x0.strs (Nat.le_refl _) x1.hks hn0 (hv.below B0)).mono ?_
  rintro e v6 ⟨rfl, b1⟩
  rw [HP.out]
  dsimp only
  replace B0 := B0.next b1
  replace x0 := x0.below b1
  replace x1 := x1.below b1
  clear b1
  go_wp2_with fail
  refine (toStringS_any a0 n0 c0 l0 _ (h0.below B0) hn0).mono ?_
  rintro e v7 ⟨rfl, y0, b1⟩
  replace B0 := B0.next b1
  replace x0 := x0.below b1
  replace x1 := x1.below b1
  clear b1
  go_wp2_with fail
  refine (eqStringS_any _ _ n0 n0 n0 n0 l0 l0 _ x0.strs y0.strs).mono ?_
  rintro e v8 ⟨rfl, d1⟩
  have b1 := d1.below
  clear d1
  replace B0 := B0.next b1
  replace x0 := x0.below b1
  replace x1 := x1.below b1
  replace y0 := y0.below b1
  clear b1
  go_wp2_with fail
  refine (toHunkS_any a1 n1 c1 l1 _ (h1.below B0) HN1.out).mono ?_
  rintro e v9 ⟨rfl, ⟨y1s, y1⟩, b1⟩
  replace B0 := B0.next b1
  replace x0 := x0.below b1
  replace x1 := x1.below b1
  clear b1
  go_wp2_with fail
  refine (eqHunkS_any _ _ n1 n1 n1 n1 l1 l1 _ x1.hks y1.hks).mono ?_
  rintro e v10 ⟨rfl, b1⟩
  replace B0 := B0.next b1
  replace x0 := x0.below b1
  replace x1 := x1.below b1
  replace y1 := y1.below b1
  clear b1
  go_wp2
  go_ret
  exact ⟨rfl, B0⟩

end Go.Proofs.YtnnaigoomipklaaDoor
