/-
  The law on GoodHunks.
-/
import Derived.Test.YtaajldodobclaaaHGoodS
set_option linter.unusedSimpArgs false
set_option linter.unusedVariables false
namespace Go.Proofs.Ytaajldodobclaaa
open Go.RowKit M

set_option maxHeartbeats 1000000 in
theorem FnExactGoodHunks_any (w : World) (many : Int) (hmany : i64ok many) (a : Option Addr) (n c : Nat) (l : List Hk) (hl : Hks w a n l) :
    Calls Try.prog 6 #[.int .i64 many, .slice a n c] w fun e w' => e = .returned (.bool true) ∧ Below w.heap.size w w' := by
  by_cases hbig : (1048576 : Int) < l.length + totalH l
  · go_enter Try.func6, Try.ntmps6
    go_wp2_with fail
    refine (szH_neg a n c l _ _ hl (by omega) (by omega) hbig).mono ?_
    rintro e w1 ⟨rfl, b1⟩
    go_wp2
    go_ret
    exact ⟨rfl, b1⟩
  · have hbig : (l.length : Int) + totalH l ≤ 1048576 := by omega
    have hn : l.length + totalH l ≤ 1048576 := by omega
    have HNS := Lib.hid (new_small hn)
    have HN := Lib.hid hn
    have heq := eqHS_refl l
    go_enter Try.func6, Try.ntmps6
    go_wp2_with fail
    refine (szH_pos a n c l _ _ hl (by omega) (by omega) hbig).mono ?_
    rintro e w0 ⟨r, hr0, hr1, rfl, b0⟩
    clear hn hbig
    go_wp2_with fail
    refine (toHunkS_any a n c l _ (hl.below b0) HN.out).mono ?_
    rintro e w1 ⟨rfl, ⟨vs1, o1⟩, b1⟩
    go_wp2_with fail
    refine (specGoodHunks_any many _ n n l _ o1.hks hmany HNS.out).mono ?_
    rintro e w2 ⟨rfl, b2⟩
    have B2 := (b0.next b1).next b2
    go_wp2_with fail
    refine (toHunkS_any a n c l _ (hl.below B2) HN.out).mono ?_
    rintro e w3 ⟨rfl, ⟨vs3, o3⟩, b3⟩
    go_wp2_with fail
    refine (implGoodHunks_any many _ n n l _ o3.hks hmany).mono ?_
    rintro e w4 ⟨rfl, b4⟩
    have B4 := (B2.next b3).next b4
    go_wp2_with fail
    refine (toHunkS_any a n c l _ (hl.below B4) HN.out).mono ?_
    rintro e w5 ⟨rfl, ⟨vs5, o5⟩, b5⟩
    go_wp2_with fail
    refine (eqHunkS_any _ _ n n n n l l _ ((o3.below (b4.next b5)).hks) o5.hks).mono ?_
    rintro e w6 ⟨rfl, b6⟩
    go_wp2
    go_ret
    exact ⟨rfl, (B4.next b5).next b6⟩

end Go.Proofs.Ytaajldodobclaaa
