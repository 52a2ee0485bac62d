/-
  The law FnExactEdOrders.
-/
import Derived.Test.YtnnaigoomipklaaOdOGoodI
import Derived.StillTailTactics
import Derived.Test.YtnnaigoomipklaaOdHApp
import Derived.Test.YtnnaigoomipklaaOdOEdI
import Derived.Test.YtnnaigoomipklaaOdOEditI
import Derived.Test.YtnnaigoomipklaaOdOGoodS
import Derived.Test.YtnnaigoomipklaaOdORun
import Derived.Test.YtnnaigoomipklaaOdPart
import Derived.Test.YtnnaigoomipklaaOdWhole
import Derived.Defers
import Derived.Recover
import Derived.Test.YtnnaigoomipklaaOdHMems
import Derived.Test.YtnnaigoomipklaaOdDHeap
import Derived.Test.YtnnaigoomipklaaOdHPatch
import Derived.Test.YtnnaigoomipklaaOdHBases
import Derived.Test.YtnnaigoomipklaaOdHGoods
import Derived.Test.YtnnaigoomipklaaOdGood
import Derived.Test.YtnnaigoomipklaaOdMemT
import Derived.Deep.RegionHeld3
import Derived.BigRegion
import Derived.Test.YtnnaigoomipklaaOdOEdT
import Derived.Test.YtnnaigoomipklaaOdOLens
import Derived.Test.YtnnaigoomipklaaOdOLaws
set_option linter.unusedSimpArgs false
set_option linter.unusedVariables false
namespace Go.Proofs.Ytnnaigoomipklaa
open Go.RowKit Go.ChangeShapes Go.WideShapes M

set_option maxHeartbeats 4000000 in
set_option maxRecDepth 100000 in
theorem FnExactEdOrders_any (w : World) (a0 : Option Addr) (n0 c0 : Nat) (l0 : List ByteArray) (h0 : Strs w a0 n0 l0) (a1 : Option Addr) (n1 c1 : Nat) (l1 : List Hk) (h1 : Hks w a1 n1 l1) :
    Calls Try.prog 3 #[.slice a0 n0 c0, .slice a1 n1 c1] w fun e w' => e = .returned (.bool true) ∧ Below w.heap.size w w' := by
  have B0 := Below.refl w.heap.size w
  have HL0 := Lib.hid h0.len
  have HL1 := Lib.hid h1.len
  go_enter Try.func3, Try.ntmps3
  by_cases hbig0 : (1048576 : Int) < l0.length + total l0
  · go_wp2_with fail
    refine (sz_neg a0 n0 c0 l0 _ _ (h0.below B0) (by omega) (by omega) hbig0).mono ?_
    rintro e w1 ⟨rfl, rfl⟩
    go_wp2
    go_ret
    exact ⟨rfl, B0⟩
  have hbig0 : (l0.length : Int) + total l0 ≤ 1048576 := by omega
  have HN0 := Lib.hid (show l0.length + total l0 ≤ 1048576 by omega)
  have hn0 : n0 ≤ 1048576 := by have := HN0.out; have := HL0.out; omega
  go_wp2_with fail
  refine (szT_more a0 n0 c0 l0 _ _ (h0.below B0) (by omega) (by omega) hbig0).mono ?_
  rintro e w0x ⟨r0, hr00, hr01, HB0, rfl, rfl⟩
  clear hbig0
  by_cases hbig1 : (r0 : Int) < l1.length + totalH l1
  · go_wp2_with fail
    refine (szH_neg a1 n1 c1 l1 _ _ (h1.below B0) hr00 hr01 hbig1).mono ?_
    rintro e w1 ⟨rfl, b1⟩
    go_wp2
    go_ret
    exact ⟨rfl, B0.next b1⟩
  have hbig1 : (l1.length : Int) + totalH l1 ≤ r0 := by omega
  have HN1 := Lib.hid (show l1.length + totalH l1 ≤ 1048576 by omega)
  have hn1 : n1 ≤ 1048576 := by have := HN1.out; have := HL1.out; omega
  go_wp2_with fail
  refine (szH_more a1 n1 c1 l1 _ _ (h1.below B0) hr00 hr01 hbig1).mono ?_
  rintro e w1x ⟨r1, hr10, hr11, HB1, rfl, b1⟩
  replace B0 := B0.next b1
  clear b1
  have HNS1 := Lib.hid (new_small HN1.out)
  clear hbig1
  obtain ⟨P, q1, HP⟩ : ∃ P q1, Hid (edOrders l0 l1 = (P, q1)) := ⟨_, _, rfl⟩
  have hbd := edOrders_len l0 l1
  rw [HP.out] at hbd
  have HBD := Lib.hid hbd
  clear hbd
  obtain ⟨p, HPL⟩ : ∃ p, Hid (P.length = p) := ⟨_, rfl⟩
  have heqP := eqOS_refl P
  have hp : p ≤ 1048576 := by have := HBD.out; have := HPL.out; (try dsimp only at *); omega
  have heq0 := eqT_refl l0
  have heq1 := eqHS_refl l1
  go_wp2_with fail
  refine (toStringS_any a0 n0 c0 l0 _ (h0.below B0) hn0).mono ?_
  rintro e v1 ⟨rfl, s0, b1⟩
  replace B0 := B0.next b1
  clear b1
  go_wp2_with fail
  refine (toHunkS_any a1 n1 c1 l1 _ (h1.below B0) HN1.out).mono ?_
  rintro e v2 ⟨rfl, ⟨s1s, s1⟩, b1⟩
  replace B0 := B0.next b1
  replace s0 := s0.below b1
  clear b1
  go_wp2_with fail
  refine (specEdOrders_any _ n0 n0 l0 _ n1 n1 l1 _ s0.strs (Nat.le_refl _) s1.hks HNS1.out hn0).mono ?_
  rintro e v3 ⟨ov, os, rfl, o, b1⟩
  rw [HP.out] at o ⊢
  dsimp only at o ⊢
  obtain ⟨uA, oc, rfl, oh1, oh2⟩ := o.form HPL.out
  have HO := Lib.hid (show ∀ j, (BlkR (Value.slice uA p oc) os) j → j < v3.heap.size from fun j e => (o.lt e).2)
  have hW2 := Lib.hid (B0.next b1).size
  replace B0 := B0.next b1
  replace s0 := s0.below b1
  replace s1 := s1.below b1
  clear b1
  go_wp2_with fail
  refine (toStringS_any a0 n0 c0 l0 _ (h0.below B0) hn0).mono ?_
  rintro e v4 ⟨rfl, x0, b1⟩
  have HX0 := Lib.hid (show ∀ j, (fun g => (Value.slice (some ⟨v3.heap.size, 0, none⟩) n0 n0).ownBlock = some g) j → w.heap.size ≤ j ∧ v3.heap.size ≤ j ∧ v3.heap.size ≤ j ∧ j < v4.heap.size from fun j e => by have h3 := (x0.lt e).1; have h4 := (x0.lt e).2; have h5 := hW2.out; have h6 := B0.size;  omega)
  have hzv4 := Lib.hid b1.size
  replace B0 := B0.next b1
  replace o := o.below b1
  clear b1
  go_wp2_with fail
  refine (toHunkS_any a1 n1 c1 l1 _ (h1.below B0) HN1.out).mono ?_
  rintro e v5 ⟨rfl, ⟨x1s, x1⟩, b1⟩
  have HX1 := Lib.hid (show ∀ j, (Blk (Value.slice (some ⟨v4.heap.size, 0, none⟩) n1 n1) x1s) j → w.heap.size ≤ j ∧ v3.heap.size ≤ j ∧ v4.heap.size ≤ j ∧ j < v5.heap.size from fun j e => by have h3 := (x1.lt e).1; have h4 := (x1.lt e).2; have h5 := hW2.out; have h6 := B0.size; have := hzv4.out; omega)
  have hzv5 := Lib.hid b1.size
  replace B0 := B0.next b1
  replace o := o.below b1
  replace x0 := x0.below b1
  clear b1
  go_wp2_with fail
  refine (implEdOrders_any _ n0 n0 l0 _ n1 n1 l1 _ x0.strs (Nat.le_refl _) x1.hks hn0).mono ?_
  rintro e v6 ⟨gv, gs, rfl, g, b1⟩
  rw [HP.out] at g ⊢
  dsimp only at g ⊢
  obtain ⟨gA, gc, rfl, gh1, gh2⟩ := g.form HPL.out
  have HZ := Lib.hid (show True ∧ v3.heap.size ≤ v4.heap.size ∧ v4.heap.size ≤ v5.heap.size from ⟨trivial, hzv4.out, hzv5.out⟩)
  have HG := Lib.hid (show ∀ j, (BlkR (Value.slice gA p gc) gs) j → v5.heap.size ≤ j from fun j e => (g.lt e).1)
  have HGW := Lib.hid (show ∀ j, (BlkR (Value.slice gA p gc) gs) j → w.heap.size ≤ j from fun j e => Nat.le_trans B0.size (g.lt e).1)
  replace B0 := B0.next b1
  replace o := o.below b1
  replace x0 := x0.below b1
  replace x1 := x1.below b1
  clear b1
  go_wp2_with fail
  refine (eqOrderS_any _ _ p p gc oc P P _ g.ods o.ods).mono ?_
  rintro e v7 ⟨rfl, b1⟩
  replace B0 := B0.next b1
  replace o := o.below b1
  replace x0 := x0.below b1
  replace x1 := x1.below b1
  replace g := g.below b1
  clear b1
  go_wp2_with fail
  refine (toStringS_any a0 n0 c0 l0 _ (h0.below B0) hn0).mono ?_
  rintro e v8 ⟨rfl, y0, b1⟩
  replace B0 := B0.next b1
  replace o := o.below b1
  replace x0 := x0.below b1
  replace x1 := x1.below b1
  replace g := g.below b1
  clear b1
  go_wp2_with fail
  refine (eqStringS_any _ _ n0 n0 n0 n0 l0 l0 _ x0.strs y0.strs).mono ?_
  rintro e v9 ⟨rfl, d1⟩
  have b1 := d1.below
  clear d1
  replace B0 := B0.next b1
  replace o := o.below b1
  replace x0 := x0.below b1
  replace x1 := x1.below b1
  replace g := g.below b1
  replace y0 := y0.below b1
  clear b1
  go_wp2_with fail
  refine (toHunkS_any a1 n1 c1 l1 _ (h1.below B0) HN1.out).mono ?_
  rintro e v10 ⟨rfl, ⟨y1s, y1⟩, b1⟩
  replace B0 := B0.next b1
  replace o := o.below b1
  replace x0 := x0.below b1
  replace x1 := x1.below b1
  replace g := g.below b1
  clear b1
  go_wp2_with fail
  refine (eqHunkS_any _ _ n1 n1 n1 n1 l1 l1 _ x1.hks y1.hks).mono ?_
  rintro e v11 ⟨rfl, b1⟩
  replace B0 := B0.next b1
  replace o := o.below b1
  replace x0 := x0.below b1
  replace x1 := x1.below b1
  replace g := g.below b1
  replace y1 := y1.below b1
  clear b1
  go_wp2_with fail
  refine (markStrW_any _ n0 n0 _ (1) l0 _ x0 hn0 (by have := HB0.out; have := HL0.out; have := HB1.out; have := HL1.out; omega)).mono ?_
  rintro e v12 ⟨rfl, xm, g1⟩
  replace B0 := Wrote.below' B0 g1 (fun j e => (HX0.out j e).1)
  replace o := o.wrote g1 (fun j e e2 => by have h3 := HO.out j e; have h4 := (HX0.out j e2).2.1; omega)
  replace x1 := x1.wrote g1 (fun j e e2 => by have h3 := (HX1.out j e).2.2.1; have h4 := (HX0.out j e2).2.2.2; have h5 := HZ.out; omega)
  replace g := g.wrote g1 (fun j e e2 => by have h3 := HG.out j e; have h4 := (HX0.out j e2).2.2.2; have h5 := HZ.out; omega)
  clear g1 xm
  go_wp2_with fail
  refine (markHunkS_any _ n1 n1 _ (1 + n0) l1 _ _ x1 HN1.out (by have := HB0.out; have := HL0.out; have := HB1.out; have := HL1.out; omega)).mono ?_
  rintro e v13 ⟨rfl, xm, g1⟩
  replace B0 := Wrote.below' B0 g1 (fun j e => (HX1.out j e).1)
  replace o := o.wrote g1 (fun j e e2 => by have h3 := HO.out j e; have h4 := (HX1.out j e2).2.1; omega)
  replace g := g.wrote g1 (fun j e e2 => by have h3 := HG.out j e; have h4 := (HX1.out j e2).2.2.2; have h5 := HZ.out; omega)
  clear g1 xm
  have hz0 : decide (((endH (1 + n0) l1 : Nat) : Int) < 0) = false := by simp <;> omega
  go_wp2_with fail
  refine (eqOrderS_any _ _ p p gc oc P P _ g.ods o.ods).mono ?_
  rintro e v14 ⟨rfl, b1⟩
  replace B0 := B0.next b1
  replace o := o.below b1
  replace g := g.below b1
  clear b1
  go_wp2_with fail
  refine (markOrderS_any _ p gc _ 1 P _ _ g (by have := HBD.out; (try dsimp only at *); omega) (by have := HBD.out; (try dsimp only at *); omega)).mono ?_
  rintro e v15 ⟨rfl, ⟨gms, gm⟩, g1⟩
  replace B0 := Wrote.below' B0 g1 (fun j e => HGW.out j e)
  replace o := o.wrote g1 (fun j e e2 => by have h3 := HO.out j e; have h4 := HG.out j e2; have h5 := HZ.out; omega)
  clear g1
  have hz1 : decide (((endO 1 P : Nat) : Int) < 0) = false := by simp <;> omega
  have hz2 : (((endO 1 P : Nat) : Int) != ((endO 1 P : Nat) : Int)) = false := by simp
  go_wp2_with fail
  refine (heldOrderS_any _ p gc 1 P _ gm.ods (by have := HBD.out; (try dsimp only at *); omega) (by have := HBD.out; (try dsimp only at *); omega)).mono ?_
  rintro e v16 ⟨rfl, b1⟩
  replace B0 := B0.next b1
  replace o := o.below b1
  replace gm := gm.below b1
  clear b1
  go_wp2_with fail
  refine (toStringS_any a0 n0 c0 l0 _ (h0.below B0) hn0).mono ?_
  rintro e v17 ⟨rfl, t0, b1⟩
  replace B0 := B0.next b1
  replace o := o.below b1
  replace gm := gm.below b1
  clear b1
  go_wp2_with fail
  refine (toHunkS_any a1 n1 c1 l1 _ (h1.below B0) HN1.out).mono ?_
  rintro e v18 ⟨rfl, ⟨t1s, t1⟩, b1⟩
  replace B0 := B0.next b1
  replace o := o.below b1
  replace gm := gm.below b1
  replace t0 := t0.below b1
  clear b1
  go_wp2_with fail
  refine (implEdOrders_any _ n0 n0 l0 _ n1 n1 l1 _ t0.strs (Nat.le_refl _) t1.hks hn0).mono ?_
  rintro e v19 ⟨fv, fs, rfl, f, b1⟩
  rw [HP.out] at f ⊢
  dsimp only at f ⊢
  obtain ⟨fA, fc, rfl, fh1, fh2⟩ := f.form HPL.out
  replace B0 := B0.next b1
  replace o := o.below b1
  replace gm := gm.below b1
  replace t0 := t0.below b1
  replace t1 := t1.below b1
  clear b1
  go_wp2_with fail
  refine (eqOrderS_any _ _ p p fc oc P P _ f.ods o.ods).mono ?_
  rintro e v20 ⟨rfl, b1⟩
  replace B0 := B0.next b1
  replace o := o.below b1
  replace gm := gm.below b1
  replace f := f.below b1
  clear b1
  go_wp2_with fail
  refine (heldOrderS_any _ p gc 1 P _ gm.ods (by have := HBD.out; (try dsimp only at *); omega) (by have := HBD.out; (try dsimp only at *); omega)).mono ?_
  rintro e v21 ⟨rfl, b1⟩
  replace B0 := B0.next b1
  go_wp2
  go_ret
  exact ⟨rfl, B0⟩

end Go.Proofs.Ytnnaigoomipklaa
