/-
  The law FnExactBackGroups.
-/
import Derived.Test.YtkamenidgkjodaaDoorUTurnS
import Derived.Test.YtkamenidgkjodaaDoorGLaws
set_option linter.unusedSimpArgs false
set_option linter.unusedVariables false
namespace Go.Proofs.YtkamenidgkjodaaDoor
open Go.RowKit Go.ChangeShapes Go.WideShapes M

set_option maxHeartbeats 4000000 in
set_option maxRecDepth 100000 in
theorem FnExactBackGroups_any (w : World) (hv : Bk w) (a0 : Option Addr) (n0 c0 : Nat) (l0 : List Gp) (h0 : Gps w a0 n0 l0) :
    Calls Tryd.prog 5 #[.slice a0 n0 c0] w fun e w' => e = .returned (.bool true) ∧ Below w.heap.size w w' := by
  have B0 := Below.refl w.heap.size w
  have HL0 := Lib.hid h0.len
  go_enter Tryd.func5, Tryd.ntmps5
  by_cases hbig0 : (1048576 : Int) < l0.length + totalG l0
  · go_wp2_with fail
    refine (szG_neg a0 n0 c0 l0 _ _ (h0.below B0) (by omega) (by omega) hbig0).mono ?_
    rintro e w1 ⟨rfl, b1⟩
    go_wp2
    go_ret
    exact ⟨rfl, B0.next b1⟩
  have hbig0 : (l0.length : Int) + totalG l0 ≤ 1048576 := by omega
  have HN0 := Lib.hid (show l0.length + totalG l0 ≤ 1048576 by omega)
  have hn0 : n0 ≤ 1048576 := by have := HN0.out; have := HL0.out; omega
  go_wp2_with fail
  refine (szG_more a0 n0 c0 l0 _ _ (h0.below B0) (by omega) (by omega) hbig0).mono ?_
  rintro e w0x ⟨r0, hr00, hr01, HB0, rfl, b1⟩
  replace B0 := B0.next b1
  clear b1
  have HNS0 := Lib.hid (rows_small HN0.out)
  clear hbig0
  obtain ⟨P, q1, HP⟩ : ∃ P q1, Hid (backG l0 = (P, q1)) := ⟨_, _, rfl⟩
  have hbd := backG_len l0 HN0.out
  rw [HP.out] at hbd
  have HBD := Lib.hid hbd
  clear hbd
  obtain ⟨p, HPL⟩ : ∃ p, Hid (P.length = p) := ⟨_, rfl⟩
  have heqP := eqGS_refl P
  have hp : p ≤ 1048576 := by have := HBD.out; have := HPL.out; (try dsimp only at *); omega
  have heq0 := eqGS_refl l0
  go_wp2_with fail
  refine (toGroupS_any a0 n0 c0 l0 _ (h0.below B0) HN0.out).mono ?_
  rintro e v1 ⟨rfl, ⟨s0s, s0⟩, b1⟩
  replace B0 := B0.next b1
  clear b1
  go_wp2_with fail
  refine (specBackGroups_any _ n0 n0 l0 _ s0.gps HNS0.out).mono ?_
  rintro e v2 ⟨ov, os, rfl, o, b1⟩
  rw [HP.out] at o ⊢
  dsimp only at o ⊢
  obtain ⟨uA, oc, rfl, oh1, oh2⟩ := o.form HPL.out
  have HO := Lib.hid (show ∀ j, (BlkR (Value.slice uA p oc) os) j → j < v2.heap.size from fun j e => (o.lt e).2)
  have hW2 := Lib.hid (B0.next b1).size
  replace B0 := B0.next b1
  replace s0 := s0.below b1
  clear b1
  go_wp2_with fail
  refine (toGroupS_any a0 n0 c0 l0 _ (h0.below B0) HN0.out).mono ?_
  rintro e v3 ⟨rfl, ⟨x0s, x0⟩, b1⟩
  have HX0 := Lib.hid (show ∀ j, (BlkR (Value.slice (some ⟨v2.heap.size, 0, none⟩) n0 n0) x0s) j → w.heap.size ≤ j ∧ v2.heap.size ≤ j ∧ v2.heap.size ≤ j ∧ j < v3.heap.size from fun j e => by have h3 := (x0.lt e).1; have h4 := (x0.lt e).2; have h5 := hW2.out; have h6 := B0.size;  omega)
  have hzv3 := Lib.hid b1.size
  replace B0 := B0.next b1
  replace o := o.below b1
  clear b1
  go_wp2_with fail
  refine (implBackGroups_any _ n0 n0 l0 _ x0.gps (hv.below B0)).mono ?_
  rintro e v4 ⟨gv, gs, rfl, g, b1⟩
  rw [HP.out] at g ⊢
  dsimp only at g ⊢
  obtain ⟨gA, gc, rfl, gh1, gh2⟩ := g.form HPL.out
  have HZ := Lib.hid (show True ∧ v2.heap.size ≤ v3.heap.size from ⟨trivial, hzv3.out⟩)
  have HG := Lib.hid (show ∀ j, (BlkR (Value.slice gA p gc) gs) j → v3.heap.size ≤ j from fun j e => (g.lt e).1)
  have HGW := Lib.hid (show ∀ j, (BlkR (Value.slice gA p gc) gs) j → w.heap.size ≤ j from fun j e => Nat.le_trans B0.size (g.lt e).1)
  replace B0 := B0.next b1
  replace o := o.below b1
  replace x0 := x0.below b1
  clear b1
  go_wp2_with fail
  refine (eqGroupS_any _ _ p p gc oc P P _ g.gps o.gps).mono ?_
  rintro e v5 ⟨rfl, b1⟩
  replace B0 := B0.next b1
  replace o := o.below b1
  replace x0 := x0.below b1
  replace g := g.below b1
  clear b1
  go_wp2_with fail
  refine (toGroupS_any a0 n0 c0 l0 _ (h0.below B0) HN0.out).mono ?_
  rintro e v6 ⟨rfl, ⟨y0s, y0⟩, b1⟩
  replace B0 := B0.next b1
  replace o := o.below b1
  replace x0 := x0.below b1
  replace g := g.below b1
  clear b1
  go_wp2_with fail
  refine (eqGroupS_any _ _ n0 n0 n0 n0 l0 l0 _ x0.gps y0.gps).mono ?_
  rintro e v7 ⟨rfl, b1⟩
  replace B0 := B0.next b1
  replace o := o.below b1
  replace x0 := x0.below b1
  replace g := g.below b1
  replace y0 := y0.below b1
  clear b1
  go_wp2_with fail
  refine (markGroupS_any _ n0 n0 _ (1) l0 _ _ x0 HN0.out (by have := HB0.out; have := HL0.out; omega)).mono ?_
  rintro e v8 ⟨rfl, ⟨xms, xm⟩, g1⟩
  replace B0 := Wrote.below' B0 g1 (fun j e => (HX0.out j e).1)
  replace o := o.wrote g1 (fun j e e2 => by have h3 := HO.out j e; have h4 := (HX0.out j e2).2.1; omega)
  replace g := g.wrote g1 (fun j e e2 => by have h3 := HG.out j e; have h4 := (HX0.out j e2).2.2.2; have h5 := HZ.out; omega)
  clear g1 xm
  have hz0 : decide (((endG (1) l0 : Nat) : Int) < 0) = false := by simp <;> omega
  go_wp2_with fail
  refine (eqGroupS_any _ _ p p gc oc P P _ g.gps o.gps).mono ?_
  rintro e v9 ⟨rfl, b1⟩
  replace B0 := B0.next b1
  replace o := o.below b1
  replace g := g.below b1
  clear b1
  go_wp2_with fail
  refine (markGroupS_any _ p gc _ 1 P _ _ g (by have := HBD.out; (try dsimp only at *); omega) (by have := HBD.out; (try dsimp only at *); omega)).mono ?_
  rintro e v10 ⟨rfl, ⟨gms, gm⟩, g1⟩
  replace B0 := Wrote.below' B0 g1 (fun j e => HGW.out j e)
  replace o := o.wrote g1 (fun j e e2 => by have h3 := HO.out j e; have h4 := HG.out j e2; have h5 := HZ.out; omega)
  clear g1
  have hz1 : decide (((endG 1 P : Nat) : Int) < 0) = false := by simp <;> omega
  have hz2 : (((endG 1 P : Nat) : Int) != ((endG 1 P : Nat) : Int)) = false := by simp
  go_wp2_with fail
  refine (heldGroupS_any _ p gc 1 P _ gm.gps (by have := HBD.out; (try dsimp only at *); omega) (by have := HBD.out; (try dsimp only at *); omega)).mono ?_
  rintro e v11 ⟨rfl, b1⟩
  replace B0 := B0.next b1
  replace o := o.below b1
  replace gm := gm.below b1
  clear b1
  go_wp2_with fail
  refine (toGroupS_any a0 n0 c0 l0 _ (h0.below B0) HN0.out).mono ?_
  rintro e v12 ⟨rfl, ⟨t0s, t0⟩, b1⟩
  replace B0 := B0.next b1
  replace o := o.below b1
  replace gm := gm.below b1
  clear b1
  go_wp2_with fail
  refine (implBackGroups_any _ n0 n0 l0 _ t0.gps (hv.below B0)).mono ?_
  rintro e v13 ⟨fv, fs, rfl, f, b1⟩
  rw [HP.out] at f ⊢
  dsimp only at f ⊢
  obtain ⟨fA, fc, rfl, fh1, fh2⟩ := f.form HPL.out
  replace B0 := B0.next b1
  replace o := o.below b1
  replace gm := gm.below b1
  replace t0 := t0.below b1
  clear b1
  go_wp2_with fail
  refine (eqGroupS_any _ _ p p fc oc P P _ f.gps o.gps).mono ?_
  rintro e v14 ⟨rfl, b1⟩
  replace B0 := B0.next b1
  replace o := o.below b1
  replace gm := gm.below b1
  replace f := f.below b1
  clear b1
  go_wp2_with fail
  refine (heldGroupS_any _ p gc 1 P _ gm.gps (by have := HBD.out; (try dsimp only at *); omega) (by have := HBD.out; (try dsimp only at *); omega)).mono ?_
  rintro e v15 ⟨rfl, b1⟩
  replace B0 := B0.next b1
  go_wp2
  go_ret
  exact ⟨rfl, B0⟩

end Go.Proofs.YtkamenidgkjodaaDoor
