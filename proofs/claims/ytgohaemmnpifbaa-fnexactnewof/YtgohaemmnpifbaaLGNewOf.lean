/-
  The law FnExactNewOf.
-/
import Derived.Test.YtgohaemmnpifbaaGGood
import Derived.Test.YtgohaemmnpifbaaGGoodT
import Derived.Test.YtgohaemmnpifbaaGLaw3
set_option linter.unusedSimpArgs false
set_option linter.unusedVariables false
namespace Go.Proofs.Ytgohaemmnpifbaa
open Go.RowKit Go.ChangeShapes Go.WideShapes M

set_option maxHeartbeats 4000000 in
set_option maxRecDepth 100000 in
theorem FnExactNewOf_any (w : World) (a : Option Addr) (n c : Nat) (x : Gp) (hx : Rws w a n x.rows) (hok : GpOk x) :
    Calls Try.prog 6 #[.agg #[.int .i64 x.at_, .int .i64 x.to_, .slice a n c]] w fun e w' => e = .returned (.bool true) ∧ Below w.heap.size w w' := by
  have HL := Lib.hid hx.len
  obtain ⟨W0, HW0⟩ : ∃ W0, Hid (W0 = w.alloc (.cells #[.int .i64 x.at_, .int .i64 x.to_, .slice a n c] 45)) := ⟨_, rfl⟩
  have HBW := Lib.hid (show Below w.heap.size w W0 by rw [HW0.out]; exact below_alloc _ _)
  have C0 := Lib.hid (show W0.cell? ⟨w.heap.size, 0, none⟩ = some (.int .i64 x.at_) by rw [HW0.out]; simp)
  have C1 := Lib.hid (show W0.cell? ⟨w.heap.size, 1, none⟩ = some (.int .i64 x.to_) by rw [HW0.out]; simp)
  have C2 := Lib.hid (show W0.cell? ⟨w.heap.size, 2, none⟩ = some (.slice a n c) by rw [HW0.out]; simp)
  have hx0 := hx.below HBW.out
  have B0 := Below.refl W0.heap.size W0
  have heqG := Lib.hid ((eqGp_iff x x).2 rfl)
  go_enter Try.func6, Try.ntmps6
  by_cases hbig : (1048576 : Int) < bulkG x
  · go_wp2_with fail
    rw [← HW0.out]
    refine (szG1_neg a n c x _ _ hx0 (by omega) (by omega) hbig).mono ?_
    rintro e w1 ⟨rfl, b1⟩
    go_wp2
    go_ret
    exact ⟨rfl, HBW.out.next b1⟩
  have hbig : (bulkG x : Int) ≤ 1048576 := by omega
  have hm : n ≤ 1048576 := by have := HL.out; unfold bulkG at hbig; omega
  go_wp2_with fail
  rw [← HW0.out]
  refine (szG1_more a n c x _ _ hx0 (by omega) (by omega) hbig).mono ?_
  rintro e v0 ⟨r0, hr00, hr01, HB0, rfl, b1⟩
  replace B0 := B0.next b1
  clear b1 hbig
  obtain ⟨P, q1, HP⟩ : ∃ P q1, Hid (newOf x = (P, q1)) := ⟨_, _, rfl⟩
  have hbd := newOf_len x
  rw [HP.out] at hbd
  obtain ⟨p, HPL⟩ : ∃ p, Hid (P.length = p) := ⟨_, rfl⟩
  have hp : p ≤ 1048576 := by have := HPL.out; (try dsimp only at hbd); omega
  have heqP := eqT_refl P
  clear hbd
  have c0 := cell_keep B0 C0.out
  have c1 := cell_keep B0 C1.out
  have c2 := cell_keep B0 C2.out
  go_wp2_with fail
  refine (toGroup_any a n c x _ (hx0.below B0) hm).mono ?_
  rintro e v2 ⟨b2, hb2, hb2z, rfl, s, b1⟩
  clear c0 c1 c2
  replace B0 := B0.next b1
  clear b1
  go_wp2_with fail
  refine (specNewOf_any (some ⟨b2, 0, none⟩) n n x _ s.rws hm hok.at_ hok.to_).mono ?_
  rintro e v3 ⟨ov, rfl, o, b1⟩
  rw [HP.out] at o ⊢
  dsimp only at o ⊢
  obtain ⟨uA, oc, rfl, oh1, oh2⟩ := o.form HPL.out
  have HZ3 := Lib.hid (show W0.heap.size ≤ v3.heap.size from (B0.next b1).size)
  have HO := Lib.hid (show ∀ j, (Value.slice uA p oc).ownBlock = some j → j < v3.heap.size from fun j e => (o.lt e).2)
  replace B0 := B0.next b1
  replace s := s.below b1
  clear b1 s
  have c0 := cell_keep B0 C0.out
  have c1 := cell_keep B0 C1.out
  have c2 := cell_keep B0 C2.out
  go_wp2_with fail
  refine (toGroup_any a n c x _ (hx0.below B0) hm).mono ?_
  rintro e v4 ⟨b4, hb4, hb4z, rfl, X, b1⟩
  clear c0 c1 c2
  replace B0 := B0.next b1
  replace o := o.below b1
  have hz4 := Lib.hid b1.size
  have hzB := Lib.hid B0.size
  clear b1
  obtain ⟨W5, HW5⟩ : ∃ W5, Hid (W5 = v4.alloc (.cells #[.int .i64 x.at_, .int .i64 x.to_, .slice (some ⟨b4, 0, none⟩) n n] 51)) := ⟨_, rfl⟩
  have hb5 : Below v4.heap.size v4 W5 := by rw [HW5.out]; exact below_alloc _ _
  have HS5 := Lib.hid (show W5.heap.size = v4.heap.size + 1 by rw [HW5.out]; simp)
  have D0 := Lib.hid (show W5.cell? ⟨v4.heap.size, 0, none⟩ = some (.int .i64 x.at_) by rw [HW5.out]; simp)
  have D1 := Lib.hid (show W5.cell? ⟨v4.heap.size, 1, none⟩ = some (.int .i64 x.to_) by rw [HW5.out]; simp)
  have D2 := Lib.hid (show W5.cell? ⟨v4.heap.size, 2, none⟩ = some (.slice (some ⟨b4, 0, none⟩) n n) by rw [HW5.out]; simp)
  replace B0 := B0.next hb5
  replace o := o.below hb5
  replace X := X.below hb5
  clear hb5
  have BX := Below.refl W5.heap.size W5
  go_wp2_with fail
  rw [← HW5.out]
  refine (implNewOf_any (some ⟨b4, 0, none⟩) n n x _ X.rws hok.at_ hok.to_).mono ?_
  rintro e v6 ⟨gv, rfl, g, b1⟩
  rw [HP.out] at g ⊢
  dsimp only at g ⊢
  obtain ⟨gA, gc, rfl, gh1, gh2⟩ := g.form HPL.out
  have HG := Lib.hid (show ∀ j, (Value.slice gA p gc).ownBlock = some j → W5.heap.size ≤ j from fun j e => (g.lt e).1)
  replace B0 := B0.next b1
  replace o := o.below b1
  replace X := X.below b1
  replace BX := BX.next b1
  clear b1
  go_wp2_with fail
  refine (eqStringS_any _ _ p p gc oc P P _ g.strs o.strs).mono ?_
  rintro e v7 ⟨rfl, d1⟩
  have b1 := d1.below
  clear d1
  replace B0 := B0.next b1
  replace o := o.below b1
  replace X := X.below b1
  replace g := g.below b1
  replace BX := BX.next b1
  clear b1
  have c0 := cell_keep B0 C0.out
  have c1 := cell_keep B0 C1.out
  have c2 := cell_keep B0 C2.out
  have e0 := cell_keep BX D0.out
  have e1 := cell_keep BX D1.out
  have e2 := cell_keep BX D2.out
  go_wp2
  go_region_held3 (fun w' => w'.cell? ⟨w.heap.size, 0, none⟩ = some (.int .i64 x.at_) ∧ w'.cell? ⟨w.heap.size, 1, none⟩ = some (.int .i64 x.to_) ∧ w'.cell? ⟨w.heap.size, 2, none⟩ = some (.slice a n c) ∧ w'.cell? ⟨v4.heap.size, 0, none⟩ = some (.int .i64 x.at_) ∧ w'.cell? ⟨v4.heap.size, 1, none⟩ = some (.int .i64 x.to_) ∧ w'.cell? ⟨v4.heap.size, 2, none⟩ = some (.slice (some ⟨b4, 0, none⟩) n n))
    (first | exact ⟨c0, c1, c2, e0, e1, e2⟩ | exact ⟨cell_keep F8.out c0, cell_keep F8.out c1, cell_keep F8.out c2, cell_keep F8.out e0, cell_keep F8.out e1, cell_keep F8.out e2⟩ | exact ⟨cell_keep F9.out c0, cell_keep F9.out c1, cell_keep F9.out c2, cell_keep F9.out e0, cell_keep F9.out e1, cell_keep F9.out e2⟩ | go_keep)
    (first
      | (go_at_call 27; refine (toGroup_any a n c x _ ((hx0.below B0).below (Below.refl _ v7).drew) hm).mono ?_; rintro e v8 ⟨b8, hb8, hb8z, rfl, y, b8'⟩
         have F8 := Lib.hid (show Below v7.heap.size v7 v8 from (Below.refl _ v7).drew.next b8')
         clear b8')
      | (go_at_call 29; refine (eqGroup_any (some ⟨b4, 0, none⟩) (some ⟨b8, 0, none⟩) n n n n x x _ (X.below F8.out).rws y.rws).mono ?_; rintro e v9 ⟨rfl, b9'⟩
         have F9 := Lib.hid (show Below v7.heap.size v7 v9 from F8.out.next b9')
         rw [heqG.out]
         clear b9')
      | fail)
  have b1 := F9.out
  clear c0 c1 c2
  replace B0 := B0.next b1
  replace o := o.below b1
  replace X := X.below b1
  replace g := g.below b1
  replace BX := BX.next b1
  clear b1 e0 e1 e2
  have e0 := cell_keep BX D0.out
  have e1 := cell_keep BX D1.out
  have e2 := cell_keep BX D2.out
  go_wp2_with fail
  refine (markGroup_any _ n n _ 1 x _ X hm (by omega)).mono ?_
  rintro e v10 ⟨rfl, xm, g1⟩
  clear e0 e1 e2
  have hXB : ∀ j, (Value.slice (some ⟨b4, 0, none⟩) n n).ownBlock = some j → v3.heap.size ≤ j ∧ j < v4.heap.size ∧ W0.heap.size ≤ j := fun j e => by
    injection e with e
    simp at e
    have h1 := HZ3.out
    omega
  replace B0 := Wrote.below' B0 g1 (fun j e => (hXB j e).2.2)
  replace o := o.wrote g1 (fun j e e2 => by have h3 := HO.out j e; have h4 := (hXB j e2).1; omega)
  replace g := g.wrote g1 (fun j e e2 => by have h3 := HG.out j e; have h4 := (hXB j e2).2.1; have h5 := HS5.out; omega)
  clear g1 xm
  have hz0 : decide (((1 + 2 * n : Nat) : Int) < 0) = false := by simp; omega
  go_wp2_with fail
  refine (eqStringS_any _ _ p p gc oc P P _ g.strs o.strs).mono ?_
  rintro e v14 ⟨rfl, d1⟩
  have b1 := d1.below
  clear d1
  replace B0 := B0.next b1
  replace o := o.below b1
  replace g := g.below b1
  clear b1
  go_wp2_with fail
  refine (markStrW_any _ p gc _ 1 P _ g hp (by omega)).mono ?_
  rintro e v15 ⟨rfl, gm, g1⟩
  replace B0 := Wrote.below' B0 g1 (fun j e => by have h3 := HG.out j e; have h4 := HS5.out; have h5 := hzB.out; omega)
  replace o := o.wrote g1 (fun j e e2 => by have h3 := HO.out j e; have h4 := HG.out j e2; have h5 := HS5.out; have h6 := hz4.out; omega)
  clear g1
  have hz1 : ((1 : Int) + (p : Int) < 0) = False := by simp; omega
  go_wp2_with fail
  refine (heldStringS_any _ p gc 1 _ gm.strs hp (by omega)).mono ?_
  rintro e v16 ⟨rfl, b1⟩
  replace B0 := B0.next b1
  replace o := o.below b1
  replace gm := gm.below b1
  clear b1
  have c0 := cell_keep B0 C0.out
  have c1 := cell_keep B0 C1.out
  have c2 := cell_keep B0 C2.out
  go_wp2_with fail
  refine (toGroup_any a n c x _ (hx0.below B0) hm).mono ?_
  rintro e v17 ⟨b17, hb17, hb17z, rfl, t, b1⟩
  clear c0 c1 c2
  replace B0 := B0.next b1
  replace o := o.below b1
  replace gm := gm.below b1
  clear b1
  go_wp2_with fail
  refine (implNewOf_any (some ⟨b17, 0, none⟩) n n x _ t.rws hok.at_ hok.to_).mono ?_
  rintro e v19 ⟨fv, rfl, f, b1⟩
  rw [HP.out] at f ⊢
  dsimp only at f ⊢
  obtain ⟨fA, fc, rfl, fh1, fh2⟩ := f.form HPL.out
  replace B0 := B0.next b1
  replace o := o.below b1
  replace gm := gm.below b1
  clear b1 t
  go_wp2_with fail
  refine (eqStringS_any _ _ p p fc oc P P _ f.strs o.strs).mono ?_
  rintro e v20 ⟨rfl, d1⟩
  have b1 := d1.below
  clear d1
  replace B0 := B0.next b1
  replace o := o.below b1
  replace gm := gm.below b1
  replace f := f.below b1
  clear b1
  go_wp2_with fail
  refine (heldStringS_any _ p gc 1 _ gm.strs hp (by omega)).mono ?_
  rintro e v21 ⟨rfl, b1⟩
  replace B0 := B0.next b1
  go_wp2
  go_ret
  exact ⟨rfl, HBW.out.next B0⟩

end Go.Proofs.Ytgohaemmnpifbaa
