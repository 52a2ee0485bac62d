/-
  The law FnExactReadOrders: the walk.
-/
import Derived.Test.YtnnaigoomipklaaGreatDoorOgOReadS
import Derived.Test.YtnnaigoomipklaaGreatDoorOgOLaws
import Derived.Test.YtnnaigoomipklaaGreatDoorOgOReadI
set_option linter.unusedSimpArgs false
set_option linter.unusedVariables false
namespace Go.Proofs.YtnnaigoomipklaaGreatDoor
open Go.RowKit Go.ChangeShapes Go.WideShapes M

theorem orderB_bulk {x : Od} (h : orderB x = true) : bulkO x ≤ 1240 := by
  obtain ⟨h1, h2⟩ := order_lines h
  have h3 := total_le (l := x.new) (b := 30) (fun s hs => by
    have h4 := (h1 s hs).1
    unfold lineB at h4
    simp only [Bool.and_eq_true, decide_eq_true_eq] at h4
    exact h4.1.2)
  unfold bulkO
  omega
theorem totalO_le {b : Nat} : ∀ {p : List Od}, (∀ x ∈ p, bulkO x ≤ b) → totalO p ≤ p.length * b
  | [], _ => by simp [totalO]
  | x :: p, h => by
    have h1 := totalO_le (p := p) (fun y hy => h y (by simp [hy]))
    have h2 := h x (by simp)
    rw [totalO, List.length_cons, Nat.add_mul]
    omega
theorem readOr_len (s : ByteArray) : (readOr s).1.length + totalO (readOr s).1 ≤ 80000 := by
  cases e : textOrders s with
  | none => rw [readOr_none e]; simp [totalO]
  | some p =>
    rw [readOr_some e]
    obtain ⟨_, h, _⟩ := textOrders_some.1 e
    obtain ⟨h1, h2⟩ := orders_all h
    have h5 := totalO_le (p := p) (b := 1240) (fun x hx => orderB_bulk (List.all_eq_true.1 h1 x hx))
    have h6 : p.length * 1240 ≤ 60 * 1240 := Nat.mul_le_mul_right _ h2
    dsimp only
    omega

set_option maxHeartbeats 4000000 in
set_option maxRecDepth 100000 in
theorem FnExactReadOrders_any (w : World) (hv : VarsR w) (s : ByteArray) (hs : s.size ≤ maxLen) :
    Calls Tryz.prog 5 #[.string s] w fun e w' => e = .returned (.bool true) ∧ Below w.heap.size w w' := by
  unfold maxLen at hs
  have B0 := Below.refl w.heap.size w
  by_cases hbig : 1048576 < s.size
  · go_enter Tryz.func5, Tryz.ntmps5
    go_wp2
    go_ret
    exact ⟨rfl, B0⟩
  have hbs : s.size ≤ 1048576 := by omega
  obtain ⟨P, q1, q2, HP⟩ : ∃ P q1 q2, Hid (readOr s = (P, q1, q2)) := ⟨_, _, _, rfl⟩
  have hbd := readOr_len s
  rw [HP.out] at hbd
  have HBD := Lib.hid hbd
  clear hbd
  obtain ⟨p, HPL⟩ : ∃ p, Hid (P.length = p) := ⟨_, rfl⟩
  have heqP := eqOS_refl P
  have hp : p ≤ 1048576 := by have := HBD.out; have := HPL.out; (try dsimp only at *); omega
  go_enter Tryz.func5, Tryz.ntmps5
  go_wp2_with fail
  refine (specReadOrders_any s hbs _).mono ?_
  rintro e v1 ⟨ov, os, rfl, o, b1⟩
  rw [HP.out] at o ⊢
  dsimp only at o ⊢
  obtain ⟨ya, yc, rfl, oh1, oh2⟩ := o.form HPL.out
  have HO := Lib.hid (show ∀ j, (BlkR (Value.slice ya p yc) os) j → j < v1.heap.size from fun j e => (o.lt e).2)
  replace B0 := B0.next b1
  clear b1
  go_wp2_with fail
  refine (implReadOrders_any s hbs _ (hv.below B0)).mono ?_
  rintro e v2 ⟨gv, gs, rfl, g, b1⟩
  rw [HP.out] at g ⊢
  dsimp only at g ⊢
  obtain ⟨gA, gc, rfl, gh1, gh2⟩ := g.form HPL.out
  have HG := Lib.hid (show ∀ j, (BlkR (Value.slice gA p gc) gs) j → v1.heap.size ≤ j from fun j e => (g.lt e).1)
  have HGW := Lib.hid (show ∀ j, (BlkR (Value.slice gA p gc) gs) j → w.heap.size ≤ j from fun j e => Nat.le_trans B0.size (g.lt e).1)
  replace B0 := B0.next b1
  replace o := o.below b1
  clear b1
  go_wp2_with fail
  refine (eqOrderS_any _ _ p p gc yc P P _ g.ods o.ods).mono ?_
  rintro e v3 ⟨rfl, b1⟩
  replace B0 := B0.next b1
  replace o := o.below b1
  replace g := g.below b1
  clear b1
  go_wp2_with fail
  refine (markOrderS_any _ p gc _ 1 P _ _ g (by have := HBD.out; (try dsimp only at *); omega) (by have := HBD.out; (try dsimp only at *); omega)).mono ?_
  rintro e v4 ⟨rfl, ⟨gms, gm⟩, g1⟩
  replace B0 := Wrote.below' B0 g1 (fun j e => HGW.out j e)
  replace o := o.wrote g1 (fun j e e2 => by have h3 := HO.out j e; have h4 := HG.out j e2; omega)
  clear g1
  have hz1 : decide (((endO 1 P : Nat) : Int) < 0) = false := by simp <;> omega
  have hz2 : (((endO 1 P : Nat) : Int) != ((endO 1 P : Nat) : Int)) = false := by simp
  go_wp2_with fail
  refine (heldOrderS_any _ p gc 1 P _ gm.ods (by have := HBD.out; (try dsimp only at *); omega) (by have := HBD.out; (try dsimp only at *); omega)).mono ?_
  rintro e v5 ⟨rfl, b1⟩
  replace B0 := B0.next b1
  replace o := o.below b1
  replace gm := gm.below b1
  clear b1
  go_wp2_with fail
  refine (implReadOrders_any s hbs _ (hv.below B0)).mono ?_
  rintro e v6 ⟨fv, fs, rfl, f, b1⟩
  rw [HP.out] at f ⊢
  dsimp only at f ⊢
  obtain ⟨fA, fc, rfl, fh1, fh2⟩ := f.form HPL.out
  replace B0 := B0.next b1
  replace o := o.below b1
  replace gm := gm.below b1
  clear b1
  go_wp2_with fail
  refine (eqOrderS_any _ _ p p fc yc P P _ f.ods o.ods).mono ?_
  rintro e v7 ⟨rfl, b1⟩
  replace B0 := B0.next b1
  replace gm := gm.below b1
  clear b1
  go_wp2_with fail
  refine (heldOrderS_any _ p gc 1 P _ gm.ods (by have := HBD.out; (try dsimp only at *); omega) (by have := HBD.out; (try dsimp only at *); omega)).mono ?_
  rintro e v8 ⟨rfl, b1⟩
  replace B0 := B0.next b1
  go_wp2
  go_ret
  exact ⟨rfl, B0⟩

end Go.Proofs.YtnnaigoomipklaaGreatDoor
