/-
  The law FnExactReadUnified: the walk.
-/
import Derived.Test.YtkamenidgkjodaaGreatDoorQcUUniS
import Derived.Test.YtkamenidgkjodaaGreatDoorQcGLaws
set_option linter.unusedSimpArgs false
set_option linter.unusedVariables false
namespace Go.Proofs.YtkamenidgkjodaaGreatDoor
open Go.RowKit M

/-- ReadUnified's answer: the one that ReadIs tells. -/
noncomputable def readU (s : List UInt8) : List Gp × Int × Bool :=
  open Classical in if h : ∃ r : List Gp × Int × Bool, ReadIs s r.1 r.2.1 r.2.2 then Classical.choose h else ([], 1, false)
theorem readU_is {s : List UInt8} {g : List Gp} {c : Int} {o : Bool} (h : ReadIs s g c o) : readU s = (g, c, o) := by
  have hx : ∃ r : List Gp × Int × Bool, ReadIs s r.1 r.2.1 r.2.2 := ⟨(g, c, o), h⟩
  unfold readU
  rw [dif_pos hx]
  have hc := Classical.choose_spec hx
  generalize Classical.choose hx = r at hc
  obtain ⟨g', c', o'⟩ := r
  obtain ⟨e1, e2, e3⟩ := hc.same h
  dsimp only at e1 e2 e3
  rw [e1, e2, e3]
theorem totalR_lines : ∀ {l : List Rw}, (∀ y ∈ l, y.line.size ≤ 30) → totalR l ≤ 30 * l.length
  | [], _ => by simp [totalR]
  | x :: l, h => by
    have h1 := totalR_lines (l := l) (fun y hy => h y (by simp [hy]))
    have h2 := h x (by simp)
    simp only [totalR, List.length_cons]; omega
theorem totalG_good : ∀ {g : List Gp}, (∀ x ∈ g, groupB x = true) → totalG g ≤ 2480 * g.length
  | [], _ => by simp [totalG]
  | x :: g, h => by
    have h1 := totalG_good (g := g) (fun y hy => h y (by simp [hy]))
    have hx := h x (by simp)
    have h2 := (groupB_len hx).1
    have h3 := totalR_lines (l := x.rows) (fun y hy => (lineB_size (groupB_line hx y hy).1).2)
    simp only [totalG, bulkG, List.length_cons]; omega
theorem readU_len (s : List UInt8) : (readU s).1.length + totalG (readU s).1 ≤ 60000 := by
  have hz : ∀ r : List Gp × Int × Bool, ReadIs s r.1 r.2.1 r.2.2 → r.1.length + totalG r.1 ≤ 60000 := by
    rintro ⟨g, c, o⟩ h
    rcases h with ⟨hg, _⟩ | ⟨hg, _⟩
    · obtain ⟨h1, _, h2⟩ := goodG_parts hg
      have h3 := totalG_good h2
      dsimp only at *
      omega
    · dsimp only at hg ⊢
      rw [hg]; simp [totalG]
  by_cases hx : ∃ r : List Gp × Int × Bool, ReadIs s r.1 r.2.1 r.2.2
  · obtain ⟨⟨g, c, o⟩, h⟩ := hx
    rw [readU_is h]
    exact hz (g, c, o) h
  · unfold readU
    rw [dif_neg hx]; simp [totalG]
theorem specReadU_any (s : ByteArray) (hs : s.size ≤ 1048576) (w : World) :
    Calls Tryz.prog 15 #[.string s] w fun e w' => ∃ v vs, e = .returned (.tuple #[v, .int .i64 (readU s.data.toList).2.1, .bool (readU s.data.toList).2.2]) ∧ OwnGp w' w.heap.size v (readU s.data.toList).1 vs ∧ Below w.heap.size w w' := by
  refine (specReadUnified_any s hs w).mono ?_
  rintro e w' ⟨v, vs, g, c, o, rfl, ho, hr, hb⟩
  rw [readU_is hr]
  exact ⟨v, vs, rfl, ho, hb⟩
theorem implReadU_any (s : ByteArray) (hs : s.size ≤ 1048576) (w : World) (hv : VarsS w) :
    Calls Tryz.prog 12 #[.string s] w fun e w' => ∃ v vs, e = .returned (.tuple #[v, .int .i64 (readU s.data.toList).2.1, .bool (readU s.data.toList).2.2]) ∧ OwnGp w' w.heap.size v (readU s.data.toList).1 vs ∧ Below w.heap.size w w' := by
  refine (implReadUnified_any s hs w hv).mono ?_
  rintro e w' ⟨v, vs, g, c, o, rfl, ho, hr, hb⟩
  rw [readU_is hr]
  exact ⟨v, vs, rfl, ho, hb⟩

set_option maxHeartbeats 4000000 in
set_option maxRecDepth 100000 in
theorem FnExactReadUnified_any (w : World) (hv : VarsS w) (s : ByteArray) (hs : s.size ≤ maxLen) :
    Calls Tryz.prog 5 #[.string s] w fun e w' => e = .returned (.bool true) ∧ Below w.heap.size w w' := by
  unfold maxLen at hs
  have B0 := Below.refl w.heap.size w
  by_cases hbig : 1048576 < s.size
  · go_enter Tryz.func5, Tryz.ntmps5
    go_wp2
    go_ret
    exact ⟨rfl, B0⟩
  have hbs : s.size ≤ 1048576 := by omega
  obtain ⟨P, q1, q2, HP⟩ : ∃ P q1 q2, Hid (readU s.data.toList = (P, q1, q2)) := ⟨_, _, _, rfl⟩
  have hbd := readU_len s.data.toList
  rw [HP.out] at hbd
  have HBD := Lib.hid hbd
  clear hbd
  obtain ⟨p, HPL⟩ : ∃ p, Hid (P.length = p) := ⟨_, rfl⟩
  have heqP := eqGS_refl P
  have hp : p ≤ 1048576 := by have := HBD.out; have := HPL.out; (try dsimp only at *); omega
  go_enter Tryz.func5, Tryz.ntmps5
  go_wp2_with fail
  refine (specReadU_any s hbs _).mono ?_
  rintro e v1 ⟨ov, os, rfl, o, b1⟩
  rw [HP.out] at o ⊢
  dsimp only at o ⊢
  obtain ⟨ya, yc, rfl, oh1, oh2⟩ := o.form HPL.out
  have HO := Lib.hid (show ∀ j, (BlkR (Value.slice ya p yc) os) j → j < v1.heap.size from fun j e => (o.lt e).2)
  replace B0 := B0.next b1
  clear b1
  go_wp2_with fail
  refine (implReadU_any s hbs _ (hv.below B0)).mono ?_
  rintro e v2 ⟨gv, gs, rfl, g, b1⟩
  rw [HP.out] at g ⊢
  dsimp only at g ⊢
  obtain ⟨gA, gc, rfl, gh1, gh2⟩ := g.form HPL.out
  have HG := Lib.hid (show ∀ j, (BlkR (Value.slice gA p gc) gs) j → v1.heap.size ≤ j from fun j e => (g.lt e).1)
  have HGW := Lib.hid (show ∀ j, (BlkR (Value.slice gA p gc) gs) j → w.heap.size ≤ j from fun j e => Nat.le_trans B0.size (g.lt e).1)
  replace B0 := B0.next b1
  replace o := o.below b1
  clear b1
  go_wp2_with fail
  refine (eqGroupS_any _ _ p p gc yc P P _ g.gps o.gps).mono ?_
  rintro e v3 ⟨rfl, b1⟩
  replace B0 := B0.next b1
  replace o := o.below b1
  replace g := g.below b1
  clear b1
  go_wp2_with fail
  refine (markGroupS_any _ p gc _ 1 P _ _ g (by have := HBD.out; (try dsimp only at *); omega) (by have := HBD.out; (try dsimp only at *); omega)).mono ?_
  rintro e v4 ⟨rfl, ⟨gms, gm⟩, g1⟩
  replace B0 := Wrote.below' B0 g1 (fun j e => HGW.out j e)
  replace o := o.wrote g1 (fun j e e2 => by have h3 := HO.out j e; have h4 := HG.out j e2; omega)
  clear g1
  have hz1 : decide (((endG 1 P : Nat) : Int) < 0) = false := by simp <;> omega
  have hz2 : (((endG 1 P : Nat) : Int) != ((endG 1 P : Nat) : Int)) = false := by simp
  go_wp2_with fail
  refine (heldGroupS_any _ p gc 1 P _ gm.gps (by have := HBD.out; (try dsimp only at *); omega) (by have := HBD.out; (try dsimp only at *); omega)).mono ?_
  rintro e v5 ⟨rfl, b1⟩
  replace B0 := B0.next b1
  replace o := o.below b1
  replace gm := gm.below b1
  clear b1
  go_wp2_with fail
  refine (implReadU_any s hbs _ (hv.below B0)).mono ?_
  rintro e v6 ⟨fv, fs, rfl, f, b1⟩
  rw [HP.out] at f ⊢
  dsimp only at f ⊢
  obtain ⟨fA, fc, rfl, fh1, fh2⟩ := f.form HPL.out
  replace B0 := B0.next b1
  replace o := o.below b1
  replace gm := gm.below b1
  clear b1
  go_wp2_with fail
  refine (eqGroupS_any _ _ p p fc yc P P _ f.gps o.gps).mono ?_
  rintro e v7 ⟨rfl, b1⟩
  replace B0 := B0.next b1
  replace gm := gm.below b1
  clear b1
  go_wp2_with fail
  refine (heldGroupS_any _ p gc 1 P _ gm.gps (by have := HBD.out; (try dsimp only at *); omega) (by have := HBD.out; (try dsimp only at *); omega)).mono ?_
  rintro e v8 ⟨rfl, b1⟩
  replace B0 := B0.next b1
  go_wp2
  go_ret
  exact ⟨rfl, B0⟩

end Go.Proofs.YtkamenidgkjodaaGreatDoor
