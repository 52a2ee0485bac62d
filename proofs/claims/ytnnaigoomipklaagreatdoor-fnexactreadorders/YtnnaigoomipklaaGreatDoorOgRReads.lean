/-
  Reading steps, the program's way: mathematics. The reader is what is left of a text and whether it has failed.
  strings.IndexAny at the letters "acd", at every text.
  The reader of steps, the program's: its memory, words and lines.
  One step is read, and all of them: the program's.
  ReadNormal, the program's.
  Heads and shown lines, the model's.
  ReadNormal, the model's.
-/
import Derived.Test.YtnnaigoomipklaaGreatDoorOgSTxtB
import Derived.Test.YtnnaigoomipklaaGreatDoorOgNVars
import Derived.Test.YtnnaigoomipklaaGreatDoorOgShelf
import Derived.Lib.OthersKept
import Derived.Laws.RangeAny
import Derived.Laws.Runes
import Derived.WalkMore
import Derived.BigQuiet
import Derived.Test.YtnnaigoomipklaaGreatDoorOgNTwo
import Derived.Test.YtnnaigoomipklaaGreatDoorOgNSpecs
import Derived.Test.YtnnaigoomipklaaGreatDoorOgHMems
import Derived.Test.YtnnaigoomipklaaGreatDoorOgGood
import Derived.Test.YtnnaigoomipklaaGreatDoorOgHBases
import Derived.Test.YtnnaigoomipklaaGreatDoorOgHApp
import Derived.Test.YtnnaigoomipklaaGreatDoorOgSLaws
import Derived.Test.YtnnaigoomipklaaGreatDoorProg
import Derived.Test.YtnnaigoomipklaaGreatDoorOgMemT
import Derived.Test.YtnnaigoomipklaaGreatDoorOgSMath
import Derived.Test.YtnnaigoomipklaaGreatDoorOgSTxt
import Derived.Test.YtnnaigoomipklaaGreatDoorOgURows
import Derived.StillTailTactics
import Derived.Test.YtnnaigoomipklaaGreatDoorOgLinesS
set_option linter.unusedSimpArgs false
set_option linter.unusedVariables false
namespace Go.Proofs.YtnnaigoomipklaaGreatDoor.M
open Go

def rPlain (r : List UInt8 × Bool) : List UInt8 × (List UInt8 × Bool) := if (Lib.cut r.1 [10]).2.2 = true then ((Lib.cut r.1 [10]).1, ((Lib.cut r.1 [10]).2.1, r.2)) else ([], ([], true))

theorem rPlain_hit {p : List UInt8} (h : (10 : UInt8) ∉ p) (q : List UInt8) (f : Bool) : rPlain (p ++ 10 :: q, f) = (p, (q, f)) := by
  unfold rPlain
  rw [cut_hit 10 p q h, if_pos rfl]

/-! How much is left. -/

theorem cut_le (l : List UInt8) : (Lib.cut l [10]).1.length ≤ l.length ∧ ((Lib.cut l [10]).2.2 = true → (Lib.cut l [10]).1.length + (Lib.cut l [10]).2.1.length < l.length) := by
  by_cases h : (10 : UInt8) ∈ l
  · obtain ⟨p, q, rfl, hp⟩ := List.eq_append_cons_of_mem h
    rw [cut_hit 10 p q hp]
    simp
  · rw [cut_none 10 l h]
    simp
theorem rPlain_le (r : List UInt8 × Bool) : (rPlain r).1.length ≤ r.1.length ∧ (rPlain r).2.1.length ≤ r.1.length ∧ (r.1 ≠ [] → (rPlain r).2.1.length < r.1.length) := by
  have h := cut_le r.1
  unfold rPlain
  split
  · rename_i h2
    have := h.2 h2
    exact ⟨by dsimp only; omega, by dsimp only; omega, fun _ => by dsimp only; omega⟩
  · refine ⟨by simp, by simp, fun e => ?_⟩
    have := List.length_pos_iff.2 e
    simpa using this

/-! The answer. -/

/-! Reading steps, the model's way. -/

end Go.Proofs.YtnnaigoomipklaaGreatDoor.M

namespace Go.Proofs.YtnnaigoomipklaaGreatDoor
open Go.RowKit M

/-- The reader lies in block b: what is left, and whether it has failed. W0: the world ahead of it, with the library's own variables. -/
structure Rdr (W0 w : World) (b : Nat) (r : List UInt8 × Bool) : Prop where
  vars : Vars W0
  low : Below W0.heap.size W0 w
  ge : W0.heap.size ≤ b
  small : r.1.length ≤ 3000
  heap : w.heap[b]? = some (.cells #[.string (bs r.1), .bool r.2] 86 (0, 0))

section
variable {W0 w w' : World} {b : Nat} {r : List UInt8 × Bool}
theorem Rdr.lt (h : Rdr W0 w b r) : b < w.heap.size := (Array.getElem?_eq_some_iff.1 h.heap).1
theorem Rdr.c0 (h : Rdr W0 w b r) : w.cell? ⟨b, 0, none⟩ = some (.string (bs r.1)) := by simp [World.cell?, h.heap]
theorem Rdr.c1 (h : Rdr W0 w b r) : w.cell? ⟨b, 1, none⟩ = some (.bool r.2) := by simp [World.cell?, h.heap]
theorem Rdr.free (h : Rdr W0 w b r) (j : Nat) : w.frozen? ⟨b, j, none⟩ = false := by simp [World.frozen?, h.heap]
theorem Rdr.now (h : Rdr W0 w b r) : Vars w := h.vars.below h.low
theorem Rdr.keep (h : Rdr W0 w b r) (hb : Below w.heap.size w w') : Rdr W0 w' b r := ⟨h.vars, h.low.next hb, h.ge, h.small, (hb.block b h.lt).trans h.heap⟩
/-- Whatever is written elsewhere, at or behind W0's end. -/
theorem Rdr.kept {row : Option Nat} (h : Rdr W0 w b r) (hg : w.grownBy w' row) (hr : ∀ g, row = some g → b < g) : Rdr W0 w' b r :=
  ⟨h.vars, h.low.grown hg h.low.size (fun g e => Nat.le_trans h.ge (Nat.le_of_lt (hr g e))), h.ge, h.small, (hg.block b h.lt (fun e => by have := hr b e.symm; omega)).trans h.heap⟩
theorem Rdr.wrote {S : Nat → Prop} (h : Rdr W0 w b r) (hw : Wrote S w w') (hs : ∀ g, S g → b < g) : Rdr W0 w' b r :=
  ⟨h.vars, Wrote.below' h.low hw (fun g e => Nat.le_trans h.ge (Nat.le_of_lt (hs g e))), h.ge, h.small, (hw.block b h.lt (fun e => by have := hs b e; omega)).trans h.heap⟩
theorem Rdr.set0 (h : Rdr W0 w b r) (t : List UInt8) (ht : t.length ≤ 3000) : Rdr W0 (w.setCell ⟨b, 0, none⟩ (.string (bs t))) b (t, r.2) :=
  ⟨h.vars, Wrote.below' h.low (Wrote.set (fun i => i = b) w _ _ rfl) (fun k e => e ▸ h.ge), h.ge, ht, heap_set_same h.heap⟩
theorem Rdr.set1 (h : Rdr W0 w b r) (f : Bool) : Rdr W0 (w.setCell ⟨b, 1, none⟩ (.bool f)) b (r.1, f) :=
  ⟨h.vars, Wrote.below' h.low (Wrote.set (fun i => i = b) w _ _ rfl) (fun k e => e ▸ h.ge), h.ge, h.small, heap_set_same h.heap⟩
theorem wset (w : World) (b j : Nat) (u : Value) : Wrote (fun i => i = b) w (w.setCell ⟨b, j, none⟩ u) := Wrote.set (fun i => i = b) w _ _ rfl
end

set_option maxHeartbeats 400000 in
theorem rfail_any (W0 : World) (b : Nat) (r : List UInt8 × Bool) (w : World) (h : Rdr W0 w b r) :
    Calls Tryz.prog 129 #[.pointer (some ⟨b, 0, none⟩)] w fun e w' => e = .returned (.tuple #[]) ∧ Rdr W0 w' b ([], true) ∧ Wrote (fun i => i = b) w w' := by
  have c0 := h.c0
  have c1 := h.c1
  have f0 := h.free
  have HR := Lib.hid (show Rdr W0 ((w.setCell ⟨b, 0, none⟩ (.string ⟨#[]⟩)).setCell ⟨b, 1, none⟩ (.bool true)) b ([], true) from (h.set0 [] (by simp)).set1 true)
  have HW := Lib.hid (show Wrote (fun i => i = b) w ((w.setCell ⟨b, 0, none⟩ (.string ⟨#[]⟩)).setCell ⟨b, 1, none⟩ (.bool true)) from (wset w b 0 _).trans (wset _ b 1 _) (fun _ _ e => e))
  clear h
  go_enter Tryz.func129, Tryz.ntmps129
  go_wp2
  refine bodyPost_end (results_none rfl _ _ _) rfl ?_
  exact ⟨rfl, HR.out, HW.out⟩

/-! strings.CutPrefix. -/

theorem CutLine_any (s : List UInt8) (hs : s.length ≤ 3000) (w : World) (hv : Vars w) :
    Calls Tryz.prog 178 #[.string (bs s), .string ⟨#[10]⟩] w fun e w' => e = .returned (.tuple #[.string (bs (Lib.cut s [10]).1), .string (bs (Lib.cut s [10]).2.1), .bool (Lib.cut s [10]).2.2]) ∧ Below w.heap.size w w' := by
  obtain ⟨m, hm⟩ := hv.big
  refine (Tryz.strings_Cut (bs s) ⟨#[10]⟩ m w (by rw [bs_size]; omega) hm).mono ?_
  rintro e w' ⟨rfl, n, rfl⟩
  rw [bs_list]
  exact ⟨rfl, below_drewN (Below.refl _ _) n⟩

set_option maxHeartbeats 400000 in
theorem rplain_any (W0 : World) (b : Nat) (r : List UInt8 × Bool) (w : World) (h : Rdr W0 w b r) :
    Calls Tryz.prog 125 #[.pointer (some ⟨b, 0, none⟩)] w fun e w' => e = .returned (.string (bs (rPlain r).1)) ∧ Rdr W0 w' b (rPlain r).2 ∧ Wrote (fun i => i = b) w w' := by
  have c0 := h.c0
  have H := Lib.hid h
  clear h
  obtain ⟨x, y, q, HC⟩ : ∃ x y q, Hid (Lib.cut r.1 [10] = (x, y, q)) := ⟨_, _, _, rfl⟩
  have HY := Lib.hid (show q = true → y.length ≤ 3000 by
    have h1 := cut_le r.1
    have h2 := H.out.small
    rw [HC.out] at h1
    intro e
    have := h1.2 e
    dsimp only at this
    omega)
  cases q
  · have HQ := Lib.hid (show rPlain r = ([], ([], true)) by unfold rPlain; rw [HC.out]; rfl)
    go_enter Tryz.func125, Tryz.ntmps125
    go_wp2_with fail
    refine (CutLine_any r.1 H.out.small _ H.out.now).mono ?_
    rintro e w1 ⟨rfl, b1⟩
    rw [HC.out]
    have H1 := Lib.hid (H.out.keep b1)
    go_wp2_with fail
    refine (rfail_any W0 b r _ H1.out).mono ?_
    rintro e w2 ⟨rfl, hr, hw⟩
    go_wp2
    go_ret
    exact ⟨by rw [HQ.out]; rfl, by rw [HQ.out]; exact hr, (Wrote.of_below b1).trans hw (fun _ _ e => e)⟩
  · have HQ := Lib.hid (show rPlain r = (x, (y, r.2)) by unfold rPlain; rw [HC.out]; rfl)
    go_enter Tryz.func125, Tryz.ntmps125
    go_wp2_with fail
    refine (CutLine_any r.1 H.out.small _ H.out.now).mono ?_
    rintro e w1 ⟨rfl, b1⟩
    rw [HC.out]
    have H1 := Lib.hid (H.out.keep b1)
    have d0 := H1.out.c0
    have f0 := H1.out.free
    go_wp2
    go_ret
    exact ⟨by rw [HQ.out]; rfl, by rw [HQ.out]; exact H1.out.set0 y (HY.out (by trivial)), (Wrote.of_below b1).trans (wset _ _ _ _) (fun _ _ e => e)⟩

end Go.Proofs.YtnnaigoomipklaaGreatDoor

namespace Go.Proofs.YtnnaigoomipklaaGreatDoor
open Go.RowKit M

theorem pairL_le {l : List UInt8} {f t : Nat} (h : pairL l = some (f, t)) : f ≤ t ∧ t ≤ 1000 := by
  rw [pairL_two] at h
  have h1 := Option.filter_eq_some_iff.1 h
  have h2 := two1000_le h1.1
  have h3 := of_decide_eq_true h1.2
  dsimp only at h3
  omega

end Go.Proofs.YtnnaigoomipklaaGreatDoor

namespace Go.Proofs.YtnnaigoomipklaaGreatDoor
open Go.RowKit M

/-- How much is left in the reader at block k. -/
def restLen (w : World) (k : Nat) : Nat := match w.cell? ⟨k, 0, none⟩ with
  | some (.string b) => b.size
  | _ => 0
theorem Rdr.left {W0 w : World} {b : Nat} {r : List UInt8 × Bool} (h : Rdr W0 w b r) : restLen w b = r.1.length := by
  unfold restLen
  rw [h.c0]
  exact bs_size r.1
theorem some_left {l : List UInt8} (h : l ≠ []) : (!(bs l).toList.isEmpty) = true := by
  rw [ByteArray.toList_eq, bs_list]
  cases l with
  | nil => exact absurd rfl h
  | cons _ _ => rfl
theorem none_left : (!(bs []).toList.isEmpty) = false := by
  rw [ByteArray.toList_eq, bs_list]
  rfl

end Go.Proofs.YtnnaigoomipklaaGreatDoor

namespace Go.Proofs.YtnnaigoomipklaaGreatDoor
open Go.RowKit M

theorem duo_yes {l : List UInt8} {n m : Nat} (h : pairL l = some (n, m)) : duo (pairL l) = .tuple #[.int .i64 (n : Int), .int .i64 (m : Int), .bool true] := by rw [h]; rfl
theorem duo_not {l : List UInt8} (h : pairL l = none) : duo (pairL l) = .tuple #[.int .i64 0, .int .i64 0, .bool false] := by rw [h]; rfl

end Go.Proofs.YtnnaigoomipklaaGreatDoor

