/-
  The program's reader, in memory: what is left, and whether it has failed.
-/
import Derived.Test.YtkamenidgkjodaaGreatDoorQcUReads
import Derived.Test.YtkamenidgkjodaaGreatDoorQcUTexts
import Derived.Test.YtkamenidgkjodaaGreatDoorQcSTxtB
import Derived.Test.YtkamenidgkjodaaGreatDoorQcNVars
import Derived.Test.YtkamenidgkjodaaGreatDoorQcNTwo
import Derived.Test.YtkamenidgkjodaaGreatDoorQcShelf
import Derived.Lib.OthersKept
import Derived.Laws.RangeAny
import Derived.WalkMore
import Derived.BigQuiet
import Derived.StillTailTactics
set_option linter.unusedSimpArgs false
set_option linter.unusedVariables false
namespace Go.Proofs.YtkamenidgkjodaaGreatDoor
open Go.RowKit M

/-- What the program's own variables and the library's hold. -/
structure VarsS (w : World) : Prop where
  lib : Vars w
  sgn : Sgn w
theorem VarsS.below {w w' : World} (h : VarsS w) (hb : Below w.heap.size w w') : VarsS w' := ⟨h.lib.below hb, h.sgn.below hb⟩

theorem cut_le (l : List UInt8) : (Lib.cut l [10]).1.length ≤ l.length ∧ ((Lib.cut l [10]).2.2 = true → (Lib.cut l [10]).1.length + (Lib.cut l [10]).2.1.length < l.length) := by
  by_cases h : (10 : UInt8) ∈ l
  · obtain ⟨p, q, rfl, hp⟩ := List.eq_append_cons_of_mem h
    rw [cut_hit 10 p q hp]
    simp
  · rw [cut_none 10 l h]
    simp
theorem heap_set_same {w : World} {k j : Nat} {c : Array Value} {t : TypeId} {u : Value} (h : w.heap[k]? = some (.cells c t (0, 0))) : (w.setCell ⟨k, j, none⟩ u).heap[k]? = some (.cells (c.setIfInBounds j u) t (0, 0)) := by
  simp [World.setCell, Array.getElem?_modify, h]
/-- The reader lies in block b: what is left, and whether it has failed. W0: the world ahead of it, with the library's own variables. -/
structure Rdr (W0 w : World) (b : Nat) (r : List UInt8 × Bool) : Prop where
  vars : VarsS W0
  low : Below W0.heap.size W0 w
  ge : W0.heap.size ≤ b
  small : r.1.length ≤ 3000
  heap : w.heap[b]? = some (.cells #[.string (bs r.1), .bool r.2] 71 (0, 0))

section
variable {W0 w w' : World} {b : Nat} {r : List UInt8 × Bool}
theorem Rdr.lt (h : Rdr W0 w b r) : b < w.heap.size := (Array.getElem?_eq_some_iff.1 h.heap).1
theorem Rdr.c0 (h : Rdr W0 w b r) : w.cell? ⟨b, 0, none⟩ = some (.string (bs r.1)) := by simp [World.cell?, h.heap]
theorem Rdr.c1 (h : Rdr W0 w b r) : w.cell? ⟨b, 1, none⟩ = some (.bool r.2) := by simp [World.cell?, h.heap]
theorem Rdr.free (h : Rdr W0 w b r) (j : Nat) : w.frozen? ⟨b, j, none⟩ = false := by simp [World.frozen?, h.heap]
theorem Rdr.now (h : Rdr W0 w b r) : VarsS w := h.vars.below h.low
theorem Rdr.keep (h : Rdr W0 w b r) (hb : Below w.heap.size w w') : Rdr W0 w' b r := ⟨h.vars, h.low.next hb, h.ge, h.small, (hb.block b h.lt).trans h.heap⟩
/-- Whatever is written elsewhere, at or behind W0's end. -/
theorem Rdr.kept {row : Option Nat} (h : Rdr W0 w b r) (hg : w.grownBy w' row) (hr : ∀ g, row = some g → b < g) : Rdr W0 w' b r :=
  ⟨h.vars, h.low.grown hg h.low.size (fun g e => Nat.le_trans h.ge (Nat.le_of_lt (hr g e))), h.ge, h.small, (hg.block b h.lt (fun e => by have := hr b e.symm; omega)).trans h.heap⟩
theorem Rdr.wrote {S : Nat → Prop} (h : Rdr W0 w b r) (hw : Wrote S w w') (hs : ∀ g, S g → b < g) : Rdr W0 w' b r :=
  ⟨h.vars, Wrote.below' h.low hw (fun g e => Nat.le_trans h.ge (Nat.le_of_lt (hs g e))), h.ge, h.small, (hw.block b h.lt (fun e => by have := hs b e; omega)).trans h.heap⟩
theorem Rdr.set0 (h : Rdr W0 w b r) (t : List UInt8) (ht : t.length ≤ 3000) : Rdr W0 (w.setCell ⟨b, 0, none⟩ (.string (bs t))) b (t, r.2) :=
  ⟨h.vars, Wrote.below' h.low (Wrote.set (fun i => i = b) w _ _ rfl) (fun k e => e ▸ h.ge), h.ge, ht, heap_set_same h.heap⟩
theorem Rdr.set1 (h : Rdr W0 w b r) (f : Bool) : Rdr W0 (w.setCell ⟨b, 1, none⟩ (.bool f)) b (r.1, f) :=
  ⟨h.vars, Wrote.below' h.low (Wrote.set (fun i => i = b) w _ _ rfl) (fun k e => e ▸ h.ge), h.ge, h.small, heap_set_same h.heap⟩
theorem wset (w : World) (b j : Nat) (u : Value) : Wrote (fun i => i = b) w (w.setCell ⟨b, j, none⟩ u) := Wrote.set (fun i => i = b) w _ _ rfl
end

set_option maxHeartbeats 400000 in
theorem rfail_any (W0 : World) (b : Nat) (r : List UInt8 × Bool) (w : World) (h : Rdr W0 w b r) :
    Calls Tryz.prog 83 #[.pointer (some ⟨b, 0, none⟩)] w fun e w' => e = .returned (.tuple #[]) ∧ Rdr W0 w' b ([], true) ∧ Wrote (fun i => i = b) w w' := by
  have c0 := h.c0
  have c1 := h.c1
  have f0 := h.free
  have HR := Lib.hid (show Rdr W0 ((w.setCell ⟨b, 0, none⟩ (.string ⟨#[]⟩)).setCell ⟨b, 1, none⟩ (.bool true)) b ([], true) from (h.set0 [] (by simp)).set1 true)
  have HW := Lib.hid (show Wrote (fun i => i = b) w ((w.setCell ⟨b, 0, none⟩ (.string ⟨#[]⟩)).setCell ⟨b, 1, none⟩ (.bool true)) from (wset w b 0 _).trans (wset _ b 1 _) (fun _ _ e => e))
  clear h
  go_enter Tryz.func83, Tryz.ntmps83
  go_wp2
  refine bodyPost_end (results_none rfl _ _ _) rfl ?_
  exact ⟨rfl, HR.out, HW.out⟩

/-! strings.CutPrefix. -/

theorem pre_take (s p : List UInt8) : Lib.hasPrefix s p = (decide (p.length ≤ s.length) && (s.take p.length == p)) := by
  unfold Lib.hasPrefix
  rw [Bool.eq_iff_iff, List.isPrefixOf_iff_prefix, List.prefix_iff_eq_take]
  simp only [Bool.and_eq_true, decide_eq_true_eq, beq_iff_eq]
  constructor
  · intro e
    have h := congrArg List.length e
    rw [List.length_take] at h
    exact ⟨by omega, e.symm⟩
  · exact fun e => e.2.symm
theorem pre_bytes (s p : ByteArray) (h : p.size ≤ s.size) : ((s.extract 0 p.size).toList == p.toList) = Lib.hasPrefix s.data.toList p.data.toList := by
  rw [pre_take, ByteArray.toList_eq, ByteArray.toList_eq]
  have e1 : (s.extract 0 p.size).data.toList = s.data.toList.take p.data.toList.length := by
    rw [extract_bs, bs_list, Lib.size_eq p, List.drop_zero, Nat.sub_zero]
  have e2 : decide (p.data.toList.length ≤ s.data.toList.length) = true := by rw [← Lib.size_eq, ← Lib.size_eq]; exact decide_eq_true h
  rw [e1, e2, Bool.true_and]
theorem pre_short (s p : ByteArray) (h : ¬ p.size ≤ s.size) : Lib.hasPrefix s.data.toList p.data.toList = false := by
  rw [pre_take]
  have e2 : decide (p.data.toList.length ≤ s.data.toList.length) = false := by rw [← Lib.size_eq, ← Lib.size_eq]; exact decide_eq_false h
  rw [e2, Bool.false_and]

set_option maxHeartbeats 400000 in
theorem HasPrefix_any (s p : ByteArray) (w : World) (hs : s.size ≤ 1048576) (hp : p.size ≤ 1048576) :
    Calls Tryz.prog 150 #[.string s, .string p] w fun e w' => e = .returned (.bool (Lib.hasPrefix s.data.toList p.data.toList)) ∧ w' = w := by
  by_cases h0 : p.size ≤ s.size
  · have H := Lib.hid (pre_bytes s p h0)
    go_enter Tryz.func150, Tryz.ntmps150
    go_wp2
    go_ret
    exact ⟨ret_bool H.out, rfl⟩
  · have H := Lib.hid (pre_short s p h0)
    go_enter Tryz.func150, Tryz.ntmps150
    go_wp2
    go_ret
    exact ⟨ret_bool H.out.symm, rfl⟩

set_option maxHeartbeats 400000 in
theorem CutPrefix_no (s p : ByteArray) (w : World) (hs : s.size ≤ 1048576) (hp : p.size ≤ 1048576) (hq : Lib.hasPrefix s.data.toList p.data.toList = false) :
    Calls Tryz.prog 79 #[.string s, .string p] w fun e w' => e = .returned (.tuple #[.string s, .bool false]) ∧ w' = w := by
  have HQ := Lib.hid hq
  have h0 : ∀ w, Calls Tryz.prog 122 #[.string s, .string p] w fun e w' => e = .returned (.tuple #[.string s, .bool false]) ∧ w' = w := by
    clear hq
    intro w
    go_enter Tryz.func122, Tryz.ntmps122
    go_wp2_with fail
    refine (HasPrefix_any s p _ hs hp).mono ?_
    rintro e w1 ⟨rfl, rfl⟩
    rw [HQ.out]
    go_wp2
    go_ret2
    exact ⟨rfl, rfl⟩
  have H0 := Lib.hid h0
  clear hq h0
  go_enter Tryz.func79, Tryz.ntmps79
  go_wp2_with fail
  refine (H0.out _).mono ?_
  rintro e w1 ⟨rfl, rfl⟩
  go_wp2
  go_ret2
  exact ⟨rfl, rfl⟩

set_option maxHeartbeats 400000 in
theorem CutPrefix_yes (s p : ByteArray) (w : World) (hs : s.size ≤ 1048576) (hp : p.size ≤ 1048576) (hq : Lib.hasPrefix s.data.toList p.data.toList = true) :
    Calls Tryz.prog 79 #[.string s, .string p] w fun e w' => e = .returned (.tuple #[.string (bs (s.data.toList.drop p.data.toList.length)), .bool true]) ∧ w' = w := by
  have HQ := Lib.hid hq
  have hle : p.size ≤ s.size := by
    by_cases h : p.size ≤ s.size
    · exact h
    · rw [pre_short s p h] at hq; cases hq
  have HE := Lib.hid (show s.extract p.size s.size = bs (s.data.toList.drop p.data.toList.length) by
    rw [extract_bs, Lib.size_eq p, Lib.size_eq s]
    congr 1
    exact List.take_of_length_le (by simp))
  have h0 : ∀ w, Calls Tryz.prog 122 #[.string s, .string p] w fun e w' => e = .returned (.tuple #[.string (bs (s.data.toList.drop p.data.toList.length)), .bool true]) ∧ w' = w := by
    clear hq
    intro w
    go_enter Tryz.func122, Tryz.ntmps122
    go_wp2_with fail
    refine (HasPrefix_any s p _ hs hp).mono ?_
    rintro e w1 ⟨rfl, rfl⟩
    rw [HQ.out]
    go_wp2
    go_ret2
    exact ⟨by rw [← HE.out]; rfl, rfl⟩
  have H0 := Lib.hid h0
  clear hq h0 hle
  go_enter Tryz.func79, Tryz.ntmps79
  go_wp2_with fail
  refine (H0.out _).mono ?_
  rintro e w1 ⟨rfl, rfl⟩
  go_wp2
  go_ret2
  exact ⟨rfl, rfl⟩

theorem rWord_no {p : List UInt8} {r : List UInt8 × Bool} (h : Lib.hasPrefix r.1 p = false) : rWord p r = ([], true) := if_neg (by rw [h]; simp)
theorem rWord_yes {p : List UInt8} {r : List UInt8 × Bool} (h : Lib.hasPrefix r.1 p = true) : rWord p r = (r.1.drop p.length, r.2) := if_pos h

set_option maxHeartbeats 400000 in
theorem rword_any (W0 : World) (b : Nat) (r : List UInt8 × Bool) (p : ByteArray) (hps : p.size ≤ 100) (w : World) (h : Rdr W0 w b r) :
    Calls Tryz.prog 166 #[.pointer (some ⟨b, 0, none⟩), .string p] w fun e w' => e = .returned (.tuple #[]) ∧ Rdr W0 w' b (rWord p.data.toList r) ∧ Wrote (fun i => i = b) w w' := by
  have c0 := h.c0
  have f0 := h.free
  have HB := Lib.hid (bs_list r.1)
  have H := Lib.hid h
  clear h
  cases hp : Lib.hasPrefix r.1 p.data.toList
  · have HP := Lib.hid hp
    have HQ := Lib.hid (rWord_no hp)
    clear hp
    go_enter Tryz.func166, Tryz.ntmps166
    go_wp2_with fail
    refine (CutPrefix_no (bs r.1) p _ (by rw [bs_size]; have := H.out.small; omega) (by omega) (by rw [HB.out]; exact HP.out)).mono ?_
    rintro e w1 ⟨rfl, rfl⟩
    go_wp2_with fail
    refine (rfail_any W0 b r _ H.out).mono ?_
    rintro e w1 ⟨rfl, hr, hw⟩
    go_wp2
    refine bodyPost_ret (results_none rfl _ _ _) rfl ?_
    exact ⟨rfl, by rw [HQ.out]; exact hr, hw⟩
  · have HP := Lib.hid hp
    have HQ := Lib.hid (rWord_yes hp)
    have HR := Lib.hid (H.out.set0 (r.1.drop p.data.toList.length) (by have := H.out.small; simp; omega))
    clear hp
    go_enter Tryz.func166, Tryz.ntmps166
    go_wp2_with fail
    refine (CutPrefix_yes (bs r.1) p _ (by rw [bs_size]; have := H.out.small; omega) (by omega) (by rw [HB.out]; exact HP.out)).mono ?_
    rintro e w1 ⟨rfl, rfl⟩
    rw [HB.out]
    go_wp2
    refine bodyPost_end (results_none rfl _ _ _) rfl ?_
    exact ⟨rfl, by rw [HQ.out]; exact HR.out, wset _ _ _ _⟩

theorem CutLine_any (s : List UInt8) (hs : s.length ≤ 3000) (w : World) (hv : Vars w) :
    Calls Tryz.prog 81 #[.string (bs s), .string ⟨#[10]⟩] w fun e w' => e = .returned (.tuple #[.string (bs (Lib.cut s [10]).1), .string (bs (Lib.cut s [10]).2.1), .bool (Lib.cut s [10]).2.2]) ∧ Below w.heap.size w w' := by
  obtain ⟨m, hm⟩ := hv.big
  refine (Tryz.strings_Cut (bs s) ⟨#[10]⟩ m w (by rw [bs_size]; omega) hm).mono ?_
  rintro e w' ⟨rfl, n, rfl⟩
  rw [bs_list]
  exact ⟨rfl, below_drewN (Below.refl _ _) n⟩

set_option maxHeartbeats 400000 in
theorem rplain_any (W0 : World) (b : Nat) (r : List UInt8 × Bool) (w : World) (h : Rdr W0 w b r) :
    Calls Tryz.prog 78 #[.pointer (some ⟨b, 0, none⟩)] w fun e w' => e = .returned (.string (bs (rPlain r).1)) ∧ Rdr W0 w' b (rPlain r).2 ∧ Wrote (fun i => i = b) w w' := by
  have c0 := h.c0
  have H := Lib.hid h
  clear h
  obtain ⟨x, y, q, HC⟩ : ∃ x y q, Hid (Lib.cut r.1 [10] = (x, y, q)) := ⟨_, _, _, rfl⟩
  have HY := Lib.hid (show q = true → y.length ≤ 3000 by
    have h1 := cut_le r.1
    have h2 := H.out.small
    rw [HC.out] at h1
    intro e
    have := h1.2 e
    dsimp only at this
    omega)
  cases q
  · have HQ := Lib.hid (show rPlain r = ([], ([], true)) by unfold rPlain; rw [HC.out]; rfl)
    go_enter Tryz.func78, Tryz.ntmps78
    go_wp2_with fail
    refine (CutLine_any r.1 H.out.small _ H.out.now.lib).mono ?_
    rintro e w1 ⟨rfl, b1⟩
    rw [HC.out]
    have H1 := Lib.hid (H.out.keep b1)
    go_wp2_with fail
    refine (rfail_any W0 b r _ H1.out).mono ?_
    rintro e w2 ⟨rfl, hr, hw⟩
    go_wp2
    go_ret
    exact ⟨by rw [HQ.out]; rfl, by rw [HQ.out]; exact hr, (Wrote.of_below b1).trans hw (fun _ _ e => e)⟩
  · have HQ := Lib.hid (show rPlain r = (x, (y, r.2)) by unfold rPlain; rw [HC.out]; rfl)
    go_enter Tryz.func78, Tryz.ntmps78
    go_wp2_with fail
    refine (CutLine_any r.1 H.out.small _ H.out.now.lib).mono ?_
    rintro e w1 ⟨rfl, b1⟩
    rw [HC.out]
    have H1 := Lib.hid (H.out.keep b1)
    have d0 := H1.out.c0
    have f0 := H1.out.free
    go_wp2
    go_ret
    exact ⟨by rw [HQ.out]; rfl, by rw [HQ.out]; exact H1.out.set0 y (HY.out (by trivial)), (Wrote.of_below b1).trans (wset _ _ _ _) (fun _ _ e => e)⟩

theorem rShown_no {sign : List UInt8} {r : List UInt8 × Bool} {x : List UInt8} {r1 : List UInt8 × Bool} (h : rPlain (rWord sign r) = (x, r1)) (h2 : Lib.hasPrefix r1.1 noneL = false) : rShown sign r = (x ++ [10], r1) := by
  unfold rShown
  rw [h]
  exact if_neg (by rw [h2]; simp)
theorem rShown_yes {sign : List UInt8} {r : List UInt8 × Bool} {x : List UInt8} {r1 : List UInt8 × Bool} (h : rPlain (rWord sign r) = (x, r1)) (h2 : Lib.hasPrefix r1.1 noneL = true) : rShown sign r = (x, (r1.1.drop 7, r1.2)) := by
  unfold rShown
  rw [h]
  exact if_pos h2

set_option maxHeartbeats 800000 in
theorem rshown_any (W0 : World) (b : Nat) (r : List UInt8 × Bool) (sign : ByteArray) (hps : sign.size ≤ 100) (w : World) (h : Rdr W0 w b r) :
    Calls Tryz.prog 155 #[.pointer (some ⟨b, 0, none⟩), .string sign] w fun e w' => e = .returned (.string (bs (rShown sign.data.toList r).1)) ∧ Rdr W0 w' b (rShown sign.data.toList r).2 ∧ Wrote (fun i => i = b) w w' := by
  obtain ⟨x, r1, HC⟩ : ∃ x r1, Hid (rPlain (rWord sign.data.toList r) = (x, r1)) := ⟨_, _, rfl⟩
  have HX := Lib.hid (show x.length ≤ 3000 by
    have h1 := rPlain_le (rWord sign.data.toList r)
    have h2 := rWord_le sign.data.toList r
    have h3 := h.small
    rw [HC.out] at h1
    dsimp only at h1
    omega)
  go_enter Tryz.func155, Tryz.ntmps155
  go_wp2_with fail
  refine (rword_any W0 b r sign hps _ h).mono ?_
  rintro e w1 ⟨rfl, h1, hw1⟩
  go_wp2_with fail
  refine (rplain_any W0 b _ _ h1).mono ?_
  rintro e w2 ⟨rfl, h2, hw2⟩
  rw [HC.out] at h2 ⊢
  dsimp only at h2 ⊢
  have HW := Lib.hid (hw1.trans hw2 (fun _ _ e => e))
  have H2 := Lib.hid h2
  have c0 := h2.c0
  have f0 := h2.free
  have HB := Lib.hid (bs_list r1.1)
  clear h h1 h2 hw1 hw2
  cases hp : Lib.hasPrefix r1.1 noneL
  · have HP := Lib.hid (show Lib.hasPrefix r1.1 (⟨#[92, 32, 110, 111, 110, 101, 10]⟩ : ByteArray).data.toList = false from hp)
    have HQ := Lib.hid (rShown_no HC.out hp)
    have hlim : (9223372036854775807 < (bs x).size + 1) = False := eq_false (by have := HX.out; rw [bs_size]; omega)
    clear hp
    go_wp2_with fail
    refine (CutPrefix_no (bs r1.1) ⟨#[92, 32, 110, 111, 110, 101, 10]⟩ _ (by rw [bs_size]; have := H2.out.small; omega) (by decide) (by rw [HB.out]; exact HP.out)).mono ?_
    rintro e w3 ⟨rfl, rfl⟩
    go_wp2
    go_ret
    exact ⟨ret_str (by rw [HQ.out]; exact bs_app x [10]), by rw [HQ.out]; exact H2.out, HW.out⟩
  · have HP := Lib.hid (show Lib.hasPrefix r1.1 (⟨#[92, 32, 110, 111, 110, 101, 10]⟩ : ByteArray).data.toList = true from hp)
    have HT := Lib.hid (show bs (r1.1.drop (⟨#[92, 32, 110, 111, 110, 101, 10]⟩ : ByteArray).data.toList.length) = bs (r1.1.drop 7) from rfl)
    have HQ := Lib.hid (rShown_yes HC.out hp)
    have HR := Lib.hid (H2.out.set0 (r1.1.drop 7) (by have := H2.out.small; simp; omega))
    clear hp
    go_wp2_with fail
    refine (CutPrefix_yes (bs r1.1) ⟨#[92, 32, 110, 111, 110, 101, 10]⟩ _ (by rw [bs_size]; have := H2.out.small; omega) (by decide) (by rw [HB.out]; exact HP.out)).mono ?_
    rintro e w3 ⟨rfl, rfl⟩
    rw [HB.out, HT.out]
    go_wp2
    go_ret
    exact ⟨ret_str (by rw [HQ.out]), by rw [HQ.out]; exact HR.out, HW.out.trans (wset _ _ _ _) (fun _ _ e => e)⟩

end Go.Proofs.YtkamenidgkjodaaGreatDoor
