/-
  The laws' own small functions on steps: copied, marked.
-/
import Derived.Test.YtnimaadjmejmpaaDoorSLaw2
set_option linter.unusedSimpArgs false
set_option linter.unusedVariables false
namespace Go.Proofs.YtnimaadjmejmpaaDoor
open Go.RowKit Go.ChangeShapes Go.WideShapes M

theorem heap_set_other {w : World} {a : Addr} {u : Value} {k : Nat} {o : Obj} (h : w.heap[k]? = some o) (hne : a.block ≠ k) : (w.setCell a u).heap[k]? = some o := by rw [Below.heap_setCell _ _ _ _ (fun e => hne e.symm)]; exact h
theorem heap_set_same {w : World} {k j : Nat} {c : Array Value} {t : TypeId} {u : Value} (h : w.heap[k]? = some (.cells c t (0, 0))) : (w.setCell ⟨k, j, none⟩ u).heap[k]? = some (.cells (c.setIfInBounds j u) t (0, 0)) := by
  simp [World.setCell, Array.getElem?_modify, h]

set_option maxHeartbeats 1000000 in
theorem toStep_any (A B : Option Addr) (m c m2 c2 : Nat) (x : Sp) (w : World) (hl : Strs w A m x.old) (hl2 : Strs w B m2 x.new) (hm : m ≤ 1048576) (hm2 : m2 ≤ 1048576) :
    Calls Tryd.prog 26 #[.agg #[.int .i64 x.fr, .int .i64 x.to_, .slice A m c, .int .i64 x.at_, .int .i64 x.en, .slice B m2 c2]] w fun e w' => ∃ b b2, w.heap.size ≤ b ∧ b < b2 ∧ b2 < w'.heap.size ∧ e = .returned (.agg #[.int .i64 x.fr, .int .i64 x.to_, .slice (some ⟨b, 0, none⟩) m m, .int .i64 x.at_, .int .i64 x.en, .slice (some ⟨b2, 0, none⟩) m2 m2]) ∧ OwnV w' w.heap.size (.slice (some ⟨b, 0, none⟩) m m) x.old ∧ OwnV w' w.heap.size (.slice (some ⟨b2, 0, none⟩) m2 m2) x.new ∧ Below w.heap.size w w' := by
  obtain ⟨W, HW⟩ : ∃ W, Hid (W = (((w.alloc (.cells #[.int .i64 x.fr, .int .i64 x.to_, .slice A m c, .int .i64 x.at_, .int .i64 x.en, .slice B m2 c2] 51)).alloc (.cells #[.int .i64 0, .int .i64 0, .slice none 0 0, .int .i64 0, .int .i64 0, .slice none 0 0] 54)).alloc (.cells #[.int .i64 x.fr, .int .i64 x.to_, .slice none 0 0, .int .i64 0, .int .i64 0, .slice none 0 0] 54))) := ⟨_, rfl⟩
  have HB := Lib.hid (show Below w.heap.size w W by rw [HW.out]; exact ((below_alloc w _).next (below_alloc _ _)).next (below_alloc _ _))
  have HSZ := Lib.hid (show W.heap.size = w.heap.size + 3 by rw [HW.out]; simp)
  have H0 := Lib.hid (show W.heap[w.heap.size]? = some (.cells #[.int .i64 x.fr, .int .i64 x.to_, .slice A m c, .int .i64 x.at_, .int .i64 x.en, .slice B m2 c2] 51 (0, 0)) by
    rw [HW.out, Below.heap_alloc _ _ _ (by simp; omega), Below.heap_alloc _ _ _ (by simp)]; exact heap_at rfl)
  have H1 := Lib.hid (show W.heap[w.heap.size + 1]? = some (.cells #[.int .i64 0, .int .i64 0, .slice none 0 0, .int .i64 0, .int .i64 0, .slice none 0 0] 54 (0, 0)) by
    rw [HW.out, Below.heap_alloc _ _ _ (by simp)]; exact heap_at (by simp))
  have H2 := Lib.hid (show W.heap[w.heap.size + 1 + 1]? = some (.cells #[.int .i64 x.fr, .int .i64 x.to_, .slice none 0 0, .int .i64 0, .int .i64 0, .slice none 0 0] 54 (0, 0)) by
    rw [HW.out]; exact heap_at (by simp))
  go_enter Tryd.func26, Tryd.ntmps26
  go_wp2_with fail
  rw [← HW.out]
  refine (toStringS_any A m c x.old _ (hl.below HB.out) hm).mono ?_
  rintro e w1 ⟨rfl, o1, b1⟩
  rw [HSZ.out] at o1 b1 ⊢
  have q0 : w1.heap[w.heap.size]? = some (.cells #[.int .i64 x.fr, .int .i64 x.to_, .slice A m c, .int .i64 x.at_, .int .i64 x.en, .slice B m2 c2] 51 (0, 0)) := (b1.block _ (by omega)).trans H0.out
  have q1 : w1.heap[w.heap.size + 1]? = some (.cells #[.int .i64 0, .int .i64 0, .slice none 0 0, .int .i64 0, .int .i64 0, .slice none 0 0] 54 (0, 0)) := (b1.block _ (by omega)).trans H1.out
  have q2 : w1.heap[w.heap.size + 1 + 1]? = some (.cells #[.int .i64 x.fr, .int .i64 x.to_, .slice none 0 0, .int .i64 0, .int .i64 0, .slice none 0 0] 54 (0, 0)) := (b1.block _ (by omega)).trans H2.out
  have c3 : w1.cell? ⟨w.heap.size, 3, none⟩ = some (.int .i64 x.at_) := by simp [World.cell?, q0]
  have c4 : w1.cell? ⟨w.heap.size, 4, none⟩ = some (.int .i64 x.en) := by simp [World.cell?, q0]
  have c5 : w1.cell? ⟨w.heap.size, 5, none⟩ = some (.slice B m2 c2) := by simp [World.cell?, q0]
  have d2 : w1.cell? ⟨w.heap.size + 1 + 1, 2, none⟩ = some (.slice none 0 0) := by simp [World.cell?, q2]
  have d3 : w1.cell? ⟨w.heap.size + 1 + 1, 3, none⟩ = some (.int .i64 0) := by simp [World.cell?, q2]
  have d4 : w1.cell? ⟨w.heap.size + 1 + 1, 4, none⟩ = some (.int .i64 0) := by simp [World.cell?, q2]
  have f2 : ∀ j, w1.frozen? ⟨w.heap.size + 1 + 1, j, none⟩ = false := fun j => by simp [World.frozen?, q2]
  obtain ⟨W2, HW2⟩ : ∃ W2, Hid (W2 = ((w1.setCell ⟨w.heap.size + 1 + 1, 2, none⟩ (.slice (some ⟨w.heap.size + 3, 0, none⟩) m m)).setCell ⟨w.heap.size + 1 + 1, 3, none⟩ (.int .i64 x.at_)).setCell ⟨w.heap.size + 1 + 1, 4, none⟩ (.int .i64 x.en)) := ⟨_, rfl⟩
  have O1 := Lib.hid (show OwnV W2 (w.heap.size + 3) (.slice (some ⟨w.heap.size + 3, 0, none⟩) m m) x.old by
    rw [HW2.out]; exact ((o1.setBelow (by simp) _).setBelow (by simp) _).setBelow (by simp) _)
  have HB2 := Lib.hid (show Below w.heap.size w W2 by
    rw [HW2.out]
    exact (((HB.out.trans (b1.mono (by omega))).setCell (by simp <;> omega) _).setCell (by simp <;> omega) _).setCell (by simp <;> omega) _)
  have HS2 := Lib.hid (show W2.heap.size = w1.heap.size by rw [HW2.out]; simp [World.setCell])
  have HZ1 := Lib.hid (show w.heap.size + 3 ≤ w1.heap.size from by have := b1.size; have := HSZ.out; omega)
  have Q1 := Lib.hid (show W2.heap[w.heap.size + 1]? = some (.cells #[.int .i64 0, .int .i64 0, .slice none 0 0, .int .i64 0, .int .i64 0, .slice none 0 0] 54 (0, 0)) by
    rw [HW2.out]; exact heap_set_other (heap_set_other (heap_set_other q1 (by simp)) (by simp)) (by simp))
  have Q2 := Lib.hid (show W2.heap[w.heap.size + 1 + 1]? = some (.cells #[.int .i64 x.fr, .int .i64 x.to_, .slice (some ⟨w.heap.size + 3, 0, none⟩) m m, .int .i64 x.at_, .int .i64 x.en, .slice none 0 0] 54 (0, 0)) by
    rw [HW2.out]; exact heap_set_same (heap_set_same (heap_set_same q2)))
  clear q0 q1 q2
  go_wp2_with fail
  rw [← HW2.out]
  refine (toStringS_any B m2 c2 x.new _ (hl2.below HB2.out) hm2).mono ?_
  rintro e w2 ⟨rfl, o2, b2⟩
  clear c3 c4 c5 d2 d3 d4 f2
  have hz2 : w.heap.size + 3 ≤ W2.heap.size := by have := HS2.out; have := HZ1.out; omega
  have q1 : w2.heap[w.heap.size + 1]? = some (.cells #[.int .i64 0, .int .i64 0, .slice none 0 0, .int .i64 0, .int .i64 0, .slice none 0 0] 54 (0, 0)) := (b2.block _ (by omega)).trans Q1.out
  have q2 : w2.heap[w.heap.size + 1 + 1]? = some (.cells #[.int .i64 x.fr, .int .i64 x.to_, .slice (some ⟨w.heap.size + 3, 0, none⟩) m m, .int .i64 x.at_, .int .i64 x.en, .slice none 0 0] 54 (0, 0)) := (b2.block _ (by omega)).trans Q2.out
  have c10 : w2.cell? ⟨w.heap.size + 1, 0, none⟩ = some (.int .i64 0) := by simp [World.cell?, q1]
  have c11 : w2.cell? ⟨w.heap.size + 1, 1, none⟩ = some (.int .i64 0) := by simp [World.cell?, q1]
  have c12 : w2.cell? ⟨w.heap.size + 1, 2, none⟩ = some (.slice none 0 0) := by simp [World.cell?, q1]
  have c13 : w2.cell? ⟨w.heap.size + 1, 3, none⟩ = some (.int .i64 0) := by simp [World.cell?, q1]
  have c14 : w2.cell? ⟨w.heap.size + 1, 4, none⟩ = some (.int .i64 0) := by simp [World.cell?, q1]
  have c15 : w2.cell? ⟨w.heap.size + 1, 5, none⟩ = some (.slice none 0 0) := by simp [World.cell?, q1]
  have f1 : ∀ j, w2.frozen? ⟨w.heap.size + 1, j, none⟩ = false := fun j => by simp [World.frozen?, q1]
  have c20 : w2.cell? ⟨w.heap.size + 1 + 1, 0, none⟩ = some (.int .i64 x.fr) := by simp [World.cell?, q2]
  have c21 : w2.cell? ⟨w.heap.size + 1 + 1, 1, none⟩ = some (.int .i64 x.to_) := by simp [World.cell?, q2]
  have c22 : w2.cell? ⟨w.heap.size + 1 + 1, 2, none⟩ = some (.slice (some ⟨w.heap.size + 3, 0, none⟩) m m) := by simp [World.cell?, q2]
  have c23 : w2.cell? ⟨w.heap.size + 1 + 1, 3, none⟩ = some (.int .i64 x.at_) := by simp [World.cell?, q2]
  have c24 : w2.cell? ⟨w.heap.size + 1 + 1, 4, none⟩ = some (.int .i64 x.en) := by simp [World.cell?, q2]
  have c25 : w2.cell? ⟨w.heap.size + 1 + 1, 5, none⟩ = some (.slice none 0 0) := by simp [World.cell?, q2]
  have f2 : ∀ j, w2.frozen? ⟨w.heap.size + 1 + 1, j, none⟩ = false := fun j => by simp [World.frozen?, q2]
  clear q1 q2
  have HO1 := Lib.hid (O1.out.below b2)
  have HLT := Lib.hid (o2.lt (g := W2.heap.size) rfl).2
  have HL1 := Lib.hid (O1.out.lt (g := w.heap.size + 3) rfl).2
  go_wp2
  (try simp only [Exit.inBlock, Exit.then])
  refine bodyPost_ret (v := .agg #[.int .i64 x.fr, .int .i64 x.to_, .slice (some ⟨w.heap.size + 3, 0, none⟩) m m, .int .i64 x.at_, .int .i64 x.en, .slice (some ⟨W2.heap.size, 0, none⟩) m2 m2]) (by simp [results, Tryd.results26, go_sem, c10, c11, c12, c13, c14, c15]) rfl ?_
  refine ⟨w.heap.size + 3, W2.heap.size, by omega, HL1.out, by have := HLT.out; simpa [World.setCell] using this, rfl, ?_, ?_, ?_⟩
  · exact (((((((HO1.out.setBelow (by simp <;> omega) _).setBelow (by simp <;> omega) _).setBelow (by simp <;> omega) _).setBelow (by simp <;> omega) _).setBelow (by simp <;> omega) _).setBelow (by simp <;> omega) _).setBelow (by simp <;> omega) _).more (by omega)
  · exact (((((((o2.setBelow (by simp <;> omega) _).setBelow (by simp <;> omega) _).setBelow (by simp <;> omega) _).setBelow (by simp <;> omega) _).setBelow (by simp <;> omega) _).setBelow (by simp <;> omega) _).setBelow (by simp <;> omega) _).more (by omega)
  · exact ((((((((HB2.out.next b2).setCell (by simp <;> omega) _).setCell (by simp <;> omega) _).setCell (by simp <;> omega) _).setCell (by simp <;> omega) _).setCell (by simp <;> omega) _).setCell (by simp <;> omega) _).setCell (by simp <;> omega) _)

end Go.Proofs.YtnimaadjmejmpaaDoor
