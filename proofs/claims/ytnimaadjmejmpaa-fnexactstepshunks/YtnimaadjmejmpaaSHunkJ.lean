/-
  Hunks made of steps: the program's twoSides.hunk, and StepsHunks' first half.
-/
import Derived.Test.YtnimaadjmejmpaaSHunkI
set_option linter.unusedSimpArgs false
set_option linter.unusedVariables false
namespace Go.Proofs.Ytnimaadjmejmpaa
open Go.RowKit Go.ChangeShapes Go.WideShapes M

set_option maxHeartbeats 2000000 in
set_option maxRecDepth 100000 in
theorem hunk_any (x : Sp) (A : Option Addr) (m c : Nat) (B : Option Addr) (m2 d : Nat) (w : World) (hl : Strs w A m x.old) (hl2 : Strs w B m2 x.new) (hm2 : m2 ≤ 1048576) (hx0 : -100000 ≤ x.fr) (hx1 : x.fr ≤ 100000) :
    Calls Try.prog 42 #[sidesV x A m c B m2 d] w fun e w' => ∃ v, e = .returned (.agg #[.int .i64 (hunkP x).at_, .int .i64 (m : Int), v]) ∧ OwnV w' w.heap.size v x.new ∧ Below w.heap.size w w' := by
  unfold sidesV
  have HA := Lib.hid (show (hunkP x).at_ = baseN x.fr m from baseN_eq _ _ hl.len)
  obtain ⟨W, HW⟩ : ∃ W, Hid (W = (w.alloc (.cells #[.int .i64 x.fr, .int .i64 x.to_, .slice A m c, .int .i64 x.at_, .int .i64 x.en, .slice B m2 d] 60)).alloc (.cells #[.int .i64 0, .int .i64 0, .slice none 0 0] 72)) := ⟨_, rfl⟩
  have HB := Lib.hid (show Below w.heap.size w W by rw [HW.out]; exact (below_alloc w _).next (below_alloc _ _))
  have HQ := Lib.hid (show W.heap[w.heap.size]? = some (.cells #[.int .i64 x.fr, .int .i64 x.to_, .slice A m c, .int .i64 x.at_, .int .i64 x.en, .slice B m2 d] 60 (0, 0)) by
    rw [HW.out, Below.heap_alloc _ _ _ (by simp)]; exact heap_at rfl)
  have HR := Lib.hid (show W.heap[w.heap.size + 1]? = some (.cells #[.int .i64 0, .int .i64 0, .slice none 0 0] 72 (0, 0)) by
    rw [HW.out]; exact heap_at (by simp))
  have HSZ := Lib.hid (show W.heap.size = w.heap.size + 2 by rw [HW.out]; simp)
  have k0 : W.cell? ⟨w.heap.size, 0, none⟩ = some (.int .i64 x.fr) := by simp [World.cell?, HQ.out]
  have k1 : W.cell? ⟨w.heap.size, 1, none⟩ = some (.int .i64 x.to_) := by simp [World.cell?, HQ.out]
  have k2 : W.cell? ⟨w.heap.size, 2, none⟩ = some (.slice A m c) := by simp [World.cell?, HQ.out]
  have k5 : W.cell? ⟨w.heap.size, 5, none⟩ = some (.slice B m2 d) := by simp [World.cell?, HQ.out]
  have hne : w.heap.size ≠ w.heap.size + 1 := by omega
  go_enter Try.func42, Try.ntmps42
  go_wp2
  rw [← HW.out]
  go_region_held3 (fun w' => w'.cell? ⟨w.heap.size, 0, none⟩ = some (.int .i64 x.fr) ∧ w'.cell? ⟨w.heap.size, 1, none⟩ = some (.int .i64 x.to_) ∧ w'.cell? ⟨w.heap.size, 2, none⟩ = some (.slice A m c) ∧ w'.cell? ⟨w.heap.size, 5, none⟩ = some (.slice B m2 d))
    (first | exact ⟨k0, k1, k2, k5⟩ | exact ⟨cell_keep B5.out k0, cell_keep B5.out k1, cell_keep B5.out k2, cell_keep B5.out k5⟩ | exact ⟨cell_keep B6.out k0, cell_keep B6.out k1, cell_keep B6.out k2, cell_keep B6.out k5⟩ | exact ⟨cell_s (cell_s (cell_s (cell_keep B6.out k0) hne) hne) hne, cell_s (cell_s (cell_s (cell_keep B6.out k1) hne) hne) hne, cell_s (cell_s (cell_s (cell_keep B6.out k2) hne) hne) hne, cell_s (cell_s (cell_s (cell_keep B6.out k5) hne) hne) hne⟩ | go_keep)
    (first
      | (go_at_call 68; refine (place_any x.fr x.to_ A m c _ hx0 hx1).mono ?_; rintro e w5 ⟨rfl, b5⟩
         have B5 := Lib.hid (show Below W.heap.size W w5 from (Below.refl _ W).drew.next b5))
      | (go_at_call 53; refine (copyOf_any B m2 d x.new _ ((hl2.below HB.out).below B5.out) hm2).mono ?_; rintro e w6 ⟨v6, rfl, o6, b6⟩
         obtain ⟨v6a, v6c, rfl, h61, h62⟩ := o6.form hl2.len
         have B6 := Lib.hid (show Below W.heap.size W w6 from B5.out.next b6)
         have O6 := Lib.hid (show OwnV w6 W.heap.size (.slice v6a m2 v6c) x.new from o6.more B5.out.size)
         have Z6 := Lib.hid (show w6.heap[w.heap.size + 1]? = some (.cells #[.int .i64 0, .int .i64 0, .slice none 0 0] 72 (0, 0)) from (B6.out.block _ (by rw [HSZ.out]; omega)).trans HR.out)
         obtain ⟨z0, z1, z2, zf⟩ := zero_hk Z6.out)
      | fail)
  go_wp2
  (try simp only [Exit.inBlock, Exit.then])
  refine bodyPost_ret (v := .agg #[.int .i64 (baseN x.fr m), .int .i64 (m : Int), .slice v6a m2 v6c]) (by simp [results, Try.results42, go_sem, z0, z1, z2]) rfl ?_
  refine ⟨_, by rw [HA.out], ?_, ?_⟩
  · exact ((((O6.out.setBelow (by rw [HSZ.out]; simp) _).setBelow (by rw [HSZ.out]; simp) _).setBelow (by rw [HSZ.out]; simp) _)).more (by rw [HSZ.out]; omega)
  · exact (((HB.out.next B6.out).setCell (by simp) _).setCell (by simp) _).setCell (by simp) _

theorem cut_hks (a : Option Addr) (n c hi : Nat) (h2 : hi ≤ c) (w : World) :
    (Instr.slice 37 (.slice a n c) none (some (.int .i64 (hi : Int))) none).run Try.prog w = .ok (.slice a hi c) w := by
  obtain ⟨i, h3, h4, h5, h6⟩ := info_parts hk_info
  have he : Try.prog.elem 37 = 72 := by simp [Program.elem, Try.underlying37]
  have := run_slice_h (P := Try.prog) w 37 a n c (by rw [he]; exact Try.underlying37) .i64 hi (by omega) (by omega)
  rw [this, he]
  have h0 := cutA_zero a c
  unfold cutA at h0
  simp [sizeOf, typeInfo, h3, h5, sliced, h0]
theorem Hks.take_ {w : World} {a : Option Addr} {n k : Nat} {l : List Hk} (h : Hks w a n l) (hk : k ≤ n) : Hks w a k (l.take k) :=
  ⟨by simp [h.len]; omega, by have := h.lim; omega, fun j x hx => h.cell j x (by rw [List.getElem?_take] at hx; split at hx; exact hx; cases hx)⟩

theorem eqT_comm (a b : List ByteArray) : eqT a b = eqT b a := by unfold eqT; rw [Bool.eq_iff_iff]; simp; exact ⟨fun h => h.symm, fun h => h.symm⟩
theorem goodP_parts {x : Sp} (h : stepB x = true) : ∃ at' : Nat, (hunkP x).at_ = (at' : Int) ∧ at' ≤ 1000 ∧ 0 ≤ x.fr ∧ x.fr ≤ 1000 ∧ 0 ≤ x.at_ ∧ x.at_ ≤ 1000 ∧ x.old.length ≤ 40 ∧ x.new.length ≤ 40 := by
  obtain ⟨h1, h2, h3⟩ := stepB_parts h
  obtain ⟨A, B, e1, e2, q1, q2, g1, z, nz⟩ := side_le h1
  obtain ⟨C, E, e3, e4, q3, q4, g2, z2, nz2⟩ := side_le h2
  have h5 := (hunkP_end h).2
  refine ⟨(hunkP x).at_.toNat, by omega, ?_, by omega, by omega, by omega, by omega, goodB_len g1, goodB_len g2⟩
  have h6 := (hunkP_end h).1
  have h7 : 0 ≤ (hunkP x).gone := by unfold hunkP; simp
  omega

end Go.Proofs.Ytnimaadjmejmpaa
