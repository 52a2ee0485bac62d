/-
  GroupsOf, the program's.
-/
import Derived.Test.YtkamenidgkjodaaGSpans
import Derived.Test.YtkamenidgkjodaaGRowsN
import Derived.Test.YtkamenidgkjodaaHPlace
set_option linter.unusedSimpArgs false
set_option linter.unusedVariables false
namespace Go.Proofs.Ytkamenidgkjodaa
open Go.RowKit Go.ChangeShapes Go.WideShapes M

/-- The address of a slice of hunks that is cut at its beginning. -/
def cutH (a : Option Addr) (c lo : Nat) : Option Addr := if c = lo then a else a.map (·.add (lo * 3))
theorem cut_lo_hks (a : Option Addr) (n c lo : Nat) (h1 : lo ≤ n) (h2 : n ≤ c) (w : World) :
    (Instr.slice 39 (.slice a n c) (some (.int .i64 (lo : Int))) none none).run Try.prog w = .ok (.slice (cutH a c lo) (n - lo) (c - lo)) w := by
  obtain ⟨i, h3, h4, h5, h6⟩ := info_parts hk_info
  have he : Try.prog.elem 39 = 66 := by simp [Program.elem, Try.underlying39]
  have := run_slice_l (P := Try.prog) w 39 a n c (by rw [he]; exact Try.underlying39) .i64 lo (by omega) (by omega)
  rw [this, he]
  simp [sizeOf, typeInfo, h3, h5, sliced, cutH]
theorem cut_lh_hks (a : Option Addr) (n c lo hi : Nat) (h1 : lo ≤ hi) (h2 : hi ≤ c) (w : World) :
    (Instr.slice 39 (.slice a n c) (some (.int .i64 (lo : Int))) (some (.int .i64 (hi : Int))) none).run Try.prog w = .ok (.slice (cutH a c lo) (hi - lo) (c - lo)) w := by
  obtain ⟨i, h3, h4, h5, h6⟩ := info_parts hk_info
  have he : Try.prog.elem 39 = 66 := by simp [Program.elem, Try.underlying39]
  have := run_slice_lh (P := Try.prog) w 39 a n c (by rw [he]; exact Try.underlying39) .i64 .i64 lo hi (by omega) (by omega) (by omega)
  rw [this, he]
  simp [sizeOf, typeInfo, h3, h5, sliced, cutH]
theorem cut_hi_hks (a : Option Addr) (n c hi : Nat) (h2 : hi ≤ c) (w : World) :
    (Instr.slice 39 (.slice a n c) none (some (.int .i64 (hi : Int))) none).run Try.prog w = .ok (.slice a hi c) w := by
  obtain ⟨i, h3, h4, h5, h6⟩ := info_parts hk_info
  have he : Try.prog.elem 39 = 66 := by simp [Program.elem, Try.underlying39]
  have := run_slice_h (P := Try.prog) w 39 a n c (by rw [he]; exact Try.underlying39) .i64 hi (by omega) (by omega)
  rw [this, he]
  have h0 := cutA_zero a c
  unfold cutA at h0
  simp [sizeOf, typeInfo, h3, h5, sliced, h0]
theorem cut_hi_strsG (a : Option Addr) (n c hi : Nat) (h2 : hi ≤ c) (w : World) :
    (Instr.slice 22 (.slice a n c) none (some (.int .i64 (hi : Int))) none).run Try.prog w = .ok (.slice a hi c) w := by
  obtain ⟨i, h3, h4, h5, h6⟩ := info_parts str_info
  exact run_cut_hi Try.underlying22 h3 h5 a n c hi h2 w
theorem Hks.cutG {w : World} {a : Option Addr} {n c lo hi : Nat} {l : List Hk} (h : Hks w a n l) (h1 : lo ≤ hi) (h2 : hi ≤ n) (h3 : n ≤ c) : Hks w (cutH a c lo) (hi - lo) ((l.drop lo).take (hi - lo)) := by
  refine ⟨by simp [h.len]; omega, by have := h.lim; omega, fun k s hs => ?_⟩
  rw [List.getElem?_take] at hs
  split at hs
  case isFalse => cases hs
  case isTrue hk =>
    rw [List.getElem?_drop] at hs
    obtain ⟨b, off, A, m, c', rfl, r0, r1, r2, r3⟩ := h.cell _ _ hs
    refine ⟨b, off + lo * 3, A, m, c', ?_, by rw [← r0]; congr 2; omega, by rw [← r1]; congr 2; omega, by rw [← r2]; congr 2; omega, r3⟩
    unfold cutH
    rw [if_neg (by omega)]
    unfold Addr.add
    by_cases h0 : lo * 3 = 0 <;> simp [h0]
theorem Hks.takeG {w : World} {a : Option Addr} {n k : Nat} {l : List Hk} (h : Hks w a n l) (hk : k ≤ n) : Hks w a k (l.take k) :=
  ⟨by simp [h.len]; omega, by have := h.lim; omega, fun j x hx => h.cell j x (by rw [List.getElem?_take] at hx; split at hx; exact hx; cases hx)⟩
theorem patch_two (l : List ByteArray) (hs : List Hk) : (patchOf l hs).2 = patchOk l hs := by
  unfold patchOf; split
  · rename_i h; rw [h]
  · rename_i h; simpa using h

end Go.Proofs.Ytkamenidgkjodaa
