/-
  Plain facts on hunks done to lines: no Go, no program.
-/
import Derived.Test.YtgohaemmnpifbaaHBase
set_option linter.unusedSimpArgs false
set_option linter.unusedVariables false
namespace Go.Proofs.Ytgohaemmnpifbaa.M

/-- Lines from one place on up to another. -/
def seg (l : List ByteArray) (p q : Nat) : List ByteArray := (l.take q).drop p
/-- The lines that a hunk takes away. -/
def oldOf (l : List ByteArray) (x : Hk) : List ByteArray := seg l x.at_.toNat (x.at_ + x.gone).toNat
def patchFrom (l : List ByteArray) : Nat → List Hk → List ByteArray
  | p, [] => l.drop p
  | p, x :: hs => seg l p x.at_.toNat ++ x.new ++ patchFrom l (x.at_ + x.gone).toNat hs
def patchH (l : List ByteArray) (hs : List Hk) : List ByteArray := patchFrom l 0 hs
/-- Patch's two answers. -/
def patchOk (l : List ByteArray) (hs : List Hk) : Bool := goodB l && goodH l.length hs && goodB (patchH l hs)
def patchOf (l : List ByteArray) (hs : List Hk) : List ByteArray × Bool := if patchOk l hs = true then (patchH l hs, true) else ([], false)
theorem patch_step {l : List ByteArray} {hs : List Hk} {p j : Nat} {x : Hk} (h : hs[j]? = some x) : patchFrom l p (hs.drop j) = seg l p x.at_.toNat ++ x.new ++ patchFrom l (x.at_ + x.gone).toNat (hs.drop (j + 1)) := by
  rw [drop_at h, patchFrom]
theorem patch_end {l : List ByteArray} {hs : List Hk} {p j : Nat} (h : hs.length ≤ j) : patchFrom l p (hs.drop j) = l.drop p := by
  rw [List.drop_eq_nil_of_le h]; rfl
theorem seg_len (l : List ByteArray) (p q : Nat) : (seg l p q).length = min q l.length - p := by simp [seg]
/-- What is known of the hunks that are still to be done. -/
def restOk (many : Int) (hs : List Hk) (p : Nat) : Prop := ∃ e : Int, riseB many e hs = true ∧ (p : Int) ≤ e + 1
theorem rest_start {many : Int} {hs : List Hk} (h : goodH many hs = true) : restOk many (hs.drop 0) 0 := ⟨-1, (goodH_parts h).2.2.2, by omega⟩
theorem rest_step {many : Int} {hs : List Hk} {p j : Nat} {x : Hk} (hx : hs[j]? = some x) (h : restOk many (hs.drop j) p) :
    ∃ a g : Nat, x.at_ = a ∧ x.gone = g ∧ p ≤ a ∧ ((a + g : Nat) : Int) ≤ many ∧ linesB x.new = true ∧ nothing x = false ∧ restOk many (hs.drop (j + 1)) (a + g) := by
  obtain ⟨e, h1, h2⟩ := h
  rw [rise_step hx, Bool.and_eq_true, Bool.and_eq_true, decide_eq_true_eq] at h1
  obtain ⟨⟨hb, he⟩, hr⟩ := h1
  obtain ⟨q0, q1, q2, q3, q4⟩ := hunkB_parts hb
  exact ⟨x.at_.toNat, x.gone.toNat, by omega, by omega, by omega, by omega, q4, q3, x.at_ + x.gone, hr, by omega⟩
theorem goodB_lines {l : List ByteArray} (h : goodB l = true) : linesB l = true := by
  have h1 := goodB_len h
  simp only [linesB, Bool.and_eq_true, decide_eq_true_eq, List.all_eq_true]
  refine ⟨h1, fun s hs => ?_⟩
  obtain ⟨j, hj⟩ := List.mem_iff_getElem?.1 hs
  exact (goodB_at h hj).1

end Go.Proofs.Ytgohaemmnpifbaa.M
