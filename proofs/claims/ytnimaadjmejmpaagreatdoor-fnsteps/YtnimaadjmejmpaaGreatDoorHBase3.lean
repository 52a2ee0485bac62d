/-
  Plain facts on hunks that lead back, and on hunks that are trimmed: no Go, no program.
-/
import Derived.Test.YtnimaadjmejmpaaGreatDoorHBase2
set_option linter.unusedSimpArgs false
set_option linter.unusedVariables false
namespace Go.Proofs.YtnimaadjmejmpaaGreatDoor.M

def backFrom (l : List ByteArray) : Int → List Hk → List Hk
  | _, [] => []
  | more, x :: hs => ⟨x.at_ + more, x.new.length, oldOf l x⟩ :: backFrom l (more + (x.new.length - x.gone)) hs
def backH (l : List ByteArray) (hs : List Hk) : List Hk := backFrom l 0 hs
def backOf (l : List ByteArray) (hs : List Hk) : List Hk × Bool := if patchOk l hs = true then (backH l hs, true) else ([], false)
theorem back_step {l : List ByteArray} {hs : List Hk} {more : Int} {j : Nat} {x : Hk} (h : hs[j]? = some x) : backFrom l more (hs.drop j) = ⟨x.at_ + more, x.new.length, oldOf l x⟩ :: backFrom l (more + (x.new.length - x.gone)) (hs.drop (j + 1)) := by
  rw [drop_at h, backFrom]
theorem back_end {l : List ByteArray} {hs : List Hk} {more : Int} {j : Nat} (h : hs.length ≤ j) : backFrom l more (hs.drop j) = [] := by
  rw [List.drop_eq_nil_of_le h]; rfl
theorem patchOk_parts {l : List ByteArray} {hs : List Hk} (h : patchOk l hs = true) : goodB l = true ∧ goodH l.length hs = true ∧ goodB (patchH l hs) = true := by
  simp only [patchOk, Bool.and_eq_true] at h
  exact ⟨h.1.1, h.1.2, h.2⟩
theorem patchOf_ok (l : List ByteArray) (hs : List Hk) : (patchOf l hs).2 = patchOk l hs := by
  unfold patchOf
  split
  · next h => rw [h]
  · next h => simp at h; rw [h]
theorem back_len (l : List ByteArray) : ∀ (hs : List Hk) (more : Int), (backFrom l more hs).length = hs.length
  | [], _ => rfl
  | x :: hs, more => by simp [backFrom, back_len l hs]
/-- The lines of lists of hunks that are not too great. -/
theorem total_le {l : List ByteArray} {b : Nat} (h : ∀ s ∈ l, s.size ≤ b) : total l ≤ l.length * b := by
  induction l with
  | nil => simp [total]
  | cons s l ih =>
    have h1 := h s (by simp)
    have h2 := ih (fun t ht => h t (by simp [ht]))
    simp only [total, List.length_cons, Nat.add_mul, Nat.one_mul]
    omega
theorem totalH_le {l : List Hk} {b : Nat} (h : ∀ x ∈ l, x.new.length + total x.new ≤ b) : totalH l ≤ l.length * b := by
  induction l with
  | nil => simp [totalH]
  | cons s l ih =>
    have h1 := h s (by simp)
    have h2 := ih (fun t ht => h t (by simp [ht]))
    simp only [totalH, List.length_cons, Nat.add_mul, Nat.one_mul]
    omega
theorem lines_total {l : List ByteArray} (h : linesB l = true) : l.length + total l ≤ 1240 := by
  have h1 := linesB_len h
  have h2 : total l ≤ l.length * 30 := total_le (fun s hs => (lineB_size (linesB_mem h hs)).2)
  have h3 : l.length * 30 ≤ 40 * 30 := Nat.mul_le_mul_right _ h1
  omega
theorem linesB_seg {l : List ByteArray} (h : linesB l = true) (p q : Nat) : linesB (seg l p q) = true := by
  simp only [linesB, Bool.and_eq_true, decide_eq_true_eq, List.all_eq_true] at h ⊢
  refine ⟨by rw [seg_len]; omega, fun s hs => h.2 s (List.mem_of_mem_take (List.mem_of_mem_drop hs))⟩
theorem goodH_total {many : Int} {l : List Hk} (h : goodH many l = true) : l.length + totalH l ≤ 30000 := by
  obtain ⟨h1, h2, h3, h4⟩ := goodH_parts h
  have h5 : totalH l ≤ l.length * 1240 := totalH_le (fun x hx => lines_total (hunkB_parts (rise_mem h4 hx)).2.2.2.2)
  have h6 : l.length * 1240 ≤ 20 * 1240 := Nat.mul_le_mul_right _ h3
  omega
theorem back_mem {l : List ByteArray} {x : Hk} : ∀ {hs : List Hk} {more : Int}, x ∈ backFrom l more hs → ∃ y ∈ hs, x.new = oldOf l y
  | [], _, h => by simp [backFrom] at h
  | y :: hs, more, h => by
    rcases List.mem_cons.1 h with rfl | h
    · exact ⟨y, by simp, rfl⟩
    · obtain ⟨z, hz, e⟩ := back_mem h
      exact ⟨z, by simp [hz], e⟩
theorem backOf_len (l : List ByteArray) (hs : List Hk) : (backOf l hs).1.length + totalH (backOf l hs).1 ≤ 30000 := by
  unfold backOf
  split
  · next h =>
    obtain ⟨h1, h2, h3⟩ := patchOk_parts h
    have h4 : (backH l hs).length ≤ 20 := by unfold backH; rw [back_len]; exact (goodH_parts h2).2.2.1
    have h5 : totalH (backH l hs) ≤ (backH l hs).length * 1240 := totalH_le (fun x hx => by
      obtain ⟨y, _, e⟩ := back_mem hx
      rw [e]
      exact lines_total (linesB_seg (goodB_lines h1) _ _))
    have h6 : (backH l hs).length * 1240 ≤ 20 * 1240 := Nat.mul_le_mul_right _ h4
    dsimp only
    omega
  · simp [totalH]

end Go.Proofs.YtnimaadjmejmpaaGreatDoor.M
