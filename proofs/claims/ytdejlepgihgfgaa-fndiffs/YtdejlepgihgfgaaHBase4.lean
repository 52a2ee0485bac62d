/-
  Plain facts on hunks that are trimmed: no Go, no program.
-/
import Derived.Test.YtdejlepgihgfgaaHBase3
set_option linter.unusedSimpArgs false
set_option linter.unusedVariables false
namespace Go.Proofs.Ytdejlepgihgfgaa.M

theorem goodB_mk {l : List ByteArray} (h0 : l.length ≤ 40) (h : ∀ (j : Nat) s, l[j]? = some s → lineB s = true ∧ (j + 1 < l.length → endsB s = true)) : goodB l = true := by
  rw [goodB_ok (fun j s hj => ?_)]
  · simpa using h0
  · obtain ⟨h1, h2⟩ := h j s hj
    unfold okAt
    rw [h1]
    by_cases e : j + 1 < l.length
    · simp [h2 e]
    · have : decide (l.length ≤ j + 1) = true := by simp; omega
      simp [this]
theorem goodB_seg {l : List ByteArray} (h : goodB l = true) (p q : Nat) : goodB (seg l p q) = true := by
  refine goodB_mk (by rw [seg_len]; have := goodB_len h; omega) (fun j s hj => ?_)
  unfold seg at hj
  rw [List.getElem?_drop, List.getElem?_take] at hj
  split at hj
  · obtain ⟨h1, h2⟩ := goodB_at h hj
    refine ⟨h1, fun hl => h2 ?_⟩
    rw [seg_len] at hl
    have := (List.getElem?_eq_some_iff.1 hj).1
    omega
  · cases hj
theorem goodB_mid {a b c : List ByteArray} (h : goodB (a ++ b ++ c) = true) : goodB b = true := by
  have := goodB_seg h a.length (a.length + b.length)
  unfold seg at this
  rwa [List.take_append_of_le_length (by simp), List.take_of_length_le (by simp), List.drop_left] at this
theorem patch_infix {l : List ByteArray} {x : Hk} : ∀ {hs : List Hk} {p : Nat}, x ∈ hs → ∃ a c, patchFrom l p hs = a ++ x.new ++ c
  | [], p, h => by simp at h
  | y :: hs, p, h => by
    rcases List.mem_cons.1 h with rfl | h
    · exact ⟨_, _, rfl⟩
    · obtain ⟨a, c, e⟩ := patch_infix (p := (y.at_ + y.gone).toNat) h
      exact ⟨seg l p y.at_.toNat ++ y.new ++ a, c, by rw [patchFrom, e]; simp [List.append_assoc]⟩
theorem new_good {l : List ByteArray} {hs : List Hk} (h : patchOk l hs = true) {x : Hk} (hx : x ∈ hs) : goodB x.new = true := by
  obtain ⟨a, c, e⟩ := patch_infix (l := l) (p := 0) hx
  have h1 := (patchOk_parts h).2.2
  unfold patchH at h1
  rw [e] at h1
  exact goodB_mid h1
theorem behind_le (l r : List ByteArray) : aheadT l r + behindT l r ≤ l.length ∧ aheadT l r + behindT l r ≤ r.length := by
  have h1 := upto_le (aheadP l r) (min l.length r.length) 0
  have h2 := upto_le (behindP l r) (min l.length r.length - aheadT l r) 0
  unfold behindT
  unfold aheadT at *
  omega
/-- A hunk without what is the same at its beginning and its end. -/
def trimOne (l : List ByteArray) (x : Hk) : Hk := ⟨x.at_ + aheadT (oldOf l x) x.new, x.gone - aheadT (oldOf l x) x.new - behindT (oldOf l x) x.new, seg x.new (aheadT (oldOf l x) x.new) (x.new.length - behindT (oldOf l x) x.new)⟩
def trimH (l : List ByteArray) : List Hk → List Hk
  | [] => []
  | x :: hs => if nothing (trimOne l x) = true then trimH l hs else trimOne l x :: trimH l hs
def trimOf (l : List ByteArray) (hs : List Hk) : List Hk × Bool := if patchOk l hs = true then (trimH l hs, true) else ([], false)
theorem trim_no {l : List ByteArray} {hs : List Hk} {j : Nat} {x : Hk} (h : hs[j]? = some x) (hn : nothing (trimOne l x) = true) : trimH l (hs.drop j) = trimH l (hs.drop (j + 1)) := by
  rw [drop_at h, trimH, if_pos hn]
theorem trim_yes {l : List ByteArray} {hs : List Hk} {j : Nat} {x : Hk} (h : hs[j]? = some x) (hn : nothing (trimOne l x) = false) : trimH l (hs.drop j) = trimOne l x :: trimH l (hs.drop (j + 1)) := by
  rw [drop_at h, trimH, if_neg (by rw [hn]; simp)]
theorem trim_end {l : List ByteArray} {hs : List Hk} {j : Nat} (h : hs.length ≤ j) : trimH l (hs.drop j) = [] := by
  rw [List.drop_eq_nil_of_le h]; rfl
theorem trim_mem {l : List ByteArray} {x : Hk} : ∀ {hs : List Hk}, x ∈ trimH l hs → ∃ y ∈ hs, x = trimOne l y
  | [], h => by simp [trimH] at h
  | y :: hs, h => by
    unfold trimH at h
    split at h
    · obtain ⟨z, hz, e⟩ := trim_mem h
      exact ⟨z, by simp [hz], e⟩
    · rcases List.mem_cons.1 h with rfl | h
      · exact ⟨y, by simp, rfl⟩
      · obtain ⟨z, hz, e⟩ := trim_mem h
        exact ⟨z, by simp [hz], e⟩
theorem trim_len (l : List ByteArray) : ∀ (hs : List Hk), (trimH l hs).length ≤ hs.length
  | [] => by simp [trimH]
  | x :: hs => by
    unfold trimH
    have := trim_len l hs
    split
    · simp only [List.length_cons]; omega
    · simp only [List.length_cons]; omega
theorem trimOf_len (l : List ByteArray) (hs : List Hk) : (trimOf l hs).1.length + totalH (trimOf l hs).1 ≤ 30000 := by
  unfold trimOf
  split
  · next h =>
    obtain ⟨h1, h2, h3⟩ := patchOk_parts h
    have h4 : (trimH l hs).length ≤ 20 := Nat.le_trans (trim_len l hs) (goodH_parts h2).2.2.1
    have h5 : totalH (trimH l hs) ≤ (trimH l hs).length * 1240 := totalH_le (fun x hx => by
      obtain ⟨y, hy, e⟩ := trim_mem hx
      rw [e]
      exact lines_total (linesB_seg (hunkB_parts (rise_mem (goodH_parts h2).2.2.2 hy)).2.2.2.2 _ _))
    have h6 : (trimH l hs).length * 1240 ≤ 20 * 1240 := Nat.mul_le_mul_right _ h4
    dsimp only
    omega
  · simp [totalH]

end Go.Proofs.Ytdejlepgihgfgaa.M
