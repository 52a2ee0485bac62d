/-
  Plain facts on hunks: no Go, no program.
  Plain facts on hunks done to lines: no Go, no program.
  Plain facts on hunks that lead back, and on hunks that are trimmed: no Go, no program.
  Plain facts on hunks that are trimmed: no Go, no program.
  Plain facts on the places of lines behind hunks: no Go, no program.
  Plain facts on hunks that are joined: no Go, no program.
  Plain facts: what is patched is patched back; how many lines there are. No Go, no program.
  Plain facts: trimmed hunks do the same. No Go, no program.
  Plain facts: hunks that are joined do at once what both do in turn. No Go, no program.
-/
import Derived.Test.YtnnaigoomipklaaDoorOkBase
set_option linter.unusedSimpArgs false
set_option linter.unusedVariables false
namespace Go.Proofs.YtnnaigoomipklaaDoor.M

/-- A hunk: the place, how many go, what comes. -/
structure Hk where
  at_ : Int
  gone : Int
  new : List ByteArray

theorem Hk.ext_ {x y : Hk} (h1 : x.at_ = y.at_) (h2 : x.gone = y.gone) (h3 : x.new = y.new) : x = y := by
  cases x; cases y; simp at h1 h2 h3; simp [h1, h2, h3]
def eqH (x y : Hk) : Bool := decide (x.at_ = y.at_) && decide (x.gone = y.gone) && eqT x.new y.new
theorem eqH_iff (x y : Hk) : eqH x y = true ↔ x = y := by
  simp only [eqH, Bool.and_eq_true, decide_eq_true_eq, eqT]
  exact ⟨fun ⟨⟨h1, h2⟩, h3⟩ => Hk.ext_ h1 h2 h3, fun h => by subst h; exact ⟨⟨rfl, rfl⟩, rfl⟩⟩
/-- Two lists of hunks are the same. -/
def eqHS : List Hk → List Hk → Bool
  | [], [] => true
  | x :: l, y :: r => eqH x y && eqHS l r
  | _, _ => false
theorem eqHS_iff : ∀ (l r : List Hk), eqHS l r = true ↔ l = r
  | [], [] => by simp [eqHS]
  | [], y :: r => by simp [eqHS]
  | x :: l, [] => by simp [eqHS]
  | x :: l, y :: r => by simp [eqHS, eqH_iff, eqHS_iff l r]
theorem eqHS_refl (l : List Hk) : eqHS l l = true := (eqHS_iff l l).2 rfl
theorem eqHS_len {l r : List Hk} (h : l.length ≠ r.length) : eqHS l r = false := by
  rw [Bool.eq_false_iff]; intro e; exact h (by rw [(eqHS_iff l r).1 e])
theorem eqHS_at {l r : List Hk} {k : Nat} {s t : Hk} (hs : l[k]? = some s) (ht : r[k]? = some t) (h : eqH s t = false) : eqHS l r = false := by
  rw [Bool.eq_false_iff]; intro e; rw [(eqHS_iff l r).1 e, ht] at hs; injection hs with hs; subst hs; rw [(eqH_iff t t).2 rfl] at h; cases h
theorem eqHS_all {l r : List Hk} (h : ∀ (j : Nat) s t, l[j]? = some s → r[j]? = some t → eqH s t = true) (hl : l.length = r.length) : eqHS l r = true := by
  rw [eqHS_iff]
  apply List.ext_getElem?
  intro j
  by_cases hj : j < l.length
  · have h1 := List.getElem?_eq_getElem hj
    have h2 := List.getElem?_eq_getElem (show j < r.length by omega)
    rw [h1, h2, (eqH_iff _ _).1 (h j _ _ h1 h2)]
  · rw [List.getElem?_eq_none (by omega), List.getElem?_eq_none (by omega)]

/-- All lines and bytes of some hunks. -/
def totalH : List Hk → Nat
  | [] => 0
  | h :: l => h.new.length + total h.new + totalH l
theorem totalH_append (a b : List Hk) : totalH (a ++ b) = totalH a + totalH b := by
  induction a with
  | nil => simp [totalH]
  | cons s a ih => simp [totalH, ih]; omega
theorem totalH_take_succ {l : List Hk} {k : Nat} {h : Hk} (e : l[k]? = some h) : totalH (l.take (k + 1)) = totalH (l.take k) + (h.new.length + total h.new) := by
  rw [List.take_add_one, e, totalH_append]; simp [totalH]
theorem totalH_take_le (l : List Hk) (k : Nat) : totalH (l.take k) ≤ totalH l := by
  have h := totalH_append (l.take k) (l.drop k)
  rw [List.take_append_drop] at h
  omega
theorem totalH_mem {l : List Hk} {h : Hk} (e : h ∈ l) : h.new.length + total h.new ≤ totalH l := by
  obtain ⟨k, hk⟩ := List.mem_iff_getElem?.1 e
  have h1 := totalH_take_succ hk
  have h2 := totalH_take_le l (k + 1)
  omega
def szHS (l : List Hk) (left : Int) : Int := if left < l.length + totalH l then -1 else left - l.length - totalH l

/-- A list of hunks that is being filled: its first k, and blanks behind. -/
def blankH : Hk := ⟨0, 0, []⟩
def fillH (l : List Hk) (k : Nat) : List Hk := l.take k ++ List.replicate (l.length - k) blankH
theorem fillH_zero (l : List Hk) : fillH l 0 = List.replicate l.length blankH := by simp [fillH]
theorem fillH_all (l : List Hk) {k : Nat} (h : l.length ≤ k) : fillH l k = l := by
  simp [fillH, List.take_of_length_le h, show l.length - k = 0 from by omega]
theorem fillH_set {l : List Hk} {k : Nat} {s : Hk} (h : l[k]? = some s) : (fillH l k).set k s = fillH l (k + 1) := by
  have hk : k < l.length := (List.getElem?_eq_some_iff.1 h).1
  unfold fillH
  rw [List.set_append, if_neg (by simp; omega), List.take_add_one, h]
  simp only [List.length_take, Nat.min_eq_left (Nat.le_of_lt hk), Nat.sub_self, Option.toList_some, List.append_assoc, List.singleton_append]
  rw [show l.length - k = (l.length - (k + 1)) + 1 from by omega, List.replicate_succ, List.set_cons_zero]

theorem take_snoc {α : Type} {l : List α} {i : Nat} {x : α} (h : l[i]? = some x) : l.take (i + 1) = l.take i ++ [x] := by rw [List.take_add_one, h]; rfl

/-- A hunk that is good by itself, and hunks that rise. -/
def linesB (l : List ByteArray) : Bool := decide (l.length ≤ 40) && l.all lineB
def nothing (x : Hk) : Bool := decide (x.gone = 0) && decide (x.new.length = 0)
def hunkB (many : Int) (x : Hk) : Bool := decide (0 ≤ x.at_) && decide (0 ≤ x.gone) && decide (x.at_ + x.gone ≤ many) && !nothing x && linesB x.new
def riseB (many : Int) : Int → List Hk → Bool
  | _, [] => true
  | e, x :: l => hunkB many x && decide (e < x.at_) && riseB many (x.at_ + x.gone) l
def goodH (many : Int) (l : List Hk) : Bool := decide (0 ≤ many) && decide (many ≤ 40) && decide (l.length ≤ 20) && riseB many (-1) l
theorem rise_step {many e : Int} {l : List Hk} {k : Nat} {x : Hk} (h : l[k]? = some x) : riseB many e (l.drop k) = (hunkB many x && decide (e < x.at_) && riseB many (x.at_ + x.gone) (l.drop (k + 1))) := by
  have hk : k < l.length := (List.getElem?_eq_some_iff.1 h).1
  rw [List.getElem?_eq_getElem hk] at h
  injection h with h
  rw [List.drop_eq_getElem_cons hk, h]
  rfl
theorem rise_end {many e : Int} {l : List Hk} {k : Nat} (h : l.length ≤ k) : riseB many e (l.drop k) = true := by
  rw [List.drop_eq_nil_of_le h]; rfl
theorem goodH_bad {many : Int} {l : List Hk} (h : riseB many (-1) l = false) : goodH many l = false := by simp [goodH, h]
theorem goodH_ok {many : Int} {l : List Hk} (h : riseB many (-1) l = true) : goodH many l = (decide (l.length ≤ 20) && (decide (0 ≤ many) && decide (many ≤ 40))) := by
  unfold goodH; rw [h]; cases decide (l.length ≤ 20) <;> cases decide (0 ≤ many) <;> cases decide (many ≤ 40) <;> rfl
theorem linesB_bad {l : List ByteArray} {k : Nat} {s : ByteArray} (h : l[k]? = some s) (hs : lineB s = false) : linesB l = false := by
  have : l.all lineB = false := by rw [List.all_eq_false]; exact ⟨s, List.mem_of_getElem? h, by simp [hs]⟩
  simp [linesB, this]
theorem linesB_ok {l : List ByteArray} (h : ∀ (j : Nat) s, l[j]? = some s → lineB s = true) : linesB l = decide (l.length ≤ 40) := by
  have : l.all lineB = true := by
    rw [List.all_eq_true]
    intro s hs
    obtain ⟨j, hj⟩ := List.mem_iff_getElem?.1 hs
    exact h j s hj
  simp [linesB, this]
theorem line_step {l : List ByteArray} {k : Nat} {s : ByteArray} (H : ∀ (j : Nat) s, j < k → l[j]? = some s → lineB s = true) (hs : l[k]? = some s) (h : lineB s = true) : ∀ (j : Nat) s, j < k + 1 → l[j]? = some s → lineB s = true := by
  intro j t hj ht
  by_cases e : j = k
  · subst e; rw [hs] at ht; injection ht with ht; rw [← ht]; exact h
  · exact H j t (by omega) ht

theorem drop_at {α : Type} {l : List α} {k : Nat} {x : α} (h : l[k]? = some x) : l.drop k = x :: l.drop (k + 1) := by
  have hk : k < l.length := (List.getElem?_eq_some_iff.1 h).1
  rw [List.getElem?_eq_getElem hk] at h
  injection h with h
  rw [List.drop_eq_getElem_cons hk, h]
theorem rise_mem {many : Int} {x : Hk} : ∀ {l : List Hk} {e : Int}, riseB many e l = true → x ∈ l → hunkB many x = true
  | [], e, _, h => by simp at h
  | y :: l, e, hr, h => by
    simp only [riseB, Bool.and_eq_true] at hr
    rcases List.mem_cons.1 h with rfl | h
    · exact hr.1.1
    · exact rise_mem hr.2 h
theorem hunkB_parts {many : Int} {x : Hk} (h : hunkB many x = true) : 0 ≤ x.at_ ∧ 0 ≤ x.gone ∧ x.at_ + x.gone ≤ many ∧ nothing x = false ∧ linesB x.new = true := by
  simp only [hunkB, Bool.and_eq_true, decide_eq_true_eq, Bool.not_eq_true'] at h
  exact ⟨h.1.1.1.1, h.1.1.1.2, h.1.1.2, h.1.2, h.2⟩
theorem linesB_len {l : List ByteArray} (h : linesB l = true) : l.length ≤ 40 := by simp [linesB] at h; exact h.1
theorem linesB_mem {l : List ByteArray} (h : linesB l = true) {s : ByteArray} (hs : s ∈ l) : lineB s = true := by
  simp only [linesB, Bool.and_eq_true, List.all_eq_true] at h; exact h.2 s hs
theorem goodH_parts {many : Int} {l : List Hk} (h : goodH many l = true) : 0 ≤ many ∧ many ≤ 40 ∧ l.length ≤ 20 ∧ riseB many (-1) l = true := by
  simp only [goodH, Bool.and_eq_true, decide_eq_true_eq] at h
  exact ⟨h.1.1.1, h.1.1.2, h.1.2, h.2⟩
theorem goodH_mem {many : Int} {l : List Hk} (h : goodH many l = true) {x : Hk} (hx : x ∈ l) : 0 ≤ x.at_ ∧ 0 ≤ x.gone ∧ x.at_ + x.gone ≤ many ∧ many ≤ 40 ∧ x.new.length ≤ 40 := by
  obtain ⟨h1, h2, h3, h4⟩ := goodH_parts h
  obtain ⟨a, b, c, d, e⟩ := hunkB_parts (rise_mem h4 hx)
  exact ⟨a, b, c, h2, linesB_len e⟩

end Go.Proofs.YtnnaigoomipklaaDoor.M

namespace Go.Proofs.YtnnaigoomipklaaDoor.M

/-- Lines from one place on up to another. -/
def seg (l : List ByteArray) (p q : Nat) : List ByteArray := (l.take q).drop p
/-- The lines that a hunk takes away. -/
def oldOf (l : List ByteArray) (x : Hk) : List ByteArray := seg l x.at_.toNat (x.at_ + x.gone).toNat
def patchFrom (l : List ByteArray) : Nat → List Hk → List ByteArray
  | p, [] => l.drop p
  | p, x :: hs => seg l p x.at_.toNat ++ x.new ++ patchFrom l (x.at_ + x.gone).toNat hs
def patchH (l : List ByteArray) (hs : List Hk) : List ByteArray := patchFrom l 0 hs
/-- Patch's two answers. -/
def patchOk (l : List ByteArray) (hs : List Hk) : Bool := goodB l && goodH l.length hs && goodB (patchH l hs)
def patchOf (l : List ByteArray) (hs : List Hk) : List ByteArray × Bool := if patchOk l hs = true then (patchH l hs, true) else ([], false)
theorem patch_step {l : List ByteArray} {hs : List Hk} {p j : Nat} {x : Hk} (h : hs[j]? = some x) : patchFrom l p (hs.drop j) = seg l p x.at_.toNat ++ x.new ++ patchFrom l (x.at_ + x.gone).toNat (hs.drop (j + 1)) := by
  rw [drop_at h, patchFrom]
theorem patch_end {l : List ByteArray} {hs : List Hk} {p j : Nat} (h : hs.length ≤ j) : patchFrom l p (hs.drop j) = l.drop p := by
  rw [List.drop_eq_nil_of_le h]; rfl
theorem seg_len (l : List ByteArray) (p q : Nat) : (seg l p q).length = min q l.length - p := by simp [seg]
/-- What is known of the hunks that are still to be done. -/
def restOk (many : Int) (hs : List Hk) (p : Nat) : Prop := ∃ e : Int, riseB many e hs = true ∧ (p : Int) ≤ e + 1
theorem rest_start {many : Int} {hs : List Hk} (h : goodH many hs = true) : restOk many (hs.drop 0) 0 := ⟨-1, (goodH_parts h).2.2.2, by omega⟩
theorem rest_step {many : Int} {hs : List Hk} {p j : Nat} {x : Hk} (hx : hs[j]? = some x) (h : restOk many (hs.drop j) p) :
    ∃ a g : Nat, x.at_ = a ∧ x.gone = g ∧ p ≤ a ∧ ((a + g : Nat) : Int) ≤ many ∧ linesB x.new = true ∧ nothing x = false ∧ restOk many (hs.drop (j + 1)) (a + g) := by
  obtain ⟨e, h1, h2⟩ := h
  rw [rise_step hx, Bool.and_eq_true, Bool.and_eq_true, decide_eq_true_eq] at h1
  obtain ⟨⟨hb, he⟩, hr⟩ := h1
  obtain ⟨q0, q1, q2, q3, q4⟩ := hunkB_parts hb
  exact ⟨x.at_.toNat, x.gone.toNat, by omega, by omega, by omega, by omega, q4, q3, x.at_ + x.gone, hr, by omega⟩
theorem goodB_lines {l : List ByteArray} (h : goodB l = true) : linesB l = true := by
  have h1 := goodB_len h
  simp only [linesB, Bool.and_eq_true, decide_eq_true_eq, List.all_eq_true]
  refine ⟨h1, fun s hs => ?_⟩
  obtain ⟨j, hj⟩ := List.mem_iff_getElem?.1 hs
  exact (goodB_at h hj).1

end Go.Proofs.YtnnaigoomipklaaDoor.M

namespace Go.Proofs.YtnnaigoomipklaaDoor.M

def backFrom (l : List ByteArray) : Int → List Hk → List Hk
  | _, [] => []
  | more, x :: hs => ⟨x.at_ + more, x.new.length, oldOf l x⟩ :: backFrom l (more + (x.new.length - x.gone)) hs
def backH (l : List ByteArray) (hs : List Hk) : List Hk := backFrom l 0 hs
def backOf (l : List ByteArray) (hs : List Hk) : List Hk × Bool := if patchOk l hs = true then (backH l hs, true) else ([], false)
theorem back_step {l : List ByteArray} {hs : List Hk} {more : Int} {j : Nat} {x : Hk} (h : hs[j]? = some x) : backFrom l more (hs.drop j) = ⟨x.at_ + more, x.new.length, oldOf l x⟩ :: backFrom l (more + (x.new.length - x.gone)) (hs.drop (j + 1)) := by
  rw [drop_at h, backFrom]
theorem back_end {l : List ByteArray} {hs : List Hk} {more : Int} {j : Nat} (h : hs.length ≤ j) : backFrom l more (hs.drop j) = [] := by
  rw [List.drop_eq_nil_of_le h]; rfl
theorem patchOk_parts {l : List ByteArray} {hs : List Hk} (h : patchOk l hs = true) : goodB l = true ∧ goodH l.length hs = true ∧ goodB (patchH l hs) = true := by
  simp only [patchOk, Bool.and_eq_true] at h
  exact ⟨h.1.1, h.1.2, h.2⟩
theorem patchOf_ok (l : List ByteArray) (hs : List Hk) : (patchOf l hs).2 = patchOk l hs := by
  unfold patchOf
  split
  · next h => rw [h]
  · next h => simp at h; rw [h]
theorem back_len (l : List ByteArray) : ∀ (hs : List Hk) (more : Int), (backFrom l more hs).length = hs.length
  | [], _ => rfl
  | x :: hs, more => by simp [backFrom, back_len l hs]
/-- The lines of lists of hunks that are not too great. -/
theorem total_le {l : List ByteArray} {b : Nat} (h : ∀ s ∈ l, s.size ≤ b) : total l ≤ l.length * b := by
  induction l with
  | nil => simp [total]
  | cons s l ih =>
    have h1 := h s (by simp)
    have h2 := ih (fun t ht => h t (by simp [ht]))
    simp only [total, List.length_cons, Nat.add_mul, Nat.one_mul]
    omega
theorem lines_total {l : List ByteArray} (h : linesB l = true) : l.length + total l ≤ 1240 := by
  have h1 := linesB_len h
  have h2 : total l ≤ l.length * 30 := total_le (fun s hs => (lineB_size (linesB_mem h hs)).2)
  have h3 : l.length * 30 ≤ 40 * 30 := Nat.mul_le_mul_right _ h1
  omega
theorem linesB_seg {l : List ByteArray} (h : linesB l = true) (p q : Nat) : linesB (seg l p q) = true := by
  simp only [linesB, Bool.and_eq_true, decide_eq_true_eq, List.all_eq_true] at h ⊢
  refine ⟨by rw [seg_len]; omega, fun s hs => h.2 s (List.mem_of_mem_take (List.mem_of_mem_drop hs))⟩

end Go.Proofs.YtnnaigoomipklaaDoor.M

