/-
  Plain facts on hunks: no Go, no program.
  Plain facts on hunks done to lines: no Go, no program.
  Plain facts on hunks that lead back, and on hunks that are trimmed: no Go, no program.
  Plain facts on hunks that are trimmed: no Go, no program.
  Plain facts on the places of lines behind hunks: no Go, no program.
  Plain facts on hunks that are joined: no Go, no program.
  Plain facts: what is patched is patched back; how many lines there are. No Go, no program.
  Plain facts: trimmed hunks do the same. No Go, no program.
  Plain facts: hunks that are joined do at once what both do in turn. No Go, no program.
-/
import Derived.Test.YtnnaigoomipklaaOcBase
set_option linter.unusedSimpArgs false
set_option linter.unusedVariables false
namespace Go.Proofs.Ytnnaigoomipklaa.M

/-- A hunk: the place, how many go, what comes. -/
structure Hk where
  at_ : Int
  gone : Int
  new : List ByteArray

theorem Hk.ext_ {x y : Hk} (h1 : x.at_ = y.at_) (h2 : x.gone = y.gone) (h3 : x.new = y.new) : x = y := by
  cases x; cases y; simp at h1 h2 h3; simp [h1, h2, h3]
def eqH (x y : Hk) : Bool := decide (x.at_ = y.at_) && decide (x.gone = y.gone) && eqT x.new y.new
theorem eqH_iff (x y : Hk) : eqH x y = true ↔ x = y := by
  simp only [eqH, Bool.and_eq_true, decide_eq_true_eq, eqT]
  exact ⟨fun ⟨⟨h1, h2⟩, h3⟩ => Hk.ext_ h1 h2 h3, fun h => by subst h; exact ⟨⟨rfl, rfl⟩, rfl⟩⟩
/-- Two lists of hunks are the same. -/
def eqHS : List Hk → List Hk → Bool
  | [], [] => true
  | x :: l, y :: r => eqH x y && eqHS l r
  | _, _ => false
theorem eqHS_iff : ∀ (l r : List Hk), eqHS l r = true ↔ l = r
  | [], [] => by simp [eqHS]
  | [], y :: r => by simp [eqHS]
  | x :: l, [] => by simp [eqHS]
  | x :: l, y :: r => by simp [eqHS, eqH_iff, eqHS_iff l r]
theorem eqHS_refl (l : List Hk) : eqHS l l = true := (eqHS_iff l l).2 rfl
theorem eqHS_len {l r : List Hk} (h : l.length ≠ r.length) : eqHS l r = false := by
  rw [Bool.eq_false_iff]; intro e; exact h (by rw [(eqHS_iff l r).1 e])
theorem eqHS_at {l r : List Hk} {k : Nat} {s t : Hk} (hs : l[k]? = some s) (ht : r[k]? = some t) (h : eqH s t = false) : eqHS l r = false := by
  rw [Bool.eq_false_iff]; intro e; rw [(eqHS_iff l r).1 e, ht] at hs; injection hs with hs; subst hs; rw [(eqH_iff t t).2 rfl] at h; cases h
theorem eqHS_all {l r : List Hk} (h : ∀ (j : Nat) s t, l[j]? = some s → r[j]? = some t → eqH s t = true) (hl : l.length = r.length) : eqHS l r = true := by
  rw [eqHS_iff]
  apply List.ext_getElem?
  intro j
  by_cases hj : j < l.length
  · have h1 := List.getElem?_eq_getElem hj
    have h2 := List.getElem?_eq_getElem (show j < r.length by omega)
    rw [h1, h2, (eqH_iff _ _).1 (h j _ _ h1 h2)]
  · rw [List.getElem?_eq_none (by omega), List.getElem?_eq_none (by omega)]

/-- All lines and bytes of some hunks. -/
def totalH : List Hk → Nat
  | [] => 0
  | h :: l => h.new.length + total h.new + totalH l
theorem totalH_append (a b : List Hk) : totalH (a ++ b) = totalH a + totalH b := by
  induction a with
  | nil => simp [totalH]
  | cons s a ih => simp [totalH, ih]; omega
theorem totalH_take_succ {l : List Hk} {k : Nat} {h : Hk} (e : l[k]? = some h) : totalH (l.take (k + 1)) = totalH (l.take k) + (h.new.length + total h.new) := by
  rw [List.take_add_one, e, totalH_append]; simp [totalH]
theorem totalH_take_le (l : List Hk) (k : Nat) : totalH (l.take k) ≤ totalH l := by
  have h := totalH_append (l.take k) (l.drop k)
  rw [List.take_append_drop] at h
  omega
theorem totalH_mem {l : List Hk} {h : Hk} (e : h ∈ l) : h.new.length + total h.new ≤ totalH l := by
  obtain ⟨k, hk⟩ := List.mem_iff_getElem?.1 e
  have h1 := totalH_take_succ hk
  have h2 := totalH_take_le l (k + 1)
  omega

/-- Hunks that are marked, from a number on, and the number behind. -/
def markHk (k : Nat) (x : Hk) : Hk := ⟨k, (k : Int) + 1, marks (k + 2) x.new.length⟩
def marksH (k : Nat) : List Hk → List Hk
  | [] => []
  | x :: l => markHk k x :: marksH (k + 2 + x.new.length) l
def endH (k : Nat) : List Hk → Nat
  | [] => k
  | x :: l => endH (k + 2 + x.new.length) l
theorem marksH_snoc (x : Hk) : ∀ (l : List Hk) (k : Nat), marksH k (l ++ [x]) = marksH k l ++ [markHk (endH k l) x]
  | [], k => rfl
  | y :: l, k => by simp [marksH, endH, marksH_snoc x l]
theorem endH_snoc (x : Hk) : ∀ (l : List Hk) (k : Nat), endH k (l ++ [x]) = endH k l + 2 + x.new.length
  | [], k => rfl
  | y :: l, k => by simp [endH, endH_snoc x l]
theorem marksH_len : ∀ (l : List Hk) (k : Nat), (marksH k l).length = l.length
  | [], k => rfl
  | y :: l, k => by simp [marksH, marksH_len l]
theorem endH_le : ∀ (l : List Hk) (k : Nat), endH k l ≤ k + 2 * (l.length + totalH l)
  | [], k => by simp [endH]
  | y :: l, k => by have := endH_le l (k + 2 + y.new.length); simp only [endH, List.length_cons, totalH]; omega
theorem endH_take_le (l : List Hk) (i k : Nat) : endH k (l.take i) ≤ k + 2 * (l.length + totalH l) := by
  have h1 := endH_le (l.take i) k
  have h2 := totalH_take_le l i
  have h3 : (l.take i).length ≤ l.length := by simp; omega
  omega
theorem take_snoc {α : Type} {l : List α} {i : Nat} {x : α} (h : l[i]? = some x) : l.take (i + 1) = l.take i ++ [x] := by rw [List.take_add_one, h]; rfl
def mkTo (l : List Hk) (k i : Nat) : List Hk := marksH k (l.take i) ++ l.drop i
theorem mkTo_zero (l : List Hk) (k : Nat) : mkTo l k 0 = l := by simp [mkTo, marksH]
theorem mkTo_all (l : List Hk) (k : Nat) {i : Nat} (h : l.length ≤ i) : mkTo l k i = marksH k l := by simp [mkTo, List.take_of_length_le h, List.drop_eq_nil_of_le h]
theorem mkTo_len (l : List Hk) (k i : Nat) : (mkTo l k i).length = l.length := by simp [mkTo, marksH_len]; omega
theorem mkTo_get {l : List Hk} (k : Nat) {i : Nat} {x : Hk} (h : l[i]? = some x) : (mkTo l k i)[i]? = some x := by
  have hi : i < l.length := (List.getElem?_eq_some_iff.1 h).1
  unfold mkTo
  rw [List.getElem?_append_right (by rw [marksH_len]; simp; omega), marksH_len, List.getElem?_drop, List.length_take, Nat.min_eq_left (by omega), Nat.sub_self, Nat.add_zero, h]
theorem mkTo_set {l : List Hk} (k : Nat) {i : Nat} {x : Hk} (h : l[i]? = some x) : (mkTo l k i).set i (markHk (endH k (l.take i)) x) = mkTo l k (i + 1) := by
  have hi : i < l.length := (List.getElem?_eq_some_iff.1 h).1
  unfold mkTo
  rw [take_snoc h, marksH_snoc, List.set_append, if_neg (by rw [marksH_len]; simp; omega), marksH_len, List.length_take, Nat.min_eq_left (by omega), Nat.sub_self, List.drop_eq_getElem_cons hi, List.set_cons_zero, List.append_assoc]
  rfl
theorem marksH_get {l : List Hk} (k : Nat) {i : Nat} {x : Hk} (h : l[i]? = some x) : (marksH k l)[i]? = some (markHk (endH k (l.take i)) x) := by
  have h1 : l = l.take i ++ x :: l.drop (i + 1) := by
    have hi : i < l.length := (List.getElem?_eq_some_iff.1 h).1
    rw [List.getElem?_eq_getElem hi] at h
    injection h with h
    rw [← h, ← List.drop_eq_getElem_cons hi, List.take_append_drop]
  have h2 : ∀ (a b : List Hk) (k : Nat), marksH k (a ++ b) = marksH k a ++ marksH (endH k a) b := by
    intro a
    induction a with
    | nil => intro b k; rfl
    | cons y a ih => intro b k; simp [marksH, endH, ih]
  have hl : (l.take i).length = i := by have := (List.getElem?_eq_some_iff.1 h).1; simp; omega
  have h3 : (marksH k (l.take i ++ x :: l.drop (i + 1)))[i]? = some (markHk (endH k (l.take i)) x) := by
    rw [h2, List.getElem?_append_right (by rw [marksH_len, hl]; exact Nat.le_refl _), marksH_len, hl, Nat.sub_self]
    rfl
  rw [← h1] at h3
  exact h3

/-- A hunk that is good by itself, and hunks that rise. -/
def linesB (l : List ByteArray) : Bool := decide (l.length ≤ 40) && l.all lineB
def nothing (x : Hk) : Bool := decide (x.gone = 0) && decide (x.new.length = 0)
def hunkB (many : Int) (x : Hk) : Bool := decide (0 ≤ x.at_) && decide (0 ≤ x.gone) && decide (x.at_ + x.gone ≤ many) && !nothing x && linesB x.new
def riseB (many : Int) : Int → List Hk → Bool
  | _, [] => true
  | e, x :: l => hunkB many x && decide (e < x.at_) && riseB many (x.at_ + x.gone) l
def goodH (many : Int) (l : List Hk) : Bool := decide (0 ≤ many) && decide (many ≤ 40) && decide (l.length ≤ 20) && riseB many (-1) l
theorem rise_step {many e : Int} {l : List Hk} {k : Nat} {x : Hk} (h : l[k]? = some x) : riseB many e (l.drop k) = (hunkB many x && decide (e < x.at_) && riseB many (x.at_ + x.gone) (l.drop (k + 1))) := by
  have hk : k < l.length := (List.getElem?_eq_some_iff.1 h).1
  rw [List.getElem?_eq_getElem hk] at h
  injection h with h
  rw [List.drop_eq_getElem_cons hk, h]
  rfl
theorem rise_end {many e : Int} {l : List Hk} {k : Nat} (h : l.length ≤ k) : riseB many e (l.drop k) = true := by
  rw [List.drop_eq_nil_of_le h]; rfl
theorem goodH_bad {many : Int} {l : List Hk} (h : riseB many (-1) l = false) : goodH many l = false := by simp [goodH, h]
theorem goodH_ok {many : Int} {l : List Hk} (h : riseB many (-1) l = true) : goodH many l = (decide (l.length ≤ 20) && (decide (0 ≤ many) && decide (many ≤ 40))) := by
  unfold goodH; rw [h]; cases decide (l.length ≤ 20) <;> cases decide (0 ≤ many) <;> cases decide (many ≤ 40) <;> rfl
theorem linesB_bad {l : List ByteArray} {k : Nat} {s : ByteArray} (h : l[k]? = some s) (hs : lineB s = false) : linesB l = false := by
  have : l.all lineB = false := by rw [List.all_eq_false]; exact ⟨s, List.mem_of_getElem? h, by simp [hs]⟩
  simp [linesB, this]
theorem linesB_ok {l : List ByteArray} (h : ∀ (j : Nat) s, l[j]? = some s → lineB s = true) : linesB l = decide (l.length ≤ 40) := by
  have : l.all lineB = true := by
    rw [List.all_eq_true]
    intro s hs
    obtain ⟨j, hj⟩ := List.mem_iff_getElem?.1 hs
    exact h j s hj
  simp [linesB, this]
theorem line_step {l : List ByteArray} {k : Nat} {s : ByteArray} (H : ∀ (j : Nat) s, j < k → l[j]? = some s → lineB s = true) (hs : l[k]? = some s) (h : lineB s = true) : ∀ (j : Nat) s, j < k + 1 → l[j]? = some s → lineB s = true := by
  intro j t hj ht
  by_cases e : j = k
  · subst e; rw [hs] at ht; injection ht with ht; rw [← ht]; exact h
  · exact H j t (by omega) ht

theorem drop_at {α : Type} {l : List α} {k : Nat} {x : α} (h : l[k]? = some x) : l.drop k = x :: l.drop (k + 1) := by
  have hk : k < l.length := (List.getElem?_eq_some_iff.1 h).1
  rw [List.getElem?_eq_getElem hk] at h
  injection h with h
  rw [List.drop_eq_getElem_cons hk, h]
theorem rise_mem {many : Int} {x : Hk} : ∀ {l : List Hk} {e : Int}, riseB many e l = true → x ∈ l → hunkB many x = true
  | [], e, _, h => by simp at h
  | y :: l, e, hr, h => by
    simp only [riseB, Bool.and_eq_true] at hr
    rcases List.mem_cons.1 h with rfl | h
    · exact hr.1.1
    · exact rise_mem hr.2 h
theorem hunkB_parts {many : Int} {x : Hk} (h : hunkB many x = true) : 0 ≤ x.at_ ∧ 0 ≤ x.gone ∧ x.at_ + x.gone ≤ many ∧ nothing x = false ∧ linesB x.new = true := by
  simp only [hunkB, Bool.and_eq_true, decide_eq_true_eq, Bool.not_eq_true'] at h
  exact ⟨h.1.1.1.1, h.1.1.1.2, h.1.1.2, h.1.2, h.2⟩
theorem linesB_len {l : List ByteArray} (h : linesB l = true) : l.length ≤ 40 := by simp [linesB] at h; exact h.1
theorem linesB_mem {l : List ByteArray} (h : linesB l = true) {s : ByteArray} (hs : s ∈ l) : lineB s = true := by
  simp only [linesB, Bool.and_eq_true, List.all_eq_true] at h; exact h.2 s hs
theorem goodH_parts {many : Int} {l : List Hk} (h : goodH many l = true) : 0 ≤ many ∧ many ≤ 40 ∧ l.length ≤ 20 ∧ riseB many (-1) l = true := by
  simp only [goodH, Bool.and_eq_true, decide_eq_true_eq] at h
  exact ⟨h.1.1.1, h.1.1.2, h.1.2, h.2⟩

end Go.Proofs.Ytnnaigoomipklaa.M

namespace Go.Proofs.Ytnnaigoomipklaa.M

/-- Lines from one place on up to another. -/
def seg (l : List ByteArray) (p q : Nat) : List ByteArray := (l.take q).drop p
theorem seg_len (l : List ByteArray) (p q : Nat) : (seg l p q).length = min q l.length - p := by simp [seg]

end Go.Proofs.Ytnnaigoomipklaa.M

namespace Go.Proofs.Ytnnaigoomipklaa.M

/-- The lines of lists of hunks that are not too great. -/
theorem total_le {l : List ByteArray} {b : Nat} (h : ∀ s ∈ l, s.size ≤ b) : total l ≤ l.length * b := by
  induction l with
  | nil => simp [total]
  | cons s l ih =>
    have h1 := h s (by simp)
    have h2 := ih (fun t ht => h t (by simp [ht]))
    simp only [total, List.length_cons, Nat.add_mul, Nat.one_mul]
    omega
theorem totalH_le {l : List Hk} {b : Nat} (h : ∀ x ∈ l, x.new.length + total x.new ≤ b) : totalH l ≤ l.length * b := by
  induction l with
  | nil => simp [totalH]
  | cons s l ih =>
    have h1 := h s (by simp)
    have h2 := ih (fun t ht => h t (by simp [ht]))
    simp only [totalH, List.length_cons, Nat.add_mul, Nat.one_mul]
    omega
theorem lines_total {l : List ByteArray} (h : linesB l = true) : l.length + total l ≤ 1240 := by
  have h1 := linesB_len h
  have h2 : total l ≤ l.length * 30 := total_le (fun s hs => (lineB_size (linesB_mem h hs)).2)
  have h3 : l.length * 30 ≤ 40 * 30 := Nat.mul_le_mul_right _ h1
  omega
theorem goodH_total {many : Int} {l : List Hk} (h : goodH many l = true) : l.length + totalH l ≤ 30000 := by
  obtain ⟨h1, h2, h3, h4⟩ := goodH_parts h
  have h5 : totalH l ≤ l.length * 1240 := totalH_le (fun x hx => lines_total (hunkB_parts (rise_mem h4 hx)).2.2.2.2)
  have h6 : l.length * 1240 ≤ 20 * 1240 := Nat.mul_le_mul_right _ h3
  omega

end Go.Proofs.Ytnnaigoomipklaa.M

namespace Go.Proofs.Ytnnaigoomipklaa.M

/-- Pairs of places that rise in both. -/
def rises : Nat → Nat → List (Nat × Nat) → Prop
  | _, _, [] => True
  | i, j, s :: t => i ≤ s.1 ∧ j ≤ s.2 ∧ rises (s.1 + 1) (s.2 + 1) t
theorem rises_snoc {t : Nat × Nat} : ∀ {L : List (Nat × Nat)} {i j : Nat}, rises i j L → (∀ s ∈ L, s.1 < t.1 ∧ s.2 < t.2) → i ≤ t.1 → j ≤ t.2 → rises i j (L ++ [t])
  | [], i, j, _, _, h1, h2 => ⟨h1, h2, trivial⟩
  | s :: L, i, j, h, hs, h1, h2 => by
    obtain ⟨a, b, c⟩ := h
    have := hs s (by simp)
    exact ⟨a, b, rises_snoc c (fun s hs' => hs s (by simp [hs'])) (by omega) (by omega)⟩
/-- Hunks of all that stands between. -/
def joinOne (last : List ByteArray) (i j : Nat) (s : Nat × Nat) : Hk := ⟨i, (s.1 : Int) - i, seg last j s.2⟩
def joinFrom (last : List ByteArray) : Nat → Nat → List (Nat × Nat) → List Hk
  | _, _, [] => []
  | i, j, s :: t => if i < s.1 ∨ j < s.2 then joinOne last i j s :: joinFrom last (s.1 + 1) (s.2 + 1) t else joinFrom last (s.1 + 1) (s.2 + 1) t
theorem join_yes {last : List ByteArray} {i j k : Nat} {L : List (Nat × Nat)} {s : Nat × Nat} (h : L[k]? = some s) (hn : i < s.1 ∨ j < s.2) : joinFrom last i j (L.drop k) = joinOne last i j s :: joinFrom last (s.1 + 1) (s.2 + 1) (L.drop (k + 1)) := by
  rw [drop_at h, joinFrom, if_pos hn]
theorem join_no {last : List ByteArray} {i j k : Nat} {L : List (Nat × Nat)} {s : Nat × Nat} (h : L[k]? = some s) (hn : ¬ (i < s.1 ∨ j < s.2)) : joinFrom last i j (L.drop k) = joinFrom last (s.1 + 1) (s.2 + 1) (L.drop (k + 1)) := by
  rw [drop_at h, joinFrom, if_neg hn]
theorem join_end {last : List ByteArray} {i j k : Nat} {L : List (Nat × Nat)} (h : L.length ≤ k) : joinFrom last i j (L.drop k) = [] := by
  rw [List.drop_eq_nil_of_le h]; rfl
theorem rises_step {i j k : Nat} {L : List (Nat × Nat)} {s : Nat × Nat} (h : L[k]? = some s) (hr : rises i j (L.drop k)) : i ≤ s.1 ∧ j ≤ s.2 ∧ rises (s.1 + 1) (s.2 + 1) (L.drop (k + 1)) := by
  rw [drop_at h] at hr
  exact hr

end Go.Proofs.Ytnnaigoomipklaa.M

