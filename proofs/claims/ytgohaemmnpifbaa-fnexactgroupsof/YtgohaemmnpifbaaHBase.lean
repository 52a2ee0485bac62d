/-
  Plain facts on hunks: no Go, no program.
-/
import Derived.Test.YtgohaemmnpifbaaBase
set_option linter.unusedSimpArgs false
set_option linter.unusedVariables false
namespace Go.Proofs.Ytgohaemmnpifbaa.M

/-- A hunk: the place, how many go, what comes. -/
structure Hk where
  at_ : Int
  gone : Int
  new : List ByteArray

theorem Hk.ext_ {x y : Hk} (h1 : x.at_ = y.at_) (h2 : x.gone = y.gone) (h3 : x.new = y.new) : x = y := by
  cases x; cases y; simp at h1 h2 h3; simp [h1, h2, h3]
def eqH (x y : Hk) : Bool := decide (x.at_ = y.at_) && decide (x.gone = y.gone) && eqT x.new y.new
theorem eqH_iff (x y : Hk) : eqH x y = true ↔ x = y := by
  simp only [eqH, Bool.and_eq_true, decide_eq_true_eq, eqT]
  exact ⟨fun ⟨⟨h1, h2⟩, h3⟩ => Hk.ext_ h1 h2 h3, fun h => by subst h; exact ⟨⟨rfl, rfl⟩, rfl⟩⟩
/-- Two lists of hunks are the same. -/
def eqHS : List Hk → List Hk → Bool
  | [], [] => true
  | x :: l, y :: r => eqH x y && eqHS l r
  | _, _ => false
theorem eqHS_iff : ∀ (l r : List Hk), eqHS l r = true ↔ l = r
  | [], [] => by simp [eqHS]
  | [], y :: r => by simp [eqHS]
  | x :: l, [] => by simp [eqHS]
  | x :: l, y :: r => by simp [eqHS, eqH_iff, eqHS_iff l r]
theorem eqHS_refl (l : List Hk) : eqHS l l = true := (eqHS_iff l l).2 rfl
theorem eqHS_len {l r : List Hk} (h : l.length ≠ r.length) : eqHS l r = false := by
  rw [Bool.eq_false_iff]; intro e; exact h (by rw [(eqHS_iff l r).1 e])
theorem eqHS_at {l r : List Hk} {k : Nat} {s t : Hk} (hs : l[k]? = some s) (ht : r[k]? = some t) (h : eqH s t = false) : eqHS l r = false := by
  rw [Bool.eq_false_iff]; intro e; rw [(eqHS_iff l r).1 e, ht] at hs; injection hs with hs; subst hs; rw [(eqH_iff t t).2 rfl] at h; cases h
theorem eqHS_all {l r : List Hk} (h : ∀ (j : Nat) s t, l[j]? = some s → r[j]? = some t → eqH s t = true) (hl : l.length = r.length) : eqHS l r = true := by
  rw [eqHS_iff]
  apply List.ext_getElem?
  intro j
  by_cases hj : j < l.length
  · have h1 := List.getElem?_eq_getElem hj
    have h2 := List.getElem?_eq_getElem (show j < r.length by omega)
    rw [h1, h2, (eqH_iff _ _).1 (h j _ _ h1 h2)]
  · rw [List.getElem?_eq_none (by omega), List.getElem?_eq_none (by omega)]

/-- All lines and bytes of some hunks. -/
def totalH : List Hk → Nat
  | [] => 0
  | h :: l => h.new.length + total h.new + totalH l
theorem totalH_append (a b : List Hk) : totalH (a ++ b) = totalH a + totalH b := by
  induction a with
  | nil => simp [totalH]
  | cons s a ih => simp [totalH, ih]; omega
theorem totalH_take_succ {l : List Hk} {k : Nat} {h : Hk} (e : l[k]? = some h) : totalH (l.take (k + 1)) = totalH (l.take k) + (h.new.length + total h.new) := by
  rw [List.take_add_one, e, totalH_append]; simp [totalH]
theorem totalH_take_le (l : List Hk) (k : Nat) : totalH (l.take k) ≤ totalH l := by
  have h := totalH_append (l.take k) (l.drop k)
  rw [List.take_append_drop] at h
  omega
theorem totalH_mem {l : List Hk} {h : Hk} (e : h ∈ l) : h.new.length + total h.new ≤ totalH l := by
  obtain ⟨k, hk⟩ := List.mem_iff_getElem?.1 e
  have h1 := totalH_take_succ hk
  have h2 := totalH_take_le l (k + 1)
  omega
def szHS (l : List Hk) (left : Int) : Int := if left < l.length + totalH l then -1 else left - l.length - totalH l

/-- A list of hunks that is being filled: its first k, and blanks behind. -/
def blankH : Hk := ⟨0, 0, []⟩
def fillH (l : List Hk) (k : Nat) : List Hk := l.take k ++ List.replicate (l.length - k) blankH
theorem fillH_len (l : List Hk) {k : Nat} (h : k ≤ l.length) : (fillH l k).length = l.length := by simp [fillH]; omega
theorem fillH_zero (l : List Hk) : fillH l 0 = List.replicate l.length blankH := by simp [fillH]
theorem fillH_all (l : List Hk) {k : Nat} (h : l.length ≤ k) : fillH l k = l := by
  simp [fillH, List.take_of_length_le h, show l.length - k = 0 from by omega]
theorem fillH_set {l : List Hk} {k : Nat} {s : Hk} (h : l[k]? = some s) : (fillH l k).set k s = fillH l (k + 1) := by
  have hk : k < l.length := (List.getElem?_eq_some_iff.1 h).1
  unfold fillH
  rw [List.set_append, if_neg (by simp; omega), List.take_add_one, h]
  simp only [List.length_take, Nat.min_eq_left (Nat.le_of_lt hk), Nat.sub_self, Option.toList_some, List.append_assoc, List.singleton_append]
  rw [show l.length - k = (l.length - (k + 1)) + 1 from by omega, List.replicate_succ, List.set_cons_zero]

/-- Hunks that are marked, from a number on, and the number behind. -/
def markHk (k : Nat) (x : Hk) : Hk := ⟨k, (k : Int) + 1, marks (k + 2) x.new.length⟩
def marksH (k : Nat) : List Hk → List Hk
  | [] => []
  | x :: l => markHk k x :: marksH (k + 2 + x.new.length) l
def endH (k : Nat) : List Hk → Nat
  | [] => k
  | x :: l => endH (k + 2 + x.new.length) l
theorem marksH_snoc (x : Hk) : ∀ (l : List Hk) (k : Nat), marksH k (l ++ [x]) = marksH k l ++ [markHk (endH k l) x]
  | [], k => rfl
  | y :: l, k => by simp [marksH, endH, marksH_snoc x l]
theorem endH_snoc (x : Hk) : ∀ (l : List Hk) (k : Nat), endH k (l ++ [x]) = endH k l + 2 + x.new.length
  | [], k => rfl
  | y :: l, k => by simp [endH, endH_snoc x l]
theorem marksH_len : ∀ (l : List Hk) (k : Nat), (marksH k l).length = l.length
  | [], k => rfl
  | y :: l, k => by simp [marksH, marksH_len l]
theorem endH_le : ∀ (l : List Hk) (k : Nat), endH k l ≤ k + 2 * (l.length + totalH l)
  | [], k => by simp [endH]
  | y :: l, k => by have := endH_le l (k + 2 + y.new.length); simp only [endH, List.length_cons, totalH]; omega
theorem endH_take_le (l : List Hk) (i k : Nat) : endH k (l.take i) ≤ k + 2 * (l.length + totalH l) := by
  have h1 := endH_le (l.take i) k
  have h2 := totalH_take_le l i
  have h3 : (l.take i).length ≤ l.length := by simp; omega
  omega
theorem take_snoc {α : Type} {l : List α} {i : Nat} {x : α} (h : l[i]? = some x) : l.take (i + 1) = l.take i ++ [x] := by rw [List.take_add_one, h]; rfl
def mkTo (l : List Hk) (k i : Nat) : List Hk := marksH k (l.take i) ++ l.drop i
theorem mkTo_zero (l : List Hk) (k : Nat) : mkTo l k 0 = l := by simp [mkTo, marksH]
theorem mkTo_all (l : List Hk) (k : Nat) {i : Nat} (h : l.length ≤ i) : mkTo l k i = marksH k l := by simp [mkTo, List.take_of_length_le h, List.drop_eq_nil_of_le h]
theorem mkTo_len (l : List Hk) (k i : Nat) : (mkTo l k i).length = l.length := by simp [mkTo, marksH_len]; omega
theorem mkTo_get {l : List Hk} (k : Nat) {i : Nat} {x : Hk} (h : l[i]? = some x) : (mkTo l k i)[i]? = some x := by
  have hi : i < l.length := (List.getElem?_eq_some_iff.1 h).1
  unfold mkTo
  rw [List.getElem?_append_right (by rw [marksH_len]; simp; omega), marksH_len, List.getElem?_drop, List.length_take, Nat.min_eq_left (by omega), Nat.sub_self, Nat.add_zero, h]
theorem mkTo_set {l : List Hk} (k : Nat) {i : Nat} {x : Hk} (h : l[i]? = some x) : (mkTo l k i).set i (markHk (endH k (l.take i)) x) = mkTo l k (i + 1) := by
  have hi : i < l.length := (List.getElem?_eq_some_iff.1 h).1
  unfold mkTo
  rw [take_snoc h, marksH_snoc, List.set_append, if_neg (by rw [marksH_len]; simp; omega), marksH_len, List.length_take, Nat.min_eq_left (by omega), Nat.sub_self, List.drop_eq_getElem_cons hi, List.set_cons_zero, List.append_assoc]
  rfl
theorem marksH_get {l : List Hk} (k : Nat) {i : Nat} {x : Hk} (h : l[i]? = some x) : (marksH k l)[i]? = some (markHk (endH k (l.take i)) x) := by
  have h1 : l = l.take i ++ x :: l.drop (i + 1) := by
    have hi : i < l.length := (List.getElem?_eq_some_iff.1 h).1
    rw [List.getElem?_eq_getElem hi] at h
    injection h with h
    rw [← h, ← List.drop_eq_getElem_cons hi, List.take_append_drop]
  have h2 : ∀ (a b : List Hk) (k : Nat), marksH k (a ++ b) = marksH k a ++ marksH (endH k a) b := by
    intro a
    induction a with
    | nil => intro b k; rfl
    | cons y a ih => intro b k; simp [marksH, endH, ih]
  have hl : (l.take i).length = i := by have := (List.getElem?_eq_some_iff.1 h).1; simp; omega
  have h3 : (marksH k (l.take i ++ x :: l.drop (i + 1)))[i]? = some (markHk (endH k (l.take i)) x) := by
    rw [h2, List.getElem?_append_right (by rw [marksH_len, hl]; exact Nat.le_refl _), marksH_len, hl, Nat.sub_self]
    rfl
  rw [← h1] at h3
  exact h3

/-- A hunk that is good by itself, and hunks that rise. -/
def linesB (l : List ByteArray) : Bool := decide (l.length ≤ 40) && l.all lineB
def nothing (x : Hk) : Bool := decide (x.gone = 0) && decide (x.new.length = 0)
def hunkB (many : Int) (x : Hk) : Bool := decide (0 ≤ x.at_) && decide (0 ≤ x.gone) && decide (x.at_ + x.gone ≤ many) && !nothing x && linesB x.new
def riseB (many : Int) : Int → List Hk → Bool
  | _, [] => true
  | e, x :: l => hunkB many x && decide (e < x.at_) && riseB many (x.at_ + x.gone) l
def goodH (many : Int) (l : List Hk) : Bool := decide (0 ≤ many) && decide (many ≤ 40) && decide (l.length ≤ 20) && riseB many (-1) l
theorem rise_step {many e : Int} {l : List Hk} {k : Nat} {x : Hk} (h : l[k]? = some x) : riseB many e (l.drop k) = (hunkB many x && decide (e < x.at_) && riseB many (x.at_ + x.gone) (l.drop (k + 1))) := by
  have hk : k < l.length := (List.getElem?_eq_some_iff.1 h).1
  rw [List.getElem?_eq_getElem hk] at h
  injection h with h
  rw [List.drop_eq_getElem_cons hk, h]
  rfl
theorem rise_end {many e : Int} {l : List Hk} {k : Nat} (h : l.length ≤ k) : riseB many e (l.drop k) = true := by
  rw [List.drop_eq_nil_of_le h]; rfl
theorem goodH_bad {many : Int} {l : List Hk} (h : riseB many (-1) l = false) : goodH many l = false := by simp [goodH, h]
theorem goodH_ok {many : Int} {l : List Hk} (h : riseB many (-1) l = true) : goodH many l = (decide (l.length ≤ 20) && (decide (0 ≤ many) && decide (many ≤ 40))) := by
  unfold goodH; rw [h]; cases decide (l.length ≤ 20) <;> cases decide (0 ≤ many) <;> cases decide (many ≤ 40) <;> rfl
theorem linesB_bad {l : List ByteArray} {k : Nat} {s : ByteArray} (h : l[k]? = some s) (hs : lineB s = false) : linesB l = false := by
  have : l.all lineB = false := by rw [List.all_eq_false]; exact ⟨s, List.mem_of_getElem? h, by simp [hs]⟩
  simp [linesB, this]
theorem linesB_ok {l : List ByteArray} (h : ∀ (j : Nat) s, l[j]? = some s → lineB s = true) : linesB l = decide (l.length ≤ 40) := by
  have : l.all lineB = true := by
    rw [List.all_eq_true]
    intro s hs
    obtain ⟨j, hj⟩ := List.mem_iff_getElem?.1 hs
    exact h j s hj
  simp [linesB, this]
theorem line_step {l : List ByteArray} {k : Nat} {s : ByteArray} (H : ∀ (j : Nat) s, j < k → l[j]? = some s → lineB s = true) (hs : l[k]? = some s) (h : lineB s = true) : ∀ (j : Nat) s, j < k + 1 → l[j]? = some s → lineB s = true := by
  intro j t hj ht
  by_cases e : j = k
  · subst e; rw [hs] at ht; injection ht with ht; rw [← ht]; exact h
  · exact H j t (by omega) ht

theorem drop_at {α : Type} {l : List α} {k : Nat} {x : α} (h : l[k]? = some x) : l.drop k = x :: l.drop (k + 1) := by
  have hk : k < l.length := (List.getElem?_eq_some_iff.1 h).1
  rw [List.getElem?_eq_getElem hk] at h
  injection h with h
  rw [List.drop_eq_getElem_cons hk, h]
theorem rise_mem {many : Int} {x : Hk} : ∀ {l : List Hk} {e : Int}, riseB many e l = true → x ∈ l → hunkB many x = true
  | [], e, _, h => by simp at h
  | y :: l, e, hr, h => by
    simp only [riseB, Bool.and_eq_true] at hr
    rcases List.mem_cons.1 h with rfl | h
    · exact hr.1.1
    · exact rise_mem hr.2 h
theorem hunkB_parts {many : Int} {x : Hk} (h : hunkB many x = true) : 0 ≤ x.at_ ∧ 0 ≤ x.gone ∧ x.at_ + x.gone ≤ many ∧ nothing x = false ∧ linesB x.new = true := by
  simp only [hunkB, Bool.and_eq_true, decide_eq_true_eq, Bool.not_eq_true'] at h
  exact ⟨h.1.1.1.1, h.1.1.1.2, h.1.1.2, h.1.2, h.2⟩
theorem linesB_len {l : List ByteArray} (h : linesB l = true) : l.length ≤ 40 := by simp [linesB] at h; exact h.1
theorem linesB_mem {l : List ByteArray} (h : linesB l = true) {s : ByteArray} (hs : s ∈ l) : lineB s = true := by
  simp only [linesB, Bool.and_eq_true, List.all_eq_true] at h; exact h.2 s hs
theorem goodH_parts {many : Int} {l : List Hk} (h : goodH many l = true) : 0 ≤ many ∧ many ≤ 40 ∧ l.length ≤ 20 ∧ riseB many (-1) l = true := by
  simp only [goodH, Bool.and_eq_true, decide_eq_true_eq] at h
  exact ⟨h.1.1.1, h.1.1.2, h.1.2, h.2⟩
theorem goodH_mem {many : Int} {l : List Hk} (h : goodH many l = true) {x : Hk} (hx : x ∈ l) : 0 ≤ x.at_ ∧ 0 ≤ x.gone ∧ x.at_ + x.gone ≤ many ∧ many ≤ 40 ∧ x.new.length ≤ 40 := by
  obtain ⟨h1, h2, h3, h4⟩ := goodH_parts h
  obtain ⟨a, b, c, d, e⟩ := hunkB_parts (rise_mem h4 hx)
  exact ⟨a, b, c, h2, linesB_len e⟩

/-- The place of a line behind hunks. -/
def placeFrom (k : Int) : Int → List Hk → Option Int
  | more, [] => some (k + more)
  | more, x :: l => if x.at_ + x.gone ≤ k then placeFrom k (more + (x.new.length - x.gone)) l else if x.at_ ≤ k then none else placeFrom k more l
theorem place_go {k more : Int} {l : List Hk} {j : Nat} {x : Hk} (h : l[j]? = some x) (h1 : x.at_ + x.gone ≤ k) : placeFrom k more (l.drop j) = placeFrom k (more + (x.new.length - x.gone)) (l.drop (j + 1)) := by
  rw [drop_at h, placeFrom, if_pos h1]
theorem place_no {k more : Int} {l : List Hk} {j : Nat} {x : Hk} (h : l[j]? = some x) (h1 : ¬ x.at_ + x.gone ≤ k) (h2 : x.at_ ≤ k) : placeFrom k more (l.drop j) = none := by
  rw [drop_at h, placeFrom, if_neg h1, if_pos h2]
theorem place_on {k more : Int} {l : List Hk} {j : Nat} {x : Hk} (h : l[j]? = some x) (h1 : ¬ x.at_ + x.gone ≤ k) (h2 : ¬ x.at_ ≤ k) : placeFrom k more (l.drop j) = placeFrom k more (l.drop (j + 1)) := by
  rw [drop_at h, placeFrom, if_neg h1, if_neg h2]
theorem place_end {k more : Int} {l : List Hk} {j : Nat} (h : l.length ≤ j) : placeFrom k more (l.drop j) = some (k + more) := by
  rw [List.drop_eq_nil_of_le h]; rfl
theorem place_nonneg {many k p : Int} (hk : 0 ≤ k) : ∀ {l : List Hk} {e more : Int}, riseB many e l = true → 0 ≤ k + more → (e ≤ k → 0 ≤ max e 0 + more) → placeFrom k more l = some p → 0 ≤ p
  | [], e, more, _, h1, _, h => by simp [placeFrom] at h; omega
  | x :: l, e, more, hr, h1, h2, h => by
    simp only [riseB, Bool.and_eq_true, decide_eq_true_eq] at hr
    obtain ⟨⟨hx, he⟩, hr⟩ := hr
    obtain ⟨a, b, c, _, _⟩ := hunkB_parts hx
    unfold placeFrom at h
    split at h
    · exact place_nonneg hk hr (by have := h2 (by omega); omega) (by intro _; have := h2 (by omega); omega) h
    · split at h
      · cases h
      · exact place_nonneg hk hr h1 (by omega) h
/-- PlaceOf's answers. -/
def placeN (l : List Hk) (k : Int) : Int := (placeFrom k 0 l).getD (-1)
def placeOf (l : List Hk) (many k : Int) : Int × Bool := if goodH many l = true ∧ 0 ≤ k ∧ k ≤ many ∧ 0 ≤ placeN l k then (placeN l k, true) else (0, false)
theorem place_none {many k : Int} {l : List Hk} (h : goodH many l = true) (hk : 0 ≤ k) : placeN l k < 0 ↔ placeFrom k 0 l = none := by
  unfold placeN
  cases hp : placeFrom k 0 l with
  | none => simp
  | some p =>
    have := place_nonneg hk (goodH_parts h).2.2.2 (more := 0) (by omega) (by omega) hp
    simp
    omega

end Go.Proofs.Ytgohaemmnpifbaa.M
