/-
  Plain facts on hunks: no Go, no program.
  Plain facts on hunks done to lines: no Go, no program.
  Plain facts on hunks that lead back, and on hunks that are trimmed: no Go, no program.
  Plain facts on hunks that are trimmed: no Go, no program.
  Plain facts on the places of lines behind hunks: no Go, no program.
  Plain facts on hunks that are joined: no Go, no program.
  Plain facts: what is patched is patched back; how many lines there are. No Go, no program.
  Plain facts: trimmed hunks do the same. No Go, no program.
  Plain facts: hunks that are joined do at once what both do in turn. No Go, no program.
-/
import Derived.Test.YtkamenidgkjodaaGreatDoorBase
set_option linter.unusedSimpArgs false
set_option linter.unusedVariables false
namespace Go.Proofs.YtkamenidgkjodaaGreatDoor.M

/-- A hunk: the place, how many go, what comes. -/
structure Hk where
  at_ : Int
  gone : Int
  new : List ByteArray

theorem Hk.ext_ {x y : Hk} (h1 : x.at_ = y.at_) (h2 : x.gone = y.gone) (h3 : x.new = y.new) : x = y := by
  cases x; cases y; simp at h1 h2 h3; simp [h1, h2, h3]
def eqH (x y : Hk) : Bool := decide (x.at_ = y.at_) && decide (x.gone = y.gone) && eqT x.new y.new
theorem eqH_iff (x y : Hk) : eqH x y = true ↔ x = y := by
  simp only [eqH, Bool.and_eq_true, decide_eq_true_eq, eqT]
  exact ⟨fun ⟨⟨h1, h2⟩, h3⟩ => Hk.ext_ h1 h2 h3, fun h => by subst h; exact ⟨⟨rfl, rfl⟩, rfl⟩⟩
/-- Two lists of hunks are the same. -/
def eqHS : List Hk → List Hk → Bool
  | [], [] => true
  | x :: l, y :: r => eqH x y && eqHS l r
  | _, _ => false
theorem eqHS_iff : ∀ (l r : List Hk), eqHS l r = true ↔ l = r
  | [], [] => by simp [eqHS]
  | [], y :: r => by simp [eqHS]
  | x :: l, [] => by simp [eqHS]
  | x :: l, y :: r => by simp [eqHS, eqH_iff, eqHS_iff l r]
theorem eqHS_refl (l : List Hk) : eqHS l l = true := (eqHS_iff l l).2 rfl
theorem eqHS_len {l r : List Hk} (h : l.length ≠ r.length) : eqHS l r = false := by
  rw [Bool.eq_false_iff]; intro e; exact h (by rw [(eqHS_iff l r).1 e])
theorem eqHS_at {l r : List Hk} {k : Nat} {s t : Hk} (hs : l[k]? = some s) (ht : r[k]? = some t) (h : eqH s t = false) : eqHS l r = false := by
  rw [Bool.eq_false_iff]; intro e; rw [(eqHS_iff l r).1 e, ht] at hs; injection hs with hs; subst hs; rw [(eqH_iff t t).2 rfl] at h; cases h
theorem eqHS_all {l r : List Hk} (h : ∀ (j : Nat) s t, l[j]? = some s → r[j]? = some t → eqH s t = true) (hl : l.length = r.length) : eqHS l r = true := by
  rw [eqHS_iff]
  apply List.ext_getElem?
  intro j
  by_cases hj : j < l.length
  · have h1 := List.getElem?_eq_getElem hj
    have h2 := List.getElem?_eq_getElem (show j < r.length by omega)
    rw [h1, h2, (eqH_iff _ _).1 (h j _ _ h1 h2)]
  · rw [List.getElem?_eq_none (by omega), List.getElem?_eq_none (by omega)]

/-- All lines and bytes of some hunks. -/
def totalH : List Hk → Nat
  | [] => 0
  | h :: l => h.new.length + total h.new + totalH l
theorem totalH_append (a b : List Hk) : totalH (a ++ b) = totalH a + totalH b := by
  induction a with
  | nil => simp [totalH]
  | cons s a ih => simp [totalH, ih]; omega
theorem totalH_take_succ {l : List Hk} {k : Nat} {h : Hk} (e : l[k]? = some h) : totalH (l.take (k + 1)) = totalH (l.take k) + (h.new.length + total h.new) := by
  rw [List.take_add_one, e, totalH_append]; simp [totalH]
theorem totalH_take_le (l : List Hk) (k : Nat) : totalH (l.take k) ≤ totalH l := by
  have h := totalH_append (l.take k) (l.drop k)
  rw [List.take_append_drop] at h
  omega
theorem totalH_mem {l : List Hk} {h : Hk} (e : h ∈ l) : h.new.length + total h.new ≤ totalH l := by
  obtain ⟨k, hk⟩ := List.mem_iff_getElem?.1 e
  have h1 := totalH_take_succ hk
  have h2 := totalH_take_le l (k + 1)
  omega
def szHS (l : List Hk) (left : Int) : Int := if left < l.length + totalH l then -1 else left - l.length - totalH l

/-- A list of hunks that is being filled: its first k, and blanks behind. -/
def blankH : Hk := ⟨0, 0, []⟩
def fillH (l : List Hk) (k : Nat) : List Hk := l.take k ++ List.replicate (l.length - k) blankH
theorem fillH_len (l : List Hk) {k : Nat} (h : k ≤ l.length) : (fillH l k).length = l.length := by simp [fillH]; omega
theorem fillH_zero (l : List Hk) : fillH l 0 = List.replicate l.length blankH := by simp [fillH]
theorem fillH_all (l : List Hk) {k : Nat} (h : l.length ≤ k) : fillH l k = l := by
  simp [fillH, List.take_of_length_le h, show l.length - k = 0 from by omega]
theorem fillH_set {l : List Hk} {k : Nat} {s : Hk} (h : l[k]? = some s) : (fillH l k).set k s = fillH l (k + 1) := by
  have hk : k < l.length := (List.getElem?_eq_some_iff.1 h).1
  unfold fillH
  rw [List.set_append, if_neg (by simp; omega), List.take_add_one, h]
  simp only [List.length_take, Nat.min_eq_left (Nat.le_of_lt hk), Nat.sub_self, Option.toList_some, List.append_assoc, List.singleton_append]
  rw [show l.length - k = (l.length - (k + 1)) + 1 from by omega, List.replicate_succ, List.set_cons_zero]

/-- Hunks that are marked, from a number on, and the number behind. -/
def markHk (k : Nat) (x : Hk) : Hk := ⟨k, (k : Int) + 1, marks (k + 2) x.new.length⟩
def marksH (k : Nat) : List Hk → List Hk
  | [] => []
  | x :: l => markHk k x :: marksH (k + 2 + x.new.length) l
def endH (k : Nat) : List Hk → Nat
  | [] => k
  | x :: l => endH (k + 2 + x.new.length) l
theorem marksH_snoc (x : Hk) : ∀ (l : List Hk) (k : Nat), marksH k (l ++ [x]) = marksH k l ++ [markHk (endH k l) x]
  | [], k => rfl
  | y :: l, k => by simp [marksH, endH, marksH_snoc x l]
theorem endH_snoc (x : Hk) : ∀ (l : List Hk) (k : Nat), endH k (l ++ [x]) = endH k l + 2 + x.new.length
  | [], k => rfl
  | y :: l, k => by simp [endH, endH_snoc x l]
theorem marksH_len : ∀ (l : List Hk) (k : Nat), (marksH k l).length = l.length
  | [], k => rfl
  | y :: l, k => by simp [marksH, marksH_len l]
theorem endH_le : ∀ (l : List Hk) (k : Nat), endH k l ≤ k + 2 * (l.length + totalH l)
  | [], k => by simp [endH]
  | y :: l, k => by have := endH_le l (k + 2 + y.new.length); simp only [endH, List.length_cons, totalH]; omega
theorem endH_take_le (l : List Hk) (i k : Nat) : endH k (l.take i) ≤ k + 2 * (l.length + totalH l) := by
  have h1 := endH_le (l.take i) k
  have h2 := totalH_take_le l i
  have h3 : (l.take i).length ≤ l.length := by simp; omega
  omega
theorem take_snoc {α : Type} {l : List α} {i : Nat} {x : α} (h : l[i]? = some x) : l.take (i + 1) = l.take i ++ [x] := by rw [List.take_add_one, h]; rfl
def mkTo (l : List Hk) (k i : Nat) : List Hk := marksH k (l.take i) ++ l.drop i
theorem mkTo_zero (l : List Hk) (k : Nat) : mkTo l k 0 = l := by simp [mkTo, marksH]
theorem mkTo_all (l : List Hk) (k : Nat) {i : Nat} (h : l.length ≤ i) : mkTo l k i = marksH k l := by simp [mkTo, List.take_of_length_le h, List.drop_eq_nil_of_le h]
theorem mkTo_len (l : List Hk) (k i : Nat) : (mkTo l k i).length = l.length := by simp [mkTo, marksH_len]; omega
theorem mkTo_get {l : List Hk} (k : Nat) {i : Nat} {x : Hk} (h : l[i]? = some x) : (mkTo l k i)[i]? = some x := by
  have hi : i < l.length := (List.getElem?_eq_some_iff.1 h).1
  unfold mkTo
  rw [List.getElem?_append_right (by rw [marksH_len]; simp; omega), marksH_len, List.getElem?_drop, List.length_take, Nat.min_eq_left (by omega), Nat.sub_self, Nat.add_zero, h]
theorem mkTo_set {l : List Hk} (k : Nat) {i : Nat} {x : Hk} (h : l[i]? = some x) : (mkTo l k i).set i (markHk (endH k (l.take i)) x) = mkTo l k (i + 1) := by
  have hi : i < l.length := (List.getElem?_eq_some_iff.1 h).1
  unfold mkTo
  rw [take_snoc h, marksH_snoc, List.set_append, if_neg (by rw [marksH_len]; simp; omega), marksH_len, List.length_take, Nat.min_eq_left (by omega), Nat.sub_self, List.drop_eq_getElem_cons hi, List.set_cons_zero, List.append_assoc]
  rfl
theorem marksH_get {l : List Hk} (k : Nat) {i : Nat} {x : Hk} (h : l[i]? = some x) : (marksH k l)[i]? = some (markHk (endH k (l.take i)) x) := by
  have h1 : l = l.take i ++ x :: l.drop (i + 1) := by
    have hi : i < l.length := (List.getElem?_eq_some_iff.1 h).1
    rw [List.getElem?_eq_getElem hi] at h
    injection h with h
    rw [← h, ← List.drop_eq_getElem_cons hi, List.take_append_drop]
  have h2 : ∀ (a b : List Hk) (k : Nat), marksH k (a ++ b) = marksH k a ++ marksH (endH k a) b := by
    intro a
    induction a with
    | nil => intro b k; rfl
    | cons y a ih => intro b k; simp [marksH, endH, ih]
  have hl : (l.take i).length = i := by have := (List.getElem?_eq_some_iff.1 h).1; simp; omega
  have h3 : (marksH k (l.take i ++ x :: l.drop (i + 1)))[i]? = some (markHk (endH k (l.take i)) x) := by
    rw [h2, List.getElem?_append_right (by rw [marksH_len, hl]; exact Nat.le_refl _), marksH_len, hl, Nat.sub_self]
    rfl
  rw [← h1] at h3
  exact h3

/-- A hunk that is good by itself, and hunks that rise. -/
def linesB (l : List ByteArray) : Bool := decide (l.length ≤ 40) && l.all lineB
def nothing (x : Hk) : Bool := decide (x.gone = 0) && decide (x.new.length = 0)
def hunkB (many : Int) (x : Hk) : Bool := decide (0 ≤ x.at_) && decide (0 ≤ x.gone) && decide (x.at_ + x.gone ≤ many) && !nothing x && linesB x.new
def riseB (many : Int) : Int → List Hk → Bool
  | _, [] => true
  | e, x :: l => hunkB many x && decide (e < x.at_) && riseB many (x.at_ + x.gone) l
def goodH (many : Int) (l : List Hk) : Bool := decide (0 ≤ many) && decide (many ≤ 40) && decide (l.length ≤ 20) && riseB many (-1) l
theorem rise_step {many e : Int} {l : List Hk} {k : Nat} {x : Hk} (h : l[k]? = some x) : riseB many e (l.drop k) = (hunkB many x && decide (e < x.at_) && riseB many (x.at_ + x.gone) (l.drop (k + 1))) := by
  have hk : k < l.length := (List.getElem?_eq_some_iff.1 h).1
  rw [List.getElem?_eq_getElem hk] at h
  injection h with h
  rw [List.drop_eq_getElem_cons hk, h]
  rfl
theorem rise_end {many e : Int} {l : List Hk} {k : Nat} (h : l.length ≤ k) : riseB many e (l.drop k) = true := by
  rw [List.drop_eq_nil_of_le h]; rfl
theorem goodH_bad {many : Int} {l : List Hk} (h : riseB many (-1) l = false) : goodH many l = false := by simp [goodH, h]
theorem goodH_ok {many : Int} {l : List Hk} (h : riseB many (-1) l = true) : goodH many l = (decide (l.length ≤ 20) && (decide (0 ≤ many) && decide (many ≤ 40))) := by
  unfold goodH; rw [h]; cases decide (l.length ≤ 20) <;> cases decide (0 ≤ many) <;> cases decide (many ≤ 40) <;> rfl
theorem linesB_bad {l : List ByteArray} {k : Nat} {s : ByteArray} (h : l[k]? = some s) (hs : lineB s = false) : linesB l = false := by
  have : l.all lineB = false := by rw [List.all_eq_false]; exact ⟨s, List.mem_of_getElem? h, by simp [hs]⟩
  simp [linesB, this]
theorem linesB_ok {l : List ByteArray} (h : ∀ (j : Nat) s, l[j]? = some s → lineB s = true) : linesB l = decide (l.length ≤ 40) := by
  have : l.all lineB = true := by
    rw [List.all_eq_true]
    intro s hs
    obtain ⟨j, hj⟩ := List.mem_iff_getElem?.1 hs
    exact h j s hj
  simp [linesB, this]
theorem line_step {l : List ByteArray} {k : Nat} {s : ByteArray} (H : ∀ (j : Nat) s, j < k → l[j]? = some s → lineB s = true) (hs : l[k]? = some s) (h : lineB s = true) : ∀ (j : Nat) s, j < k + 1 → l[j]? = some s → lineB s = true := by
  intro j t hj ht
  by_cases e : j = k
  · subst e; rw [hs] at ht; injection ht with ht; rw [← ht]; exact h
  · exact H j t (by omega) ht

theorem drop_at {α : Type} {l : List α} {k : Nat} {x : α} (h : l[k]? = some x) : l.drop k = x :: l.drop (k + 1) := by
  have hk : k < l.length := (List.getElem?_eq_some_iff.1 h).1
  rw [List.getElem?_eq_getElem hk] at h
  injection h with h
  rw [List.drop_eq_getElem_cons hk, h]
theorem rise_mem {many : Int} {x : Hk} : ∀ {l : List Hk} {e : Int}, riseB many e l = true → x ∈ l → hunkB many x = true
  | [], e, _, h => by simp at h
  | y :: l, e, hr, h => by
    simp only [riseB, Bool.and_eq_true] at hr
    rcases List.mem_cons.1 h with rfl | h
    · exact hr.1.1
    · exact rise_mem hr.2 h
theorem hunkB_parts {many : Int} {x : Hk} (h : hunkB many x = true) : 0 ≤ x.at_ ∧ 0 ≤ x.gone ∧ x.at_ + x.gone ≤ many ∧ nothing x = false ∧ linesB x.new = true := by
  simp only [hunkB, Bool.and_eq_true, decide_eq_true_eq, Bool.not_eq_true'] at h
  exact ⟨h.1.1.1.1, h.1.1.1.2, h.1.1.2, h.1.2, h.2⟩
theorem linesB_len {l : List ByteArray} (h : linesB l = true) : l.length ≤ 40 := by simp [linesB] at h; exact h.1
theorem linesB_mem {l : List ByteArray} (h : linesB l = true) {s : ByteArray} (hs : s ∈ l) : lineB s = true := by
  simp only [linesB, Bool.and_eq_true, List.all_eq_true] at h; exact h.2 s hs
theorem goodH_parts {many : Int} {l : List Hk} (h : goodH many l = true) : 0 ≤ many ∧ many ≤ 40 ∧ l.length ≤ 20 ∧ riseB many (-1) l = true := by
  simp only [goodH, Bool.and_eq_true, decide_eq_true_eq] at h
  exact ⟨h.1.1.1, h.1.1.2, h.1.2, h.2⟩
theorem goodH_mem {many : Int} {l : List Hk} (h : goodH many l = true) {x : Hk} (hx : x ∈ l) : 0 ≤ x.at_ ∧ 0 ≤ x.gone ∧ x.at_ + x.gone ≤ many ∧ many ≤ 40 ∧ x.new.length ≤ 40 := by
  obtain ⟨h1, h2, h3, h4⟩ := goodH_parts h
  obtain ⟨a, b, c, d, e⟩ := hunkB_parts (rise_mem h4 hx)
  exact ⟨a, b, c, h2, linesB_len e⟩

/-- The place of a line behind hunks. -/
def placeFrom (k : Int) : Int → List Hk → Option Int
  | more, [] => some (k + more)
  | more, x :: l => if x.at_ + x.gone ≤ k then placeFrom k (more + (x.new.length - x.gone)) l else if x.at_ ≤ k then none else placeFrom k more l
theorem place_go {k more : Int} {l : List Hk} {j : Nat} {x : Hk} (h : l[j]? = some x) (h1 : x.at_ + x.gone ≤ k) : placeFrom k more (l.drop j) = placeFrom k (more + (x.new.length - x.gone)) (l.drop (j + 1)) := by
  rw [drop_at h, placeFrom, if_pos h1]
theorem place_no {k more : Int} {l : List Hk} {j : Nat} {x : Hk} (h : l[j]? = some x) (h1 : ¬ x.at_ + x.gone ≤ k) (h2 : x.at_ ≤ k) : placeFrom k more (l.drop j) = none := by
  rw [drop_at h, placeFrom, if_neg h1, if_pos h2]
theorem place_on {k more : Int} {l : List Hk} {j : Nat} {x : Hk} (h : l[j]? = some x) (h1 : ¬ x.at_ + x.gone ≤ k) (h2 : ¬ x.at_ ≤ k) : placeFrom k more (l.drop j) = placeFrom k more (l.drop (j + 1)) := by
  rw [drop_at h, placeFrom, if_neg h1, if_neg h2]
theorem place_end {k more : Int} {l : List Hk} {j : Nat} (h : l.length ≤ j) : placeFrom k more (l.drop j) = some (k + more) := by
  rw [List.drop_eq_nil_of_le h]; rfl
theorem place_nonneg {many k p : Int} (hk : 0 ≤ k) : ∀ {l : List Hk} {e more : Int}, riseB many e l = true → 0 ≤ k + more → (e ≤ k → 0 ≤ max e 0 + more) → placeFrom k more l = some p → 0 ≤ p
  | [], e, more, _, h1, _, h => by simp [placeFrom] at h; omega
  | x :: l, e, more, hr, h1, h2, h => by
    simp only [riseB, Bool.and_eq_true, decide_eq_true_eq] at hr
    obtain ⟨⟨hx, he⟩, hr⟩ := hr
    obtain ⟨a, b, c, _, _⟩ := hunkB_parts hx
    unfold placeFrom at h
    split at h
    · exact place_nonneg hk hr (by have := h2 (by omega); omega) (by intro _; have := h2 (by omega); omega) h
    · split at h
      · cases h
      · exact place_nonneg hk hr h1 (by omega) h
/-- PlaceOf's answers. -/
def placeN (l : List Hk) (k : Int) : Int := (placeFrom k 0 l).getD (-1)
def placeOf (l : List Hk) (many k : Int) : Int × Bool := if goodH many l = true ∧ 0 ≤ k ∧ k ≤ many ∧ 0 ≤ placeN l k then (placeN l k, true) else (0, false)
theorem place_none {many k : Int} {l : List Hk} (h : goodH many l = true) (hk : 0 ≤ k) : placeN l k < 0 ↔ placeFrom k 0 l = none := by
  unfold placeN
  cases hp : placeFrom k 0 l with
  | none => simp
  | some p =>
    have := place_nonneg hk (goodH_parts h).2.2.2 (more := 0) (by omega) (by omega) hp
    simp
    omega

end Go.Proofs.YtkamenidgkjodaaGreatDoor.M

namespace Go.Proofs.YtkamenidgkjodaaGreatDoor.M

/-- Lines from one place on up to another. -/
def seg (l : List ByteArray) (p q : Nat) : List ByteArray := (l.take q).drop p
/-- The lines that a hunk takes away. -/
def oldOf (l : List ByteArray) (x : Hk) : List ByteArray := seg l x.at_.toNat (x.at_ + x.gone).toNat
def patchFrom (l : List ByteArray) : Nat → List Hk → List ByteArray
  | p, [] => l.drop p
  | p, x :: hs => seg l p x.at_.toNat ++ x.new ++ patchFrom l (x.at_ + x.gone).toNat hs
def patchH (l : List ByteArray) (hs : List Hk) : List ByteArray := patchFrom l 0 hs
/-- Patch's two answers. -/
def patchOk (l : List ByteArray) (hs : List Hk) : Bool := goodB l && goodH l.length hs && goodB (patchH l hs)
def patchOf (l : List ByteArray) (hs : List Hk) : List ByteArray × Bool := if patchOk l hs = true then (patchH l hs, true) else ([], false)
theorem patch_step {l : List ByteArray} {hs : List Hk} {p j : Nat} {x : Hk} (h : hs[j]? = some x) : patchFrom l p (hs.drop j) = seg l p x.at_.toNat ++ x.new ++ patchFrom l (x.at_ + x.gone).toNat (hs.drop (j + 1)) := by
  rw [drop_at h, patchFrom]
theorem patch_end {l : List ByteArray} {hs : List Hk} {p j : Nat} (h : hs.length ≤ j) : patchFrom l p (hs.drop j) = l.drop p := by
  rw [List.drop_eq_nil_of_le h]; rfl
theorem seg_len (l : List ByteArray) (p q : Nat) : (seg l p q).length = min q l.length - p := by simp [seg]
/-- What is known of the hunks that are still to be done. -/
def restOk (many : Int) (hs : List Hk) (p : Nat) : Prop := ∃ e : Int, riseB many e hs = true ∧ (p : Int) ≤ e + 1
theorem rest_start {many : Int} {hs : List Hk} (h : goodH many hs = true) : restOk many (hs.drop 0) 0 := ⟨-1, (goodH_parts h).2.2.2, by omega⟩
theorem rest_step {many : Int} {hs : List Hk} {p j : Nat} {x : Hk} (hx : hs[j]? = some x) (h : restOk many (hs.drop j) p) :
    ∃ a g : Nat, x.at_ = a ∧ x.gone = g ∧ p ≤ a ∧ ((a + g : Nat) : Int) ≤ many ∧ linesB x.new = true ∧ nothing x = false ∧ restOk many (hs.drop (j + 1)) (a + g) := by
  obtain ⟨e, h1, h2⟩ := h
  rw [rise_step hx, Bool.and_eq_true, Bool.and_eq_true, decide_eq_true_eq] at h1
  obtain ⟨⟨hb, he⟩, hr⟩ := h1
  obtain ⟨q0, q1, q2, q3, q4⟩ := hunkB_parts hb
  exact ⟨x.at_.toNat, x.gone.toNat, by omega, by omega, by omega, by omega, q4, q3, x.at_ + x.gone, hr, by omega⟩
theorem goodB_lines {l : List ByteArray} (h : goodB l = true) : linesB l = true := by
  have h1 := goodB_len h
  simp only [linesB, Bool.and_eq_true, decide_eq_true_eq, List.all_eq_true]
  refine ⟨h1, fun s hs => ?_⟩
  obtain ⟨j, hj⟩ := List.mem_iff_getElem?.1 hs
  exact (goodB_at h hj).1

end Go.Proofs.YtkamenidgkjodaaGreatDoor.M

namespace Go.Proofs.YtkamenidgkjodaaGreatDoor.M

def backFrom (l : List ByteArray) : Int → List Hk → List Hk
  | _, [] => []
  | more, x :: hs => ⟨x.at_ + more, x.new.length, oldOf l x⟩ :: backFrom l (more + (x.new.length - x.gone)) hs
def backH (l : List ByteArray) (hs : List Hk) : List Hk := backFrom l 0 hs
def backOf (l : List ByteArray) (hs : List Hk) : List Hk × Bool := if patchOk l hs = true then (backH l hs, true) else ([], false)
theorem back_step {l : List ByteArray} {hs : List Hk} {more : Int} {j : Nat} {x : Hk} (h : hs[j]? = some x) : backFrom l more (hs.drop j) = ⟨x.at_ + more, x.new.length, oldOf l x⟩ :: backFrom l (more + (x.new.length - x.gone)) (hs.drop (j + 1)) := by
  rw [drop_at h, backFrom]
theorem back_end {l : List ByteArray} {hs : List Hk} {more : Int} {j : Nat} (h : hs.length ≤ j) : backFrom l more (hs.drop j) = [] := by
  rw [List.drop_eq_nil_of_le h]; rfl
theorem patchOk_parts {l : List ByteArray} {hs : List Hk} (h : patchOk l hs = true) : goodB l = true ∧ goodH l.length hs = true ∧ goodB (patchH l hs) = true := by
  simp only [patchOk, Bool.and_eq_true] at h
  exact ⟨h.1.1, h.1.2, h.2⟩
theorem patchOf_ok (l : List ByteArray) (hs : List Hk) : (patchOf l hs).2 = patchOk l hs := by
  unfold patchOf
  split
  · next h => rw [h]
  · next h => simp at h; rw [h]
theorem back_len (l : List ByteArray) : ∀ (hs : List Hk) (more : Int), (backFrom l more hs).length = hs.length
  | [], _ => rfl
  | x :: hs, more => by simp [backFrom, back_len l hs]
/-- The lines of lists of hunks that are not too great. -/
theorem total_le {l : List ByteArray} {b : Nat} (h : ∀ s ∈ l, s.size ≤ b) : total l ≤ l.length * b := by
  induction l with
  | nil => simp [total]
  | cons s l ih =>
    have h1 := h s (by simp)
    have h2 := ih (fun t ht => h t (by simp [ht]))
    simp only [total, List.length_cons, Nat.add_mul, Nat.one_mul]
    omega
theorem totalH_le {l : List Hk} {b : Nat} (h : ∀ x ∈ l, x.new.length + total x.new ≤ b) : totalH l ≤ l.length * b := by
  induction l with
  | nil => simp [totalH]
  | cons s l ih =>
    have h1 := h s (by simp)
    have h2 := ih (fun t ht => h t (by simp [ht]))
    simp only [totalH, List.length_cons, Nat.add_mul, Nat.one_mul]
    omega
theorem lines_total {l : List ByteArray} (h : linesB l = true) : l.length + total l ≤ 1240 := by
  have h1 := linesB_len h
  have h2 : total l ≤ l.length * 30 := total_le (fun s hs => (lineB_size (linesB_mem h hs)).2)
  have h3 : l.length * 30 ≤ 40 * 30 := Nat.mul_le_mul_right _ h1
  omega
theorem linesB_seg {l : List ByteArray} (h : linesB l = true) (p q : Nat) : linesB (seg l p q) = true := by
  simp only [linesB, Bool.and_eq_true, decide_eq_true_eq, List.all_eq_true] at h ⊢
  refine ⟨by rw [seg_len]; omega, fun s hs => h.2 s (List.mem_of_mem_take (List.mem_of_mem_drop hs))⟩
theorem goodH_total {many : Int} {l : List Hk} (h : goodH many l = true) : l.length + totalH l ≤ 30000 := by
  obtain ⟨h1, h2, h3, h4⟩ := goodH_parts h
  have h5 : totalH l ≤ l.length * 1240 := totalH_le (fun x hx => lines_total (hunkB_parts (rise_mem h4 hx)).2.2.2.2)
  have h6 : l.length * 1240 ≤ 20 * 1240 := Nat.mul_le_mul_right _ h3
  omega
theorem back_mem {l : List ByteArray} {x : Hk} : ∀ {hs : List Hk} {more : Int}, x ∈ backFrom l more hs → ∃ y ∈ hs, x.new = oldOf l y
  | [], _, h => by simp [backFrom] at h
  | y :: hs, more, h => by
    rcases List.mem_cons.1 h with rfl | h
    · exact ⟨y, by simp, rfl⟩
    · obtain ⟨z, hz, e⟩ := back_mem h
      exact ⟨z, by simp [hz], e⟩
theorem backOf_len (l : List ByteArray) (hs : List Hk) : (backOf l hs).1.length + totalH (backOf l hs).1 ≤ 30000 := by
  unfold backOf
  split
  · next h =>
    obtain ⟨h1, h2, h3⟩ := patchOk_parts h
    have h4 : (backH l hs).length ≤ 20 := by unfold backH; rw [back_len]; exact (goodH_parts h2).2.2.1
    have h5 : totalH (backH l hs) ≤ (backH l hs).length * 1240 := totalH_le (fun x hx => by
      obtain ⟨y, _, e⟩ := back_mem hx
      rw [e]
      exact lines_total (linesB_seg (goodB_lines h1) _ _))
    have h6 : (backH l hs).length * 1240 ≤ 20 * 1240 := Nat.mul_le_mul_right _ h4
    dsimp only
    omega
  · simp [totalH]

end Go.Proofs.YtkamenidgkjodaaGreatDoor.M

namespace Go.Proofs.YtkamenidgkjodaaGreatDoor.M

theorem goodB_mk {l : List ByteArray} (h0 : l.length ≤ 40) (h : ∀ (j : Nat) s, l[j]? = some s → lineB s = true ∧ (j + 1 < l.length → endsB s = true)) : goodB l = true := by
  rw [goodB_ok (fun j s hj => ?_)]
  · simpa using h0
  · obtain ⟨h1, h2⟩ := h j s hj
    unfold okAt
    rw [h1]
    by_cases e : j + 1 < l.length
    · simp [h2 e]
    · have : decide (l.length ≤ j + 1) = true := by simp; omega
      simp [this]
theorem goodB_seg {l : List ByteArray} (h : goodB l = true) (p q : Nat) : goodB (seg l p q) = true := by
  refine goodB_mk (by rw [seg_len]; have := goodB_len h; omega) (fun j s hj => ?_)
  unfold seg at hj
  rw [List.getElem?_drop, List.getElem?_take] at hj
  split at hj
  · obtain ⟨h1, h2⟩ := goodB_at h hj
    refine ⟨h1, fun hl => h2 ?_⟩
    rw [seg_len] at hl
    have := (List.getElem?_eq_some_iff.1 hj).1
    omega
  · cases hj
theorem goodB_mid {a b c : List ByteArray} (h : goodB (a ++ b ++ c) = true) : goodB b = true := by
  have := goodB_seg h a.length (a.length + b.length)
  unfold seg at this
  rwa [List.take_append_of_le_length (by simp), List.take_of_length_le (by simp), List.drop_left] at this
theorem patch_infix {l : List ByteArray} {x : Hk} : ∀ {hs : List Hk} {p : Nat}, x ∈ hs → ∃ a c, patchFrom l p hs = a ++ x.new ++ c
  | [], p, h => by simp at h
  | y :: hs, p, h => by
    rcases List.mem_cons.1 h with rfl | h
    · exact ⟨_, _, rfl⟩
    · obtain ⟨a, c, e⟩ := patch_infix (p := (y.at_ + y.gone).toNat) h
      exact ⟨seg l p y.at_.toNat ++ y.new ++ a, c, by rw [patchFrom, e]; simp [List.append_assoc]⟩
theorem new_good {l : List ByteArray} {hs : List Hk} (h : patchOk l hs = true) {x : Hk} (hx : x ∈ hs) : goodB x.new = true := by
  obtain ⟨a, c, e⟩ := patch_infix (l := l) (p := 0) hx
  have h1 := (patchOk_parts h).2.2
  unfold patchH at h1
  rw [e] at h1
  exact goodB_mid h1
theorem behind_le (l r : List ByteArray) : aheadT l r + behindT l r ≤ l.length ∧ aheadT l r + behindT l r ≤ r.length := by
  have h1 := upto_le (aheadP l r) (min l.length r.length) 0
  have h2 := upto_le (behindP l r) (min l.length r.length - aheadT l r) 0
  unfold behindT
  unfold aheadT at *
  omega
/-- A hunk without what is the same at its beginning and its end. -/
def trimOne (l : List ByteArray) (x : Hk) : Hk := ⟨x.at_ + aheadT (oldOf l x) x.new, x.gone - aheadT (oldOf l x) x.new - behindT (oldOf l x) x.new, seg x.new (aheadT (oldOf l x) x.new) (x.new.length - behindT (oldOf l x) x.new)⟩
def trimH (l : List ByteArray) : List Hk → List Hk
  | [] => []
  | x :: hs => if nothing (trimOne l x) = true then trimH l hs else trimOne l x :: trimH l hs
def trimOf (l : List ByteArray) (hs : List Hk) : List Hk × Bool := if patchOk l hs = true then (trimH l hs, true) else ([], false)
theorem trim_no {l : List ByteArray} {hs : List Hk} {j : Nat} {x : Hk} (h : hs[j]? = some x) (hn : nothing (trimOne l x) = true) : trimH l (hs.drop j) = trimH l (hs.drop (j + 1)) := by
  rw [drop_at h, trimH, if_pos hn]
theorem trim_yes {l : List ByteArray} {hs : List Hk} {j : Nat} {x : Hk} (h : hs[j]? = some x) (hn : nothing (trimOne l x) = false) : trimH l (hs.drop j) = trimOne l x :: trimH l (hs.drop (j + 1)) := by
  rw [drop_at h, trimH, if_neg (by rw [hn]; simp)]
theorem trim_end {l : List ByteArray} {hs : List Hk} {j : Nat} (h : hs.length ≤ j) : trimH l (hs.drop j) = [] := by
  rw [List.drop_eq_nil_of_le h]; rfl
theorem trim_mem {l : List ByteArray} {x : Hk} : ∀ {hs : List Hk}, x ∈ trimH l hs → ∃ y ∈ hs, x = trimOne l y
  | [], h => by simp [trimH] at h
  | y :: hs, h => by
    unfold trimH at h
    split at h
    · obtain ⟨z, hz, e⟩ := trim_mem h
      exact ⟨z, by simp [hz], e⟩
    · rcases List.mem_cons.1 h with rfl | h
      · exact ⟨y, by simp, rfl⟩
      · obtain ⟨z, hz, e⟩ := trim_mem h
        exact ⟨z, by simp [hz], e⟩
theorem trim_len (l : List ByteArray) : ∀ (hs : List Hk), (trimH l hs).length ≤ hs.length
  | [] => by simp [trimH]
  | x :: hs => by
    unfold trimH
    have := trim_len l hs
    split
    · simp only [List.length_cons]; omega
    · simp only [List.length_cons]; omega
theorem trimOf_len (l : List ByteArray) (hs : List Hk) : (trimOf l hs).1.length + totalH (trimOf l hs).1 ≤ 30000 := by
  unfold trimOf
  split
  · next h =>
    obtain ⟨h1, h2, h3⟩ := patchOk_parts h
    have h4 : (trimH l hs).length ≤ 20 := Nat.le_trans (trim_len l hs) (goodH_parts h2).2.2.1
    have h5 : totalH (trimH l hs) ≤ (trimH l hs).length * 1240 := totalH_le (fun x hx => by
      obtain ⟨y, hy, e⟩ := trim_mem hx
      rw [e]
      exact lines_total (linesB_seg (hunkB_parts (rise_mem (goodH_parts h2).2.2.2 hy)).2.2.2.2 _ _))
    have h6 : (trimH l hs).length * 1240 ≤ 20 * 1240 := Nat.mul_le_mul_right _ h4
    dsimp only
    omega
  · simp [totalH]

end Go.Proofs.YtkamenidgkjodaaGreatDoor.M

namespace Go.Proofs.YtkamenidgkjodaaGreatDoor.M

/-- The same as rest_step, at the list's head. -/
theorem rest_cons {many : Int} {x : Hk} {hs : List Hk} {p : Nat} (h : restOk many (x :: hs) p) :
    ∃ a g : Nat, x.at_ = a ∧ x.gone = g ∧ p ≤ a ∧ ((a + g : Nat) : Int) ≤ many ∧ linesB x.new = true ∧ nothing x = false ∧ restOk many hs (a + g) ∧ restOk many hs (a + g + 1) := by
  obtain ⟨e, h1, h2⟩ := h
  rw [riseB, Bool.and_eq_true, Bool.and_eq_true, decide_eq_true_eq] at h1
  obtain ⟨⟨hb, he⟩, hr⟩ := h1
  obtain ⟨q0, q1, q2, q3, q4⟩ := hunkB_parts hb
  exact ⟨x.at_.toNat, x.gone.toNat, by omega, by omega, by omega, by omega, q4, q3, ⟨x.at_ + x.gone, hr, by omega⟩, ⟨x.at_ + x.gone, hr, by omega⟩⟩
theorem seg_get {l : List ByteArray} {p q i : Nat} (h : p + i < q) : (seg l p q)[i]? = l[p + i]? := by
  unfold seg
  rw [List.getElem?_drop, List.getElem?_take, if_pos h]
theorem place_before {k : Nat} : ∀ {many : Int} {hs : List Hk} {more : Int}, restOk many hs (k + 1) → placeFrom k more hs = some (k + more)
  | many, [], more, _ => rfl
  | many, x :: hs, more, h => by
    obtain ⟨a, g, ea, eg, h1, h2, _, _, h3, _⟩ := rest_cons h
    obtain ⟨e, hr, he⟩ := h3
    unfold placeFrom
    rw [if_neg (by omega), if_neg (by omega)]
    exact place_before ⟨e, hr, by omega⟩
theorem place_main {l : List ByteArray} {k : Nat} : ∀ {hs : List Hk} {p : Nat} {more r : Int}, restOk l.length hs p → p ≤ k → placeFrom k more hs = some r → (p : Int) + more ≤ r ∧ (patchFrom l p hs)[(r - p - more).toNat]? = l[k]?
  | [], p, more, r, _, hp, h => by
    simp only [placeFrom, Option.some.injEq] at h
    refine ⟨by omega, ?_⟩
    rw [patchFrom, List.getElem?_drop, show p + (r - ↑p - more).toNat = k from by omega]
  | x :: hs, p, more, r, hr, hp, h => by
    obtain ⟨a, g, ea, eg, h1, h2, _, _, h3, h4⟩ := rest_cons hr
    have hal : a + g ≤ l.length := by omega
    unfold placeFrom at h
    rw [ea, eg] at h
    rw [patchFrom, ea, eg, Int.toNat_natCast, show ((a : Int) + (g : Int)).toNat = a + g from by omega]
    have hsl : (seg l p a).length = a - p := by rw [seg_len]; omega
    split at h
    · obtain ⟨i1, i2⟩ := place_main h3 (by omega) h
      refine ⟨by omega, ?_⟩
      rw [← i2, List.getElem?_append_right (by simp [hsl]; omega)]
      congr 1
      simp [hsl]
      omega
    · split at h
      · cases h
      · rw [place_before (many := l.length) (by obtain ⟨e, hr, he⟩ := h4; exact ⟨e, hr, by omega⟩)] at h
        injection h with h
        refine ⟨by omega, ?_⟩
        rw [List.append_assoc, List.getElem?_append_left (by rw [hsl]; omega), seg_get (by omega)]
        congr 1
        omega
theorem place_mono {l : List ByteArray} {k1 k2 : Nat} (hk : k1 < k2) : ∀ {hs : List Hk} {p : Nat} {more r1 r2 : Int}, restOk l.length hs p → placeFrom k1 more hs = some r1 → placeFrom k2 more hs = some r2 → r1 < r2
  | [], p, more, r1, r2, _, h1, h2 => by
    simp only [placeFrom, Option.some.injEq] at h1 h2
    omega
  | x :: hs, p, more, r1, r2, hr, h1, h2 => by
    obtain ⟨a, g, ea, eg, _, _, _, _, h3, h4⟩ := rest_cons hr
    unfold placeFrom at h1 h2
    rw [ea, eg] at h1 h2
    split at h1
    · rw [if_pos (by omega)] at h2
      exact place_mono hk h3 h1 h2
    · split at h1
      · cases h1
      · rw [place_before (many := l.length) (by obtain ⟨e, hr, he⟩ := h4; exact ⟨e, hr, by omega⟩)] at h1
        injection h1 with h1
        split at h2
        · have := (place_main (l := l) h3 (by omega) h2).1
          omega
        · split at h2
          · cases h2
          · rw [place_before (many := l.length) (by obtain ⟨e, hr, he⟩ := h4; exact ⟨e, hr, by omega⟩)] at h2
            injection h2 with h2
            omega
/-- A line that stays, its place and its text. -/
theorem place_at {l : List ByteArray} {hs : List Hk} (hg : goodH l.length hs = true) {k : Nat} (hk : k < l.length) (h0 : 0 ≤ placeN hs k) :
    ∃ r : Nat, placeFrom k 0 hs = some (r : Int) ∧ placeN hs k = r ∧ (patchH l hs)[r]? = l[k]? ∧ r < (patchH l hs).length := by
  cases hp : placeFrom k 0 hs with
  | none => unfold placeN at h0; rw [hp] at h0; simp at h0
  | some r =>
    have hn : placeN hs k = r := by unfold placeN; rw [hp]; rfl
    obtain ⟨h1, h2⟩ := place_main (l := l) (p := 0) (by have := rest_start hg; simpa using this) (Nat.zero_le _) hp
    have hr : r = ((r.toNat : Nat) : Int) := by omega
    refine ⟨r.toNat, by rw [← hr], by omega, ?_, ?_⟩
    · have : (r - (0 : Nat) - 0).toNat = r.toNat := by omega
      rw [this] at h2
      exact h2
    · have : (r - (0 : Nat) - 0).toNat = r.toNat := by omega
      rw [this, List.getElem?_eq_getElem hk] at h2
      exact (List.getElem?_eq_some_iff.1 h2).1

end Go.Proofs.YtkamenidgkjodaaGreatDoor.M

namespace Go.Proofs.YtkamenidgkjodaaGreatDoor.M

/-- Pairs of places that rise in both. -/
def rises : Nat → Nat → List (Nat × Nat) → Prop
  | _, _, [] => True
  | i, j, s :: t => i ≤ s.1 ∧ j ≤ s.2 ∧ rises (s.1 + 1) (s.2 + 1) t
theorem rises_snoc {t : Nat × Nat} : ∀ {L : List (Nat × Nat)} {i j : Nat}, rises i j L → (∀ s ∈ L, s.1 < t.1 ∧ s.2 < t.2) → i ≤ t.1 → j ≤ t.2 → rises i j (L ++ [t])
  | [], i, j, _, _, h1, h2 => ⟨h1, h2, trivial⟩
  | s :: L, i, j, h, hs, h1, h2 => by
    obtain ⟨a, b, c⟩ := h
    have := hs s (by simp)
    exact ⟨a, b, rises_snoc c (fun s hs' => hs s (by simp [hs'])) (by omega) (by omega)⟩
/-- A line that both leave: its place, and its place behind both. -/
def stayOf (a b : List Hk) (k : Nat) : Option (Nat × Nat) := if 0 ≤ placeN a k ∧ 0 ≤ placeN b (placeN a k) then some (k, (placeN b (placeN a k)).toNat) else none
def staysTo (a b : List Hk) (n : Nat) : List (Nat × Nat) := (List.range n).filterMap (stayOf a b)
theorem stays_step (a b : List Hk) (n : Nat) : staysTo a b (n + 1) = staysTo a b n ++ (stayOf a b n).toList := by
  unfold staysTo
  rw [List.range_succ, List.filterMap_append]
  cases h : stayOf a b n <;> simp [h]
theorem stays_len (a b : List Hk) : ∀ n, (staysTo a b n).length ≤ n
  | 0 => by simp [staysTo]
  | n + 1 => by
    rw [stays_step, List.length_append]
    have := stays_len a b n
    cases stayOf a b n <;> simp <;> omega
theorem stays_mem {a b : List Hk} {n : Nat} {s : Nat × Nat} (h : s ∈ staysTo a b n) : s.1 < n ∧ stayOf a b s.1 = some s := by
  unfold staysTo at h
  rw [List.mem_filterMap] at h
  obtain ⟨k, hk, e⟩ := h
  rw [List.mem_range] at hk
  have : s.1 = k := by
    unfold stayOf at e
    split at e
    · injection e with e; rw [← e]
    · cases e
  rw [this]
  exact ⟨hk, e⟩
theorem stay_parts {l : List ByteArray} {a b : List Hk} (ha : goodH l.length a = true) (hb : goodH (patchH l a).length b = true) {k : Nat} (hk : k < l.length) {s : Nat × Nat} (h : stayOf a b k = some s) :
    s.1 = k ∧ ∃ p : Nat, placeFrom k 0 a = some (p : Int) ∧ p < (patchH l a).length ∧ placeFrom p 0 b = some (s.2 : Int) ∧ s.2 < (patchH (patchH l a) b).length ∧ (patchH (patchH l a) b)[s.2]? = l[k]? := by
  unfold stayOf at h
  split at h
  · next h0 =>
    injection h with h
    obtain ⟨p, p1, p2, p3, p4⟩ := place_at ha hk h0.1
    rw [p2] at h0 h
    obtain ⟨q, q1, q2, q3, q4⟩ := place_at hb p4 h0.2
    rw [q2] at h
    have hs : s.2 = q := by rw [← h]; simp
    refine ⟨by rw [← h], p, p1, p4, by rw [hs]; exact q1, by rw [hs]; exact q4, by rw [hs, q3, p3]⟩
  · cases h
theorem stays_rise {l : List ByteArray} {a b : List Hk} (ha : goodH l.length a = true) (hb : goodH (patchH l a).length b = true) : ∀ n, n ≤ l.length → rises 0 0 (staysTo a b n)
  | 0, _ => trivial
  | n + 1, hn => by
    rw [stays_step]
    have ih := stays_rise ha hb n (by omega)
    cases h : stayOf a b n with
    | none => simpa using ih
    | some s =>
      obtain ⟨e, p, p1, p2, p3, _, _⟩ := stay_parts ha hb (by omega) h
      refine rises_snoc ih (fun t ht => ?_) (by omega) (by omega)
      obtain ⟨t1, t2⟩ := stays_mem ht
      obtain ⟨e', p', p1', p2', p3', _, _⟩ := stay_parts ha hb (show t.1 < l.length by omega) t2
      have h5 := place_mono (l := l) (show t.1 < n from t1) (p := 0) (by have := rest_start ha; simpa using this) p1' p1
      have h6 := place_mono (l := patchH l a) (show p' < p by omega) (p := 0) (by have := rest_start hb; simpa using this) p3' p3
      omega
def stopsOf (l : List ByteArray) (a b : List Hk) : List (Nat × Nat) := staysTo a b l.length ++ [(l.length, (patchH (patchH l a) b).length)]
theorem stops_rise {l : List ByteArray} {a b : List Hk} (ha : goodH l.length a = true) (hb : goodH (patchH l a).length b = true) : rises 0 0 (stopsOf l a b) := by
  refine rises_snoc (stays_rise ha hb _ (Nat.le_refl _)) (fun t ht => ?_) (by simp) (by simp)
  obtain ⟨t1, t2⟩ := stays_mem ht
  obtain ⟨e', p', p1', p2', p3', h5, _⟩ := stay_parts ha hb t1 t2
  exact ⟨t1, h5⟩
theorem stops_le {l : List ByteArray} {a b : List Hk} (ha : goodH l.length a = true) (hb : goodH (patchH l a).length b = true) {s : Nat × Nat} (h : s ∈ stopsOf l a b) : s.1 ≤ l.length ∧ s.2 ≤ (patchH (patchH l a) b).length := by
  rcases List.mem_append.1 h with h | h
  · obtain ⟨t1, t2⟩ := stays_mem h
    obtain ⟨e', p', p1', p2', p3', h5, _⟩ := stay_parts ha hb t1 t2
    omega
  · simp at h; rw [h]; exact ⟨Nat.le_refl _, Nat.le_refl _⟩
/-- Hunks of all that stands between. -/
def joinOne (last : List ByteArray) (i j : Nat) (s : Nat × Nat) : Hk := ⟨i, (s.1 : Int) - i, seg last j s.2⟩
def joinFrom (last : List ByteArray) : Nat → Nat → List (Nat × Nat) → List Hk
  | _, _, [] => []
  | i, j, s :: t => if i < s.1 ∨ j < s.2 then joinOne last i j s :: joinFrom last (s.1 + 1) (s.2 + 1) t else joinFrom last (s.1 + 1) (s.2 + 1) t
def joinH (l : List ByteArray) (a b : List Hk) : List Hk := joinFrom (patchH (patchH l a) b) 0 0 (stopsOf l a b)
def joinOk (l : List ByteArray) (a b : List Hk) : Bool := patchOk l a && patchOk (patchH l a) b && goodH l.length (joinH l a b)
def joinOf (l : List ByteArray) (a b : List Hk) : List Hk × Bool := if joinOk l a b = true then (joinH l a b, true) else ([], false)
theorem join_yes {last : List ByteArray} {i j k : Nat} {L : List (Nat × Nat)} {s : Nat × Nat} (h : L[k]? = some s) (hn : i < s.1 ∨ j < s.2) : joinFrom last i j (L.drop k) = joinOne last i j s :: joinFrom last (s.1 + 1) (s.2 + 1) (L.drop (k + 1)) := by
  rw [drop_at h, joinFrom, if_pos hn]
theorem join_no {last : List ByteArray} {i j k : Nat} {L : List (Nat × Nat)} {s : Nat × Nat} (h : L[k]? = some s) (hn : ¬ (i < s.1 ∨ j < s.2)) : joinFrom last i j (L.drop k) = joinFrom last (s.1 + 1) (s.2 + 1) (L.drop (k + 1)) := by
  rw [drop_at h, joinFrom, if_neg hn]
theorem join_end {last : List ByteArray} {i j k : Nat} {L : List (Nat × Nat)} (h : L.length ≤ k) : joinFrom last i j (L.drop k) = [] := by
  rw [List.drop_eq_nil_of_le h]; rfl
theorem rises_step {i j k : Nat} {L : List (Nat × Nat)} {s : Nat × Nat} (h : L[k]? = some s) (hr : rises i j (L.drop k)) : i ≤ s.1 ∧ j ≤ s.2 ∧ rises (s.1 + 1) (s.2 + 1) (L.drop (k + 1)) := by
  rw [drop_at h] at hr
  exact hr
theorem joinOf_len (l : List ByteArray) (a b : List Hk) : (joinOf l a b).1.length + totalH (joinOf l a b).1 ≤ 30000 := by
  unfold joinOf
  split
  · next h =>
    simp only [joinOk, Bool.and_eq_true] at h
    exact goodH_total h.2
  · simp [totalH]
theorem stops_len (l : List ByteArray) (a b : List Hk) : (stopsOf l a b).length ≤ l.length + 1 := by
  unfold stopsOf
  have := stays_len a b l.length
  simp
  omega

end Go.Proofs.YtkamenidgkjodaaGreatDoor.M

namespace Go.Proofs.YtkamenidgkjodaaGreatDoor.M

theorem seg_drop {l : List ByteArray} {p q : Nat} (h : p ≤ q) : seg l p q ++ l.drop q = l.drop p := by
  unfold seg
  rcases Nat.le_total l.length q with h1 | h1
  · rw [List.take_of_length_le h1, List.drop_eq_nil_of_le h1, List.append_nil]
  · have h2 := List.take_append_drop q l
    have h3 : l.drop p = (l.take q ++ l.drop q).drop p := by rw [h2]
    rw [h3, List.drop_append_of_le_length (by simp; omega)]
theorem seg_seg {l : List ByteArray} {p q r : Nat} (h1 : p ≤ q) (h2 : q ≤ r) : seg l p q ++ seg l q r = seg l p r := by
  have h := seg_drop (l := l.take r) h1
  unfold seg at *
  rw [List.take_take, Nat.min_eq_left h2] at h
  exact h
theorem seg_mid (a b c : List ByteArray) : seg (a ++ b ++ c) a.length (a.length + b.length) = b := by
  unfold seg
  rw [List.take_append_of_le_length (by simp), List.take_of_length_le (by simp), List.drop_left]
/-- All lines that go, and all that come. -/
def goneSum : List Hk → Int
  | [] => 0
  | x :: hs => x.gone + goneSum hs
def comeSum : List Hk → Int
  | [] => 0
  | x :: hs => x.new.length + comeSum hs
theorem patch_len {l : List ByteArray} : ∀ {hs : List Hk} {p : Nat}, restOk l.length hs p → p ≤ l.length → ((patchFrom l p hs).length : Int) = l.length - p - goneSum hs + comeSum hs
  | [], p, _, hp => by simp [patchFrom, goneSum, comeSum]; omega
  | x :: hs, p, h, hp => by
    obtain ⟨a, g, ea, eg, h1, h2, _, _, h3, _⟩ := rest_cons h
    have ih := patch_len h3 (by omega)
    rw [patchFrom, ea, eg, Int.toNat_natCast, show ((a : Int) + (g : Int)).toNat = a + g from by omega, List.length_append, List.length_append, seg_len, goneSum, comeSum, eg]
    omega
theorem back_main {l : List ByteArray} (hgl : linesB l = true) : ∀ {hs : List Hk} {p : Nat} {e more : Int} {pre : List ByteArray}, riseB l.length e hs = true → (p : Int) ≤ e + 1 → p ≤ l.length → (pre.length : Int) = p + more →
    patchFrom (pre ++ patchFrom l p hs) pre.length (backFrom l more hs) = l.drop p ∧ backFrom (pre ++ patchFrom l p hs) (-more) (backFrom l more hs) = hs ∧ riseB (pre ++ patchFrom l p hs).length (e + more) (backFrom l more hs) = true
  | [], p, e, more, pre, _, _, _, _ => by
    refine ⟨?_, rfl, rfl⟩
    rw [backFrom, patchFrom, patchFrom, List.drop_left]
  | x :: hs, p, e, more, pre, hr, hp, hpl, hpre => by
    rw [riseB, Bool.and_eq_true, Bool.and_eq_true, decide_eq_true_eq] at hr
    obtain ⟨⟨hb, he⟩, hr⟩ := hr
    obtain ⟨q0, q1, q2, q3, q4⟩ := hunkB_parts hb
    obtain ⟨a, ea⟩ : ∃ a : Nat, x.at_ = a := ⟨x.at_.toNat, by omega⟩
    obtain ⟨g, eg⟩ : ∃ g : Nat, x.gone = g := ⟨x.gone.toNat, by omega⟩
    obtain ⟨m, em⟩ : ∃ m : Nat, x.new.length = m := ⟨_, rfl⟩
    have hsl : (seg l p a).length = a - p := by rw [seg_len]; omega
    have hol : (oldOf l x).length = g := by unfold oldOf; rw [seg_len, ea, eg]; omega
    have hold : oldOf l x = seg l a (a + g) := by unfold oldOf; rw [ea, eg, Int.toNat_natCast, show ((a : Int) + (g : Int)).toNat = a + g from by omega]
    obtain ⟨i1, i2, i3⟩ := back_main hgl (hs := hs) (p := a + g) (e := x.at_ + x.gone) (more := more + (x.new.length - x.gone)) (pre := pre ++ seg l p a ++ x.new) hr (by omega) (by omega) (by simp only [List.length_append, hsl]; omega)
    have hP : pre ++ patchFrom l p (x :: hs) = pre ++ seg l p a ++ x.new ++ patchFrom l (a + g) hs := by
      rw [patchFrom, ea, eg, Int.toNat_natCast, show ((a : Int) + (g : Int)).toNat = a + g from by omega]
      simp only [List.append_assoc]
    have hn1 : (x.at_ + more).toNat = pre.length + (a - p) := by omega
    have hn2 : (x.at_ + more + (x.new.length : Int)).toNat = (pre ++ seg l p a ++ x.new).length := by simp only [List.length_append, hsl]; omega
    have hs1 : seg (pre ++ seg l p a ++ x.new ++ patchFrom l (a + g) hs) pre.length (pre.length + (a - p)) = seg l p a := by
      have := seg_mid pre (seg l p a) (x.new ++ patchFrom l (a + g) hs)
      rw [hsl] at this
      rw [List.append_assoc (pre ++ seg l p a)]
      exact this
    have hs2 : seg (pre ++ seg l p a ++ x.new ++ patchFrom l (a + g) hs) (pre.length + (a - p)) (pre ++ seg l p a ++ x.new).length = x.new := by
      have := seg_mid (pre ++ seg l p a) x.new (patchFrom l (a + g) hs)
      rw [show (pre ++ seg l p a ++ x.new).length = (pre ++ seg l p a).length + x.new.length from by simp [List.length_append]; omega, show pre.length + (a - p) = (pre ++ seg l p a).length from by rw [List.length_append, hsl]]
      exact this
    rw [hP, backFrom]
    refine ⟨?_, ?_, ?_⟩
    · rw [patchFrom]
      dsimp only
      rw [hn1, hn2, hs1, i1, hold, List.append_assoc, seg_drop (by omega), seg_drop (by omega)]
    · rw [backFrom]
      dsimp only
      rw [hol, show -more + ((g : Int) - (x.new.length : Int)) = -(more + ((x.new.length : Int) - x.gone)) from by rw [eg]; omega, i2]
      have h5 : oldOf (pre ++ seg l p a ++ x.new ++ patchFrom l (a + g) hs) ⟨x.at_ + more, (x.new.length : Int), oldOf l x⟩ = x.new := by
        unfold oldOf
        dsimp only
        rw [hn1, hn2, hs2]
      rw [h5]
      congr 1
      exact Hk.ext_ (by dsimp only; omega) (by dsimp only; omega) rfl
    · rw [riseB, Bool.and_eq_true, Bool.and_eq_true, decide_eq_true_eq]
      dsimp only
      refine ⟨⟨?_, by omega⟩, ?_⟩
      · simp only [hunkB, Bool.and_eq_true, decide_eq_true_eq, Bool.not_eq_true']
        refine ⟨⟨⟨⟨by omega, by omega⟩, ?_⟩, ?_⟩, ?_⟩
        · simp only [List.length_append, hsl]; omega
        · have h6 := q3
          rw [Bool.eq_false_iff] at h6 ⊢
          intro h7
          apply h6
          simp only [nothing, Bool.and_eq_true, decide_eq_true_eq, hol] at h7 ⊢
          omega
        · rw [hold]; exact linesB_seg hgl _ _
      · rw [show x.at_ + more + (x.new.length : Int) = x.at_ + x.gone + (more + ((x.new.length : Int) - x.gone)) from by omega]
        exact i3
/-- What is patched is patched back. -/
theorem patch_back {l : List ByteArray} {hs : List Hk} (h : patchOk l hs = true) : patchOk (patchH l hs) (backH l hs) = true ∧ patchH (patchH l hs) (backH l hs) = l ∧ backH (patchH l hs) (backH l hs) = hs ∧ goodH (patchH l hs).length (backH l hs) = true := by
  obtain ⟨h1, h2, h3⟩ := patchOk_parts h
  obtain ⟨g1, g2, g3, g4⟩ := goodH_parts h2
  obtain ⟨i1, i2, i3⟩ := back_main (goodB_lines h1) (hs := hs) (p := 0) (e := -1) (more := 0) (pre := []) g4 (by omega) (by omega) (by simp)
  simp only [List.nil_append, List.length_nil, List.drop_zero, Int.neg_zero, Int.add_zero] at i1 i2 i3
  have hg : goodH (patchH l hs).length (backH l hs) = true := by
    have h5 := goodB_len h3
    simp only [goodH, Bool.and_eq_true, decide_eq_true_eq]
    exact ⟨⟨⟨by omega, by omega⟩, by unfold backH; rw [back_len]; exact g3⟩, i3⟩
  refine ⟨?_, i1, i2, hg⟩
  simp only [patchOk, Bool.and_eq_true]
  exact ⟨⟨h3, hg⟩, by show goodB (patchFrom _ 0 _) = true; unfold patchH backH; rw [i1]; exact h1⟩

end Go.Proofs.YtkamenidgkjodaaGreatDoor.M

namespace Go.Proofs.YtkamenidgkjodaaGreatDoor.M

theorem upto_all (p : Nat → Bool) : ∀ (f k i : Nat), k ≤ i → i < upto p f k → p i = true
  | 0, k, i, h1, h2 => by simp [upto] at h2; omega
  | f + 1, k, i, h1, h2 => by
    unfold upto at h2
    split at h2
    · next hk =>
      by_cases e : i = k
      · rw [e]; exact hk
      · exact upto_all p f (k + 1) i (by omega) h2
    · omega
theorem upto_stop (p : Nat → Bool) : ∀ (f k : Nat), upto p f k = k + f ∨ p (upto p f k) = false
  | 0, k => .inl rfl
  | f + 1, k => by
    unfold upto
    split
    · rcases upto_stop p f (k + 1) with h | h
      · exact .inl (by omega)
      · exact .inr h
    · next hk => exact .inr (by simpa using hk)
theorem ahead_same {l r : List ByteArray} : l.take (aheadT l r) = r.take (aheadT l r) := by
  apply List.ext_getElem?
  intro j
  rw [List.getElem?_take, List.getElem?_take]
  split
  · next h =>
    have := upto_all (aheadP l r) _ 0 j (by omega) h
    simpa [aheadP] using this
  · rfl
theorem ahead_end {l r : List ByteArray} (h1 : aheadT l r < l.length) (h2 : aheadT l r < r.length) : l[aheadT l r]? ≠ r[aheadT l r]? := by
  rcases upto_stop (aheadP l r) (min l.length r.length) 0 with h | h
  · unfold aheadT at h1 h2; omega
  · intro e
    have : aheadP l r (aheadT l r) = true := by simp [aheadP, e]
    rw [show aheadP l r (aheadT l r) = false from h] at this
    cases this
theorem behind_same {l r : List ByteArray} : l.drop (l.length - behindT l r) = r.drop (r.length - behindT l r) := by
  obtain ⟨h1, h2⟩ := behind_le l r
  apply List.ext_getElem?
  intro j
  rw [List.getElem?_drop, List.getElem?_drop]
  by_cases hj : j < behindT l r
  · have h3 := upto_all (behindP l r) _ 0 (behindT l r - 1 - j) (by omega) (show behindT l r - 1 - j < behindT l r by omega)
    simp only [behindP, decide_eq_true_eq] at h3
    rw [show l.length - behindT l r + j = l.length - 1 - (behindT l r - 1 - j) from by omega, show r.length - behindT l r + j = r.length - 1 - (behindT l r - 1 - j) from by omega]
    exact h3
  · rw [List.getElem?_eq_none (by omega), List.getElem?_eq_none (by omega)]
theorem behind_end {l r : List ByteArray} (h1 : aheadT l r + behindT l r < l.length) (h2 : aheadT l r + behindT l r < r.length) : l[l.length - 1 - behindT l r]? ≠ r[r.length - 1 - behindT l r]? := by
  rcases upto_stop (behindP l r) (min l.length r.length - aheadT l r) 0 with h | h
  · have h5 : behindT l r = 0 + (min l.length r.length - aheadT l r) := h
    omega
  · intro e
    have : behindP l r (behindT l r) = true := by simp [behindP, e]
    rw [show behindP l r (behindT l r) = false from h] at this
    cases this
theorem ahead_zero {l r : List ByteArray} (h : l.length = 0 ∨ r.length = 0 ∨ l[0]? ≠ r[0]?) : aheadT l r = 0 := by
  unfold aheadT
  refine upto_is (Nat.zero_le _) (fun j hj => by omega) ?_
  rcases h with h | h | h
  · exact .inl (by omega)
  · exact .inl (by omega)
  · exact .inr (by simpa [aheadP] using h)
theorem behind_zero {l r : List ByteArray} (h : l.length = 0 ∨ r.length = 0 ∨ l[l.length - 1]? ≠ r[r.length - 1]?) : behindT l r = 0 := by
  unfold behindT
  refine upto_is (Nat.zero_le _) (fun j hj => by omega) ?_
  rcases h with h | h | h
  · exact .inl (by omega)
  · exact .inl (by omega)
  · exact .inr (by simpa [behindP] using h)
theorem patch_shift {l : List ByteArray} {many : Int} {p q : Nat} (hpq : p ≤ q) : ∀ {hs : List Hk}, restOk many hs q → patchFrom l p hs = seg l p q ++ patchFrom l q hs
  | [], _ => by rw [patchFrom, patchFrom, seg_drop hpq]
  | x :: hs, h => by
    obtain ⟨a, g, ea, eg, h1, _⟩ := rest_cons h
    rw [patchFrom, patchFrom, ea, Int.toNat_natCast, ← seg_seg hpq h1]
    simp only [List.append_assoc]
theorem rise_weak {many e e' : Int} (he : e' ≤ e) : ∀ {hs : List Hk}, riseB many e hs = true → riseB many e' hs = true
  | [], _ => rfl
  | x :: hs, h => by
    rw [riseB, Bool.and_eq_true, Bool.and_eq_true, decide_eq_true_eq] at h ⊢
    exact ⟨⟨h.1.1, by omega⟩, h.2⟩
/-- One hunk that is trimmed, in naturals. -/
theorem trim_parts {l : List ByteArray} {x : Hk} {e : Int} (hb : hunkB l.length x = true) :
    ∃ a g m na nb : Nat, x.at_ = a ∧ x.gone = g ∧ x.new.length = m ∧ a + g ≤ l.length ∧ na + nb ≤ g ∧ na + nb ≤ m ∧ oldOf l x = seg l a (a + g) ∧ trimOne l x = ⟨((a + na : Nat) : Int), ((g - na - nb : Nat) : Int), seg x.new na (m - nb)⟩ ∧
      seg l a (a + na) = seg x.new 0 na ∧ seg l (a + g - nb) (a + g) = x.new.drop (m - nb) ∧ oldOf l (trimOne l x) = seg l (a + na) (a + g - nb) ∧ trimOne l (trimOne l x) = trimOne l x := by
  obtain ⟨q0, q1, q2, q3, q4⟩ := hunkB_parts hb
  obtain ⟨a, ea⟩ : ∃ a : Nat, x.at_ = a := ⟨x.at_.toNat, by omega⟩
  obtain ⟨g, eg⟩ : ∃ g : Nat, x.gone = g := ⟨x.gone.toNat, by omega⟩
  have hold : oldOf l x = seg l a (a + g) := by unfold oldOf; rw [ea, eg, Int.toNat_natCast, show ((a : Int) + (g : Int)).toNat = a + g from by omega]
  have hol : (seg l a (a + g)).length = g := by rw [seg_len]; omega
  obtain ⟨h1, h2⟩ := behind_le (seg l a (a + g)) x.new
  have hA := ahead_same (l := seg l a (a + g)) (r := x.new)
  have hB := behind_same (l := seg l a (a + g)) (r := x.new)
  have hAE := ahead_end (l := seg l a (a + g)) (r := x.new)
  have hBE := behind_end (l := seg l a (a + g)) (r := x.new)
  obtain ⟨na, ena⟩ : ∃ na, aheadT (seg l a (a + g)) x.new = na := ⟨_, rfl⟩
  obtain ⟨nb, enb⟩ : ∃ nb, behindT (seg l a (a + g)) x.new = nb := ⟨_, rfl⟩
  obtain ⟨m, em⟩ : ∃ m : Nat, x.new.length = m := ⟨_, rfl⟩
  rw [ena, enb, hol] at h1
  rw [ena, enb, em] at h2
  rw [ena] at hA
  rw [enb, hol, em] at hB
  rw [ena, hol, em] at hAE
  rw [ena, enb, hol, em] at hBE
  have hT : trimOne l x = ⟨((a + na : Nat) : Int), ((g - na - nb : Nat) : Int), seg x.new na (m - nb)⟩ := by
    unfold trimOne
    rw [hold, ena, enb, em, ea, eg]
    exact Hk.ext_ (by dsimp only; omega) (by dsimp only; omega) rfl
  have ho2 : oldOf l (trimOne l x) = seg l (a + na) (a + g - nb) := by
    rw [hT]
    unfold oldOf
    dsimp only
    rw [Int.toNat_natCast, show (((a + na : Nat) : Int) + ((g - na - nb : Nat) : Int)).toNat = a + g - nb from by omega]
  have hL : (seg l (a + na) (a + g - nb)).length = g - na - nb := by rw [seg_len]; omega
  have hR : (seg x.new na (m - nb)).length = m - na - nb := by rw [seg_len, em]; omega
  have hgetL : ∀ i, i < g - na - nb → (seg l (a + na) (a + g - nb))[i]? = (seg l a (a + g))[na + i]? := fun i hi => by
    rw [seg_get (by omega), seg_get (by omega), Nat.add_assoc]
  have hgetR : ∀ i, i < m - na - nb → (seg x.new na (m - nb))[i]? = x.new[na + i]? := fun i hi => by rw [seg_get (by omega)]
  have z1 : aheadT (seg l (a + na) (a + g - nb)) (seg x.new na (m - nb)) = 0 := by
    apply ahead_zero
    rw [hL, hR]
    by_cases c1 : g - na - nb = 0
    · exact .inl c1
    · by_cases c2 : m - na - nb = 0
      · exact .inr (.inl c2)
      · refine .inr (.inr ?_)
        rw [hgetL 0 (by omega), hgetR 0 (by omega)]
        exact hAE (by omega) (by omega)
  have z2 : behindT (seg l (a + na) (a + g - nb)) (seg x.new na (m - nb)) = 0 := by
    apply behind_zero
    rw [hL, hR]
    by_cases c1 : g - na - nb = 0
    · exact .inl c1
    · by_cases c2 : m - na - nb = 0
      · exact .inr (.inl c2)
      · refine .inr (.inr ?_)
        rw [hgetL _ (by omega), hgetR _ (by omega), show na + (g - na - nb - 1) = g - 1 - nb from by omega, show na + (m - na - nb - 1) = m - 1 - nb from by omega]
        exact hBE (by omega) (by omega)
  refine ⟨a, g, m, na, nb, ea, eg, em, by omega, h1, h2, hold, hT, ?_, ?_, ho2, ?_⟩
  · have : seg l a (a + na) = (seg l a (a + g)).take na := by
      unfold seg
      rw [List.take_drop, List.take_take, Nat.min_eq_left (by omega)]
    rw [this, hA]
    unfold seg
    rw [List.drop_zero]
  · have : seg l (a + g - nb) (a + g) = (seg l a (a + g)).drop (g - nb) := by
      unfold seg
      rw [List.drop_drop, show a + (g - nb) = a + g - nb from by omega]
    rw [this, hB]
  · have h5 : ∀ y, y = trimOne l x → trimOne l y = y := by
      intro y hy
      have e1 : oldOf l y = seg l (a + na) (a + g - nb) := by rw [hy]; exact ho2
      have e2 : y.new = seg x.new na (m - nb) := by rw [hy, hT]
      unfold trimOne
      rw [e1, e2, z1, z2]
      refine Hk.ext_ (by dsimp only; omega) (by dsimp only; omega) ?_
      dsimp only
      rw [e2]
      unfold seg
      rw [Nat.sub_zero, List.drop_zero, List.take_of_length_le (Nat.le_refl _)]
    exact h5 _ rfl
theorem trim_main {l : List ByteArray} : ∀ {hs : List Hk} {e : Int}, riseB l.length e hs = true →
    riseB l.length e (trimH l hs) = true ∧ trimH l (trimH l hs) = trimH l hs ∧ 0 ≤ goneSum (trimH l hs) ∧ goneSum (trimH l hs) ≤ goneSum hs ∧ comeSum (trimH l hs) ≤ comeSum hs ∧ goneSum hs - goneSum (trimH l hs) = comeSum hs - comeSum (trimH l hs) ∧
      ∀ p : Nat, (p : Int) ≤ e + 1 → patchFrom l p (trimH l hs) = patchFrom l p hs
  | [], e, _ => ⟨rfl, rfl, by simp [trimH, goneSum], by simp [trimH, goneSum], by simp [trimH, comeSum], by simp [trimH, goneSum, comeSum], fun p _ => rfl⟩
  | x :: hs, e, hr => by
    rw [riseB, Bool.and_eq_true, Bool.and_eq_true, decide_eq_true_eq] at hr
    obtain ⟨⟨hb, he⟩, hr⟩ := hr
    obtain ⟨a, g, m, na, nb, ea, eg, em, hal, hg, hm, hold, hT, hA, hB, ho2, hTT⟩ := trim_parts (e := e) hb
    obtain ⟨i1, i2, i3, i4, i5, i6, i7⟩ := trim_main hr
    have hq4 := (hunkB_parts hb).2.2.2.2
    have hnl : (seg x.new na (m - nb)).length = m - na - nb := by rw [seg_len, em]; omega
    have hrest : restOk l.length (trimH l hs) (a + g) := ⟨x.at_ + x.gone, i1, by omega⟩
    have hnew : x.new = seg x.new 0 na ++ seg x.new na (m - nb) ++ x.new.drop (m - nb) := by
      rw [seg_seg (by omega) (by omega), seg_drop (by omega), List.drop_zero]
    have i7' := i7 (a + g) (by omega)
    cases hn : nothing (trimOne l x) with
    | true =>
      have hn2 := hn
      rw [hT] at hn2
      simp only [nothing, Bool.and_eq_true, decide_eq_true_eq, hnl] at hn2
      have e1 : trimH l (x :: hs) = trimH l hs := by rw [trimH, if_pos hn]
      rw [e1]
      refine ⟨rise_weak (by omega) i1, i2, i3, by rw [goneSum, eg]; omega, by rw [comeSum, em]; omega, by rw [goneSum, comeSum, eg, em]; omega, fun p hp => ?_⟩
      rw [patch_shift (show p ≤ a + g by omega) hrest, i7', patchFrom, ea, eg, Int.toNat_natCast, show ((a : Int) + (g : Int)).toNat = a + g from by omega]
      congr 1
      rw [hnew, ← hA, ← hB]
      have hz : seg x.new na (m - nb) = [] := List.eq_nil_of_length_eq_zero (by omega)
      rw [hz, List.append_nil, show a + g - nb = a + na from by omega, seg_seg (by omega) (by omega), seg_seg (by omega) (by omega)]
    | false =>
      have e1 : trimH l (x :: hs) = trimOne l x :: trimH l hs := by rw [trimH, if_neg (by rw [hn]; simp)]
      rw [e1]
      have hT1 : (trimOne l x).at_ = ((a + na : Nat) : Int) := by rw [hT]
      have hT2 : (trimOne l x).gone = ((g - na - nb : Nat) : Int) := by rw [hT]
      have hT3 : (trimOne l x).new = seg x.new na (m - nb) := by rw [hT]
      refine ⟨?_, ?_, ?_, ?_, ?_, ?_, fun p hp => ?_⟩
      · rw [riseB, Bool.and_eq_true, Bool.and_eq_true, decide_eq_true_eq, hT1, hT2]
        refine ⟨⟨?_, by omega⟩, rise_weak (by omega) i1⟩
        simp only [hunkB, Bool.and_eq_true, decide_eq_true_eq, Bool.not_eq_true', hn, hT1, hT2, hT3]
        exact ⟨⟨⟨⟨by omega, by omega⟩, by omega⟩, trivial⟩, linesB_seg hq4 _ _⟩
      · rw [trimH, hTT, if_neg (by rw [hn]; simp), i2]
      · rw [goneSum, hT2]; omega
      · rw [goneSum, goneSum, hT2, eg]; omega
      · rw [comeSum, comeSum, hT3, hnl, em]; omega
      · rw [goneSum, goneSum, comeSum, comeSum, hT2, hT3, hnl, eg, em]; omega
      · rw [patchFrom, patchFrom, hT1, hT2, hT3, ea, eg, Int.toNat_natCast, Int.toNat_natCast, show (((a + na : Nat) : Int) + ((g - na - nb : Nat) : Int)).toNat = a + g - nb from by omega, show ((a : Int) + (g : Int)).toNat = a + g from by omega, patch_shift (show a + g - nb ≤ a + g by omega) hrest, i7']
        have h6 : seg l p a ++ x.new ++ patchFrom l (a + g) hs = seg l p a ++ (seg l a (a + na) ++ seg x.new na (m - nb) ++ seg l (a + g - nb) (a + g)) ++ patchFrom l (a + g) hs := by
          rw [hA, hB, ← hnew]
        rw [h6, ← seg_seg (show p ≤ a by omega) (show a ≤ a + na by omega)]
        simp only [List.append_assoc]
/-- Trimmed hunks do the same. -/
theorem trim_ok {l : List ByteArray} {hs : List Hk} (h : patchOk l hs = true) : patchOk l (trimH l hs) = true ∧ patchH l (trimH l hs) = patchH l hs ∧ trimH l (trimH l hs) = trimH l hs ∧ 0 ≤ goneSum (trimH l hs) ∧ goneSum (trimH l hs) ≤ goneSum hs ∧ comeSum (trimH l hs) ≤ comeSum hs ∧ goneSum hs - goneSum (trimH l hs) = comeSum hs - comeSum (trimH l hs) := by
  obtain ⟨h1, h2, h3⟩ := patchOk_parts h
  obtain ⟨g1, g2, g3, g4⟩ := goodH_parts h2
  obtain ⟨i1, i2, i3, i4, i5, i6, i7⟩ := trim_main g4
  have hp : patchH l (trimH l hs) = patchH l hs := i7 0 (by omega)
  refine ⟨?_, hp, i2, i3, i4, i5, i6⟩
  simp only [patchOk, goodH, Bool.and_eq_true, decide_eq_true_eq, hp]
  exact ⟨⟨h1, ⟨⟨g1, g2⟩, Nat.le_trans (trim_len l hs) g3⟩, i1⟩, h3⟩

end Go.Proofs.YtkamenidgkjodaaGreatDoor.M

namespace Go.Proofs.YtkamenidgkjodaaGreatDoor.M

theorem seg_self (l : List ByteArray) (p : Nat) : seg l p p = [] := by
  apply List.eq_nil_of_length_eq_zero; rw [seg_len]; omega
theorem seg_one {l : List ByteArray} {p : Nat} {s : ByteArray} (h : l[p]? = some s) : seg l p (p + 1) = [s] := by
  apply List.ext_getElem?
  intro i
  cases i with
  | zero => rw [seg_get (by omega), Nat.add_zero, h]; rfl
  | succ i => rw [List.getElem?_eq_none (by rw [seg_len]; omega), List.getElem?_eq_none (by simp)]
theorem join_main {l last : List ByteArray} : ∀ {L : List (Nat × Nat)} {p i j : Nat}, rises i j (L ++ [(l.length, last.length)]) → (∀ s ∈ L, s.1 < l.length ∧ s.2 < last.length ∧ l[s.1]? = last[s.2]?) → p ≤ i →
    patchFrom l p (joinFrom last i j (L ++ [(l.length, last.length)])) = seg l p i ++ last.drop j
  | [], p, i, j, hr, _, hp => by
    obtain ⟨h1, h2, _⟩ := hr
    dsimp only at h1 h2
    rw [List.nil_append, joinFrom]
    split
    · rw [joinFrom, patchFrom, patchFrom]
      unfold joinOne
      dsimp only
      rw [Int.toNat_natCast, show ((i : Int) + ((l.length : Int) - (i : Int))).toNat = l.length from by omega, List.drop_eq_nil_of_le (Nat.le_refl _), List.append_nil]
      congr 1
      unfold seg
      rw [List.take_of_length_le (Nat.le_refl _)]
    · next hn =>
      dsimp only at hn
      rw [joinFrom, patchFrom, show i = l.length from by omega, show j = last.length from by omega, List.drop_eq_nil_of_le (Nat.le_refl _), List.append_nil]
      unfold seg
      rw [List.take_of_length_le (Nat.le_refl _)]
  | s :: L, p, i, j, hr, hs, hp => by
    rw [List.cons_append] at hr ⊢
    obtain ⟨h1, h2, hr⟩ := hr
    obtain ⟨s1, s2, s3⟩ := hs s (by simp)
    have hs' : ∀ t ∈ L, t.1 < l.length ∧ t.2 < last.length ∧ l[t.1]? = last[t.2]? := fun t ht => hs t (by simp [ht])
    obtain ⟨c, hc⟩ : ∃ c, l[s.1]? = some c := ⟨_, List.getElem?_eq_getElem s1⟩
    have hc2 : last[s.2]? = some c := by rw [← s3]; exact hc
    have hd : last.drop j = seg last j s.2 ++ (c :: last.drop (s.2 + 1)) := by rw [← drop_at hc2, seg_drop h2]
    rw [joinFrom]
    split
    · rw [patchFrom]
      unfold joinOne
      dsimp only
      rw [Int.toNat_natCast, show ((i : Int) + ((s.1 : Int) - (i : Int))).toNat = s.1 from by omega, join_main hr hs' (show s.1 ≤ s.1 + 1 by omega), seg_one hc, hd]
      simp only [List.append_assoc, List.singleton_append]
    · next hn =>
      have ei : i = s.1 := by omega
      have ej : j = s.2 := by omega
      rw [join_main hr hs' (show p ≤ s.1 + 1 by omega), ← seg_seg (show p ≤ s.1 by omega) (show s.1 ≤ s.1 + 1 by omega), seg_one hc, hd, ej, seg_self, ei]
      simp only [List.append_assoc, List.singleton_append, List.nil_append]
theorem join_ok {l : List ByteArray} {a b : List Hk} (h : joinOk l a b = true) : patchOk l a = true ∧ patchOk (patchH l a) b = true ∧ patchOk l (joinH l a b) = true ∧ patchH l (joinH l a b) = patchH (patchH l a) b := by
  simp only [joinOk, Bool.and_eq_true] at h
  obtain ⟨⟨h1, h2⟩, h3⟩ := h
  obtain ⟨a1, a2, a3⟩ := patchOk_parts h1
  obtain ⟨b1, b2, b3⟩ := patchOk_parts h2
  have hj : patchH l (joinH l a b) = patchH (patchH l a) b := by
    have := join_main (l := l) (last := patchH (patchH l a) b) (L := staysTo a b l.length) (p := 0) (i := 0) (j := 0) (stops_rise a2 b2) (fun s hs => by
      obtain ⟨t1, t2⟩ := stays_mem hs
      obtain ⟨e', p', p1', p2', p3', h5, h6⟩ := stay_parts a2 b2 t1 t2
      exact ⟨t1, h5, h6.symm⟩) (Nat.le_refl _)
    rw [seg_self, List.nil_append, List.drop_zero] at this
    exact this
  refine ⟨h1, h2, ?_, hj⟩
  simp only [patchOk, Bool.and_eq_true, hj]
  exact ⟨⟨a1, h3⟩, b3⟩
/-- A line that stays stands at its place. -/
theorem place_line {l : List ByteArray} {hs : List Hk} (h : patchOk l hs = true) {k : Nat} {s : ByteArray} (hk : l[k]? = some s) (hp : (placeOf hs l.length k).2 = true) :
    ∃ p : Nat, (placeOf hs l.length k).1 = p ∧ p < (patchH l hs).length ∧ (patchH l hs)[p]? = some s := by
  obtain ⟨h1, h2, h3⟩ := patchOk_parts h
  have hkl : k < l.length := (List.getElem?_eq_some_iff.1 hk).1
  unfold placeOf at hp ⊢
  split at hp
  · next hc =>
    obtain ⟨r, r1, r2, r3, r4⟩ := place_at h2 hkl hc.2.2.2
    rw [if_pos hc]
    exact ⟨r, r2, r4, by rw [r3, hk]⟩
  · cases hp

end Go.Proofs.YtkamenidgkjodaaGreatDoor.M
