/-
  Plain facts on lists of steps that the laws' own functions need: no Go, no program.
-/
import Derived.Test.YtnimaadjmejmpaaDoorSBase
import Derived.Test.YtnimaadjmejmpaaDoorHBase
set_option linter.unusedSimpArgs false
set_option linter.unusedVariables false
namespace Go.Proofs.YtnimaadjmejmpaaDoor.M
open Go

def eqP (x y : Sp) : Bool := decide (x.fr = y.fr) && decide (x.to_ = y.to_) && eqT x.old y.old && decide (x.at_ = y.at_) && decide (x.en = y.en) && eqT x.new y.new
theorem eqP_iff (x y : Sp) : eqP x y = true ↔ x = y := by
  simp only [eqP, Bool.and_eq_true, decide_eq_true_eq, eqT]
  exact ⟨fun ⟨⟨⟨⟨⟨h1, h2⟩, h3⟩, h4⟩, h5⟩, h6⟩ => Sp.ext_ h1 h2 h3 h4 h5 h6, fun h => by subst h; exact ⟨⟨⟨⟨⟨rfl, rfl⟩, rfl⟩, rfl⟩, rfl⟩, rfl⟩⟩
def eqPS : List Sp → List Sp → Bool
  | [], [] => true
  | x :: l, y :: r => eqP x y && eqPS l r
  | _, _ => false
theorem eqPS_iff : ∀ (l r : List Sp), eqPS l r = true ↔ l = r
  | [], [] => by simp [eqPS]
  | [], y :: r => by simp [eqPS]
  | x :: l, [] => by simp [eqPS]
  | x :: l, y :: r => by simp [eqPS, eqP_iff, eqPS_iff l r]
theorem eqPS_refl (l : List Sp) : eqPS l l = true := (eqPS_iff l l).2 rfl
theorem eqPS_len {l r : List Sp} (h : l.length ≠ r.length) : eqPS l r = false := by
  rw [Bool.eq_false_iff]; intro e; exact h (by rw [(eqPS_iff l r).1 e])
theorem eqPS_at {l r : List Sp} {k : Nat} {s t : Sp} (hs : l[k]? = some s) (ht : r[k]? = some t) (h : eqP s t = false) : eqPS l r = false := by
  rw [Bool.eq_false_iff]; intro e; rw [(eqPS_iff l r).1 e, ht] at hs; injection hs with hs; subst hs; rw [(eqP_iff t t).2 rfl] at h; cases h
theorem eqPS_all {l r : List Sp} (h : ∀ (j : Nat) s t, l[j]? = some s → r[j]? = some t → eqP s t = true) (hl : l.length = r.length) : eqPS l r = true := by
  rw [eqPS_iff]
  apply List.ext_getElem?
  intro j
  by_cases hj : j < l.length
  · have h1 := List.getElem?_eq_getElem hj
    have h2 := List.getElem?_eq_getElem (show j < r.length by omega)
    rw [h1, h2, (eqP_iff _ _).1 (h j _ _ h1 h2)]
  · rw [List.getElem?_eq_none (by omega), List.getElem?_eq_none (by omega)]
theorem eqP_step {l r : List Sp} {k : Nat} {s t : Sp} (H : ∀ (j : Nat) s t, j < k → l[j]? = some s → r[j]? = some t → eqP s t = true) (hs : l[k]? = some s) (ht : r[k]? = some t) (h : eqP s t = true) :
    ∀ (j : Nat) s t, j < k + 1 → l[j]? = some s → r[j]? = some t → eqP s t = true := by
  intro j s' t' hj hs' ht'
  by_cases e : j = k
  · subst e; rw [hs] at hs'; rw [ht] at ht'; injection hs' with hs'; injection ht' with ht'; rw [← hs', ← ht', h]
  · exact H j s' t' (by omega) hs' ht'

/-- All lines and bytes of a step, of some steps. -/
def bulk (x : Sp) : Nat := x.old.length + total x.old + (x.new.length + total x.new)
def totalP : List Sp → Nat
  | [] => 0
  | x :: l => bulk x + totalP l
theorem totalP_append (a b : List Sp) : totalP (a ++ b) = totalP a + totalP b := by
  induction a with
  | nil => simp [totalP]
  | cons s a ih => simp [totalP, ih]; omega
theorem totalP_take_succ {l : List Sp} {k : Nat} {x : Sp} (e : l[k]? = some x) : totalP (l.take (k + 1)) = totalP (l.take k) + bulk x := by
  rw [List.take_add_one, e, totalP_append]; simp [totalP]
theorem totalP_take_le (l : List Sp) (k : Nat) : totalP (l.take k) ≤ totalP l := by
  have h := totalP_append (l.take k) (l.drop k)
  rw [List.take_append_drop] at h
  omega
theorem totalP_mem {l : List Sp} {x : Sp} (e : x ∈ l) : bulk x ≤ totalP l := by
  obtain ⟨k, hk⟩ := List.mem_iff_getElem?.1 e
  have h1 := totalP_take_succ hk
  have h2 := totalP_take_le l (k + 1)
  omega
def szPS (l : List Sp) (left : Int) : Int := if left < l.length + totalP l then -1 else left - l.length - totalP l
def szP (x : Sp) (left : Int) : Int := if left < bulk x then -1 else left - bulk x

def blankP : Sp := ⟨0, 0, [], 0, 0, []⟩
def fillP (l : List Sp) (k : Nat) : List Sp := l.take k ++ List.replicate (l.length - k) blankP
theorem fillP_len (l : List Sp) {k : Nat} (h : k ≤ l.length) : (fillP l k).length = l.length := by simp [fillP]; omega
theorem fillP_zero (l : List Sp) : fillP l 0 = List.replicate l.length blankP := by simp [fillP]
theorem fillP_all (l : List Sp) {k : Nat} (h : l.length ≤ k) : fillP l k = l := by
  simp [fillP, List.take_of_length_le h, show l.length - k = 0 from by omega]
theorem fillP_set {l : List Sp} {k : Nat} {s : Sp} (h : l[k]? = some s) : (fillP l k).set k s = fillP l (k + 1) := by
  have hk : k < l.length := (List.getElem?_eq_some_iff.1 h).1
  unfold fillP
  rw [List.set_append, if_neg (by simp; omega), List.take_add_one, h]
  simp only [List.length_take, Nat.min_eq_left (Nat.le_of_lt hk), Nat.sub_self, Option.toList_some, List.append_assoc, List.singleton_append]
  rw [show l.length - k = (l.length - (k + 1)) + 1 from by omega, List.replicate_succ, List.set_cons_zero]

/-- Steps that are marked, from a number on, and the number behind. -/
def markSp (k : Nat) (x : Sp) : Sp := ⟨k, (k : Int) + 1, marks (k + 2) x.old.length, ((k + 2 + x.old.length : Nat) : Int), ((k + 2 + x.old.length : Nat) : Int) + 1, marks (k + 2 + x.old.length + 2) x.new.length⟩
def nextSp (k : Nat) (x : Sp) : Nat := k + 2 + x.old.length + 2 + x.new.length
def marksSt (k : Nat) : List Sp → List Sp
  | [] => []
  | x :: l => markSp k x :: marksSt (nextSp k x) l
def endS (k : Nat) : List Sp → Nat
  | [] => k
  | x :: l => endS (nextSp k x) l
theorem marksSt_snoc (x : Sp) : ∀ (l : List Sp) (k : Nat), marksSt k (l ++ [x]) = marksSt k l ++ [markSp (endS k l) x]
  | [], k => rfl
  | y :: l, k => by simp [marksSt, endS, marksSt_snoc x l]
theorem endS_snoc (x : Sp) : ∀ (l : List Sp) (k : Nat), endS k (l ++ [x]) = nextSp (endS k l) x
  | [], k => rfl
  | y :: l, k => by simp [endS, endS_snoc x l]
theorem marksSt_len : ∀ (l : List Sp) (k : Nat), (marksSt k l).length = l.length
  | [], k => rfl
  | y :: l, k => by simp [marksSt, marksSt_len l]
theorem endS_le : ∀ (l : List Sp) (k : Nat), endS k l ≤ k + 4 * l.length + totalP l
  | [], k => by simp [endS]
  | y :: l, k => by have := endS_le l (nextSp k y); simp only [endS, List.length_cons, totalP, nextSp, bulk] at *; omega
theorem endS_take_le (l : List Sp) (i k : Nat) : endS k (l.take i) ≤ k + 4 * l.length + totalP l := by
  have h1 := endS_le (l.take i) k
  have h2 := totalP_take_le l i
  have h3 : (l.take i).length ≤ l.length := by simp; omega
  omega
def mkToP (l : List Sp) (k i : Nat) : List Sp := marksSt k (l.take i) ++ l.drop i
theorem mkToP_zero (l : List Sp) (k : Nat) : mkToP l k 0 = l := by simp [mkToP, marksSt]
theorem mkToP_all (l : List Sp) (k : Nat) {i : Nat} (h : l.length ≤ i) : mkToP l k i = marksSt k l := by simp [mkToP, List.take_of_length_le h, List.drop_eq_nil_of_le h]
theorem mkToP_len (l : List Sp) (k i : Nat) : (mkToP l k i).length = l.length := by simp [mkToP, marksSt_len]; omega
theorem mkToP_get {l : List Sp} (k : Nat) {i : Nat} {x : Sp} (h : l[i]? = some x) : (mkToP l k i)[i]? = some x := by
  have hi : i < l.length := (List.getElem?_eq_some_iff.1 h).1
  unfold mkToP
  rw [List.getElem?_append_right (by rw [marksSt_len]; simp; omega), marksSt_len, List.getElem?_drop, List.length_take, Nat.min_eq_left (by omega), Nat.sub_self, Nat.add_zero, h]
theorem mkToP_set {l : List Sp} (k : Nat) {i : Nat} {x : Sp} (h : l[i]? = some x) : (mkToP l k i).set i (markSp (endS k (l.take i)) x) = mkToP l k (i + 1) := by
  have hi : i < l.length := (List.getElem?_eq_some_iff.1 h).1
  unfold mkToP
  rw [take_snoc h, marksSt_snoc, List.set_append, if_neg (by rw [marksSt_len]; simp; omega), marksSt_len, List.length_take, Nat.min_eq_left (by omega), Nat.sub_self, List.drop_eq_getElem_cons hi, List.set_cons_zero, List.append_assoc]
  rfl
theorem marksSt_get {l : List Sp} (k : Nat) {i : Nat} {x : Sp} (h : l[i]? = some x) : (marksSt k l)[i]? = some (markSp (endS k (l.take i)) x) := by
  have h1 : l = l.take i ++ x :: l.drop (i + 1) := by
    have hi : i < l.length := (List.getElem?_eq_some_iff.1 h).1
    rw [List.getElem?_eq_getElem hi] at h
    injection h with h
    rw [← h, ← List.drop_eq_getElem_cons hi, List.take_append_drop]
  have h2 : ∀ (a b : List Sp) (k : Nat), marksSt k (a ++ b) = marksSt k a ++ marksSt (endS k a) b := by
    intro a
    induction a with
    | nil => intro b k; rfl
    | cons y a ih => intro b k; simp [marksSt, endS, ih]
  have hl : (l.take i).length = i := by have := (List.getElem?_eq_some_iff.1 h).1; simp; omega
  have h3 : (marksSt k (l.take i ++ x :: l.drop (i + 1)))[i]? = some (markSp (endS k (l.take i)) x) := by
    rw [h2, List.getElem?_append_right (by rw [marksSt_len, hl]; exact Nat.le_refl _), marksSt_len, hl, Nat.sub_self]
    rfl
  rw [← h1] at h3
  exact h3

end Go.Proofs.YtnimaadjmejmpaaDoor.M
