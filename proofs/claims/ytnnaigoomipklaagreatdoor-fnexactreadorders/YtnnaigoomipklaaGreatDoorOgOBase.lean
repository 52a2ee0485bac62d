/-
  Plain facts on orders that the laws' own functions need: no Go, no program.
-/
import Derived.Test.YtnnaigoomipklaaGreatDoorOgNBase
import Derived.Test.YtnnaigoomipklaaGreatDoorOgCutM
import Derived.Test.YtnnaigoomipklaaGreatDoorOgHBases
set_option linter.unusedSimpArgs false
set_option linter.unusedVariables false
namespace Go.Proofs.YtnnaigoomipklaaGreatDoor.M
open Go

/-- An order: its kind, its numbers, its lines. -/
structure Od where
  kd : Int
  fr : Int
  to_ : Int
  new : List ByteArray

theorem Od.ext_ {x y : Od} (h1 : x.kd = y.kd) (h2 : x.fr = y.fr) (h3 : x.to_ = y.to_) (h4 : x.new = y.new) : x = y := by
  cases x; cases y; simp at h1 h2 h3 h4; simp [h1, h2, h3, h4]

def eqO (x y : Od) : Bool := decide (x.kd = y.kd) && decide (x.fr = y.fr) && decide (x.to_ = y.to_) && eqT x.new y.new
theorem eqO_iff (x y : Od) : eqO x y = true ↔ x = y := by
  simp only [eqO, Bool.and_eq_true, decide_eq_true_eq, eqT]
  exact ⟨fun ⟨⟨⟨h1, h2⟩, h3⟩, h4⟩ => Od.ext_ h1 h2 h3 h4, fun h => by subst h; exact ⟨⟨⟨rfl, rfl⟩, rfl⟩, rfl⟩⟩
def eqOS : List Od → List Od → Bool
  | [], [] => true
  | x :: l, y :: r => eqO x y && eqOS l r
  | _, _ => false
theorem eqOS_iff : ∀ (l r : List Od), eqOS l r = true ↔ l = r
  | [], [] => by simp [eqOS]
  | [], y :: r => by simp [eqOS]
  | x :: l, [] => by simp [eqOS]
  | x :: l, y :: r => by simp [eqOS, eqO_iff, eqOS_iff l r]
theorem eqOS_refl (l : List Od) : eqOS l l = true := (eqOS_iff l l).2 rfl
theorem eqOS_len {l r : List Od} (h : l.length ≠ r.length) : eqOS l r = false := by
  rw [Bool.eq_false_iff]; intro e; exact h (by rw [(eqOS_iff l r).1 e])
theorem eqOS_at {l r : List Od} {k : Nat} {s t : Od} (hs : l[k]? = some s) (ht : r[k]? = some t) (h : eqO s t = false) : eqOS l r = false := by
  rw [Bool.eq_false_iff]; intro e; rw [(eqOS_iff l r).1 e, ht] at hs; injection hs with hs; subst hs; rw [(eqO_iff t t).2 rfl] at h; cases h
theorem eqOS_all {l r : List Od} (h : ∀ (j : Nat) s t, l[j]? = some s → r[j]? = some t → eqO s t = true) (hl : l.length = r.length) : eqOS l r = true := by
  rw [eqOS_iff]
  apply List.ext_getElem?
  intro j
  by_cases hj : j < l.length
  · have h1 := List.getElem?_eq_getElem hj
    have h2 := List.getElem?_eq_getElem (show j < r.length by omega)
    rw [h1, h2, (eqO_iff _ _).1 (h j _ _ h1 h2)]
  · rw [List.getElem?_eq_none (by omega), List.getElem?_eq_none (by omega)]
theorem eqO_step {l r : List Od} {k : Nat} {s t : Od} (H : ∀ (j : Nat) s t, j < k → l[j]? = some s → r[j]? = some t → eqO s t = true) (hs : l[k]? = some s) (ht : r[k]? = some t) (h : eqO s t = true) :
    ∀ (j : Nat) s t, j < k + 1 → l[j]? = some s → r[j]? = some t → eqO s t = true := by
  intro j s' t' hj hs' ht'
  by_cases e : j = k
  · subst e; rw [hs] at hs'; rw [ht] at ht'; injection hs' with hs'; injection ht' with ht'; rw [← hs', ← ht', h]
  · exact H j s' t' (by omega) hs' ht'

/-- All lines and bytes of an order, of some orders. -/
def bulkO (x : Od) : Nat := x.new.length + total x.new
def totalO : List Od → Nat
  | [] => 0
  | x :: l => bulkO x + totalO l
theorem totalO_append (a b : List Od) : totalO (a ++ b) = totalO a + totalO b := by
  induction a with
  | nil => simp [totalO]
  | cons s a ih => simp [totalO, ih]; omega
theorem totalO_take_succ {l : List Od} {k : Nat} {x : Od} (e : l[k]? = some x) : totalO (l.take (k + 1)) = totalO (l.take k) + bulkO x := by
  rw [List.take_add_one, e, totalO_append]; simp [totalO]
theorem totalO_take_le (l : List Od) (k : Nat) : totalO (l.take k) ≤ totalO l := by
  have h := totalO_append (l.take k) (l.drop k)
  rw [List.take_append_drop] at h
  omega
theorem totalO_mem {l : List Od} {x : Od} (e : x ∈ l) : bulkO x ≤ totalO l := by
  obtain ⟨k, hk⟩ := List.mem_iff_getElem?.1 e
  have h1 := totalO_take_succ hk
  have h2 := totalO_take_le l (k + 1)
  omega

def blankO : Od := ⟨0, 0, 0, []⟩

/-- Orders that are marked, from a number on, and the number behind. -/
def markO (k : Nat) (x : Od) : Od := ⟨k, (k : Int) + 1, (k : Int) + 2, marks (k + 3) x.new.length⟩
def nextO (k : Nat) (x : Od) : Nat := k + 3 + x.new.length
def marksO (k : Nat) : List Od → List Od
  | [] => []
  | x :: l => markO k x :: marksO (nextO k x) l
def endO (k : Nat) : List Od → Nat
  | [] => k
  | x :: l => endO (nextO k x) l
theorem marksO_snoc (x : Od) : ∀ (l : List Od) (k : Nat), marksO k (l ++ [x]) = marksO k l ++ [markO (endO k l) x]
  | [], k => rfl
  | y :: l, k => by simp [marksO, endO, marksO_snoc x l]
theorem endO_snoc (x : Od) : ∀ (l : List Od) (k : Nat), endO k (l ++ [x]) = nextO (endO k l) x
  | [], k => rfl
  | y :: l, k => by simp [endO, endO_snoc x l]
theorem marksO_len : ∀ (l : List Od) (k : Nat), (marksO k l).length = l.length
  | [], k => rfl
  | y :: l, k => by simp [marksO, marksO_len l]
theorem endO_le : ∀ (l : List Od) (k : Nat), endO k l ≤ k + 3 * l.length + totalO l
  | [], k => by simp [endO]
  | y :: l, k => by have := endO_le l (nextO k y); simp only [endO, List.length_cons, totalO, nextO, bulkO] at *; omega
theorem endO_take_le (l : List Od) (i k : Nat) : endO k (l.take i) ≤ k + 3 * l.length + totalO l := by
  have h1 := endO_le (l.take i) k
  have h2 := totalO_take_le l i
  have h3 : (l.take i).length ≤ l.length := by simp; omega
  omega
def mkToO (l : List Od) (k i : Nat) : List Od := marksO k (l.take i) ++ l.drop i
theorem mkToO_zero (l : List Od) (k : Nat) : mkToO l k 0 = l := by simp [mkToO, marksO]
theorem mkToO_all (l : List Od) (k : Nat) {i : Nat} (h : l.length ≤ i) : mkToO l k i = marksO k l := by simp [mkToO, List.take_of_length_le h, List.drop_eq_nil_of_le h]
theorem mkToO_len (l : List Od) (k i : Nat) : (mkToO l k i).length = l.length := by simp [mkToO, marksO_len]; omega
theorem mkToO_get {l : List Od} (k : Nat) {i : Nat} {x : Od} (h : l[i]? = some x) : (mkToO l k i)[i]? = some x := by
  have hi : i < l.length := (List.getElem?_eq_some_iff.1 h).1
  unfold mkToO
  rw [List.getElem?_append_right (by rw [marksO_len]; simp; omega), marksO_len, List.getElem?_drop, List.length_take, Nat.min_eq_left (by omega), Nat.sub_self, Nat.add_zero, h]
theorem mkToO_set {l : List Od} (k : Nat) {i : Nat} {x : Od} (h : l[i]? = some x) : (mkToO l k i).set i (markO (endO k (l.take i)) x) = mkToO l k (i + 1) := by
  have hi : i < l.length := (List.getElem?_eq_some_iff.1 h).1
  unfold mkToO
  rw [take_snoc h, marksO_snoc, List.set_append, if_neg (by rw [marksO_len]; simp; omega), marksO_len, List.length_take, Nat.min_eq_left (by omega), Nat.sub_self, List.drop_eq_getElem_cons hi, List.set_cons_zero, List.append_assoc]
  rfl
theorem marksO_get {l : List Od} (k : Nat) {i : Nat} {x : Od} (h : l[i]? = some x) : (marksO k l)[i]? = some (markO (endO k (l.take i)) x) := by
  have h1 : l = l.take i ++ x :: l.drop (i + 1) := by
    have hi : i < l.length := (List.getElem?_eq_some_iff.1 h).1
    rw [List.getElem?_eq_getElem hi] at h
    injection h with h
    rw [← h, ← List.drop_eq_getElem_cons hi, List.take_append_drop]
  have h2 : ∀ (a b : List Od) (k : Nat), marksO k (a ++ b) = marksO k a ++ marksO (endO k a) b := by
    intro a
    induction a with
    | nil => intro b k; rfl
    | cons y a ih => intro b k; simp [marksO, endO, ih]
  have hl : (l.take i).length = i := by have := (List.getElem?_eq_some_iff.1 h).1; simp; omega
  have h3 : (marksO k (l.take i ++ x :: l.drop (i + 1)))[i]? = some (markO (endO k (l.take i)) x) := by
    rw [h2, List.getElem?_append_right (by rw [marksO_len, hl]; exact Nat.le_refl _), marksO_len, hl, Nat.sub_self]
    rfl
  rw [← h1] at h3
  exact h3

end Go.Proofs.YtnnaigoomipklaaGreatDoor.M
