/-
  Plain facts on steps and their text, the plain way: no Go, no program.
  Plain facts on lists of steps that the laws' own functions need: no Go, no program.
  Plain facts on steps made of hunks and hunks made of steps: no Go, no program.
  Plain facts: the steps of hunks that Patch takes are good, and lead to the hunks again: no Go, no program.
-/
import Derived.Test.YtnnaigoomipklaaDoorOjNBase
import Derived.Test.YtnnaigoomipklaaDoorOjBase
import Derived.Test.YtnnaigoomipklaaDoorOjHBases
set_option linter.unusedSimpArgs false
set_option linter.unusedVariables false
namespace Go.Proofs.YtnnaigoomipklaaDoor.M
open Go

/-- A step: the numbers and the lines of both sides. -/
structure Sp where
  fr : Int
  to_ : Int
  old : List ByteArray
  at_ : Int
  en : Int
  new : List ByteArray

theorem Sp.ext_ {x y : Sp} (h1 : x.fr = y.fr) (h2 : x.to_ = y.to_) (h3 : x.old = y.old) (h4 : x.at_ = y.at_) (h5 : x.en = y.en) (h6 : x.new = y.new) : x = y := by
  cases x; cases y; simp at h1 h2 h3 h4 h5 h6; simp [h1, h2, h3, h4, h5, h6]

/-- Numbers that fit lines on one side. -/
def sideB (a b : Int) (l : List ByteArray) : Bool :=
  decide (0 ≤ a) && decide (a ≤ 1000) && (decide (0 ≤ b) && decide (b ≤ 1000)) && goodB l && (if l.length = 0 then decide (b = a) else decide (1 ≤ a) && decide (b - a + 1 = l.length))
def stepB (x : Sp) : Bool := sideB x.fr x.to_ x.old && sideB x.at_ x.en x.new && decide (0 < x.old.length + x.new.length)
def stepsB (p : List Sp) : Bool := p.all stepB && decide (p.length ≤ 20)

def endsL (l : List UInt8) : Bool := l.getLast? == some 10
def noneL : List UInt8 := [92, 32, 110, 111, 110, 101, 10]
/-- A line that is shown with a sign, in one line or two. -/
def shownL (sign s : List UInt8) : List (List UInt8) := if endsL s then [sign ++ s] else [sign ++ s ++ [10], noneL]
def numsL (a b : Nat) : List UInt8 := if a = b then Lib.decDigits a else Lib.decDigits a ++ 44 :: Lib.decDigits b
def wordL (x : Sp) : UInt8 := if x.old.length = 0 then 97 else if x.new.length = 0 then 100 else 99
def headL (x : Sp) : List UInt8 := numsL x.fr.toNat x.to_.toNat ++ wordL x :: numsL x.at_.toNat x.en.toNat
def ruleL : List UInt8 := [45, 45, 45, 10]
def sideL (sign : List UInt8) (l : List ByteArray) : List (List UInt8) := l.flatMap fun s => shownL sign s.data.toList
/-- The lines of a step's text. -/
def stepL (x : Sp) : List (List UInt8) := (headL x ++ [10]) :: (sideL [60, 32] x.old ++ ((if wordL x = 99 then [ruleL] else []) ++ sideL [62, 32] x.new))
def stepsL (p : List Sp) : List (List UInt8) := p.flatMap stepL
def stepsT (p : List Sp) : List UInt8 := (stepsL p).flatten

/-! Lines cut. -/

/-! Shown lines taken. -/

/-! Heads read. -/

theorem side_le {a b : Int} {l : List ByteArray} (h : sideB a b l = true) : ∃ A B : Nat, a = (A : Int) ∧ b = (B : Int) ∧ A ≤ B ∧ B ≤ 1000 ∧ goodB l = true ∧ (l.length = 0 → A = B) ∧ (l.length ≠ 0 → 1 ≤ A ∧ B + 1 = A + l.length) := by
  unfold sideB at h
  simp only [Bool.and_eq_true, decide_eq_true_eq] at h
  obtain ⟨⟨⟨⟨h1, h2⟩, h3, h4⟩, h5⟩, h6⟩ := h
  refine ⟨a.toNat, b.toNat, by omega, by omega, ?_, by omega, h5, ?_, ?_⟩
  · split at h6
    · simp at h6; omega
    · rename_i hne; simp at h6; omega
  · intro e; rw [if_pos e] at h6; simp at h6; omega
  · intro e; rw [if_neg e] at h6; simp at h6; omega

/-! Steps read. -/

theorem good_lines {l : List ByteArray} (h : goodB l = true) : ∀ s ∈ l, lineB s = true := by
  intro s hs
  obtain ⟨j, hj⟩ := List.mem_iff_getElem?.1 hs
  exact (goodB_at h hj).1

/-! Every line of a step's text ends in a byte 10 and has no other. -/

end Go.Proofs.YtnnaigoomipklaaDoor.M

namespace Go.Proofs.YtnnaigoomipklaaDoor.M
open Go

def eqP (x y : Sp) : Bool := decide (x.fr = y.fr) && decide (x.to_ = y.to_) && eqT x.old y.old && decide (x.at_ = y.at_) && decide (x.en = y.en) && eqT x.new y.new
theorem eqP_iff (x y : Sp) : eqP x y = true ↔ x = y := by
  simp only [eqP, Bool.and_eq_true, decide_eq_true_eq, eqT]
  exact ⟨fun ⟨⟨⟨⟨⟨h1, h2⟩, h3⟩, h4⟩, h5⟩, h6⟩ => Sp.ext_ h1 h2 h3 h4 h5 h6, fun h => by subst h; exact ⟨⟨⟨⟨⟨rfl, rfl⟩, rfl⟩, rfl⟩, rfl⟩, rfl⟩⟩
def eqPS : List Sp → List Sp → Bool
  | [], [] => true
  | x :: l, y :: r => eqP x y && eqPS l r
  | _, _ => false
theorem eqPS_iff : ∀ (l r : List Sp), eqPS l r = true ↔ l = r
  | [], [] => by simp [eqPS]
  | [], y :: r => by simp [eqPS]
  | x :: l, [] => by simp [eqPS]
  | x :: l, y :: r => by simp [eqPS, eqP_iff, eqPS_iff l r]
theorem eqPS_refl (l : List Sp) : eqPS l l = true := (eqPS_iff l l).2 rfl
theorem eqPS_len {l r : List Sp} (h : l.length ≠ r.length) : eqPS l r = false := by
  rw [Bool.eq_false_iff]; intro e; exact h (by rw [(eqPS_iff l r).1 e])
theorem eqPS_at {l r : List Sp} {k : Nat} {s t : Sp} (hs : l[k]? = some s) (ht : r[k]? = some t) (h : eqP s t = false) : eqPS l r = false := by
  rw [Bool.eq_false_iff]; intro e; rw [(eqPS_iff l r).1 e, ht] at hs; injection hs with hs; subst hs; rw [(eqP_iff t t).2 rfl] at h; cases h
theorem eqPS_all {l r : List Sp} (h : ∀ (j : Nat) s t, l[j]? = some s → r[j]? = some t → eqP s t = true) (hl : l.length = r.length) : eqPS l r = true := by
  rw [eqPS_iff]
  apply List.ext_getElem?
  intro j
  by_cases hj : j < l.length
  · have h1 := List.getElem?_eq_getElem hj
    have h2 := List.getElem?_eq_getElem (show j < r.length by omega)
    rw [h1, h2, (eqP_iff _ _).1 (h j _ _ h1 h2)]
  · rw [List.getElem?_eq_none (by omega), List.getElem?_eq_none (by omega)]
theorem eqP_step {l r : List Sp} {k : Nat} {s t : Sp} (H : ∀ (j : Nat) s t, j < k → l[j]? = some s → r[j]? = some t → eqP s t = true) (hs : l[k]? = some s) (ht : r[k]? = some t) (h : eqP s t = true) :
    ∀ (j : Nat) s t, j < k + 1 → l[j]? = some s → r[j]? = some t → eqP s t = true := by
  intro j s' t' hj hs' ht'
  by_cases e : j = k
  · subst e; rw [hs] at hs'; rw [ht] at ht'; injection hs' with hs'; injection ht' with ht'; rw [← hs', ← ht', h]
  · exact H j s' t' (by omega) hs' ht'

/-- All lines and bytes of a step, of some steps. -/
def bulk (x : Sp) : Nat := x.old.length + total x.old + (x.new.length + total x.new)
def totalP : List Sp → Nat
  | [] => 0
  | x :: l => bulk x + totalP l
theorem totalP_append (a b : List Sp) : totalP (a ++ b) = totalP a + totalP b := by
  induction a with
  | nil => simp [totalP]
  | cons s a ih => simp [totalP, ih]; omega
theorem totalP_take_succ {l : List Sp} {k : Nat} {x : Sp} (e : l[k]? = some x) : totalP (l.take (k + 1)) = totalP (l.take k) + bulk x := by
  rw [List.take_add_one, e, totalP_append]; simp [totalP]
theorem totalP_take_le (l : List Sp) (k : Nat) : totalP (l.take k) ≤ totalP l := by
  have h := totalP_append (l.take k) (l.drop k)
  rw [List.take_append_drop] at h
  omega
theorem totalP_mem {l : List Sp} {x : Sp} (e : x ∈ l) : bulk x ≤ totalP l := by
  obtain ⟨k, hk⟩ := List.mem_iff_getElem?.1 e
  have h1 := totalP_take_succ hk
  have h2 := totalP_take_le l (k + 1)
  omega
def szPS (l : List Sp) (left : Int) : Int := if left < l.length + totalP l then -1 else left - l.length - totalP l
def szP (x : Sp) (left : Int) : Int := if left < bulk x then -1 else left - bulk x

def blankP : Sp := ⟨0, 0, [], 0, 0, []⟩
def fillP (l : List Sp) (k : Nat) : List Sp := l.take k ++ List.replicate (l.length - k) blankP
theorem fillP_zero (l : List Sp) : fillP l 0 = List.replicate l.length blankP := by simp [fillP]
theorem fillP_all (l : List Sp) {k : Nat} (h : l.length ≤ k) : fillP l k = l := by
  simp [fillP, List.take_of_length_le h, show l.length - k = 0 from by omega]
theorem fillP_set {l : List Sp} {k : Nat} {s : Sp} (h : l[k]? = some s) : (fillP l k).set k s = fillP l (k + 1) := by
  have hk : k < l.length := (List.getElem?_eq_some_iff.1 h).1
  unfold fillP
  rw [List.set_append, if_neg (by simp; omega), List.take_add_one, h]
  simp only [List.length_take, Nat.min_eq_left (Nat.le_of_lt hk), Nat.sub_self, Option.toList_some, List.append_assoc, List.singleton_append]
  rw [show l.length - k = (l.length - (k + 1)) + 1 from by omega, List.replicate_succ, List.set_cons_zero]

end Go.Proofs.YtnnaigoomipklaaDoor.M

namespace Go.Proofs.YtnnaigoomipklaaDoor.M
open Go

/-- The text of steps, and whether there is one. -/
def textP (p : List Sp) : List UInt8 × Bool := if stepsB p = true ∧ (stepsT p).length ≤ 3000 then (stepsT p, true) else ([], false)

/-! Hunks made of steps. -/

theorem stepB_parts {x : Sp} (h : stepB x = true) : sideB x.fr x.to_ x.old = true ∧ sideB x.at_ x.en x.new = true ∧ 0 < x.old.length + x.new.length := by
  unfold stepB at h
  simp only [Bool.and_eq_true, decide_eq_true_eq] at h
  exact ⟨h.1.1, h.1.2, h.2⟩

end Go.Proofs.YtnnaigoomipklaaDoor.M

