/-
  Plain facts on good orders and their text: no Go, no program.
-/
import Derived.Test.YtnnaigoomipklaaGreatDoorOiOBase
import Derived.Test.YtnnaigoomipklaaGreatDoorOiSMath
set_option linter.unusedSimpArgs false
set_option linter.unusedVariables false
namespace Go.Proofs.YtnnaigoomipklaaGreatDoor.M
open Go

/-- A dot alone. -/
def dotA : ByteArray := ⟨#[46, 10]⟩
def lineO (s : ByteArray) : Bool := lineB s && (endsB s && decide (s ≠ dotA))
/-- The lines of an order. -/
def linesO (l : List ByteArray) : Bool := l.all lineO && (decide (1 ≤ l.length) && decide (l.length ≤ 40))
def orderB (x : Od) : Bool :=
  decide (0 ≤ x.fr) && decide (x.fr ≤ 1000) && (decide (x.fr ≤ x.to_) && decide (x.to_ ≤ 1000)) &&
  (if x.kd = 1 then decide (x.to_ = x.fr) && linesO x.new
   else if x.kd = 2 then decide (x.to_ = x.fr) && decide (1 ≤ x.fr) && linesO x.new
   else if x.kd = 3 then decide (1 ≤ x.fr) && linesO x.new
   else if x.kd = 4 then decide (1 ≤ x.fr) && decide (x.new.length = 0)
   else decide (x.kd = 5) && decide (1 ≤ x.fr) && decide (x.to_ = x.fr) && decide (x.new.length = 0))
def ordersB (p : List Od) : Bool := p.all orderB && decide (p.length ≤ 60)

def wordO (k : Int) : List UInt8 := if k = 1 then [97] else if k = 2 then [105] else if k = 3 then [99] else if k = 4 then [100] else if k = 5 then [115, 47, 46, 47, 47] else []
def headA (x : Od) : List UInt8 := numsL x.fr.toNat x.to_.toNat ++ (wordO x.kd ++ [10])
/-- The lines of an order's text. -/
def orderA (x : Od) : List ByteArray := ⟨(headA x).toArray⟩ :: (if x.new.length = 0 then [] else x.new ++ [dotA])
def ordersA (p : List Od) : List ByteArray := p.flatMap orderA
def ordersT (p : List Od) : ByteArray := cat (ordersA p)
def ordersO (p : List Od) : ByteArray × Bool := if ordersB p = true ∧ (ordersT p).size ≤ 3000 then (ordersT p, true) else (⟨#[]⟩, false)

/-- What an order is, by its kind. -/
theorem order_cases {x : Od} (h : orderB x = true) : ∃ a b : Nat, x.fr = (a : Int) ∧ x.to_ = (b : Int) ∧ a ≤ b ∧ b ≤ 1000 ∧
    ((x.kd = 1 ∧ a = b ∧ linesO x.new = true) ∨ (x.kd = 2 ∧ a = b ∧ 1 ≤ a ∧ linesO x.new = true) ∨ (x.kd = 3 ∧ 1 ≤ a ∧ linesO x.new = true) ∨ (x.kd = 4 ∧ 1 ≤ a ∧ x.new = []) ∨ (x.kd = 5 ∧ 1 ≤ a ∧ a = b ∧ x.new = [])) := by
  unfold orderB at h
  simp only [Bool.and_eq_true, decide_eq_true_eq] at h
  obtain ⟨⟨⟨h1, h2⟩, h3, h4⟩, h5⟩ := h
  refine ⟨x.fr.toNat, x.to_.toNat, by omega, by omega, by omega, by omega, ?_⟩
  split at h5
  · rename_i e
    simp only [Bool.and_eq_true, decide_eq_true_eq] at h5
    exact .inl ⟨e, by omega, h5.2⟩
  · split at h5
    · rename_i e
      simp only [Bool.and_eq_true, decide_eq_true_eq] at h5
      exact .inr (.inl ⟨e, by omega, by omega, h5.2⟩)
    · split at h5
      · rename_i e
        simp only [Bool.and_eq_true, decide_eq_true_eq] at h5
        exact .inr (.inr (.inl ⟨e, by omega, h5.2⟩))
      · split at h5
        · rename_i e
          simp only [Bool.and_eq_true, decide_eq_true_eq] at h5
          exact .inr (.inr (.inr (.inl ⟨e, by omega, List.eq_nil_of_length_eq_zero h5.2⟩)))
        · simp only [Bool.and_eq_true, decide_eq_true_eq] at h5
          exact .inr (.inr (.inr (.inr ⟨h5.1.1.1, by omega, by omega, List.eq_nil_of_length_eq_zero h5.2⟩)))
theorem lines_cases {l : List ByteArray} (h : linesO l = true) : (∀ s ∈ l, lineB s = true ∧ endsB s = true ∧ s ≠ dotA) ∧ 1 ≤ l.length ∧ l.length ≤ 40 := by
  unfold linesO lineO at h
  simp only [Bool.and_eq_true, decide_eq_true_eq, List.all_eq_true] at h
  exact ⟨fun s hs => ⟨(h.1 s hs).1, (h.1 s hs).2.1, (h.1 s hs).2.2⟩, h.2.1, h.2.2⟩
theorem order_lines {x : Od} (h : orderB x = true) : (∀ s ∈ x.new, lineB s = true ∧ endsB s = true ∧ s ≠ dotA) ∧ x.new.length ≤ 40 := by
  obtain ⟨a, b, _, _, _, _, h5⟩ := order_cases h
  rcases h5 with ⟨_, _, h5⟩ | ⟨_, _, _, h5⟩ | ⟨_, _, h5⟩ | ⟨_, _, h5⟩ | ⟨_, _, _, h5⟩
  · exact ⟨(lines_cases h5).1, (lines_cases h5).2.2⟩
  · exact ⟨(lines_cases h5).1, (lines_cases h5).2.2⟩
  · exact ⟨(lines_cases h5).1, (lines_cases h5).2.2⟩
  · rw [h5]; simp
  · rw [h5]; simp
theorem orders_all {p : List Od} (h : ordersB p = true) : p.all orderB = true ∧ p.length ≤ 60 := by
  unfold ordersB at h
  simpa using h

/-! Orders read. -/

theorem order_kind {x : Od} (h : orderB x = true) : x.kd = 1 ∨ x.kd = 2 ∨ x.kd = 3 ∨ x.kd = 4 ∨ x.kd = 5 := by
  obtain ⟨a, b, _, _, _, _, h5⟩ := order_cases h
  rcases h5 with h5 | h5 | h5 | h5 | h5 <;> simp [h5.1]

/-! Every line of the text ends in a byte 10 and has no other. -/

end Go.Proofs.YtnnaigoomipklaaGreatDoor.M
