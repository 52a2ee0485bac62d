/-
  Plain facts on steps and their text, the plain way: no Go, no program.
  Plain facts on lists of steps that the laws' own functions need: no Go, no program.
  Plain facts on steps made of hunks and hunks made of steps: no Go, no program.
  Plain facts: the steps of hunks that Patch takes are good, and lead to the hunks again: no Go, no program.
-/
import Derived.Test.YtnnaigoomipklaaGreatDoorOgNBase
import Derived.Test.YtnnaigoomipklaaGreatDoorOgCutM
import Derived.Test.YtnnaigoomipklaaGreatDoorOgHBases
set_option linter.unusedSimpArgs false
set_option linter.unusedVariables false
namespace Go.Proofs.YtnnaigoomipklaaGreatDoor.M
open Go

/-- A step: the numbers and the lines of both sides. -/
structure Sp where
  fr : Int
  to_ : Int
  old : List ByteArray
  at_ : Int
  en : Int
  new : List ByteArray

def numsL (a b : Nat) : List UInt8 := if a = b then Lib.decDigits a else Lib.decDigits a ++ 44 :: Lib.decDigits b

/-! Lines cut. -/

/-- A byte 10 at the end and nowhere else. -/
def lineOk (s : List UInt8) : Prop := ∃ p, s = p ++ [10] ∧ (10 : UInt8) ∉ p

theorem cutGo_line : ∀ (p cur r : List UInt8), (10 : UInt8) ∉ p → cutGo cur (p ++ 10 :: r) = ⟨(cur ++ p ++ [10]).toArray⟩ :: cutGo [] r
  | [], cur, r, _ => by rw [List.nil_append, cutGo, if_pos rfl]; simp
  | c :: p, cur, r, h => by
    have h1 : ¬ c = 10 := fun e => h (by simp [e])
    have h2 : (10 : UInt8) ∉ p := fun e => h (by simp [e])
    rw [List.cons_append, cutGo, if_neg h1, cutGo_line p (cur ++ [c]) r h2]; simp
theorem cutGo_lines : ∀ (ls : List (List UInt8)), (∀ s ∈ ls, lineOk s) → cutGo [] ls.flatten = ls.map fun s => ⟨s.toArray⟩
  | [], _ => rfl
  | s :: ls, h => by
    obtain ⟨p, e, hp⟩ := h s (by simp)
    have := cutGo_line p [] ls.flatten hp
    rw [List.flatten_cons, e, List.append_assoc, List.singleton_append, this, cutGo_lines ls (fun t ht => h t (by simp [ht]))]
    simp

/-! Shown lines taken. -/

/-! Heads read. -/

theorem dig_range {c : UInt8} (h : digB c = true) : 48 ≤ c.toNat ∧ c.toNat ≤ 57 := (digB_iff c).1 h
theorem nums_bytes {a b : Nat} {c : UInt8} (h : c ∈ numsL a b) : digB c = true ∨ c = 44 := by
  unfold numsL at h
  split at h
  · exact .inl (List.all_eq_true.1 (dec_all a) c h)
  · rcases List.mem_append.1 h with h | h
    · exact .inl (List.all_eq_true.1 (dec_all a) c h)
    · rcases List.mem_cons.1 h with h | h
      · exact .inr h
      · exact .inl (List.all_eq_true.1 (dec_all b) c h)
theorem nums_range {a b : Nat} {c : UInt8} (h : c ∈ numsL a b) : 44 ≤ c.toNat ∧ c.toNat ≤ 57 := by
  rcases nums_bytes h with h | rfl
  · have := dig_range h; omega
  · decide
theorem dec_comma_ (u : Nat) : (44 : UInt8) ∉ Lib.decDigits u := by
  intro h
  have := List.all_eq_true.1 (dec_all u) 44 h
  simp [digB] at this
theorem nums_back {a b : Nat} (h1 : a ≤ b) (h2 : b ≤ 1000) : pairL (numsL a b) = some (a, b) := by
  unfold numsL pairL
  split
  · rename_i e
    subst e
    rw [twoL_none (dec_comma_ _), numL_dec _ (by omega)]
    simp [Option.filter]; omega
  · rw [twoL_hit (dec_comma_ _), numL_dec _ (by omega), numL_dec _ (by omega)]
    simp [Option.filter]; omega

/-! Steps read. -/

/-! Every line of a step's text ends in a byte 10 and has no other. -/

theorem nums_no10 {a b : Nat} : (10 : UInt8) ∉ numsL a b := fun h => by have := nums_range h; simp at this
theorem line_no10 {s : ByteArray} (h : lineB s = true) : (10 : UInt8) ∉ s.data.toList.dropLast := by
  unfold lineB at h
  simp only [Bool.and_eq_true] at h
  intro hm
  have := List.all_eq_true.1 h.2 10 hm
  simp at this

end Go.Proofs.YtnnaigoomipklaaGreatDoor.M

namespace Go.Proofs.YtnnaigoomipklaaGreatDoor.M
open Go

/-! Hunks made of steps. -/

end Go.Proofs.YtnnaigoomipklaaGreatDoor.M

