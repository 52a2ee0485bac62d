/-
  The model's numbers read: l1Read, ReadNumber.
-/
import Derived.Test.YtnimaadjmejmpaaDoorProg
import Derived.Test.YtnimaadjmejmpaaDoorStr
import Derived.Test.YtnimaadjmejmpaaDoorNVars
set_option linter.unusedSimpArgs false
set_option linter.unusedVariables false
namespace Go.Proofs.YtnimaadjmejmpaaDoor
open Go.RowKit M

def readI (l : List UInt8) : Int := match numTo 6 l with | some n => (n : Int) | none => -1

theorem all_take_succ (s : ByteArray) (k : Nat) (h : k < s.size) : (s.data.toList.take (k + 1)) = s.data.toList.take k ++ [s[k]'h] := by
  rw [List.take_add_one, List.getElem?_eq_getElem (by simpa using h)]
  rfl

theorem byte_head (s : ByteArray) (h : 0 < s.size) : s.data.toList.head? = some (s[0]'h) := by
  rw [List.head?_eq_getElem?, List.getElem?_eq_getElem (by simpa using h)]
  rfl

theorem readI_bad_len (s : ByteArray) (h : ¬ (1 ≤ s.size ∧ s.size ≤ 6)) : readI s.data.toList = -1 := by
  unfold readI numTo
  have : s.data.toList.length = s.size := by simp
  rw [if_neg (by rintro ⟨h1, h2, _⟩; omega)]
theorem readI_bad_head (s : ByteArray) (h0 : 0 < s.size) (h1 : (s[0]'h0).toNat = 48) (h2 : 1 < s.size) : readI s.data.toList = -1 := by
  unfold readI numTo
  have : s.data.toList.length = s.size := by simp
  have h3 : (s[0]'h0) = 48 := UInt8.toNat.inj (by simpa using h1)
  rw [if_neg (by rintro ⟨_, _, h5, _⟩; exact h5 ⟨by rw [byte_head s h0, h3], by omega⟩)]
theorem readI_bad_dig (s : ByteArray) (k : Nat) (hk : k < s.size) (h : digB (s[k]'hk) = false) : readI s.data.toList = -1 := by
  unfold readI numTo
  have hm : (s[k]'hk) ∈ s.data.toList := List.mem_of_getElem? (i := k) (by rw [List.getElem?_eq_getElem (by simpa using hk)]; rfl)
  rw [if_neg (by rintro ⟨_, _, _, h5⟩; have := List.all_eq_true.1 h5 _ hm; rw [h] at this; cases this)]
theorem readI_good (s : ByteArray) (h1 : 1 ≤ s.size) (h2 : s.size ≤ 6) (h3 : ¬ ((s[0]'h1).toNat = 48 ∧ 1 < s.size)) (h4 : s.data.toList.all digB = true) : readI s.data.toList = (valF 0 s.data.toList : Int) := by
  unfold readI numTo
  have e : s.data.toList.length = s.size := by simp
  rw [if_pos ⟨by omega, by omega, by rw [byte_head s h1, e]; rintro ⟨e1, e2⟩; exact h3 ⟨by rw [Option.some.inj e1]; rfl, e2⟩, h4⟩]

/-- A number and whether there is one. -/
def one (o : Option Nat) : Value := .tuple #[.int .i64 (o.getD 0 : Nat), .bool o.isSome]
/-- Two numbers and whether there are such. -/
def duo (o : Option (Nat × Nat)) : Value := .tuple #[.int .i64 (((o.getD (0, 0)).1 : Nat) : Int), .int .i64 (((o.getD (0, 0)).2 : Nat) : Int), .bool o.isSome]

theorem numL_readI {s : ByteArray} (h : s.size ≤ 4) : readI s.data.toList = match numL s.data.toList with | some n => (n : Int) | none => -1 := by
  unfold readI numL numTo
  have e : s.data.toList.length = s.size := by simp
  by_cases h1 : 1 ≤ s.data.toList.length ∧ s.data.toList.length ≤ 4 ∧ ¬ (s.data.toList.head? = some 48 ∧ 1 < s.data.toList.length) ∧ s.data.toList.all digB = true
  · rw [if_pos h1, if_pos ⟨h1.1, by omega, h1.2.2⟩]
  · rw [if_neg h1, if_neg (fun h2 => h1 ⟨h2.1, by omega, h2.2.2⟩)]
theorem numL_long {s : ByteArray} (h : 4 < s.size) : numL s.data.toList = none := by
  unfold numL numTo
  have e : s.data.toList.length = s.size := by simp
  rw [if_neg (by rintro ⟨_, h2, _⟩; omega)]

end Go.Proofs.YtnimaadjmejmpaaDoor
