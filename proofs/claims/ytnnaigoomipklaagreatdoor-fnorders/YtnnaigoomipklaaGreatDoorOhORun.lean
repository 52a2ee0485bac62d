/-
  Plain facts on orders that are done, and on orders made of hunks: no Go, no program.
-/
import Derived.Test.YtnnaigoomipklaaGreatDoorOhOMath
set_option linter.unusedSimpArgs false
set_option linter.unusedVariables false
namespace Go.Proofs.YtnnaigoomipklaaGreatDoor.M
open Go

/-! Every line keeps its end; how many there are. -/

/-! Orders made of hunks. -/

def dotD : ByteArray := ⟨#[46, 46, 10]⟩
/-- A dot alone comes as two. -/
def dots (s : ByteArray) : ByteArray := if s = dotA then dotD else s
def fixO : Nat → List ByteArray → List Od
  | _, [] => []
  | a, s :: r => if s = dotA then ⟨5, (a : Int) + 1, (a : Int) + 1, []⟩ :: fixO (a + 1) r else fixO (a + 1) r
def mainK (x : Hk) : Int := if x.gone = 0 then 1 else if x.new.length = 0 then 4 else 3
def mainO (x : Hk) : Od := ⟨mainK x, if x.gone = 0 then x.at_ else x.at_ + 1, x.at_ + x.gone, x.new.map dots⟩
def edOne (x : Hk) : List Od := mainO x :: fixO x.at_.toNat x.new
/-- From the last hunk to the first. -/
def edO : List Hk → List Od
  | [] => []
  | x :: hs => edO hs ++ edOne x
def edOrders (l : List ByteArray) (hs : List Hk) : List Od × Bool :=
  if (patchOf l hs).2 = true ∧ wholeB l = true ∧ wholeB (patchOf l hs).1 = true then (edO hs, true) else ([], false)

theorem fixO_snoc : ∀ (l : List ByteArray) (s : ByteArray) (a : Nat), fixO a (l ++ [s]) = fixO a l ++ (if s = dotA then [⟨5, ((a + l.length : Nat) : Int) + 1, ((a + l.length : Nat) : Int) + 1, []⟩] else [])
  | [], s, a => by simp [fixO]
  | t :: l, s, a => by
    rw [List.cons_append, fixO, fixO, fixO_snoc l s (a + 1)]
    have e : a + 1 + l.length = a + (t :: l).length := by simp; omega
    rw [e]
    split <;> simp
theorem fixO_len : ∀ (l : List ByteArray) (a : Nat), (fixO a l).length ≤ l.length
  | [], _ => by simp [fixO]
  | s :: l, a => by
    have := fixO_len l (a + 1)
    unfold fixO
    split <;> simp <;> omega
theorem edO_step {hs : List Hk} {k : Nat} {x : Hk} (h : hs[k]? = some x) : edO (hs.drop k) = edO (hs.drop (k + 1)) ++ edOne x := by
  have hk : k < hs.length := (List.getElem?_eq_some_iff.1 h).1
  rw [List.getElem?_eq_getElem hk] at h
  injection h with h
  rw [List.drop_eq_getElem_cons hk, h]
  rfl

end Go.Proofs.YtnnaigoomipklaaGreatDoor.M
