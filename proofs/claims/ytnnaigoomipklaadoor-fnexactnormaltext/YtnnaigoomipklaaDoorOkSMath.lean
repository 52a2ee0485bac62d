/-
  Plain facts on steps and their text, the plain way: no Go, no program.
  Plain facts on lists of steps that the laws' own functions need: no Go, no program.
  Plain facts on steps made of hunks and hunks made of steps: no Go, no program.
  Plain facts: the steps of hunks that Patch takes are good, and lead to the hunks again: no Go, no program.
-/
import Derived.Test.YtnnaigoomipklaaDoorOkNBase
import Derived.Test.YtnnaigoomipklaaDoorOkBase
import Derived.Test.YtnnaigoomipklaaDoorOkHBases
set_option linter.unusedSimpArgs false
set_option linter.unusedVariables false
namespace Go.Proofs.YtnnaigoomipklaaDoor.M
open Go

/-- A step: the numbers and the lines of both sides. -/
structure Sp where
  fr : Int
  to_ : Int
  old : List ByteArray
  at_ : Int
  en : Int
  new : List ByteArray

/-- Numbers that fit lines on one side. -/
def sideB (a b : Int) (l : List ByteArray) : Bool :=
  decide (0 ≤ a) && decide (a ≤ 1000) && (decide (0 ≤ b) && decide (b ≤ 1000)) && goodB l && (if l.length = 0 then decide (b = a) else decide (1 ≤ a) && decide (b - a + 1 = l.length))
def stepB (x : Sp) : Bool := sideB x.fr x.to_ x.old && sideB x.at_ x.en x.new && decide (0 < x.old.length + x.new.length)
def stepsB (p : List Sp) : Bool := p.all stepB && decide (p.length ≤ 20)

def endsL (l : List UInt8) : Bool := l.getLast? == some 10
def noneL : List UInt8 := [92, 32, 110, 111, 110, 101, 10]
/-- A line that is shown with a sign, in one line or two. -/
def shownL (sign s : List UInt8) : List (List UInt8) := if endsL s then [sign ++ s] else [sign ++ s ++ [10], noneL]
def numsL (a b : Nat) : List UInt8 := if a = b then Lib.decDigits a else Lib.decDigits a ++ 44 :: Lib.decDigits b
def wordL (x : Sp) : UInt8 := if x.old.length = 0 then 97 else if x.new.length = 0 then 100 else 99
def headL (x : Sp) : List UInt8 := numsL x.fr.toNat x.to_.toNat ++ wordL x :: numsL x.at_.toNat x.en.toNat
def ruleL : List UInt8 := [45, 45, 45, 10]
def sideL (sign : List UInt8) (l : List ByteArray) : List (List UInt8) := l.flatMap fun s => shownL sign s.data.toList
/-- The lines of a step's text. -/
def stepL (x : Sp) : List (List UInt8) := (headL x ++ [10]) :: (sideL [60, 32] x.old ++ ((if wordL x = 99 then [ruleL] else []) ++ sideL [62, 32] x.new))
def stepsL (p : List Sp) : List (List UInt8) := p.flatMap stepL
def stepsT (p : List Sp) : List UInt8 := (stepsL p).flatten

/-! Lines cut. -/

/-! Shown lines taken. -/

/-! Heads read. -/

theorem side_le {a b : Int} {l : List ByteArray} (h : sideB a b l = true) : ∃ A B : Nat, a = (A : Int) ∧ b = (B : Int) ∧ A ≤ B ∧ B ≤ 1000 ∧ goodB l = true ∧ (l.length = 0 → A = B) ∧ (l.length ≠ 0 → 1 ≤ A ∧ B + 1 = A + l.length) := by
  unfold sideB at h
  simp only [Bool.and_eq_true, decide_eq_true_eq] at h
  obtain ⟨⟨⟨⟨h1, h2⟩, h3, h4⟩, h5⟩, h6⟩ := h
  refine ⟨a.toNat, b.toNat, by omega, by omega, ?_, by omega, h5, ?_, ?_⟩
  · split at h6
    · simp at h6; omega
    · rename_i hne; simp at h6; omega
  · intro e; rw [if_pos e] at h6; simp at h6; omega
  · intro e; rw [if_neg e] at h6; simp at h6; omega

/-! Steps read. -/

theorem good_lines {l : List ByteArray} (h : goodB l = true) : ∀ s ∈ l, lineB s = true := by
  intro s hs
  obtain ⟨j, hj⟩ := List.mem_iff_getElem?.1 hs
  exact (goodB_at h hj).1

/-! Every line of a step's text ends in a byte 10 and has no other. -/

end Go.Proofs.YtnnaigoomipklaaDoor.M

namespace Go.Proofs.YtnnaigoomipklaaDoor.M
open Go

/-- All lines and bytes of a step, of some steps. -/
def bulk (x : Sp) : Nat := x.old.length + total x.old + (x.new.length + total x.new)
def totalP : List Sp → Nat
  | [] => 0
  | x :: l => bulk x + totalP l
theorem totalP_append (a b : List Sp) : totalP (a ++ b) = totalP a + totalP b := by
  induction a with
  | nil => simp [totalP]
  | cons s a ih => simp [totalP, ih]; omega
theorem totalP_take_succ {l : List Sp} {k : Nat} {x : Sp} (e : l[k]? = some x) : totalP (l.take (k + 1)) = totalP (l.take k) + bulk x := by
  rw [List.take_add_one, e, totalP_append]; simp [totalP]
theorem totalP_take_le (l : List Sp) (k : Nat) : totalP (l.take k) ≤ totalP l := by
  have h := totalP_append (l.take k) (l.drop k)
  rw [List.take_append_drop] at h
  omega
theorem totalP_mem {l : List Sp} {x : Sp} (e : x ∈ l) : bulk x ≤ totalP l := by
  obtain ⟨k, hk⟩ := List.mem_iff_getElem?.1 e
  have h1 := totalP_take_succ hk
  have h2 := totalP_take_le l (k + 1)
  omega

end Go.Proofs.YtnnaigoomipklaaDoor.M

namespace Go.Proofs.YtnnaigoomipklaaDoor.M
open Go

/-- The number of the first of n lines at a place; of none that of the one behind which they are. -/
def numI (a : Int) (n : Nat) : Int := if n = 0 then a else a + 1
/-- The step of one hunk. -/
def stepOf (l : List ByteArray) (more : Int) (x : Hk) : Sp := ⟨numI x.at_ x.gone.toNat, x.at_ + x.gone, oldOf l x, numI (x.at_ + more) x.new.length, x.at_ + more + x.new.length, x.new⟩
def normFrom (l : List ByteArray) : Int → List Hk → List Sp
  | _, [] => []
  | more, x :: hs => stepOf l more x :: normFrom l (more + (x.new.length - x.gone)) hs
def normH (l : List ByteArray) (hs : List Hk) : List Sp := normFrom l 0 hs
def normOf (l : List ByteArray) (hs : List Hk) : List Sp × Bool := if patchOk l hs = true then (normH l hs, true) else ([], false)
theorem norm_step {l : List ByteArray} {hs : List Hk} {more : Int} {j : Nat} {x : Hk} (h : hs[j]? = some x) : normFrom l more (hs.drop j) = stepOf l more x :: normFrom l (more + (x.new.length - x.gone)) (hs.drop (j + 1)) := by
  rw [drop_at h, normFrom]
theorem norm_end {l : List ByteArray} {hs : List Hk} {more : Int} {j : Nat} (h : hs.length ≤ j) : normFrom l more (hs.drop j) = [] := by
  rw [List.drop_eq_nil_of_le h]; rfl
theorem norm_len (l : List ByteArray) : ∀ (hs : List Hk) (more : Int), (normFrom l more hs).length = hs.length
  | [], _ => rfl
  | x :: hs, more => by simp [normFrom, norm_len l hs]
theorem norm_mem {l : List ByteArray} {y : Sp} : ∀ {hs : List Hk} {more : Int}, y ∈ normFrom l more hs → ∃ x ∈ hs, ∃ m, y = stepOf l m x
  | [], _, h => by simp [normFrom] at h
  | x :: hs, more, h => by
    rcases List.mem_cons.1 h with rfl | h
    · exact ⟨x, by simp, _, rfl⟩
    · obtain ⟨z, hz, m, e⟩ := norm_mem h
      exact ⟨z, by simp [hz], m, e⟩
theorem totalP_le {l : List Sp} {b : Nat} (h : ∀ x ∈ l, bulk x ≤ b) : totalP l ≤ l.length * b := by
  induction l with
  | nil => simp [totalP]
  | cons s l ih =>
    have h1 := h s (by simp)
    have h2 := ih (fun t ht => h t (by simp [ht]))
    simp only [totalP, List.length_cons, Nat.add_mul, Nat.one_mul]
    omega
theorem normOf_len (l : List ByteArray) (hs : List Hk) : (normOf l hs).1.length + totalP (normOf l hs).1 ≤ 60000 := by
  unfold normOf
  split
  · next h =>
    obtain ⟨h1, h2, h3⟩ := patchOk_parts h
    have h4 : (normH l hs).length ≤ 20 := by unfold normH; rw [norm_len]; exact (goodH_parts h2).2.2.1
    have h5 : totalP (normH l hs) ≤ (normH l hs).length * 2480 := totalP_le (fun y hy => by
      obtain ⟨x, hx, m, rfl⟩ := norm_mem hy
      have q1 := lines_total (linesB_seg (goodB_lines h1) x.at_.toNat (x.at_ + x.gone).toNat)
      have q2 := lines_total (hunkB_parts (rise_mem (goodH_parts h2).2.2.2 hx)).2.2.2.2
      unfold bulk stepOf oldOf
      dsimp only
      omega)
    have h6 : (normH l hs).length * 2480 ≤ 20 * 2480 := Nat.mul_le_mul_right _ h4
    dsimp only
    omega
  · simp [totalP]

/-- The text of steps, and whether there is one. -/
def textP (p : List Sp) : List UInt8 × Bool := if stepsB p = true ∧ (stepsT p).length ≤ 3000 then (stepsT p, true) else ([], false)

/-! Hunks made of steps. -/

theorem stepB_parts {x : Sp} (h : stepB x = true) : sideB x.fr x.to_ x.old = true ∧ sideB x.at_ x.en x.new = true ∧ 0 < x.old.length + x.new.length := by
  unfold stepB at h
  simp only [Bool.and_eq_true, decide_eq_true_eq] at h
  exact ⟨h.1.1, h.1.2, h.2⟩

end Go.Proofs.YtnnaigoomipklaaDoor.M

