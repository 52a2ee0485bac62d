/-
  Groups (chapter 6): mathematics of good groups.
-/
import Derived.Test.YtkamenidgkjodaaGreatDoorQcGMem
set_option linter.unusedSimpArgs false
set_option linter.unusedVariables false
namespace Go.Proofs.YtkamenidgkjodaaGreatDoor.M
open Go

/-- The lines of the rows that are not of a kind. -/
def lw (k : Int) : List Rw → List ByteArray
  | [] => []
  | x :: l => if x.kind = k then lw k l else x.line :: lw k l
theorem lw_append (k : Int) (a b : List Rw) : lw k (a ++ b) = lw k a ++ lw k b := by
  induction a with
  | nil => rfl
  | cons x a ih => simp only [List.cons_append, lw, ih]; split <;> rfl
theorem lw_step_out {k : Int} {l : List Rw} {j : Nat} {x : Rw} (h : l[j]? = some x) (hk : x.kind = k) : lw k (l.take (j + 1)) = lw k (l.take j) := by
  rw [take_at h, lw_append]; simp [lw, hk]
theorem lw_step_in {k : Int} {l : List Rw} {j : Nat} {x : Rw} (h : l[j]? = some x) (hk : x.kind ≠ k) : lw k (l.take (j + 1)) = lw k (l.take j) ++ [x.line] := by
  rw [take_at h, lw_append]; simp [lw, hk]
theorem lw_len (k : Int) : ∀ l : List Rw, (lw k l).length ≤ l.length
  | [] => by simp [lw]
  | x :: l => by have := lw_len k l; simp only [lw]; split <;> simp <;> omega
theorem lw_mem {k : Int} {l : List Rw} {x : Rw} (hx : x ∈ l) (h : x.kind ≠ k) : x.line ∈ lw k l := by
  induction l with
  | nil => cases hx
  | cons y l ih =>
    simp only [lw]
    rcases List.mem_cons.1 hx with e | e
    · subst e; simp [h]
    · split
      · exact ih e
      · exact List.mem_cons_of_mem _ (ih e)

/-- The kinds are some, and nothing goes right behind what comes. -/
def kindsB (a : Int) : List Rw → Bool
  | [] => true
  | x :: l => (decide (1 ≤ x.kind) && decide (x.kind ≤ 3)) && !(decide (a = 3) && decide (x.kind = 2)) && kindsB x.kind l
def someB (l : List Rw) : Bool := l.any fun x => decide (x.kind ≠ 1)
def rowsB (l : List Rw) : Bool := decide (l.length ≤ 80) && someB l && kindsB 1 l
def standB (p : Int) (l : List ByteArray) : Bool := goodB l && (decide (0 ≤ p) && decide (p ≤ 999)) && decide (p + l.length ≤ 1000)
def groupB (x : Gp) : Bool := rowsB x.rows && standB x.at_ (lw 3 x.rows) && standB x.to_ (lw 2 x.rows)
/-- .. as the model asks it: the lines, too. -/
def rowsS (a : Int) : List Rw → Bool
  | [] => true
  | x :: l => (decide (1 ≤ x.kind) && decide (x.kind ≤ 3)) && lineB x.line && !(decide (a = 3) && decide (x.kind = 2)) && rowsS x.kind l
theorem rowsS_eq : ∀ (a : Int) (l : List Rw), rowsS a l = (kindsB a l && l.all fun x => lineB x.line)
  | _, [] => rfl
  | a, x :: l => by
    simp only [rowsS, kindsB, List.all_cons, rowsS_eq x.kind l]
    cases (decide (1 ≤ x.kind) && decide (x.kind ≤ 3)) <;> cases lineB x.line <;> cases (!(decide (a = 3) && decide (x.kind = 2))) <;> cases kindsB x.kind l <;> simp
theorem kindsB_mem : ∀ {a : Int} {l : List Rw}, kindsB a l = true → ∀ x ∈ l, 1 ≤ x.kind ∧ x.kind ≤ 3
  | _, [], _ => fun x h => by cases h
  | a, y :: l, h => fun x hx => by
    simp only [kindsB, Bool.and_eq_true, decide_eq_true_eq] at h
    rcases List.mem_cons.1 hx with e | e
    · subst e; exact ⟨h.1.1.1, h.1.1.2⟩
    · exact kindsB_mem h.2 x e
theorem goodB_mem {l : List ByteArray} (h : goodB l = true) {s : ByteArray} (hs : s ∈ l) : lineB s = true := by
  obtain ⟨j, hj⟩ := List.mem_iff_getElem?.1 hs
  exact (goodB_at h hj).1
/-- The model's words for a good group. -/
def groupS (x : Gp) : Bool := rowsS 1 x.rows && (someB x.rows && (decide (0 ≤ x.at_) && decide (x.at_ ≤ 999)) && (decide (0 ≤ x.to_) && decide (x.to_ ≤ 999)) && decide (x.at_ + (lw 3 x.rows).length ≤ 1000) && decide (x.to_ + (lw 2 x.rows).length ≤ 1000) && decide (x.rows.length ≤ 80) && goodB (lw 3 x.rows) && goodB (lw 2 x.rows))
theorem groupS_eq (x : Gp) : groupS x = groupB x := by
  unfold groupS groupB rowsB standB
  rw [rowsS_eq]
  cases hg1 : goodB (lw 3 x.rows)
  · simp
  cases hg2 : goodB (lw 2 x.rows)
  · simp
  cases hk : kindsB 1 x.rows
  · simp
  have ha : (x.rows.all fun y => lineB y.line) = true := by
    rw [List.all_eq_true]
    intro y hy
    have h1 := kindsB_mem hk y hy
    by_cases e : y.kind = 3
    · exact goodB_mem hg2 (lw_mem hy (by omega))
    · exact goodB_mem hg1 (lw_mem hy e)
  rw [ha]
  rw [Bool.eq_iff_iff]
  simp only [Bool.and_eq_true, Bool.true_and, Bool.and_true, decide_eq_true_eq]
  constructor
  · rintro ⟨⟨⟨⟨⟨h1, h2⟩, h3⟩, h4⟩, h5⟩, h6⟩; exact ⟨⟨⟨h6, h1⟩, h2, h4⟩, h3, h5⟩
  · rintro ⟨⟨⟨h6, h1⟩, h2, h4⟩, h3, h5⟩; exact ⟨⟨⟨⟨⟨h1, h2⟩, h3⟩, h4⟩, h5⟩, h6⟩
theorem groupB_len {x : Gp} (h : groupB x = true) : x.rows.length ≤ 80 ∧ 0 ≤ x.at_ ∧ x.at_ ≤ 999 ∧ 0 ≤ x.to_ ∧ x.to_ ≤ 999 ∧ (lw 3 x.rows).length ≤ 40 ∧ (lw 2 x.rows).length ≤ 40 := by
  unfold groupB rowsB standB at h
  simp only [Bool.and_eq_true, decide_eq_true_eq] at h
  exact ⟨h.1.1.1.1, h.1.2.1.2.1, h.1.2.1.2.2, h.2.1.2.1, h.2.1.2.2, goodB_len h.1.2.1.1, goodB_len h.2.1.1⟩

/-- Groups one behind the other. -/
def goodGF (a t : Int) : List Gp → Bool
  | [] => true
  | x :: l => groupB x && (decide (a ≤ x.at_) && decide (t ≤ x.to_)) && goodGF (x.at_ + (lw 3 x.rows).length) (x.to_ + (lw 2 x.rows).length) l
def goodG (l : List Gp) : Bool := decide (l.length ≤ 20) && goodGF 0 0 l
theorem goodGF_mem : ∀ {a t : Int} {l : List Gp}, goodGF a t l = true → ∀ x ∈ l, groupB x = true
  | _, _, [], _ => fun x h => by cases h
  | a, t, y :: l, h => fun x hx => by
    simp only [goodGF, Bool.and_eq_true] at h
    rcases List.mem_cons.1 hx with e | e
    · subst e; exact h.1.1
    · exact goodGF_mem h.2 x e

end Go.Proofs.YtkamenidgkjodaaGreatDoor.M
