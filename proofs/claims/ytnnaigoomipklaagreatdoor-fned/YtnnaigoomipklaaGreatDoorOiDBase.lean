/-
  Plain facts on what two texts share: the longest list, its least pairs, the hunks between. No Go, no program.
-/
import Derived.Test.YtnnaigoomipklaaGreatDoorOiHBases
set_option linter.unusedSimpArgs false
set_option linter.unusedVariables false
namespace Go.Proofs.YtnnaigoomipklaaGreatDoor.M

/-- How many lines the longest list has that comes of both. -/
def lcs : List ByteArray → List ByteArray → Nat
  | [], _ => 0
  | _ :: _, [] => 0
  | x :: a, y :: b => if x = y then lcs a b + 1 else max (lcs a (y :: b)) (lcs (x :: a) b)
termination_by a b => a.length + b.length
theorem lcs_nil (b : List ByteArray) : lcs [] b = 0 := by rw [lcs]
theorem lcs_nil' (a : List ByteArray) : lcs a [] = 0 := by cases a <;> rw [lcs]
theorem lcs_same (x : ByteArray) (a b : List ByteArray) : lcs (x :: a) (x :: b) = lcs a b + 1 := by rw [lcs, if_pos rfl]
theorem lcs_other {x y : ByteArray} (h : x ≠ y) (a b : List ByteArray) : lcs (x :: a) (y :: b) = max (lcs a (y :: b)) (lcs (x :: a) b) := by rw [lcs, if_neg h]
theorem lcs_steps : ∀ (n : Nat) (a b : List ByteArray), a.length + b.length ≤ n →
    (∀ x, lcs a b ≤ lcs (x :: a) b ∧ lcs (x :: a) b ≤ lcs a b + 1) ∧ (∀ y, lcs a b ≤ lcs a (y :: b) ∧ lcs a (y :: b) ≤ lcs a b + 1)
  | 0, a, b, h => by
    have ha : a = [] := List.eq_nil_of_length_eq_zero (by omega)
    have hb : b = [] := List.eq_nil_of_length_eq_zero (by omega)
    subst ha hb
    refine ⟨fun x => ?_, fun y => ?_⟩
    · rw [lcs_nil', lcs_nil']; omega
    · rw [lcs_nil, lcs_nil]; omega
  | n + 1, a, b, h => by
    refine ⟨fun x => ?_, fun y => ?_⟩
    · cases b with
      | nil => rw [lcs_nil', lcs_nil']; omega
      | cons y b =>
        have ih := lcs_steps n a b (by simp at h; omega)
        have h1 := ih.1 x
        have h2 := ih.2 y
        by_cases e : x = y
        · subst e; rw [lcs_same]; omega
        · rw [lcs_other e]; omega
    · cases a with
      | nil => rw [lcs_nil, lcs_nil]; omega
      | cons x a =>
        have ih := lcs_steps n a b (by simp at h; omega)
        have h1 := ih.1 x
        have h2 := ih.2 y
        by_cases e : x = y
        · subst e; rw [lcs_same]; omega
        · rw [lcs_other e]; omega
theorem lcs_left (x : ByteArray) (a b : List ByteArray) : lcs a b ≤ lcs (x :: a) b ∧ lcs (x :: a) b ≤ lcs a b + 1 := (lcs_steps _ a b (Nat.le_refl _)).1 x
theorem lcs_right (y : ByteArray) (a b : List ByteArray) : lcs a b ≤ lcs a (y :: b) ∧ lcs a (y :: b) ≤ lcs a b + 1 := (lcs_steps _ a b (Nat.le_refl _)).2 y
theorem lcs_le : ∀ (n : Nat) (a b : List ByteArray), a.length + b.length ≤ n → lcs a b ≤ a.length ∧ lcs a b ≤ b.length
  | n, [], b, h => by rw [lcs_nil]; omega
  | n, x :: a, [], h => by rw [lcs_nil']; omega
  | 0, x :: a, y :: b, h => by simp at h
  | n + 1, x :: a, y :: b, h => by
    simp only [List.length_cons] at h ⊢
    have h1 := lcs_le n a b (by omega)
    have h2 := lcs_le n a (y :: b) (by simp; omega)
    have h3 := lcs_le n (x :: a) b (by simp; omega)
    simp only [List.length_cons] at h2 h3
    by_cases e : x = y
    · subst e; rw [lcs_same]; omega
    · rw [lcs_other e]; omega
theorem lcs_le_left (a b : List ByteArray) : lcs a b ≤ a.length := (lcs_le _ a b (Nat.le_refl _)).1
theorem lcs_le_right (a b : List ByteArray) : lcs a b ≤ b.length := (lcs_le _ a b (Nat.le_refl _)).2

/-- The table by places. -/
def tab (a b : List ByteArray) (i j : Nat) : Nat := lcs (a.drop i) (b.drop j)
theorem tab_end {a b : List ByteArray} {i : Nat} (h : a.length ≤ i) (j : Nat) : tab a b i j = 0 := by unfold tab; rw [List.drop_eq_nil_of_le h, lcs_nil]
theorem tab_end' {a b : List ByteArray} {j : Nat} (h : b.length ≤ j) (i : Nat) : tab a b i j = 0 := by unfold tab; rw [List.drop_eq_nil_of_le h, lcs_nil']
theorem tab_same {a b : List ByteArray} {i j : Nat} {s : ByteArray} (h1 : a[i]? = some s) (h2 : b[j]? = some s) : tab a b i j = tab a b (i + 1) (j + 1) + 1 := by
  unfold tab; rw [drop_at h1, drop_at h2, lcs_same]
theorem tab_other {a b : List ByteArray} {i j : Nat} {s t : ByteArray} (h1 : a[i]? = some s) (h2 : b[j]? = some t) (h : s ≠ t) : tab a b i j = max (tab a b (i + 1) j) (tab a b i (j + 1)) := by
  unfold tab; rw [drop_at h1, drop_at h2, lcs_other h]
theorem tab_near {a b : List ByteArray} {i j : Nat} {s t : ByteArray} (h1 : a[i]? = some s) (h2 : b[j]? = some t) : tab a b (i + 1) j ≤ tab a b (i + 1) (j + 1) + 1 ∧ tab a b i (j + 1) ≤ tab a b (i + 1) (j + 1) + 1 := by
  unfold tab
  rw [drop_at h1, drop_at h2]
  exact ⟨(lcs_right _ _ _).2, (lcs_left _ _ _).2⟩
theorem tab_le (a b : List ByteArray) (i j : Nat) : tab a b i j ≤ a.length ∧ tab a b i j ≤ b.length := by
  unfold tab
  have h1 := lcs_le_left (a.drop i) (b.drop j)
  have h2 := lcs_le_right (a.drop i) (b.drop j)
  simp only [List.length_drop] at h1 h2
  omega

/-- The places at which both have the same line, in order. -/
def rowM (a b : List ByteArray) (i : Nat) : List (Nat × Nat) := (List.range b.length).filterMap fun j => if a[i]? = b[j]? then some (i, j) else none
def hits (a b : List ByteArray) : List (Nat × Nat) := (List.range a.length).flatMap (rowM a b)
def ltP (p q : Nat × Nat) : Prop := p.1 < q.1 ∨ (p.1 = q.1 ∧ p.2 < q.2)
instance (p q : Nat × Nat) : Decidable (ltP p q) := by unfold ltP; infer_instance
theorem rowM_mem {a b : List ByteArray} {i : Nat} {p : Nat × Nat} : p ∈ rowM a b i ↔ p.1 = i ∧ p.2 < b.length ∧ a[i]? = b[p.2]? := by
  unfold rowM
  rw [List.mem_filterMap]
  constructor
  · rintro ⟨j, hj, e⟩
    split at e
    · next h => injection e with e; subst e; exact ⟨rfl, by simpa using hj, h⟩
    · cases e
  · rintro ⟨rfl, h2, h3⟩
    exact ⟨p.2, by simpa using h2, by rw [if_pos h3]⟩
theorem hits_mem {a b : List ByteArray} {p : Nat × Nat} : p ∈ hits a b ↔ p.1 < a.length ∧ p.2 < b.length ∧ a[p.1]? = b[p.2]? := by
  unfold hits
  rw [List.mem_flatMap]
  constructor
  · rintro ⟨i, hi, h⟩
    obtain ⟨e, h1, h2⟩ := rowM_mem.1 h
    subst e
    exact ⟨by simpa using hi, h1, h2⟩
  · rintro ⟨h1, h2, h3⟩
    exact ⟨p.1, by simpa using h1, rowM_mem.2 ⟨rfl, h2, h3⟩⟩
theorem rowM_sorted (a b : List ByteArray) (i : Nat) : (rowM a b i).Pairwise ltP := by
  unfold rowM
  rw [List.pairwise_filterMap]
  refine List.Pairwise.imp ?_ List.pairwise_lt_range
  intro j k hjk p hp q hq
  split at hp
  · split at hq
    · injection hp with hp; injection hq with hq; subst hp hq; exact .inr ⟨rfl, hjk⟩
    · cases hq
  · cases hp
theorem hits_sorted (a b : List ByteArray) : (hits a b).Pairwise ltP := by
  unfold hits
  rw [List.pairwise_flatMap]
  refine ⟨fun i _ => rowM_sorted a b i, List.Pairwise.imp ?_ List.pairwise_lt_range⟩
  intro i k hik p hp q hq
  have h1 := (rowM_mem.1 hp).1
  have h2 := (rowM_mem.1 hq).1
  exact .inl (by omega)

/-- A pair may be the next one behind places i and j. -/
def nextP (a b : List ByteArray) (i j : Nat) (p : Nat × Nat) : Prop := i ≤ p.1 ∧ j ≤ p.2 ∧ tab a b (p.1 + 1) (p.2 + 1) + 1 = tab a b i j
instance (a b : List ByteArray) (i j : Nat) (p : Nat × Nat) : Decidable (nextP a b i j p) := by unfold nextP; infer_instance
def takeP (a b : List ByteArray) : Nat → Nat → List (Nat × Nat) → List (Nat × Nat)
  | _, _, [] => []
  | i, j, p :: M => if nextP a b i j p then p :: takeP a b (p.1 + 1) (p.2 + 1) M else takeP a b i j M
def pairsFrom (a b : List ByteArray) (i j : Nat) : List (Nat × Nat) := takeP a b i j (hits a b)
/-- The least pairs of places of a longest list. -/
def pairsOf (a b : List ByteArray) : List (Nat × Nat) := pairsFrom a b 0 0
theorem take_yes {a b : List ByteArray} {i j : Nat} {p : Nat × Nat} {M : List (Nat × Nat)} (h : nextP a b i j p) : takeP a b i j (p :: M) = p :: takeP a b (p.1 + 1) (p.2 + 1) M := by rw [takeP, if_pos h]
theorem take_no {a b : List ByteArray} {i j : Nat} {p : Nat × Nat} {M : List (Nat × Nat)} (h : ¬ nextP a b i j p) : takeP a b i j (p :: M) = takeP a b i j M := by rw [takeP, if_neg h]
theorem take_skip {a b : List ByteArray} {i j : Nat} : ∀ {M1 M2 : List (Nat × Nat)}, (∀ q ∈ M1, ¬ nextP a b i j q) → takeP a b i j (M1 ++ M2) = takeP a b i j M2
  | [], M2, _ => rfl
  | q :: M1, M2, h => by
    rw [List.cons_append, take_no (h q (by simp)), take_skip (fun q hq => h q (by simp [hq]))]
theorem take_rises {a b : List ByteArray} : ∀ {M : List (Nat × Nat)} {i j : Nat}, rises i j (takeP a b i j M)
  | [], i, j => trivial
  | p :: M, i, j => by
    rw [takeP]
    split
    · next h => exact ⟨h.1, h.2.1, take_rises⟩
    · exact take_rises
theorem take_mem {a b : List ByteArray} {s : Nat × Nat} : ∀ {M : List (Nat × Nat)} {i j : Nat}, s ∈ takeP a b i j M → s ∈ M
  | [], i, j, h => by simp [takeP] at h
  | p :: M, i, j, h => by
    rw [takeP] at h
    split at h
    · rcases List.mem_cons.1 h with h | h
      · rw [h]; simp
      · simp [take_mem h]
    · simp [take_mem h]
theorem pairs_mem {a b : List ByteArray} {i j : Nat} {s : Nat × Nat} (h : s ∈ pairsFrom a b i j) : s.1 < a.length ∧ s.2 < b.length ∧ a[s.1]? = b[s.2]? := hits_mem.1 (take_mem h)
/-- What is taken, by its first pair and what lies around it. -/
theorem pairs_split {a b : List ByteArray} {i j : Nat} {p : Nat × Nat} {M1 M2 : List (Nat × Nat)} (hM : hits a b = M1 ++ p :: M2) (hp : nextP a b i j p) (h1 : ∀ q ∈ M1, ¬ nextP a b i j q) :
    pairsFrom a b i j = p :: takeP a b (p.1 + 1) (p.2 + 1) M2 ∧ pairsFrom a b (p.1 + 1) (p.2 + 1) = takeP a b (p.1 + 1) (p.2 + 1) M2 := by
  unfold pairsFrom
  rw [hM]
  refine ⟨by rw [take_skip h1, take_yes hp], ?_⟩
  have hs := hits_sorted a b
  rw [hM, List.pairwise_append] at hs
  rw [take_skip (fun q hq h => ?_), take_no (fun h => ?_)]
  · have := h.1; omega
  · have h2 := hs.2.2 q hq p (by simp)
    have := h.1
    rcases h2 with h2 | h2 <;> omega
theorem first_of {p : Nat × Nat → Prop} [DecidablePred p] : ∀ {M : List (Nat × Nat)}, (∃ q ∈ M, p q) → ∃ M1 x M2, M = M1 ++ x :: M2 ∧ p x ∧ ∀ q ∈ M1, ¬ p q
  | [], h => by obtain ⟨q, hq, _⟩ := h; simp at hq
  | x :: M, h => by
    by_cases hx : p x
    · exact ⟨[], x, M, rfl, hx, fun q hq => by simp at hq⟩
    · obtain ⟨q, hq, h2⟩ := h
      rcases List.mem_cons.1 hq with e | hq
      · subst e; exact absurd h2 hx
      · obtain ⟨M1, y, M2, e, hy, h3⟩ := first_of (M := M) ⟨q, hq, h2⟩
        refine ⟨x :: M1, y, M2, by rw [e]; rfl, hy, fun q hq => ?_⟩
        rcases List.mem_cons.1 hq with e | hq
        · subst e; exact hx
        · exact h3 q hq
/-- Where something is shared there is a pair that is the next one. -/
theorem next_ex {a b : List ByteArray} : ∀ (n i j : Nat), a.length - i + (b.length - j) ≤ n → 0 < tab a b i j → ∃ p ∈ hits a b, nextP a b i j p
  | n, i, j, hn, h => by
    by_cases hi : i < a.length
    · by_cases hj : j < b.length
      · have ha := List.getElem?_eq_getElem hi
        have hb := List.getElem?_eq_getElem hj
        by_cases e : a[i] = b[j]
        · refine ⟨(i, j), hits_mem.2 ⟨hi, hj, by rw [ha, hb, e]⟩, Nat.le_refl _, Nat.le_refl _, ?_⟩
          rw [e] at ha
          exact (tab_same ha hb).symm
        · rw [tab_other ha hb e] at h
          cases n with
          | zero => omega
          | succ n =>
            by_cases hm : tab a b (i + 1) j ≤ tab a b i (j + 1)
            · obtain ⟨p, h1, h2, h3, h4⟩ := next_ex (a := a) (b := b) n i (j + 1) (by omega) (by omega)
              exact ⟨p, h1, h2, by omega, by rw [h4, tab_other ha hb e]; omega⟩
            · obtain ⟨p, h1, h2, h3, h4⟩ := next_ex (a := a) (b := b) n (i + 1) j (by omega) (by omega)
              exact ⟨p, h1, by omega, h3, by rw [h4, tab_other ha hb e]; omega⟩
      · rw [tab_end' (by omega)] at h; omega
    · rw [tab_end (by omega)] at h; omega
theorem pairs_nil {a b : List ByteArray} {i j : Nat} (h : tab a b i j = 0) : pairsFrom a b i j = [] := by
  unfold pairsFrom
  have := take_skip (a := a) (b := b) (i := i) (j := j) (M1 := hits a b) (M2 := []) (fun q _ hq => by have := hq.2.2; omega)
  rw [List.append_nil] at this
  rw [this, takeP]
theorem pairs_len {a b : List ByteArray} : ∀ (n i j : Nat), tab a b i j = n → (pairsFrom a b i j).length = n
  | 0, i, j, h => by rw [pairs_nil h]; rfl
  | n + 1, i, j, h => by
    obtain ⟨M1, p, M2, hM, hp, h1⟩ := first_of (next_ex _ i j (Nat.le_refl _) (show 0 < tab a b i j by omega))
    obtain ⟨e1, e2⟩ := pairs_split hM hp h1
    have ih := pairs_len (a := a) (b := b) n (p.1 + 1) (p.2 + 1) (by have := hp.2.2; omega)
    rw [e1, ← e2, List.length_cons, ih]
/-- The least pair that may be the next one is. -/
theorem pairs_least {a b : List ByteArray} {i j : Nat} {p : Nat × Nat} (hm : p ∈ hits a b) (hp : nextP a b i j p) (hl : ∀ q ∈ hits a b, nextP a b i j q → ¬ ltP q p) : pairsFrom a b i j = p :: pairsFrom a b (p.1 + 1) (p.2 + 1) := by
  obtain ⟨M1, M2, hM⟩ := List.append_of_mem hm
  have hs := hits_sorted a b
  rw [hM, List.pairwise_append] at hs
  obtain ⟨e1, e2⟩ := pairs_split hM hp (fun q hq h => hl q (by rw [hM]; simp [hq]) h (hs.2.2 q hq p (by simp)))
  rw [e1, e2]
theorem pairs_rise (a b : List ByteArray) : rises 0 0 (pairsOf a b) := take_rises
theorem pairs_count (a b : List ByteArray) : (pairsOf a b).length = lcs a b := pairs_len _ 0 0 rfl
def stopsD (a b : List ByteArray) : List (Nat × Nat) := pairsOf a b ++ [(a.length, b.length)]
theorem stopsD_rise (a b : List ByteArray) : rises 0 0 (stopsD a b) :=
  rises_snoc (pairs_rise a b) (fun s hs => ⟨(pairs_mem hs).1, (pairs_mem hs).2.1⟩) (Nat.zero_le _) (Nat.zero_le _)
theorem stopsD_le {a b : List ByteArray} {s : Nat × Nat} (h : s ∈ stopsD a b) : s.1 ≤ a.length ∧ s.2 ≤ b.length := by
  rcases List.mem_append.1 h with h | h
  · obtain ⟨h1, h2, _⟩ := pairs_mem h; omega
  · simp at h; rw [h]; exact ⟨Nat.le_refl _, Nat.le_refl _⟩
/-- The hunks between two texts. -/
def diffH (a b : List ByteArray) : List Hk := joinFrom b 0 0 (stopsD a b)
def bothB (a b : List ByteArray) : Bool := goodB a && goodB b
def linesC (a b : List ByteArray) : List (Nat × Nat) × Bool := if bothB a b = true then (pairsOf a b, true) else ([], false)
def diffOk (a b : List ByteArray) : Bool := bothB a b && goodH a.length (diffH a b)
def diffOf (a b : List ByteArray) : List Hk × Bool := if diffOk a b = true then (diffH a b, true) else ([], false)
def needsOf (a b : List ByteArray) : Int × Bool := if bothB a b = true then (((diffH a b).length : Int), true) else (0, false)
theorem bothB_parts {a b : List ByteArray} (h : bothB a b = true) : goodB a = true ∧ goodB b = true := by simpa [bothB] using h

end Go.Proofs.YtnnaigoomipklaaGreatDoor.M
