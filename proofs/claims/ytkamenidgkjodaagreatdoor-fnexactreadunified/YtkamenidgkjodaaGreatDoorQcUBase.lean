/-
  Groups all in one (chapter 7): mathematics of their text.
-/
import Derived.Test.YtkamenidgkjodaaGreatDoorQcSTxtB
import Derived.Test.YtkamenidgkjodaaGreatDoorQcGBase
import Derived.Test.YtkamenidgkjodaaGreatDoorQcNSpecs
set_option linter.unusedSimpArgs false
set_option linter.unusedVariables false
namespace Go.Proofs.YtkamenidgkjodaaGreatDoor.M
open Go

/-- The sign of a row, a row, a head, a group and groups as text. -/
def signB (k : Int) : UInt8 := if k = 1 then 32 else if k = 2 then 45 else 43
def rowT (x : Rw) : List UInt8 := showT [signB x.kind] x.line.data.toList
def rowsT (l : List Rw) : List UInt8 := l.flatMap rowT
def headT (a n t m : Nat) : List UInt8 := [64, 64, 32, 45] ++ countT a n ++ [32, 43] ++ countT t m ++ [32, 64, 64]
def gpHead (x : Gp) : List UInt8 := headT x.at_.toNat (lw 3 x.rows).length x.to_.toNat (lw 2 x.rows).length
def gpT (x : Gp) : List UInt8 := gpHead x ++ [10] ++ rowsT x.rows
def gpsT (g : List Gp) : List UInt8 := g.flatMap gpT

theorem rowsT_snoc (l : List Rw) (x : Rw) : rowsT (l ++ [x]) = rowsT l ++ rowT x := by simp [rowsT]
theorem rowsT_cons (x : Rw) (l : List Rw) : rowsT (x :: l) = rowT x ++ rowsT l := by simp [rowsT]
theorem rowsT_nil : rowsT [] = [] := rfl
theorem gpsT_snoc (l : List Gp) (x : Gp) : gpsT (l ++ [x]) = gpsT l ++ gpT x := by simp [gpsT]
theorem gpsT_cons (x : Gp) (l : List Gp) : gpsT (x :: l) = gpT x ++ gpsT l := by simp [gpsT]

theorem rowT_len {x : Rw} (h : x.line.size ≤ 30) : (rowT x).length ≤ 39 := by
  unfold rowT
  rw [showT_eq]
  have : x.line.data.toList.length = x.line.size := by simp
  split
  · simp; omega
  · simp [noneL]; omega
theorem rowsT_len : ∀ {l : List Rw}, (∀ x ∈ l, x.line.size ≤ 30) → (rowsT l).length ≤ 39 * l.length
  | [], _ => by simp [rowsT]
  | x :: l, h => by
    have h1 := rowT_len (h x (by simp))
    have h2 := rowsT_len (l := l) (fun y hy => h y (by simp [hy]))
    rw [rowsT_cons, List.length_append, List.length_cons]; omega
theorem countT_len {a n : Nat} (ha : a ≤ 999) (hn : n ≤ 999) : (countT a n).length ≤ 9 := by
  have h1 := dec_len 3 (numAt a n) (by simp [numAt]; split <;> omega)
  have h2 := dec_len 3 n (by simp; omega)
  unfold countT
  split <;> simp <;> omega
theorem headT_len {a n t m : Nat} (ha : a ≤ 999) (hn : n ≤ 999) (ht : t ≤ 999) (hm : m ≤ 999) : (headT a n t m).length ≤ 27 := by
  have h1 := countT_len ha hn
  have h2 := countT_len ht hm
  unfold headT
  simp; omega
/-- The lines of a good group are lines. -/
theorem groupB_line {x : Gp} (h : groupB x = true) : ∀ y ∈ x.rows, lineB y.line = true ∧ 1 ≤ y.kind ∧ y.kind ≤ 3 := by
  have h0 := h
  rw [← groupS_eq] at h0
  unfold groupS at h0
  rw [rowsS_eq] at h0
  simp only [Bool.and_eq_true] at h0
  intro y hy
  exact ⟨List.all_eq_true.1 h0.1.2 y hy, kindsB_mem h0.1.1 y hy⟩
theorem gpT_len {x : Gp} (h : groupB x = true) : (gpT x).length ≤ 3200 := by
  obtain ⟨h1, h2, h3, h4, h5, h6, h7⟩ := groupB_len h
  have h8 := rowsT_len (l := x.rows) (fun y hy => (lineB_size (groupB_line h y hy).1).2)
  have h9 := headT_len (a := x.at_.toNat) (n := (lw 3 x.rows).length) (t := x.to_.toNat) (m := (lw 2 x.rows).length) (by omega) (by omega) (by omega) (by omega)
  unfold gpT gpHead
  simp only [List.length_append, List.length_cons, List.length_nil]
  omega
theorem gpsT_len : ∀ {g : List Gp}, (∀ x ∈ g, groupB x = true) → (gpsT g).length ≤ 3200 * g.length
  | [], _ => by simp [gpsT]
  | x :: g, h => by
    have h1 := gpT_len (h x (by simp))
    have h2 := gpsT_len (g := g) (fun y hy => h y (by simp [hy]))
    rw [gpsT_cons, List.length_append, List.length_cons]; omega
theorem goodG_parts {g : List Gp} (h : goodG g = true) : g.length ≤ 20 ∧ goodGF 0 0 g = true ∧ ∀ x ∈ g, groupB x = true := by
  unfold goodG at h
  simp only [Bool.and_eq_true, decide_eq_true_eq] at h
  exact ⟨h.1, h.2, goodGF_mem h.2⟩
theorem gpsT_take {g : List Gp} (h : goodG g = true) (j : Nat) : (gpsT (g.take j)).length ≤ 64000 := by
  obtain ⟨h1, _, h3⟩ := goodG_parts h
  have h4 := gpsT_len (g := g.take j) (fun x hx => h3 x (List.mem_of_mem_take hx))
  have h5 : (g.take j).length ≤ g.length := by simp; omega
  omega

/-! Ranges. -/

theorem dec_no44 (u : Nat) : (44 : UInt8) ∉ Lib.decDigits u := by
  intro h
  have := List.all_eq_true.1 (dec_all u) 44 h
  simp [digB] at this
theorem countL_back {A B : Nat} (hA : A ≤ 999) (hB : B ≤ 999) : countL (countT A B) = some (A, B) := by
  unfold countT
  by_cases h : B = 1
  · subst h
    rw [if_neg (by omega), List.append_nil, countL_one (dec_no44 _), numL_dec _ (by simp [numAt]; omega)]
    simp [numAt]; omega
  · rw [if_pos h, countL_both (dec_no44 _), numL_dec _ (by simp [numAt]; split <;> omega), numL_dec _ (by omega)]
    simp only [numAt]
    by_cases h0 : B = 0
    · subst h0; simp; omega
    · simp only [if_neg h0]; simp; omega
theorem numL_digs {l : List UInt8} {n : Nat} (h : numL l = some n) : ∀ b ∈ l, digB b = true := by
  unfold numL numTo at h
  split at h
  · rename_i hc; exact List.all_eq_true.1 hc.2.2.2
  · cases h
theorem countL_bytes {l : List UInt8} {x : Nat × Nat} (h : countL l = some x) : ∀ b ∈ l, b = 44 ∨ digB b = true := by
  rcases split_cases 44 l with h1 | ⟨p, q, rfl, h1⟩
  · rw [countL_one h1] at h
    cases hn : numL l with
    | none => rw [hn] at h; cases h
    | some n => exact fun b hb => .inr (numL_digs hn b hb)
  · rw [countL_both h1] at h
    cases hn : numL p with
    | none => rw [hn] at h; cases h
    | some n =>
      cases hm : numL q with
      | none => rw [hn, hm] at h; cases h
      | some m =>
        intro b hb
        rcases List.mem_append.1 hb with h2 | h2
        · exact .inr (numL_digs hn b h2)
        · rcases List.mem_cons.1 h2 with h2 | h2
          · exact .inl h2
          · exact .inr (numL_digs hm b h2)
theorem countL_no {l : List UInt8} {x : Nat × Nat} (h : countL l = some x) : (32 : UInt8) ∉ l ∧ (10 : UInt8) ∉ l := by
  constructor
  · intro hb
    rcases countL_bytes h 32 hb with e | e
    · cases e
    · simp [digB] at e
  · intro hb
    rcases countL_bytes h 10 hb with e | e
    · cases e
    · simp [digB] at e
theorem countL_le {l : List UInt8} {a b : Nat} (h : countL l = some (a, b)) : a ≤ 999 ∧ b ≤ 999 := by
  unfold countL at h
  split at h
  · split at h
    · rename_i hc
      obtain ⟨rfl, rfl⟩ : _ = a ∧ _ = b := by simpa using h
      exact ⟨hc.2.1, hc.2.2⟩
    · cases h
  · cases h

/-! Heads. -/

/-- A text that is a head: the place and how many, of the old lines and of the new ones. -/
def HeadIs (h : List UInt8) (a o t c : Nat) : Prop := ∃ f s, h = [64, 64, 32, 45] ++ f ++ [32, 43] ++ s ++ [32, 64, 64] ∧ countL f = some (a, o) ∧ countL s = some (t, c)
theorem head_text {a o t c : Nat} (ha : a ≤ 999) (ho : o ≤ 999) (ht : t ≤ 999) (hc : c ≤ 999) : HeadIs (headT a o t c) a o t c :=
  ⟨_, _, rfl, countL_back ha ho, countL_back ht hc⟩
theorem HeadIs.no10 {h : List UInt8} {a o t c : Nat} (hh : HeadIs h a o t c) : (10 : UInt8) ∉ h := by
  obtain ⟨f, s, rfl, h1, h2⟩ := hh
  have := (countL_no h1).2
  have := (countL_no h2).2
  simp [*]
theorem HeadIs.le {h : List UInt8} {a o t c : Nat} (hh : HeadIs h a o t c) : a ≤ 999 ∧ o ≤ 999 ∧ t ≤ 999 ∧ c ≤ 999 := by
  obtain ⟨f, s, rfl, h1, h2⟩ := hh
  have := countL_le h1
  have := countL_le h2
  omega
theorem cut_same {b : UInt8} {p p' q q' : List UInt8} (h : p ++ b :: q = p' ++ b :: q') (h1 : b ∉ p) (h2 : b ∉ p') : p = p' ∧ q = q' := by
  have e1 := cut_hit b p q h1
  rw [h, cut_hit b p' q' h2] at e1
  injection e1 with e1 e2
  injection e2 with e2 e3
  exact ⟨e1.symm, e2.symm⟩
theorem HeadIs.uniq {h : List UInt8} {a o t c a' o' t' c' : Nat} (h1 : HeadIs h a o t c) (h2 : HeadIs h a' o' t' c') : a = a' ∧ o = o' ∧ t = t' ∧ c = c' := by
  obtain ⟨f, s, rfl, q1, q2⟩ := h1
  obtain ⟨f', s', e, q3, q4⟩ := h2
  have e1 : f ++ 32 :: (43 :: (s ++ [32, 64, 64])) = f' ++ 32 :: (43 :: (s' ++ [32, 64, 64])) := by simpa using e
  obtain ⟨e2, e3⟩ := cut_same e1 (countL_no q1).1 (countL_no q3).1
  have e4 : s ++ 32 :: [64, 64] = s' ++ 32 :: [64, 64] := by simpa using e3
  obtain ⟨e5, _⟩ := cut_same e4 (countL_no q2).1 (countL_no q4).1
  subst e2 e5
  rw [q1] at q3
  rw [q2] at q4
  simp at q3 q4
  exact ⟨q3.1, q3.2, q4.1, q4.2⟩
theorem headT_inj {a o t c o' c' : Nat} (ha : a ≤ 999) (ho : o ≤ 999) (ht : t ≤ 999) (hc : c ≤ 999) (ho' : o' ≤ 999) (hc' : c' ≤ 999) (h : headT a o t c = headT a o' t c') : o = o' ∧ c = c' := by
  have h1 := head_text ha ho ht hc
  rw [h] at h1
  have := h1.uniq (head_text ha ho' ht hc')
  exact ⟨this.2.1, this.2.2.2⟩

/-- A text of groups, in which a range may be told longer. -/
def HeadOf (hd : List UInt8) (x : Gp) : Prop := HeadIs hd x.at_.toNat (lw 3 x.rows).length x.to_.toNat (lw 2 x.rows).length
def Wrt : List Gp → List UInt8 → Prop
  | [], s => s = []
  | x :: g, s => ∃ hd s', HeadOf hd x ∧ s = hd ++ 10 :: (rowsT x.rows ++ s') ∧ Wrt g s'
theorem Wrt.pre {g : List Gp} {s : List UInt8} (h : Wrt g s) : Lib.hasPrefix s noneL = false := by
  cases g with
  | nil => rw [h]; rfl
  | cons x g =>
    obtain ⟨hd, s', ⟨f, t, rfl, _, _⟩, rfl, _⟩ := h
    unfold Lib.hasPrefix noneL
    simp [List.isPrefixOf]
theorem Wrt.snoc {x : Gp} {hd : List UInt8} (hh : HeadOf hd x) : ∀ {g : List Gp} {s : List UInt8}, Wrt g s → Wrt (g ++ [x]) (s ++ (hd ++ 10 :: rowsT x.rows))
  | [], s, h => by
    have h : s = [] := h
    subst h
    exact ⟨hd, [], hh, by simp, rfl⟩
  | y :: g, s, h => by
    obtain ⟨hd', s', h1, rfl, h2⟩ := h
    exact ⟨hd', s' ++ (hd ++ 10 :: rowsT x.rows), h1, by simp, Wrt.snoc hh h2⟩
theorem Wrt.nonempty {g : List Gp} {s : List UInt8} (h : Wrt g s) : s = [] ↔ g = [] := by
  cases g with
  | nil => exact ⟨fun _ => rfl, fun _ => h⟩
  | cons x g =>
    obtain ⟨hd, s', _, rfl, _⟩ := h
    exact ⟨fun e => by simp at e, fun e => by cases e⟩

/-- What ReadUnified answers. -/
def ReadIs (s : List UInt8) (g : List Gp) (c : Int) (o : Bool) : Prop :=
  (goodG g = true ∧ Wrt g s ∧ s.length ≤ 3000 ∧ c = 0 ∧ o = true) ∨ (g = [] ∧ c = 1 ∧ o = false ∧ ¬ (s.length ≤ 3000 ∧ ∃ q, goodG q = true ∧ Wrt q s))

end Go.Proofs.YtkamenidgkjodaaGreatDoor.M
