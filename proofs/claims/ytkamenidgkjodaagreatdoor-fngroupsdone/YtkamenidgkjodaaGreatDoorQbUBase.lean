/-
  Groups all in one (chapter 7): mathematics of their text.
  Groups all in one, read: mathematics of the program's reader. The reader is what is left of a text and whether it has failed.
  Groups all in one, read by the program: what rows, a group and groups that have been read are; mathematics.
  Groups all in one, read by the model line by line: mathematics.
-/
import Derived.Test.YtkamenidgkjodaaGreatDoorQbSTxtB
import Derived.Test.YtkamenidgkjodaaGreatDoorQbGMem
import Derived.Test.YtkamenidgkjodaaGreatDoorQbNSpecs
set_option linter.unusedSimpArgs false
set_option linter.unusedVariables false
namespace Go.Proofs.YtkamenidgkjodaaGreatDoor.M
open Go

def signB (k : Int) : UInt8 := if k = 1 then 32 else if k = 2 then 45 else 43
def rowT (x : Rw) : List UInt8 := showT [signB x.kind] x.line.data.toList
def rowsT (l : List Rw) : List UInt8 := l.flatMap rowT
def headT (a n t m : Nat) : List UInt8 := [64, 64, 32, 45] ++ countT a n ++ [32, 43] ++ countT t m ++ [32, 64, 64]
def gpHead (x : Gp) : List UInt8 := headT x.at_.toNat (lw 3 x.rows).length x.to_.toNat (lw 2 x.rows).length
def gpT (x : Gp) : List UInt8 := gpHead x ++ [10] ++ rowsT x.rows
def gpsT (g : List Gp) : List UInt8 := g.flatMap gpT
def textG (g : List Gp) : List UInt8 × Bool := if goodG g = true ∧ (gpsT g).length ≤ 3000 then (gpsT g, true) else ([], false)

theorem rowsT_snoc (l : List Rw) (x : Rw) : rowsT (l ++ [x]) = rowsT l ++ rowT x := by simp [rowsT]
theorem rowsT_cons (x : Rw) (l : List Rw) : rowsT (x :: l) = rowT x ++ rowsT l := by simp [rowsT]
theorem rowsT_nil : rowsT [] = [] := rfl
theorem gpsT_snoc (l : List Gp) (x : Gp) : gpsT (l ++ [x]) = gpsT l ++ gpT x := by simp [gpsT]
theorem gpsT_cons (x : Gp) (l : List Gp) : gpsT (x :: l) = gpT x ++ gpsT l := by simp [gpsT]

theorem rowT_len {x : Rw} (h : x.line.size ≤ 30) : (rowT x).length ≤ 39 := by
  unfold rowT
  rw [showT_eq]
  have : x.line.data.toList.length = x.line.size := by simp
  split
  · simp; omega
  · simp [noneL]; omega
theorem rowsT_len : ∀ {l : List Rw}, (∀ x ∈ l, x.line.size ≤ 30) → (rowsT l).length ≤ 39 * l.length
  | [], _ => by simp [rowsT]
  | x :: l, h => by
    have h1 := rowT_len (h x (by simp))
    have h2 := rowsT_len (l := l) (fun y hy => h y (by simp [hy]))
    rw [rowsT_cons, List.length_append, List.length_cons]; omega
theorem countT_len {a n : Nat} (ha : a ≤ 999) (hn : n ≤ 999) : (countT a n).length ≤ 9 := by
  have h1 := dec_len 3 (numAt a n) (by simp [numAt]; split <;> omega)
  have h2 := dec_len 3 n (by simp; omega)
  unfold countT
  split <;> simp <;> omega
theorem headT_len {a n t m : Nat} (ha : a ≤ 999) (hn : n ≤ 999) (ht : t ≤ 999) (hm : m ≤ 999) : (headT a n t m).length ≤ 27 := by
  have h1 := countT_len ha hn
  have h2 := countT_len ht hm
  unfold headT
  simp; omega
theorem groupB_line {x : Gp} (h : groupB x = true) : ∀ y ∈ x.rows, lineB y.line = true ∧ 1 ≤ y.kind ∧ y.kind ≤ 3 := by
  have h0 := h
  rw [← groupS_eq] at h0
  unfold groupS at h0
  rw [rowsS_eq] at h0
  simp only [Bool.and_eq_true] at h0
  intro y hy
  exact ⟨List.all_eq_true.1 h0.1.2 y hy, kindsB_mem h0.1.1 y hy⟩
theorem gpT_len {x : Gp} (h : groupB x = true) : (gpT x).length ≤ 3200 := by
  obtain ⟨h1, h2, h3, h4, h5, h6, h7⟩ := groupB_len h
  have h8 := rowsT_len (l := x.rows) (fun y hy => (lineB_size (groupB_line h y hy).1).2)
  have h9 := headT_len (a := x.at_.toNat) (n := (lw 3 x.rows).length) (t := x.to_.toNat) (m := (lw 2 x.rows).length) (by omega) (by omega) (by omega) (by omega)
  unfold gpT gpHead
  simp only [List.length_append, List.length_cons, List.length_nil]
  omega
theorem gpsT_len : ∀ {g : List Gp}, (∀ x ∈ g, groupB x = true) → (gpsT g).length ≤ 3200 * g.length
  | [], _ => by simp [gpsT]
  | x :: g, h => by
    have h1 := gpT_len (h x (by simp))
    have h2 := gpsT_len (g := g) (fun y hy => h y (by simp [hy]))
    rw [gpsT_cons, List.length_append, List.length_cons]; omega
theorem goodG_parts {g : List Gp} (h : goodG g = true) : g.length ≤ 20 ∧ goodGF 0 0 g = true ∧ ∀ x ∈ g, groupB x = true := by
  unfold goodG at h
  simp only [Bool.and_eq_true, decide_eq_true_eq] at h
  exact ⟨h.1, h.2, goodGF_mem h.2⟩
theorem gpsT_take {g : List Gp} (h : goodG g = true) (j : Nat) : (gpsT (g.take j)).length ≤ 64000 := by
  obtain ⟨h1, _, h3⟩ := goodG_parts h
  have h4 := gpsT_len (g := g.take j) (fun x hx => h3 x (List.mem_of_mem_take hx))
  have h5 : (g.take j).length ≤ g.length := by simp; omega
  omega
theorem gpsT_all {g : List Gp} (h : goodG g = true) : (gpsT g).length ≤ 64000 := by
  have := gpsT_take h g.length
  rwa [List.take_length] at this
theorem textG_len (g : List Gp) : (textG g).1.length ≤ 3000 := by
  unfold textG
  split
  · rename_i h; exact h.2
  · simp


theorem dec_no44 (u : Nat) : (44 : UInt8) ∉ Lib.decDigits u := by
  intro h
  have := List.all_eq_true.1 (dec_all u) 44 h
  simp [digB] at this
theorem countL_back {A B : Nat} (hA : A ≤ 999) (hB : B ≤ 999) : countL (countT A B) = some (A, B) := by
  unfold countT
  by_cases h : B = 1
  · subst h
    rw [if_neg (by omega), List.append_nil, countL_one (dec_no44 _), numL_dec _ (by simp [numAt]; omega)]
    simp [numAt]; omega
  · rw [if_pos h, countL_both (dec_no44 _), numL_dec _ (by simp [numAt]; split <;> omega), numL_dec _ (by omega)]
    simp only [numAt]
    by_cases h0 : B = 0
    · subst h0; simp; omega
    · simp only [if_neg h0]; simp; omega
theorem numL_digs {l : List UInt8} {n : Nat} (h : numL l = some n) : ∀ b ∈ l, digB b = true := by
  unfold numL numTo at h
  split at h
  · rename_i hc; exact List.all_eq_true.1 hc.2.2.2
  · cases h
theorem countL_bytes {l : List UInt8} {x : Nat × Nat} (h : countL l = some x) : ∀ b ∈ l, b = 44 ∨ digB b = true := by
  rcases split_cases 44 l with h1 | ⟨p, q, rfl, h1⟩
  · rw [countL_one h1] at h
    cases hn : numL l with
    | none => rw [hn] at h; cases h
    | some n => exact fun b hb => .inr (numL_digs hn b hb)
  · rw [countL_both h1] at h
    cases hn : numL p with
    | none => rw [hn] at h; cases h
    | some n =>
      cases hm : numL q with
      | none => rw [hn, hm] at h; cases h
      | some m =>
        intro b hb
        rcases List.mem_append.1 hb with h2 | h2
        · exact .inr (numL_digs hn b h2)
        · rcases List.mem_cons.1 h2 with h2 | h2
          · exact .inl h2
          · exact .inr (numL_digs hm b h2)
theorem countL_no {l : List UInt8} {x : Nat × Nat} (h : countL l = some x) : (32 : UInt8) ∉ l ∧ (10 : UInt8) ∉ l := by
  constructor
  · intro hb
    rcases countL_bytes h 32 hb with e | e
    · cases e
    · simp [digB] at e
  · intro hb
    rcases countL_bytes h 10 hb with e | e
    · cases e
    · simp [digB] at e
theorem countL_le {l : List UInt8} {a b : Nat} (h : countL l = some (a, b)) : a ≤ 999 ∧ b ≤ 999 := by
  unfold countL at h
  split at h
  · split at h
    · rename_i hc
      obtain ⟨rfl, rfl⟩ : _ = a ∧ _ = b := by simpa using h
      exact ⟨hc.2.1, hc.2.2⟩
    · cases h
  · cases h


def HeadIs (h : List UInt8) (a o t c : Nat) : Prop := ∃ f s, h = [64, 64, 32, 45] ++ f ++ [32, 43] ++ s ++ [32, 64, 64] ∧ countL f = some (a, o) ∧ countL s = some (t, c)
theorem head_text {a o t c : Nat} (ha : a ≤ 999) (ho : o ≤ 999) (ht : t ≤ 999) (hc : c ≤ 999) : HeadIs (headT a o t c) a o t c :=
  ⟨_, _, rfl, countL_back ha ho, countL_back ht hc⟩
theorem HeadIs.no10 {h : List UInt8} {a o t c : Nat} (hh : HeadIs h a o t c) : (10 : UInt8) ∉ h := by
  obtain ⟨f, s, rfl, h1, h2⟩ := hh
  have := (countL_no h1).2
  have := (countL_no h2).2
  simp [*]
theorem HeadIs.le {h : List UInt8} {a o t c : Nat} (hh : HeadIs h a o t c) : a ≤ 999 ∧ o ≤ 999 ∧ t ≤ 999 ∧ c ≤ 999 := by
  obtain ⟨f, s, rfl, h1, h2⟩ := hh
  have := countL_le h1
  have := countL_le h2
  omega
theorem cut_same {b : UInt8} {p p' q q' : List UInt8} (h : p ++ b :: q = p' ++ b :: q') (h1 : b ∉ p) (h2 : b ∉ p') : p = p' ∧ q = q' := by
  have e1 := cut_hit b p q h1
  rw [h, cut_hit b p' q' h2] at e1
  injection e1 with e1 e2
  injection e2 with e2 e3
  exact ⟨e1.symm, e2.symm⟩
theorem HeadIs.uniq {h : List UInt8} {a o t c a' o' t' c' : Nat} (h1 : HeadIs h a o t c) (h2 : HeadIs h a' o' t' c') : a = a' ∧ o = o' ∧ t = t' ∧ c = c' := by
  obtain ⟨f, s, rfl, q1, q2⟩ := h1
  obtain ⟨f', s', e, q3, q4⟩ := h2
  have e1 : f ++ 32 :: (43 :: (s ++ [32, 64, 64])) = f' ++ 32 :: (43 :: (s' ++ [32, 64, 64])) := by simpa using e
  obtain ⟨e2, e3⟩ := cut_same e1 (countL_no q1).1 (countL_no q3).1
  have e4 : s ++ 32 :: [64, 64] = s' ++ 32 :: [64, 64] := by simpa using e3
  obtain ⟨e5, _⟩ := cut_same e4 (countL_no q2).1 (countL_no q4).1
  subst e2 e5
  rw [q1] at q3
  rw [q2] at q4
  simp at q3 q4
  exact ⟨q3.1, q3.2, q4.1, q4.2⟩

def HeadOf (hd : List UInt8) (x : Gp) : Prop := HeadIs hd x.at_.toNat (lw 3 x.rows).length x.to_.toNat (lw 2 x.rows).length
def Wrt : List Gp → List UInt8 → Prop
  | [], s => s = []
  | x :: g, s => ∃ hd s', HeadOf hd x ∧ s = hd ++ 10 :: (rowsT x.rows ++ s') ∧ Wrt g s'
theorem Wrt.text : ∀ {g : List Gp}, (∀ x ∈ g, groupB x = true) → Wrt g (gpsT g)
  | [], _ => rfl
  | x :: g, h => by
    obtain ⟨h1, h2, h3, h4, h5, h6, h7⟩ := groupB_len (h x (by simp))
    refine ⟨gpHead x, gpsT g, head_text (by omega) (by omega) (by omega) (by omega), ?_, Wrt.text (fun y hy => h y (by simp [hy]))⟩
    rw [gpsT_cons, gpT]; simp
theorem Wrt.pre {g : List Gp} {s : List UInt8} (h : Wrt g s) : Lib.hasPrefix s noneL = false := by
  cases g with
  | nil => rw [h]; rfl
  | cons x g =>
    obtain ⟨hd, s', ⟨f, t, rfl, _, _⟩, rfl, _⟩ := h
    unfold Lib.hasPrefix noneL
    simp [List.isPrefixOf]
theorem Wrt.snoc {x : Gp} {hd : List UInt8} (hh : HeadOf hd x) : ∀ {g : List Gp} {s : List UInt8}, Wrt g s → Wrt (g ++ [x]) (s ++ (hd ++ 10 :: rowsT x.rows))
  | [], s, h => by
    have h : s = [] := h
    subst h
    exact ⟨hd, [], hh, by simp, rfl⟩
  | y :: g, s, h => by
    obtain ⟨hd', s', h1, rfl, h2⟩ := h
    exact ⟨hd', s' ++ (hd ++ 10 :: rowsT x.rows), h1, by simp, Wrt.snoc hh h2⟩
theorem Wrt.nonempty {g : List Gp} {s : List UInt8} (h : Wrt g s) : s = [] ↔ g = [] := by
  cases g with
  | nil => exact ⟨fun _ => rfl, fun _ => h⟩
  | cons x g =>
    obtain ⟨hd, s', _, rfl, _⟩ := h
    exact ⟨fun e => by simp at e, fun e => by cases e⟩

def ReadIs (s : List UInt8) (g : List Gp) (c : Int) (o : Bool) : Prop :=
  (goodG g = true ∧ Wrt g s ∧ s.length ≤ 3000 ∧ c = 0 ∧ o = true) ∨ (g = [] ∧ c = 1 ∧ o = false ∧ ¬ (s.length ≤ 3000 ∧ ∃ q, goodG q = true ∧ Wrt q s))

end Go.Proofs.YtkamenidgkjodaaGreatDoor.M

namespace Go.Proofs.YtkamenidgkjodaaGreatDoor.M
open Go

def rWord (p : List UInt8) (r : List UInt8 × Bool) : List UInt8 × Bool := if Lib.hasPrefix r.1 p = true then (r.1.drop p.length, r.2) else ([], true)
def rPlain (r : List UInt8 × Bool) : List UInt8 × (List UInt8 × Bool) := if (Lib.cut r.1 [10]).2.2 = true then ((Lib.cut r.1 [10]).1, ((Lib.cut r.1 [10]).2.1, r.2)) else ([], ([], true))
def rShown (sign : List UInt8) (r : List UInt8 × Bool) : List UInt8 × (List UInt8 × Bool) :=
  if Lib.hasPrefix (rPlain (rWord sign r)).2.1 noneL = true then ((rPlain (rWord sign r)).1, ((rPlain (rWord sign r)).2.1.drop 7, (rPlain (rWord sign r)).2.2)) else ((rPlain (rWord sign r)).1 ++ [10], (rPlain (rWord sign r)).2)
def rRow (r : List UInt8 × Bool) : Rw × (List UInt8 × Bool) :=
  if Lib.hasPrefix r.1 [32] = true then (⟨1, bs (rShown [32] r).1⟩, (rShown [32] r).2)
  else if Lib.hasPrefix r.1 [45] = true then (⟨2, bs (rShown [45] r).1⟩, (rShown [45] r).2)
  else if Lib.hasPrefix r.1 [43] = true then (⟨3, bs (rShown [43] r).1⟩, (rShown [43] r).2)
  else (⟨0, bs []⟩, ([], true))

theorem pre_self (p q : List UInt8) : Lib.hasPrefix (p ++ q) p = true := by
  unfold Lib.hasPrefix
  rw [List.isPrefixOf_iff_prefix]
  exact List.prefix_append p q
theorem pre_split {s p : List UInt8} (h : Lib.hasPrefix s p = true) : ∃ t, s = p ++ t := by
  unfold Lib.hasPrefix at h
  rw [List.isPrefixOf_iff_prefix] at h
  obtain ⟨t, e⟩ := h
  exact ⟨t, e.symm⟩
theorem pre_none {c : UInt8} (h : c ≠ 92) (r : List UInt8) : Lib.hasPrefix (c :: r) noneL = false := by
  unfold Lib.hasPrefix noneL
  simp [List.isPrefixOf]
  intro e
  exact absurd e.symm h
theorem rWord_hit (p q : List UInt8) (f : Bool) : rWord p (p ++ q, f) = (q, f) := by
  unfold rWord
  rw [if_pos (pre_self p q)]
  simp
theorem rPlain_hit {p : List UInt8} (h : (10 : UInt8) ∉ p) (q : List UInt8) (f : Bool) : rPlain (p ++ 10 :: q, f) = (p, (q, f)) := by
  unfold rPlain
  rw [cut_hit 10 p q h, if_pos rfl]
theorem rPlain_hit' {p : List UInt8} (h : (10 : UInt8) ∉ p) (q : List UInt8) (f : Bool) : rPlain (p ++ [10] ++ q, f) = (p, (q, f)) := by
  have := rPlain_hit h q f
  rwa [show p ++ [10] ++ q = p ++ 10 :: q by simp]
theorem rPlain_none {s : List UInt8} (h : (10 : UInt8) ∉ s) (f : Bool) : rPlain (s, f) = ([], ([], true)) := by
  unfold rPlain
  rw [cut_none 10 s h]
  rfl
theorem rPlain_two (s : List UInt8) (f : Bool) : (∃ p q, s = p ++ 10 :: q ∧ (10 : UInt8) ∉ p ∧ rPlain (s, f) = (p, (q, f))) ∨ ((10 : UInt8) ∉ s ∧ rPlain (s, f) = ([], ([], true))) := by
  rcases split_cases 10 s with h | ⟨p, q, rfl, h⟩
  · exact .inr ⟨h, rPlain_none h f⟩
  · exact .inl ⟨p, q, rfl, h, rPlain_hit h q f⟩

theorem ends_split {s : List UInt8} (h : endsL s = true) : s = s.dropLast ++ [10] := by
  unfold endsL at h
  have h : s.getLast? = some 10 := by simpa using h
  obtain ⟨p, rfl⟩ := List.getLast?_eq_some_iff.1 h
  simp
theorem noend_no10 {s : ByteArray} (h : lineB s = true) (he : endsL s.data.toList = false) : (10 : UInt8) ∉ s.data.toList := by
  have h1 := line_no10 h
  intro hm
  have hsz := (lineB_size h).1
  have hne : s.data.toList ≠ [] := by
    intro e
    have : s.size = 0 := by rw [Lib.size_eq, e]; rfl
    omega
  have e := List.dropLast_concat_getLast hne
  rw [← e] at hm
  rcases List.mem_append.1 hm with h2 | h2
  · exact h1 h2
  · have h2 := List.mem_singleton.1 h2
    unfold endsL at he
    rw [List.getLast?_eq_some_getLast hne, ← h2] at he
    cases he
theorem no10_noend {p : List UInt8} (h : (10 : UInt8) ∉ p) : endsL p = false := by
  rw [Bool.eq_false_iff]
  intro e
  apply h
  rw [ends_split e]
  simp

theorem rShown_back {sign : List UInt8} {s : ByteArray} (h : lineB s = true) (t : List UInt8) (ht : Lib.hasPrefix t noneL = false) : rShown sign (showT sign s.data.toList ++ t, false) = (s.data.toList, (t, false)) := by
  rw [showT_eq]
  cases he : endsL s.data.toList
  · have e : rPlain (rWord sign (sign ++ s.data.toList ++ [10] ++ noneL ++ t, false)) = (s.data.toList, (noneL ++ t, false)) := by
      rw [show sign ++ s.data.toList ++ [10] ++ noneL ++ t = sign ++ (s.data.toList ++ [10] ++ (noneL ++ t)) by simp, rWord_hit, rPlain_hit' (noend_no10 h he)]
    rw [if_neg Bool.false_ne_true]
    unfold rShown
    rw [e]
    dsimp only
    rw [if_pos (pre_self noneL t)]
    simp [noneL]
  · have e1 := ends_split he
    have e : rPlain (rWord sign (sign ++ s.data.toList ++ t, false)) = (s.data.toList.dropLast, (t, false)) := by
      rw [show sign ++ s.data.toList ++ t = sign ++ (s.data.toList ++ t) by simp, rWord_hit]
      have e3 := rPlain_hit' (line_no10 h) t false
      rwa [← e1] at e3
    rw [if_pos rfl]
    unfold rShown
    rw [e]
    dsimp only
    rw [if_neg (by rw [ht]; simp), ← e1]
theorem rShown_exact {sign t : List UInt8} {f : Bool} (h : (rShown sign (sign ++ t, f)).2.2 = false) : f = false ∧ sign ++ t = showT sign (rShown sign (sign ++ t, f)).1 ++ (rShown sign (sign ++ t, f)).2.1 := by
  unfold rShown at h ⊢
  rw [rWord_hit] at h ⊢
  rcases rPlain_two t f with ⟨p, q, rfl, h1, e⟩ | ⟨h1, e⟩
  · rw [e] at h ⊢
    dsimp only at h ⊢
    cases hp : Lib.hasPrefix q noneL
    · rw [hp, if_neg Bool.false_ne_true] at h
      rw [if_neg Bool.false_ne_true]
      refine ⟨h, ?_⟩
      dsimp only
      rw [showT_eq, show endsL (p ++ [10]) = true by simp [endsL], if_pos rfl]
      simp
    · rw [hp, if_pos rfl] at h
      rw [if_pos rfl]
      refine ⟨h, ?_⟩
      obtain ⟨u, rfl⟩ := pre_split hp
      dsimp only
      rw [showT_eq, no10_noend h1, if_neg Bool.false_ne_true]
      simp [noneL]
  · rw [e] at h
    dsimp only at h
    rw [if_neg (by simp [Lib.hasPrefix, noneL])] at h
    cases h

theorem rWord_le (p : List UInt8) (r : List UInt8 × Bool) : (rWord p r).1.length ≤ r.1.length := by
  unfold rWord; split <;> simp
theorem rPlain_le (r : List UInt8 × Bool) : (rPlain r).1.length ≤ r.1.length ∧ (rPlain r).2.1.length ≤ r.1.length ∧ (r.1 ≠ [] → (rPlain r).2.1.length < r.1.length) := by
  obtain ⟨s, f⟩ := r
  rcases rPlain_two s f with ⟨p, q, rfl, h1, e⟩ | ⟨h1, e⟩
  · rw [e]; simp; omega
  · rw [e]
    refine ⟨by simp, by simp, fun e => ?_⟩
    have := List.length_pos_iff.2 e
    simpa using this
theorem rShown_le (sign : List UInt8) (r : List UInt8 × Bool) : (rShown sign r).1.length ≤ r.1.length + 1 ∧ (rShown sign r).2.1.length ≤ r.1.length := by
  have h1 := rWord_le sign r
  have h2 := rPlain_le (rWord sign r)
  unfold rShown
  split
  · refine ⟨by dsimp only; omega, ?_⟩
    dsimp only
    rw [List.length_drop]
    omega
  · refine ⟨by simp; omega, by dsimp only; omega⟩


theorem signB_three {k : Int} (h1 : 1 ≤ k) (h3 : k ≤ 3) : (k = 1 ∧ signB k = 32) ∨ (k = 2 ∧ signB k = 45) ∨ (k = 3 ∧ signB k = 43) := by
  rcases (by omega : k = 1 ∨ k = 2 ∨ k = 3) with rfl | rfl | rfl
  · exact .inl ⟨rfl, rfl⟩
  · exact .inr (.inl ⟨rfl, rfl⟩)
  · exact .inr (.inr ⟨rfl, rfl⟩)
theorem rowT_head (x : Rw) : ∃ r, rowT x = signB x.kind :: r := by
  unfold rowT
  rw [showT_eq]
  split
  · exact ⟨_, rfl⟩
  · exact ⟨_, rfl⟩
theorem pre_one (c d : UInt8) (r : List UInt8) : Lib.hasPrefix (c :: r) [d] = decide (d = c) := by
  unfold Lib.hasPrefix
  simp [List.isPrefixOf]
  by_cases h : d = c <;> simp [h]
theorem rRow_back {x : Rw} (hl : lineB x.line = true) (h1 : 1 ≤ x.kind) (h3 : x.kind ≤ 3) (t : List UInt8) (ht : Lib.hasPrefix t noneL = false) : rRow (rowT x ++ t, false) = (x, (t, false)) := by
  have hb := rShown_back (sign := [signB x.kind]) hl t ht
  obtain ⟨r, er⟩ := rowT_head x
  have er2 : rowT x ++ t = signB x.kind :: (r ++ t) := by rw [er]; rfl
  change rShown [signB x.kind] (rowT x ++ t, false) = _ at hb
  obtain ⟨k, s⟩ := x
  dsimp only at hl h1 h3 hb er2
  unfold rRow
  rcases signB_three h1 h3 with ⟨rfl, e⟩ | ⟨rfl, e⟩ | ⟨rfl, e⟩ <;> rw [e] at hb er2 <;> dsimp only <;> simp only [er2, pre_one] <;> simp <;> rw [← er2, hb] <;> exact ⟨bs_self s, rfl⟩
theorem rRow_exact {r : List UInt8 × Bool} (h : (rRow r).2.2 = false) : r.2 = false ∧ 1 ≤ (rRow r).1.kind ∧ (rRow r).1.kind ≤ 3 ∧ r.1 = rowT (rRow r).1 ++ (rRow r).2.1 := by
  obtain ⟨s, f⟩ := r
  unfold rRow at h ⊢
  dsimp only at h ⊢
  cases h1 : Lib.hasPrefix s [32]
  · rw [h1, if_neg Bool.false_ne_true] at h
    rw [if_neg Bool.false_ne_true]
    cases h2 : Lib.hasPrefix s [45]
    · rw [h2, if_neg Bool.false_ne_true] at h
      rw [if_neg Bool.false_ne_true]
      cases h3 : Lib.hasPrefix s [43]
      · rw [h3, if_neg Bool.false_ne_true] at h
        cases h
      · obtain ⟨t, rfl⟩ := pre_split h3
        rw [h3, if_pos rfl] at h
        rw [if_pos rfl]
        dsimp only at h ⊢
        obtain ⟨q1, q2⟩ := rShown_exact h
        exact ⟨q1, by omega, by omega, by unfold rowT; rw [bs_list]; exact q2⟩
    · obtain ⟨t, rfl⟩ := pre_split h2
      rw [h2, if_pos rfl] at h
      rw [if_pos rfl]
      dsimp only at h ⊢
      obtain ⟨q1, q2⟩ := rShown_exact h
      exact ⟨q1, by omega, by omega, by unfold rowT; rw [bs_list]; exact q2⟩
  · obtain ⟨t, rfl⟩ := pre_split h1
    rw [h1, if_pos rfl] at h
    rw [if_pos rfl]
    dsimp only at h ⊢
    obtain ⟨q1, q2⟩ := rShown_exact h
    exact ⟨q1, by omega, by omega, by unfold rowT; rw [bs_list]; exact q2⟩
theorem rowT_pos (x : Rw) : 1 ≤ (rowT x).length := by
  obtain ⟨r, e⟩ := rowT_head x
  rw [e]; simp
theorem rRow_le (r : List UInt8 × Bool) : (rRow r).1.line.size ≤ r.1.length + 1 ∧ (rRow r).2.1.length ≤ r.1.length ∧ 0 ≤ (rRow r).1.kind ∧ (rRow r).1.kind ≤ 3 ∧ ((rRow r).2.2 = false → (rRow r).2.1.length + 1 ≤ r.1.length) ∧ ((rRow r).2.2 = true → (rRow r).2.1 = [] ∨ r.2 = true) := by
  have h5 : (rRow r).2.2 = false → (rRow r).2.1.length + 1 ≤ r.1.length := fun h => by
    obtain ⟨_, _, _, e⟩ := rRow_exact h
    have := rowT_pos (rRow r).1
    rw [e, List.length_append]; omega
  have h6 : ∀ sign : List UInt8, (rShown sign r).2.2 = true → (rShown sign r).2.1 = [] ∨ r.2 = true := by
    intro sign h
    unfold rShown at h ⊢
    have hw : (rWord sign r).1 = [] ∨ (rWord sign r).2 = r.2 := by unfold rWord; split <;> simp
    generalize rWord sign r = wf at h hw ⊢
    obtain ⟨w, f⟩ := wf
    rcases rPlain_two w f with ⟨p, q, rfl, h1, e⟩ | ⟨h1, e⟩
    · rw [e] at h ⊢
      dsimp only at h ⊢
      rcases hw with hw | hw
      · simp at hw
      · have hf : f = true := by split at h <;> exact h
        exact .inr (by rw [← hw]; exact hf)
    · rw [e]
      left
      dsimp only
      rw [if_neg (by simp [Lib.hasPrefix, noneL])]
  have a := rShown_le [32] r
  have b := rShown_le [45] r
  have c := rShown_le [43] r
  refine ⟨?_, ?_, ?_, ?_, h5, ?_⟩
  all_goals (unfold rRow; repeat' split)
  all_goals (dsimp only)
  all_goals (try rw [bs_size])
  all_goals (try simp only [List.length_nil])
  all_goals first
    | omega
    | exact h6 _
    | (intro _; simp)

end Go.Proofs.YtkamenidgkjodaaGreatDoor.M

namespace Go.Proofs.YtkamenidgkjodaaGreatDoor.M
open Go

def oldN (k : Int) : Int := if k = 1 ∨ k = 2 then 1 else 0
def newN (k : Int) : Int := if k = 1 ∨ k = 3 then 1 else 0
def rowsOk (q : List Rw) : Prop := ∀ y ∈ q, lineB y.line = true ∧ 1 ≤ y.kind ∧ y.kind ≤ 3
def kindsOk (q : List Rw) : Prop := ∀ y ∈ q, 1 ≤ y.kind ∧ y.kind ≤ 3
theorem lw_cons_len3 {x : Rw} (l : List Rw) (h1 : 1 ≤ x.kind) (h3 : x.kind ≤ 3) : ((lw 3 (x :: l)).length : Int) = oldN x.kind + (lw 3 l).length := by
  simp only [lw]
  unfold oldN
  split
  · rw [if_neg (by omega)]; omega
  · rw [if_pos (by omega)]; simp; omega
theorem lw_cons_len2 {x : Rw} (l : List Rw) (h1 : 1 ≤ x.kind) (h3 : x.kind ≤ 3) : ((lw 2 (x :: l)).length : Int) = newN x.kind + (lw 2 l).length := by
  simp only [lw]
  unfold newN
  split
  · rw [if_neg (by omega)]; omega
  · rw [if_pos (by omega)]; simp; omega
theorem lw_snoc_len3 {x : Rw} (l : List Rw) (h1 : 1 ≤ x.kind) (h3 : x.kind ≤ 3) : ((lw 3 (l ++ [x])).length : Int) = (lw 3 l).length + oldN x.kind := by
  have := lw_cons_len3 (x := x) [] h1 h3
  rw [lw_append, List.length_append]; simp [lw] at this ⊢; omega
theorem lw_snoc_len2 {x : Rw} (l : List Rw) (h1 : 1 ≤ x.kind) (h3 : x.kind ≤ 3) : ((lw 2 (l ++ [x])).length : Int) = (lw 2 l).length + newN x.kind := by
  have := lw_cons_len2 (x := x) [] h1 h3
  rw [lw_append, List.length_append]; simp [lw] at this ⊢; omega
theorem oldN_le (k : Int) : 0 ≤ oldN k ∧ oldN k ≤ 1 := by unfold oldN; split <;> omega
theorem newN_le (k : Int) : 0 ≤ newN k ∧ newN k ≤ 1 := by unfold newN; split <;> omega
theorem some_one {x : Rw} (h1 : 1 ≤ x.kind) (h3 : x.kind ≤ 3) : 1 ≤ oldN x.kind + newN x.kind := by
  unfold oldN newN; repeat' split
  all_goals omega
theorem rows_none {q : List Rw} (hq : kindsOk q) (h3 : (lw 3 q).length = 0) (h2 : (lw 2 q).length = 0) : q = [] := by
  cases q with
  | nil => rfl
  | cons x q =>
    obtain ⟨a, b⟩ := hq x (by simp)
    have e1 := lw_cons_len3 q a b
    have e2 := lw_cons_len2 q a b
    have := some_one a b
    have := oldN_le x.kind
    have := newN_le x.kind
    omega
theorem rowsOk.kinds {q : List Rw} (h : rowsOk q) : kindsOk q := fun y hy => (h y hy).2
theorem rowsOk.drop {q : List Rw} (h : rowsOk q) (k : Nat) : rowsOk (q.drop k) := fun y hy => h y (List.mem_of_mem_drop hy)
theorem rowsT_pre {q : List Rw} (hq : kindsOk q) {t : List UInt8} (ht : Lib.hasPrefix t noneL = false) : Lib.hasPrefix (rowsT q ++ t) noneL = false := by
  cases q with
  | nil => simpa [rowsT_nil] using ht
  | cons x q =>
    obtain ⟨r, e⟩ := rowT_head x
    obtain ⟨a, b⟩ := hq x (by simp)
    rw [rowsT_cons, e]
    refine pre_none ?_ _
    rcases signB_three a b with ⟨_, e⟩ | ⟨_, e⟩ | ⟨_, e⟩ <;> (rw [e]; decide)

structure RowsAt (old come : Nat) (r : List UInt8 × Bool) (O : List Rw) (o1 c1 : Int) (r1 : List UInt8 × Bool) : Prop where
  size : ∀ y ∈ O, y.line.size ≤ r.1.length + 1 ∧ 0 ≤ y.kind ∧ y.kind ≤ 3
  many : O.length + r1.1.length ≤ r.1.length + 1
  many2 : r1.2 = false → O.length + r1.1.length ≤ r.1.length
  left : r1.1.length ≤ r.1.length
  olds : (old : Int) - O.length ≤ o1 ∧ o1 ≤ old
  news : (come : Int) - O.length ≤ c1 ∧ c1 ≤ come
  exact_ : r1.2 = false → r.2 = false ∧ r.1 = rowsT O ++ r1.1 ∧ o1 = (old : Int) - (lw 3 O).length ∧ c1 = (come : Int) - (lw 2 O).length ∧ kindsOk O
  back : ∀ q t, rowsOk q → Lib.hasPrefix t noneL = false → (lw 3 q).length = old → (lw 2 q).length = come → r = (rowsT q ++ t, false) → ∃ k, k ≤ q.length ∧ O = q.take k ∧ r1 = (rowsT (q.drop k) ++ t, false)
theorem RowsAt.start (old come : Nat) (r : List UInt8 × Bool) : RowsAt old come r [] old come r :=
  ⟨fun y h => (by cases h), by simp, fun _ => by simp, Nat.le_refl _, ⟨by simp, by simp⟩, ⟨by simp, by simp⟩, fun h => ⟨h, by simp [rowsT_nil], by simp [lw], by simp [lw], fun y h => (by cases h)⟩, fun q t _ _ _ _ e => ⟨0, Nat.zero_le _, rfl, by rw [List.drop_zero]; exact e⟩⟩
theorem lw_split (k : Int) (q : List Rw) (j : Nat) : (lw k q).length = (lw k (q.take j)).length + (lw k (q.drop j)).length := by
  rw [← List.length_append, ← lw_append, List.take_append_drop]
theorem RowsAt.next {old come : Nat} {r : List UInt8 × Bool} {O : List Rw} {o1 c1 : Int} {r1 : List UInt8 × Bool} (h : RowsAt old come r O o1 c1 r1) (hf : r1.2 = false) (hm : 0 < o1 ∨ 0 < c1) :
    RowsAt old come r (O ++ [(rRow r1).1]) (o1 - oldN (rRow r1).1.kind) (c1 - newN (rRow r1).1.kind) (rRow r1).2 := by
  obtain ⟨l1, l2, l3, l4, l5, l6⟩ := rRow_le r1
  have h2 := h.many2 hf
  have hl := h.left
  have q1 := oldN_le (rRow r1).1.kind
  have q2 := newN_le (rRow r1).1.kind
  obtain ⟨ho1, ho2⟩ := h.olds
  obtain ⟨hc1, hc2⟩ := h.news
  refine ⟨fun y hy => ?_, ?_, fun e => ?_, by omega, ⟨?_, by omega⟩, ⟨?_, by omega⟩, fun e => ?_, ?_⟩
  · rcases List.mem_append.1 hy with hy | hy
    · exact h.size y hy
    · rw [List.mem_singleton.1 hy]; exact ⟨by omega, l3, l4⟩
  · cases e : (rRow r1).2.2
    · have := l5 e; simp; omega
    · rcases l6 e with e2 | e2
      · rw [e2]; simp; omega
      · rw [hf] at e2; cases e2
  · have := l5 e; simp; omega
  · simp; omega
  · simp; omega
  · obtain ⟨e1, e2, e3, e4, e5⟩ := h.exact_ hf
    obtain ⟨f1, f2, f3, f4⟩ := rRow_exact e
    refine ⟨e1, ?_, ?_, ?_, fun y hy => ?_⟩
    · rw [e2, rowsT_snoc, List.append_assoc, ← f4]
    · rw [lw_snoc_len3 O f2 f3]; omega
    · rw [lw_snoc_len2 O f2 f3]; omega
    · rcases List.mem_append.1 hy with hy | hy
      · exact e5 y hy
      · rw [List.mem_singleton.1 hy]; exact ⟨f2, f3⟩
  · intro q t hq ht h3 h2 e
    obtain ⟨k, hk, e1, e2⟩ := h.back q t hq ht h3 h2 e
    obtain ⟨x1, x2, x3, x4, x5⟩ := h.exact_ hf
    have hlt : k < q.length := by
      rcases Nat.lt_or_ge k q.length with h5 | h5
      · exact h5
      · exfalso
        rw [List.take_of_length_le h5] at e1
        rw [e1] at x3 x4
        omega
    have e3 : q.drop k = q[k] :: q.drop (k + 1) := List.drop_eq_getElem_cons hlt
    obtain ⟨g1, g2, g3⟩ := hq q[k] (List.getElem_mem hlt)
    have e4 := rRow_back g1 g2 g3 (rowsT (q.drop (k + 1)) ++ t) (rowsT_pre (hq.drop _).kinds ht)
    rw [e3, rowsT_cons, List.append_assoc] at e2
    rw [e2, e4]
    refine ⟨k + 1, hlt, ?_, rfl⟩
    rw [e1, List.take_succ_eq_append_getElem hlt]

structure RowsOut (old come : Nat) (r : List UInt8 × Bool) (O : List Rw) (r2 : List UInt8 × Bool) : Prop where
  size : ∀ y ∈ O, y.line.size ≤ r.1.length + 1 ∧ 0 ≤ y.kind ∧ y.kind ≤ 3
  many : O.length ≤ r.1.length + 1
  left : r2.1.length ≤ r.1.length
  exact_ : r2.2 = false → r.2 = false ∧ r.1 = rowsT O ++ r2.1 ∧ (lw 3 O).length = old ∧ (lw 2 O).length = come ∧ kindsOk O
  back : ∀ q t, rowsOk q → Lib.hasPrefix t noneL = false → (lw 3 q).length = old → (lw 2 q).length = come → r = (rowsT q ++ t, false) → O = q ∧ r2 = (t, false)
theorem RowsAt.ends {old come : Nat} {r : List UInt8 × Bool} {O : List Rw} {o1 c1 : Int} {r1 : List UInt8 × Bool} (h : RowsAt old come r O o1 c1 r1) (hm : r1.2 = true ∨ ¬ (0 < o1 ∨ 0 < c1)) (h0 : o1 = 0 ∧ c1 = 0) : RowsOut old come r O r1 := by
  refine ⟨h.size, by have := h.many; omega, h.left, fun e => ?_, fun q t hq ht h3 h2 e => ?_⟩
  · obtain ⟨e1, e2, e3, e4, e5⟩ := h.exact_ e
    exact ⟨e1, e2, by omega, by omega, e5⟩
  · obtain ⟨k, hk, e1, e2⟩ := h.back q t hq ht h3 h2 e
    obtain ⟨x1, x2, x3, x4, x5⟩ := h.exact_ (by rw [e2])
    have s3 := lw_split 3 q k
    have s2 := lw_split 2 q k
    rw [← e1] at s3 s2
    have e0 := rows_none (hq.drop k).kinds (by omega) (by omega)
    have hk2 : q.length ≤ k := List.drop_eq_nil_iff.1 e0
    rw [e0, rowsT_nil, List.nil_append] at e2
    rw [List.take_of_length_le hk2] at e1
    exact ⟨e1, e2⟩
theorem RowsAt.bad {old come : Nat} {r : List UInt8 × Bool} {O : List Rw} {o1 c1 : Int} {r1 : List UInt8 × Bool} (h : RowsAt old come r O o1 c1 r1) (hm : r1.2 = true ∨ ¬ (0 < o1 ∨ 0 < c1)) (h0 : ¬ (o1 = 0 ∧ c1 = 0)) : RowsOut old come r O ([], true) := by
  refine ⟨h.size, by have := h.many; omega, by simp, fun e => (by cases e), fun q t hq ht h3 h2 e => ?_⟩
  exfalso
  obtain ⟨k, hk, e1, e2⟩ := h.back q t hq ht h3 h2 e
  obtain ⟨x1, x2, x3, x4, x5⟩ := h.exact_ (by rw [e2])
  have s3 := lw_split 3 q k
  have s2 := lw_split 2 q k
  rw [← e1] at s3 s2
  rcases hm with hm | hm
  · rw [e2] at hm; cases hm
  · omega

structure GpOut (r : List UInt8 × Bool) (x : Gp) (r2 : List UInt8 × Bool) : Prop where
  size : ∀ y ∈ x.rows, y.line.size ≤ r.1.length + 1 ∧ 0 ≤ y.kind ∧ y.kind ≤ 3
  nums : 0 ≤ x.at_ ∧ x.at_ ≤ 999 ∧ 0 ≤ x.to_ ∧ x.to_ ≤ 999
  many : x.rows.length ≤ r.1.length + 1
  left : r2.1.length ≤ r.1.length ∧ (r.1 ≠ [] → r2.1.length < r.1.length)
  exact_ : r2.2 = false → r.2 = false ∧ ∃ hd, HeadOf hd x ∧ r.1 = hd ++ 10 :: (rowsT x.rows ++ r2.1)
  back : ∀ q hd t, groupB q = true → HeadOf hd q → Lib.hasPrefix t noneL = false → r = (hd ++ 10 :: (rowsT q.rows ++ t), false) → x = q ∧ r2 = (t, false)
theorem GpOut.bad {r : List UInt8 × Bool} (h : ∀ a o t c, ¬ HeadIs (rPlain r).1 a o t c) : GpOut r blankGp ([], true) := by
  refine ⟨fun y hy => (by cases hy), ⟨by decide, by decide, by decide, by decide⟩, by simp [blankGp], ⟨by simp, fun e => List.length_pos_iff.2 e⟩, fun e => (by cases e), fun q hd t hq hh ht e => ?_⟩
  exfalso
  rw [e, rPlain_hit hh.no10] at h
  exact h _ _ _ _ hh
theorem GpOut.good {r : List UInt8 × Bool} {a o t c : Nat} (h : HeadIs (rPlain r).1 a o t c) {O : List Rw} {r2 : List UInt8 × Bool} (ho : RowsOut o c (rPlain r).2 O r2) : GpOut r ⟨a, t, O⟩ r2 := by
  obtain ⟨s, f⟩ := r
  obtain ⟨l1, l2, l3⟩ := rPlain_le (s, f)
  have hle := h.le
  have hm := ho.many
  have hl := ho.left
  refine ⟨fun y hy => ?_, by dsimp only; omega, by dsimp only at *; omega, ⟨by dsimp only at *; omega, fun e => by have := l3 e; dsimp only at *; omega⟩, fun e => ?_, fun q hd u hq hh ht e => ?_⟩
  · have := ho.size y hy
    dsimp only at *
    omega
  · obtain ⟨e1, e2, e3, e4, e5⟩ := ho.exact_ e
    rcases rPlain_two s f with ⟨p, u, rfl, h1, ep⟩ | ⟨h1, ep⟩
    · rw [ep] at e1 e2 h
      dsimp only at e1 e2 h
      refine ⟨e1, p, ?_, by rw [e2]⟩
      unfold HeadOf
      dsimp only
      rw [Int.toNat_natCast, Int.toNat_natCast, e3, e4]
      exact h
    · rw [ep] at e1
      cases e1
  · injection e with e6 e7
    subst e6 e7
    have ep := rPlain_hit hh.no10 (rowsT q.rows ++ u) false
    rw [ep] at h ho
    dsimp only at h ho
    obtain ⟨i1, i2, i3, i4⟩ := h.uniq hh
    obtain ⟨j1, j2⟩ := ho.back q.rows u (groupB_line hq) ht i2.symm i4.symm rfl
    obtain ⟨g1, g2, g3, g4, g5, _⟩ := groupB_len hq
    refine ⟨?_, j2⟩
    exact Gp.ext_ (by dsimp only; omega) (by dsimp only; omega) j1

structure GpsAt (s : List UInt8) (p : List Gp) (r : List UInt8 × Bool) : Prop where
  size : ∀ x ∈ p, (∀ y ∈ x.rows, y.line.size ≤ s.length + 1 ∧ 0 ≤ y.kind ∧ y.kind ≤ 3) ∧ 0 ≤ x.at_ ∧ x.at_ ≤ 999 ∧ 0 ≤ x.to_ ∧ x.to_ ≤ 999 ∧ x.rows.length ≤ s.length + 1
  many : p.length + r.1.length ≤ s.length
  exact_ : r.2 = false → ∃ s0, s = s0 ++ r.1 ∧ Wrt p s0
  back : ∀ q : List Gp, (∀ x ∈ q, groupB x = true) → Wrt q s → ∃ k, k ≤ q.length ∧ p = q.take k ∧ Wrt (q.drop k) r.1 ∧ r.2 = false
theorem GpsAt.start (s : List UInt8) : GpsAt s [] (s, false) :=
  ⟨fun x h => (by cases h), by simp, fun _ => ⟨[], rfl, rfl⟩, fun q _ h => ⟨0, Nat.zero_le _, rfl, by rw [List.drop_zero]; exact h, rfl⟩⟩
theorem GpsAt.next {s : List UInt8} {p : List Gp} {r : List UInt8 × Bool} (h : GpsAt s p r) (hr : r.1 ≠ []) {x : Gp} {r2 : List UInt8 × Bool} (hx : GpOut r x r2) : GpsAt s (p ++ [x]) r2 := by
  have hm := h.many
  have hl := hx.left.2 hr
  refine ⟨fun y hy => ?_, by simp; omega, fun e => ?_, fun q hq hw => ?_⟩
  · rcases List.mem_append.1 hy with hy | hy
    · exact h.size y hy
    · rw [List.mem_singleton.1 hy]
      have h1 := hx.nums
      have h2 := hx.many
      refine ⟨fun z hz => ?_, h1.1, h1.2.1, h1.2.2.1, h1.2.2.2, by omega⟩
      have := hx.size z hz
      omega
  · obtain ⟨e1, hd, e2, e3⟩ := hx.exact_ e
    obtain ⟨s0, e4, e5⟩ := h.exact_ e1
    refine ⟨s0 ++ (hd ++ 10 :: rowsT x.rows), ?_, Wrt.snoc e2 e5⟩
    rw [e4, e3]; simp
  · obtain ⟨k, hk, e1, e2, e3⟩ := h.back q hq hw
    have hlt : k < q.length := by
      rcases Nat.lt_or_ge k q.length with h5 | h5
      · exact h5
      · rw [List.drop_eq_nil_of_le h5] at e2
        exact absurd e2 hr
    rw [List.drop_eq_getElem_cons hlt] at e2
    obtain ⟨hd, s', f1, f2, f3⟩ := e2
    obtain ⟨g1, g2⟩ := hx.back q[k] hd s' (hq _ (List.getElem_mem hlt)) f1 f3.pre (Prod.ext f2 e3)
    refine ⟨k + 1, hlt, ?_, ?_, ?_⟩
    · rw [e1, g1, List.take_succ_eq_append_getElem hlt]
    · rw [g2]; exact f3
    · rw [g2]
theorem GpsAt.bad {s : List UInt8} {p : List Gp} {r : List UInt8 × Bool} (h : GpsAt s p r) (hr : r.1 = []) (hb : r.2 = true ∨ goodG p = false) : ReadIs s [] 1 false := by
  refine .inr ⟨rfl, rfl, rfl, ?_⟩
  rintro ⟨_, q, hq, hw⟩
  obtain ⟨k, hk, e1, e2, e3⟩ := h.back q (goodG_parts hq).2.2 hw
  have e4 := (e2.nonempty).1 hr
  rw [List.take_of_length_le (List.drop_eq_nil_iff.1 e4)] at e1
  rcases hb with hb | hb
  · rw [e3] at hb; cases hb
  · rw [e1, hq] at hb; cases hb
theorem GpsAt.ok {s : List UInt8} {p : List Gp} {r : List UInt8 × Bool} (h : GpsAt s p r) (hr : r.1 = []) (hf : r.2 = false) (hg : goodG p = true) (hs : s.length ≤ 3000) : ReadIs s p 0 true := by
  obtain ⟨s0, e1, e2⟩ := h.exact_ hf
  rw [hr, List.append_nil] at e1
  exact .inl ⟨hg, by rw [e1]; exact e2, hs, rfl, rfl⟩
theorem ReadIs.long {s : List UInt8} (h : 3000 < s.length) : ReadIs s [] 1 false := .inr ⟨rfl, rfl, rfl, fun e => by omega⟩


theorem rows_uniq : ∀ {q q' : List Rw} {t t' : List UInt8}, rowsOk q → rowsOk q' → Lib.hasPrefix t noneL = false → Lib.hasPrefix t' noneL = false → (lw 3 q).length = (lw 3 q').length → (lw 2 q).length = (lw 2 q').length → rowsT q ++ t = rowsT q' ++ t' → q = q' ∧ t = t'
  | [], q', t, t', _, hq', _, _, h3, h2, e => by
    have := rows_none hq'.kinds h3.symm h2.symm
    subst this
    exact ⟨rfl, by simpa [rowsT_nil] using e⟩
  | x :: q, [], t, t', hq, _, _, _, h3, h2, e => by
    have := rows_none hq.kinds h3 h2
    cases this
  | x :: q, x' :: q', t, t', hq, hq', ht, ht', h3, h2, e => by
    obtain ⟨a1, a2, a3⟩ := hq x (by simp)
    obtain ⟨b1, b2, b3⟩ := hq' x' (by simp)
    have hqr : rowsOk q := fun y hy => hq y (by simp [hy])
    have hqr' : rowsOk q' := fun y hy => hq' y (by simp [hy])
    have r1 := rRow_back a1 a2 a3 (rowsT q ++ t) (rowsT_pre hqr.kinds ht)
    have r2 := rRow_back b1 b2 b3 (rowsT q' ++ t') (rowsT_pre hqr'.kinds ht')
    rw [rowsT_cons, rowsT_cons, List.append_assoc, List.append_assoc] at e
    rw [e, r2] at r1
    injection r1 with r1 r3
    injection r3 with r3 _
    subst r1
    have c3 := lw_cons_len3 q a2 a3
    have c3' := lw_cons_len3 q' a2 a3
    have c2 := lw_cons_len2 q a2 a3
    have c2' := lw_cons_len2 q' a2 a3
    obtain ⟨e5, e6⟩ := rows_uniq hqr hqr' ht ht' (by omega) (by omega) r3.symm
    exact ⟨by rw [e5], e6⟩
theorem Wrt.uniq : ∀ {g g' : List Gp} {s : List UInt8}, (∀ x ∈ g, groupB x = true) → (∀ x ∈ g', groupB x = true) → Wrt g s → Wrt g' s → g = g'
  | [], g', s, _, _, h, h' => by
    have h : s = [] := h
    exact ((h'.nonempty).1 h).symm
  | x :: g, [], s, _, _, h, h' => by
    have h' : s = [] := h'
    exact (h.nonempty).1 h'
  | x :: g, x' :: g', s, hg, hg', h, h' => by
    obtain ⟨hd, u, a1, a2, a3⟩ := h
    obtain ⟨hd', u', b1, b2, b3⟩ := h'
    rw [a2] at b2
    obtain ⟨e1, e2⟩ := cut_same b2 a1.no10 b1.no10
    subst e1
    obtain ⟨n1, n2, n3, n4⟩ := a1.uniq b1
    obtain ⟨e3, e4⟩ := rows_uniq (groupB_line (hg x (by simp))) (groupB_line (hg' x' (by simp))) a3.pre b3.pre n2 n4 e2
    subst e4
    have g1 := groupB_len (hg x (by simp))
    have g2 := groupB_len (hg' x' (by simp))
    have e5 : x = x' := Gp.ext_ (by omega) (by omega) e3
    rw [e5, Wrt.uniq (fun y hy => hg y (by simp [hy])) (fun y hy => hg' y (by simp [hy])) a3 b3]
theorem ReadIs.same {s : List UInt8} {g g' : List Gp} {c c' : Int} {o o' : Bool} (h : ReadIs s g c o) (h' : ReadIs s g' c' o') : g = g' ∧ c = c' ∧ o = o' := by
  rcases h with ⟨a1, a2, a3, a4, a5⟩ | ⟨a1, a2, a3, a4⟩ <;> rcases h' with ⟨b1, b2, b3, b4, b5⟩ | ⟨b1, b2, b3, b4⟩
  · exact ⟨Wrt.uniq (goodG_parts a1).2.2 (goodG_parts b1).2.2 a2 b2, by rw [a4, b4], by rw [a5, b5]⟩
  · exact absurd ⟨a3, _, a1, a2⟩ b4
  · exact absurd ⟨b3, _, b1, b2⟩ a4
  · exact ⟨by rw [a1, b1], by rw [a2, b2], by rw [a3, b3]⟩
theorem ReadIs.text {g g' : List Gp} {c : Int} {o : Bool} (h : (textG g).2 = true) (hr : ReadIs (textG g).1 g' c o) : g' = g ∧ c = 0 ∧ o = true := by
  unfold textG at h hr
  split at h
  · rename_i hc
    rw [if_pos hc] at hr
    have h2 : ReadIs (gpsT g) g 0 true := .inl ⟨hc.1, Wrt.text (goodG_parts hc.1).2.2, hc.2, rfl, rfl⟩
    exact hr.same h2
  · cases h

end Go.Proofs.YtkamenidgkjodaaGreatDoor.M
