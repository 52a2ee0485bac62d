/-
  Groups all in one, read: mathematics of the program's reader. The reader is what is left of a text and whether it has failed.
  Groups all in one, read by the program: what rows, a group and groups that have been read are; mathematics.
  Groups all in one, read by the model line by line: mathematics.
-/
import Derived.Test.YtkamenidgkjodaaGreatDoorQcUBase
set_option linter.unusedSimpArgs false
set_option linter.unusedVariables false
namespace Go.Proofs.YtkamenidgkjodaaGreatDoor.M
open Go

def rWord (p : List UInt8) (r : List UInt8 × Bool) : List UInt8 × Bool := if Lib.hasPrefix r.1 p = true then (r.1.drop p.length, r.2) else ([], true)
def rPlain (r : List UInt8 × Bool) : List UInt8 × (List UInt8 × Bool) := if (Lib.cut r.1 [10]).2.2 = true then ((Lib.cut r.1 [10]).1, ((Lib.cut r.1 [10]).2.1, r.2)) else ([], ([], true))
def rShown (sign : List UInt8) (r : List UInt8 × Bool) : List UInt8 × (List UInt8 × Bool) :=
  if Lib.hasPrefix (rPlain (rWord sign r)).2.1 noneL = true then ((rPlain (rWord sign r)).1, ((rPlain (rWord sign r)).2.1.drop 7, (rPlain (rWord sign r)).2.2)) else ((rPlain (rWord sign r)).1 ++ [10], (rPlain (rWord sign r)).2)
/-- A row that is read. -/
def rRow (r : List UInt8 × Bool) : Rw × (List UInt8 × Bool) :=
  if Lib.hasPrefix r.1 [32] = true then (⟨1, bs (rShown [32] r).1⟩, (rShown [32] r).2)
  else if Lib.hasPrefix r.1 [45] = true then (⟨2, bs (rShown [45] r).1⟩, (rShown [45] r).2)
  else if Lib.hasPrefix r.1 [43] = true then (⟨3, bs (rShown [43] r).1⟩, (rShown [43] r).2)
  else (⟨0, bs []⟩, ([], true))

theorem pre_self (p q : List UInt8) : Lib.hasPrefix (p ++ q) p = true := by
  unfold Lib.hasPrefix
  rw [List.isPrefixOf_iff_prefix]
  exact List.prefix_append p q
theorem pre_split {s p : List UInt8} (h : Lib.hasPrefix s p = true) : ∃ t, s = p ++ t := by
  unfold Lib.hasPrefix at h
  rw [List.isPrefixOf_iff_prefix] at h
  obtain ⟨t, e⟩ := h
  exact ⟨t, e.symm⟩
theorem pre_none {c : UInt8} (h : c ≠ 92) (r : List UInt8) : Lib.hasPrefix (c :: r) noneL = false := by
  unfold Lib.hasPrefix noneL
  simp [List.isPrefixOf]
  intro e
  exact absurd e.symm h
theorem rWord_hit (p q : List UInt8) (f : Bool) : rWord p (p ++ q, f) = (q, f) := by
  unfold rWord
  rw [if_pos (pre_self p q)]
  simp
theorem rPlain_hit {p : List UInt8} (h : (10 : UInt8) ∉ p) (q : List UInt8) (f : Bool) : rPlain (p ++ 10 :: q, f) = (p, (q, f)) := by
  unfold rPlain
  rw [cut_hit 10 p q h, if_pos rfl]
theorem rPlain_hit' {p : List UInt8} (h : (10 : UInt8) ∉ p) (q : List UInt8) (f : Bool) : rPlain (p ++ [10] ++ q, f) = (p, (q, f)) := by
  have := rPlain_hit h q f
  rwa [show p ++ [10] ++ q = p ++ 10 :: q by simp]
theorem rPlain_none {s : List UInt8} (h : (10 : UInt8) ∉ s) (f : Bool) : rPlain (s, f) = ([], ([], true)) := by
  unfold rPlain
  rw [cut_none 10 s h]
  rfl
/-- Either a line has been read, or there was none. -/
theorem rPlain_two (s : List UInt8) (f : Bool) : (∃ p q, s = p ++ 10 :: q ∧ (10 : UInt8) ∉ p ∧ rPlain (s, f) = (p, (q, f))) ∨ ((10 : UInt8) ∉ s ∧ rPlain (s, f) = ([], ([], true))) := by
  rcases split_cases 10 s with h | ⟨p, q, rfl, h⟩
  · exact .inr ⟨h, rPlain_none h f⟩
  · exact .inl ⟨p, q, rfl, h, rPlain_hit h q f⟩

theorem ends_split {s : List UInt8} (h : endsL s = true) : s = s.dropLast ++ [10] := by
  unfold endsL at h
  have h : s.getLast? = some 10 := by simpa using h
  obtain ⟨p, rfl⟩ := List.getLast?_eq_some_iff.1 h
  simp
theorem noend_no10 {s : ByteArray} (h : lineB s = true) (he : endsL s.data.toList = false) : (10 : UInt8) ∉ s.data.toList := by
  have h1 := line_no10 h
  intro hm
  have hsz := (lineB_size h).1
  have hne : s.data.toList ≠ [] := by
    intro e
    have : s.size = 0 := by rw [Lib.size_eq, e]; rfl
    omega
  have e := List.dropLast_concat_getLast hne
  rw [← e] at hm
  rcases List.mem_append.1 hm with h2 | h2
  · exact h1 h2
  · have h2 := List.mem_singleton.1 h2
    unfold endsL at he
    rw [List.getLast?_eq_some_getLast hne, ← h2] at he
    cases he
theorem no10_noend {p : List UInt8} (h : (10 : UInt8) ∉ p) : endsL p = false := by
  rw [Bool.eq_false_iff]
  intro e
  apply h
  rw [ends_split e]
  simp

theorem rShown_back {sign : List UInt8} {s : ByteArray} (h : lineB s = true) (t : List UInt8) (ht : Lib.hasPrefix t noneL = false) : rShown sign (showT sign s.data.toList ++ t, false) = (s.data.toList, (t, false)) := by
  rw [showT_eq]
  cases he : endsL s.data.toList
  · have e : rPlain (rWord sign (sign ++ s.data.toList ++ [10] ++ noneL ++ t, false)) = (s.data.toList, (noneL ++ t, false)) := by
      rw [show sign ++ s.data.toList ++ [10] ++ noneL ++ t = sign ++ (s.data.toList ++ [10] ++ (noneL ++ t)) by simp, rWord_hit, rPlain_hit' (noend_no10 h he)]
    rw [if_neg Bool.false_ne_true]
    unfold rShown
    rw [e]
    dsimp only
    rw [if_pos (pre_self noneL t)]
    simp [noneL]
  · have e1 := ends_split he
    have e : rPlain (rWord sign (sign ++ s.data.toList ++ t, false)) = (s.data.toList.dropLast, (t, false)) := by
      rw [show sign ++ s.data.toList ++ t = sign ++ (s.data.toList ++ t) by simp, rWord_hit]
      have e3 := rPlain_hit' (line_no10 h) t false
      rwa [← e1] at e3
    rw [if_pos rfl]
    unfold rShown
    rw [e]
    dsimp only
    rw [if_neg (by rw [ht]; simp), ← e1]
/-- What has been read, if nothing failed, is what is written of it. -/
theorem rShown_exact {sign t : List UInt8} {f : Bool} (h : (rShown sign (sign ++ t, f)).2.2 = false) : f = false ∧ sign ++ t = showT sign (rShown sign (sign ++ t, f)).1 ++ (rShown sign (sign ++ t, f)).2.1 := by
  unfold rShown at h ⊢
  rw [rWord_hit] at h ⊢
  rcases rPlain_two t f with ⟨p, q, rfl, h1, e⟩ | ⟨h1, e⟩
  · rw [e] at h ⊢
    dsimp only at h ⊢
    cases hp : Lib.hasPrefix q noneL
    · rw [hp, if_neg Bool.false_ne_true] at h
      rw [if_neg Bool.false_ne_true]
      refine ⟨h, ?_⟩
      dsimp only
      rw [showT_eq, show endsL (p ++ [10]) = true by simp [endsL], if_pos rfl]
      simp
    · rw [hp, if_pos rfl] at h
      rw [if_pos rfl]
      refine ⟨h, ?_⟩
      obtain ⟨u, rfl⟩ := pre_split hp
      dsimp only
      rw [showT_eq, no10_noend h1, if_neg Bool.false_ne_true]
      simp [noneL]
  · rw [e] at h
    dsimp only at h
    rw [if_neg (by simp [Lib.hasPrefix, noneL])] at h
    cases h

theorem rWord_le (p : List UInt8) (r : List UInt8 × Bool) : (rWord p r).1.length ≤ r.1.length := by
  unfold rWord; split <;> simp
theorem rPlain_le (r : List UInt8 × Bool) : (rPlain r).1.length ≤ r.1.length ∧ (rPlain r).2.1.length ≤ r.1.length ∧ (r.1 ≠ [] → (rPlain r).2.1.length < r.1.length) := by
  obtain ⟨s, f⟩ := r
  rcases rPlain_two s f with ⟨p, q, rfl, h1, e⟩ | ⟨h1, e⟩
  · rw [e]; simp; omega
  · rw [e]
    refine ⟨by simp, by simp, fun e => ?_⟩
    have := List.length_pos_iff.2 e
    simpa using this
theorem rShown_le (sign : List UInt8) (r : List UInt8 × Bool) : (rShown sign r).1.length ≤ r.1.length + 1 ∧ (rShown sign r).2.1.length ≤ r.1.length := by
  have h1 := rWord_le sign r
  have h2 := rPlain_le (rWord sign r)
  unfold rShown
  split
  · refine ⟨by dsimp only; omega, ?_⟩
    dsimp only
    rw [List.length_drop]
    omega
  · refine ⟨by simp; omega, by dsimp only; omega⟩

/-! Rows. -/

theorem signB_three {k : Int} (h1 : 1 ≤ k) (h3 : k ≤ 3) : (k = 1 ∧ signB k = 32) ∨ (k = 2 ∧ signB k = 45) ∨ (k = 3 ∧ signB k = 43) := by
  rcases (by omega : k = 1 ∨ k = 2 ∨ k = 3) with rfl | rfl | rfl
  · exact .inl ⟨rfl, rfl⟩
  · exact .inr (.inl ⟨rfl, rfl⟩)
  · exact .inr (.inr ⟨rfl, rfl⟩)
theorem rowT_head (x : Rw) : ∃ r, rowT x = signB x.kind :: r := by
  unfold rowT
  rw [showT_eq]
  split
  · exact ⟨_, rfl⟩
  · exact ⟨_, rfl⟩
theorem pre_one (c d : UInt8) (r : List UInt8) : Lib.hasPrefix (c :: r) [d] = decide (d = c) := by
  unfold Lib.hasPrefix
  simp [List.isPrefixOf]
  by_cases h : d = c <;> simp [h]
theorem rRow_back {x : Rw} (hl : lineB x.line = true) (h1 : 1 ≤ x.kind) (h3 : x.kind ≤ 3) (t : List UInt8) (ht : Lib.hasPrefix t noneL = false) : rRow (rowT x ++ t, false) = (x, (t, false)) := by
  have hb := rShown_back (sign := [signB x.kind]) hl t ht
  obtain ⟨r, er⟩ := rowT_head x
  have er2 : rowT x ++ t = signB x.kind :: (r ++ t) := by rw [er]; rfl
  change rShown [signB x.kind] (rowT x ++ t, false) = _ at hb
  obtain ⟨k, s⟩ := x
  dsimp only at hl h1 h3 hb er2
  unfold rRow
  rcases signB_three h1 h3 with ⟨rfl, e⟩ | ⟨rfl, e⟩ | ⟨rfl, e⟩ <;> rw [e] at hb er2 <;> dsimp only <;> simp only [er2, pre_one] <;> simp <;> rw [← er2, hb] <;> exact ⟨bs_self s, rfl⟩
theorem rRow_exact {r : List UInt8 × Bool} (h : (rRow r).2.2 = false) : r.2 = false ∧ 1 ≤ (rRow r).1.kind ∧ (rRow r).1.kind ≤ 3 ∧ r.1 = rowT (rRow r).1 ++ (rRow r).2.1 := by
  obtain ⟨s, f⟩ := r
  unfold rRow at h ⊢
  dsimp only at h ⊢
  cases h1 : Lib.hasPrefix s [32]
  · rw [h1, if_neg Bool.false_ne_true] at h
    rw [if_neg Bool.false_ne_true]
    cases h2 : Lib.hasPrefix s [45]
    · rw [h2, if_neg Bool.false_ne_true] at h
      rw [if_neg Bool.false_ne_true]
      cases h3 : Lib.hasPrefix s [43]
      · rw [h3, if_neg Bool.false_ne_true] at h
        cases h
      · obtain ⟨t, rfl⟩ := pre_split h3
        rw [h3, if_pos rfl] at h
        rw [if_pos rfl]
        dsimp only at h ⊢
        obtain ⟨q1, q2⟩ := rShown_exact h
        exact ⟨q1, by omega, by omega, by unfold rowT; rw [bs_list]; exact q2⟩
    · obtain ⟨t, rfl⟩ := pre_split h2
      rw [h2, if_pos rfl] at h
      rw [if_pos rfl]
      dsimp only at h ⊢
      obtain ⟨q1, q2⟩ := rShown_exact h
      exact ⟨q1, by omega, by omega, by unfold rowT; rw [bs_list]; exact q2⟩
  · obtain ⟨t, rfl⟩ := pre_split h1
    rw [h1, if_pos rfl] at h
    rw [if_pos rfl]
    dsimp only at h ⊢
    obtain ⟨q1, q2⟩ := rShown_exact h
    exact ⟨q1, by omega, by omega, by unfold rowT; rw [bs_list]; exact q2⟩
theorem rowT_pos (x : Rw) : 1 ≤ (rowT x).length := by
  obtain ⟨r, e⟩ := rowT_head x
  rw [e]; simp
theorem rRow_le (r : List UInt8 × Bool) : (rRow r).1.line.size ≤ r.1.length + 1 ∧ (rRow r).2.1.length ≤ r.1.length ∧ 0 ≤ (rRow r).1.kind ∧ (rRow r).1.kind ≤ 3 ∧ ((rRow r).2.2 = false → (rRow r).2.1.length + 1 ≤ r.1.length) ∧ ((rRow r).2.2 = true → (rRow r).2.1 = [] ∨ r.2 = true) := by
  have h5 : (rRow r).2.2 = false → (rRow r).2.1.length + 1 ≤ r.1.length := fun h => by
    obtain ⟨_, _, _, e⟩ := rRow_exact h
    have := rowT_pos (rRow r).1
    rw [e, List.length_append]; omega
  have h6 : ∀ sign : List UInt8, (rShown sign r).2.2 = true → (rShown sign r).2.1 = [] ∨ r.2 = true := by
    intro sign h
    unfold rShown at h ⊢
    have hw : (rWord sign r).1 = [] ∨ (rWord sign r).2 = r.2 := by unfold rWord; split <;> simp
    generalize rWord sign r = wf at h hw ⊢
    obtain ⟨w, f⟩ := wf
    rcases rPlain_two w f with ⟨p, q, rfl, h1, e⟩ | ⟨h1, e⟩
    · rw [e] at h ⊢
      dsimp only at h ⊢
      rcases hw with hw | hw
      · simp at hw
      · have hf : f = true := by split at h <;> exact h
        exact .inr (by rw [← hw]; exact hf)
    · rw [e]
      left
      dsimp only
      rw [if_neg (by simp [Lib.hasPrefix, noneL])]
  have a := rShown_le [32] r
  have b := rShown_le [45] r
  have c := rShown_le [43] r
  refine ⟨?_, ?_, ?_, ?_, h5, ?_⟩
  all_goals (unfold rRow; repeat' split)
  all_goals (dsimp only)
  all_goals (try rw [bs_size])
  all_goals (try simp only [List.length_nil])
  all_goals first
    | omega
    | exact h6 _
    | (intro _; simp)

end Go.Proofs.YtkamenidgkjodaaGreatDoor.M

namespace Go.Proofs.YtkamenidgkjodaaGreatDoor.M
open Go

def oldN (k : Int) : Int := if k = 1 ∨ k = 2 then 1 else 0
def newN (k : Int) : Int := if k = 1 ∨ k = 3 then 1 else 0
/-- Rows that are good by themselves. -/
def rowsOk (q : List Rw) : Prop := ∀ y ∈ q, lineB y.line = true ∧ 1 ≤ y.kind ∧ y.kind ≤ 3
def kindsOk (q : List Rw) : Prop := ∀ y ∈ q, 1 ≤ y.kind ∧ y.kind ≤ 3
theorem lw_cons_len3 {x : Rw} (l : List Rw) (h1 : 1 ≤ x.kind) (h3 : x.kind ≤ 3) : ((lw 3 (x :: l)).length : Int) = oldN x.kind + (lw 3 l).length := by
  simp only [lw]
  unfold oldN
  split
  · rw [if_neg (by omega)]; omega
  · rw [if_pos (by omega)]; simp; omega
theorem lw_cons_len2 {x : Rw} (l : List Rw) (h1 : 1 ≤ x.kind) (h3 : x.kind ≤ 3) : ((lw 2 (x :: l)).length : Int) = newN x.kind + (lw 2 l).length := by
  simp only [lw]
  unfold newN
  split
  · rw [if_neg (by omega)]; omega
  · rw [if_pos (by omega)]; simp; omega
theorem lw_snoc_len3 {x : Rw} (l : List Rw) (h1 : 1 ≤ x.kind) (h3 : x.kind ≤ 3) : ((lw 3 (l ++ [x])).length : Int) = (lw 3 l).length + oldN x.kind := by
  have := lw_cons_len3 (x := x) [] h1 h3
  rw [lw_append, List.length_append]; simp [lw] at this ⊢; omega
theorem lw_snoc_len2 {x : Rw} (l : List Rw) (h1 : 1 ≤ x.kind) (h3 : x.kind ≤ 3) : ((lw 2 (l ++ [x])).length : Int) = (lw 2 l).length + newN x.kind := by
  have := lw_cons_len2 (x := x) [] h1 h3
  rw [lw_append, List.length_append]; simp [lw] at this ⊢; omega
theorem oldN_le (k : Int) : 0 ≤ oldN k ∧ oldN k ≤ 1 := by unfold oldN; split <;> omega
theorem newN_le (k : Int) : 0 ≤ newN k ∧ newN k ≤ 1 := by unfold newN; split <;> omega
theorem some_one {x : Rw} (h1 : 1 ≤ x.kind) (h3 : x.kind ≤ 3) : 1 ≤ oldN x.kind + newN x.kind := by
  unfold oldN newN; repeat' split
  all_goals omega
theorem rows_none {q : List Rw} (hq : kindsOk q) (h3 : (lw 3 q).length = 0) (h2 : (lw 2 q).length = 0) : q = [] := by
  cases q with
  | nil => rfl
  | cons x q =>
    obtain ⟨a, b⟩ := hq x (by simp)
    have e1 := lw_cons_len3 q a b
    have e2 := lw_cons_len2 q a b
    have := some_one a b
    have := oldN_le x.kind
    have := newN_le x.kind
    omega
theorem rowsOk.kinds {q : List Rw} (h : rowsOk q) : kindsOk q := fun y hy => (h y hy).2
theorem rowsOk.drop {q : List Rw} (h : rowsOk q) (k : Nat) : rowsOk (q.drop k) := fun y hy => h y (List.mem_of_mem_drop hy)
theorem rowsT_pre {q : List Rw} (hq : kindsOk q) {t : List UInt8} (ht : Lib.hasPrefix t noneL = false) : Lib.hasPrefix (rowsT q ++ t) noneL = false := by
  cases q with
  | nil => simpa [rowsT_nil] using ht
  | cons x q =>
    obtain ⟨r, e⟩ := rowT_head x
    obtain ⟨a, b⟩ := hq x (by simp)
    rw [rowsT_cons, e]
    refine pre_none ?_ _
    rcases signB_three a b with ⟨_, e⟩ | ⟨_, e⟩ | ⟨_, e⟩ <;> (rw [e]; decide)

/-- What has been read of rows: O, and what is left; so many lines of both are still to come. -/
structure RowsAt (old come : Nat) (r : List UInt8 × Bool) (O : List Rw) (o1 c1 : Int) (r1 : List UInt8 × Bool) : Prop where
  size : ∀ y ∈ O, y.line.size ≤ r.1.length + 1 ∧ 0 ≤ y.kind ∧ y.kind ≤ 3
  many : O.length + r1.1.length ≤ r.1.length + 1
  many2 : r1.2 = false → O.length + r1.1.length ≤ r.1.length
  left : r1.1.length ≤ r.1.length
  olds : (old : Int) - O.length ≤ o1 ∧ o1 ≤ old
  news : (come : Int) - O.length ≤ c1 ∧ c1 ≤ come
  exact_ : r1.2 = false → r.2 = false ∧ r.1 = rowsT O ++ r1.1 ∧ o1 = (old : Int) - (lw 3 O).length ∧ c1 = (come : Int) - (lw 2 O).length ∧ kindsOk O
  back : ∀ q t, rowsOk q → Lib.hasPrefix t noneL = false → (lw 3 q).length = old → (lw 2 q).length = come → r = (rowsT q ++ t, false) → ∃ k, k ≤ q.length ∧ O = q.take k ∧ r1 = (rowsT (q.drop k) ++ t, false)
theorem RowsAt.start (old come : Nat) (r : List UInt8 × Bool) : RowsAt old come r [] old come r :=
  ⟨fun y h => (by cases h), by simp, fun _ => by simp, Nat.le_refl _, ⟨by simp, by simp⟩, ⟨by simp, by simp⟩, fun h => ⟨h, by simp [rowsT_nil], by simp [lw], by simp [lw], fun y h => (by cases h)⟩, fun q t _ _ _ _ e => ⟨0, Nat.zero_le _, rfl, by rw [List.drop_zero]; exact e⟩⟩
theorem lw_split (k : Int) (q : List Rw) (j : Nat) : (lw k q).length = (lw k (q.take j)).length + (lw k (q.drop j)).length := by
  rw [← List.length_append, ← lw_append, List.take_append_drop]
theorem RowsAt.next {old come : Nat} {r : List UInt8 × Bool} {O : List Rw} {o1 c1 : Int} {r1 : List UInt8 × Bool} (h : RowsAt old come r O o1 c1 r1) (hf : r1.2 = false) (hm : 0 < o1 ∨ 0 < c1) :
    RowsAt old come r (O ++ [(rRow r1).1]) (o1 - oldN (rRow r1).1.kind) (c1 - newN (rRow r1).1.kind) (rRow r1).2 := by
  obtain ⟨l1, l2, l3, l4, l5, l6⟩ := rRow_le r1
  have h2 := h.many2 hf
  have hl := h.left
  have q1 := oldN_le (rRow r1).1.kind
  have q2 := newN_le (rRow r1).1.kind
  obtain ⟨ho1, ho2⟩ := h.olds
  obtain ⟨hc1, hc2⟩ := h.news
  refine ⟨fun y hy => ?_, ?_, fun e => ?_, by omega, ⟨?_, by omega⟩, ⟨?_, by omega⟩, fun e => ?_, ?_⟩
  · rcases List.mem_append.1 hy with hy | hy
    · exact h.size y hy
    · rw [List.mem_singleton.1 hy]; exact ⟨by omega, l3, l4⟩
  · cases e : (rRow r1).2.2
    · have := l5 e; simp; omega
    · rcases l6 e with e2 | e2
      · rw [e2]; simp; omega
      · rw [hf] at e2; cases e2
  · have := l5 e; simp; omega
  · simp; omega
  · simp; omega
  · obtain ⟨e1, e2, e3, e4, e5⟩ := h.exact_ hf
    obtain ⟨f1, f2, f3, f4⟩ := rRow_exact e
    refine ⟨e1, ?_, ?_, ?_, fun y hy => ?_⟩
    · rw [e2, rowsT_snoc, List.append_assoc, ← f4]
    · rw [lw_snoc_len3 O f2 f3]; omega
    · rw [lw_snoc_len2 O f2 f3]; omega
    · rcases List.mem_append.1 hy with hy | hy
      · exact e5 y hy
      · rw [List.mem_singleton.1 hy]; exact ⟨f2, f3⟩
  · intro q t hq ht h3 h2 e
    obtain ⟨k, hk, e1, e2⟩ := h.back q t hq ht h3 h2 e
    obtain ⟨x1, x2, x3, x4, x5⟩ := h.exact_ hf
    have hlt : k < q.length := by
      rcases Nat.lt_or_ge k q.length with h5 | h5
      · exact h5
      · exfalso
        rw [List.take_of_length_le h5] at e1
        rw [e1] at x3 x4
        omega
    have e3 : q.drop k = q[k] :: q.drop (k + 1) := List.drop_eq_getElem_cons hlt
    obtain ⟨g1, g2, g3⟩ := hq q[k] (List.getElem_mem hlt)
    have e4 := rRow_back g1 g2 g3 (rowsT (q.drop (k + 1)) ++ t) (rowsT_pre (hq.drop _).kinds ht)
    rw [e3, rowsT_cons, List.append_assoc] at e2
    rw [e2, e4]
    refine ⟨k + 1, hlt, ?_, rfl⟩
    rw [e1, List.take_succ_eq_append_getElem hlt]

/-- What the reader tells of rows. -/
structure RowsOut (old come : Nat) (r : List UInt8 × Bool) (O : List Rw) (r2 : List UInt8 × Bool) : Prop where
  size : ∀ y ∈ O, y.line.size ≤ r.1.length + 1 ∧ 0 ≤ y.kind ∧ y.kind ≤ 3
  many : O.length ≤ r.1.length + 1
  left : r2.1.length ≤ r.1.length
  exact_ : r2.2 = false → r.2 = false ∧ r.1 = rowsT O ++ r2.1 ∧ (lw 3 O).length = old ∧ (lw 2 O).length = come ∧ kindsOk O
  back : ∀ q t, rowsOk q → Lib.hasPrefix t noneL = false → (lw 3 q).length = old → (lw 2 q).length = come → r = (rowsT q ++ t, false) → O = q ∧ r2 = (t, false)
theorem RowsAt.ends {old come : Nat} {r : List UInt8 × Bool} {O : List Rw} {o1 c1 : Int} {r1 : List UInt8 × Bool} (h : RowsAt old come r O o1 c1 r1) (hm : r1.2 = true ∨ ¬ (0 < o1 ∨ 0 < c1)) (h0 : o1 = 0 ∧ c1 = 0) : RowsOut old come r O r1 := by
  refine ⟨h.size, by have := h.many; omega, h.left, fun e => ?_, fun q t hq ht h3 h2 e => ?_⟩
  · obtain ⟨e1, e2, e3, e4, e5⟩ := h.exact_ e
    exact ⟨e1, e2, by omega, by omega, e5⟩
  · obtain ⟨k, hk, e1, e2⟩ := h.back q t hq ht h3 h2 e
    obtain ⟨x1, x2, x3, x4, x5⟩ := h.exact_ (by rw [e2])
    have s3 := lw_split 3 q k
    have s2 := lw_split 2 q k
    rw [← e1] at s3 s2
    have e0 := rows_none (hq.drop k).kinds (by omega) (by omega)
    have hk2 : q.length ≤ k := List.drop_eq_nil_iff.1 e0
    rw [e0, rowsT_nil, List.nil_append] at e2
    rw [List.take_of_length_le hk2] at e1
    exact ⟨e1, e2⟩
theorem RowsAt.bad {old come : Nat} {r : List UInt8 × Bool} {O : List Rw} {o1 c1 : Int} {r1 : List UInt8 × Bool} (h : RowsAt old come r O o1 c1 r1) (hm : r1.2 = true ∨ ¬ (0 < o1 ∨ 0 < c1)) (h0 : ¬ (o1 = 0 ∧ c1 = 0)) : RowsOut old come r O ([], true) := by
  refine ⟨h.size, by have := h.many; omega, by simp, fun e => (by cases e), fun q t hq ht h3 h2 e => ?_⟩
  exfalso
  obtain ⟨k, hk, e1, e2⟩ := h.back q t hq ht h3 h2 e
  obtain ⟨x1, x2, x3, x4, x5⟩ := h.exact_ (by rw [e2])
  have s3 := lw_split 3 q k
  have s2 := lw_split 2 q k
  rw [← e1] at s3 s2
  rcases hm with hm | hm
  · rw [e2] at hm; cases hm
  · omega

/-- A group that has been read. -/
structure GpOut (r : List UInt8 × Bool) (x : Gp) (r2 : List UInt8 × Bool) : Prop where
  size : ∀ y ∈ x.rows, y.line.size ≤ r.1.length + 1 ∧ 0 ≤ y.kind ∧ y.kind ≤ 3
  nums : 0 ≤ x.at_ ∧ x.at_ ≤ 999 ∧ 0 ≤ x.to_ ∧ x.to_ ≤ 999
  many : x.rows.length ≤ r.1.length + 1
  left : r2.1.length ≤ r.1.length ∧ (r.1 ≠ [] → r2.1.length < r.1.length)
  exact_ : r2.2 = false → r.2 = false ∧ ∃ hd, HeadOf hd x ∧ r.1 = hd ++ 10 :: (rowsT x.rows ++ r2.1)
  back : ∀ q hd t, groupB q = true → HeadOf hd q → Lib.hasPrefix t noneL = false → r = (hd ++ 10 :: (rowsT q.rows ++ t), false) → x = q ∧ r2 = (t, false)
theorem GpOut.bad {r : List UInt8 × Bool} (h : ∀ a o t c, ¬ HeadIs (rPlain r).1 a o t c) : GpOut r blankGp ([], true) := by
  refine ⟨fun y hy => (by cases hy), ⟨by decide, by decide, by decide, by decide⟩, by simp [blankGp], ⟨by simp, fun e => List.length_pos_iff.2 e⟩, fun e => (by cases e), fun q hd t hq hh ht e => ?_⟩
  exfalso
  rw [e, rPlain_hit hh.no10] at h
  exact h _ _ _ _ hh
theorem GpOut.good {r : List UInt8 × Bool} {a o t c : Nat} (h : HeadIs (rPlain r).1 a o t c) {O : List Rw} {r2 : List UInt8 × Bool} (ho : RowsOut o c (rPlain r).2 O r2) : GpOut r ⟨a, t, O⟩ r2 := by
  obtain ⟨s, f⟩ := r
  obtain ⟨l1, l2, l3⟩ := rPlain_le (s, f)
  have hle := h.le
  have hm := ho.many
  have hl := ho.left
  refine ⟨fun y hy => ?_, by dsimp only; omega, by dsimp only at *; omega, ⟨by dsimp only at *; omega, fun e => by have := l3 e; dsimp only at *; omega⟩, fun e => ?_, fun q hd u hq hh ht e => ?_⟩
  · have := ho.size y hy
    dsimp only at *
    omega
  · obtain ⟨e1, e2, e3, e4, e5⟩ := ho.exact_ e
    rcases rPlain_two s f with ⟨p, u, rfl, h1, ep⟩ | ⟨h1, ep⟩
    · rw [ep] at e1 e2 h
      dsimp only at e1 e2 h
      refine ⟨e1, p, ?_, by rw [e2]⟩
      unfold HeadOf
      dsimp only
      rw [Int.toNat_natCast, Int.toNat_natCast, e3, e4]
      exact h
    · rw [ep] at e1
      cases e1
  · injection e with e6 e7
    subst e6 e7
    have ep := rPlain_hit hh.no10 (rowsT q.rows ++ u) false
    rw [ep] at h ho
    dsimp only at h ho
    obtain ⟨i1, i2, i3, i4⟩ := h.uniq hh
    obtain ⟨j1, j2⟩ := ho.back q.rows u (groupB_line hq) ht i2.symm i4.symm rfl
    obtain ⟨g1, g2, g3, g4, g5, _⟩ := groupB_len hq
    refine ⟨?_, j2⟩
    exact Gp.ext_ (by dsimp only; omega) (by dsimp only; omega) j1

/-- What has been read of groups. -/
structure GpsAt (s : List UInt8) (p : List Gp) (r : List UInt8 × Bool) : Prop where
  size : ∀ x ∈ p, (∀ y ∈ x.rows, y.line.size ≤ s.length + 1 ∧ 0 ≤ y.kind ∧ y.kind ≤ 3) ∧ 0 ≤ x.at_ ∧ x.at_ ≤ 999 ∧ 0 ≤ x.to_ ∧ x.to_ ≤ 999 ∧ x.rows.length ≤ s.length + 1
  many : p.length + r.1.length ≤ s.length
  exact_ : r.2 = false → ∃ s0, s = s0 ++ r.1 ∧ Wrt p s0
  back : ∀ q : List Gp, (∀ x ∈ q, groupB x = true) → Wrt q s → ∃ k, k ≤ q.length ∧ p = q.take k ∧ Wrt (q.drop k) r.1 ∧ r.2 = false
theorem GpsAt.start (s : List UInt8) : GpsAt s [] (s, false) :=
  ⟨fun x h => (by cases h), by simp, fun _ => ⟨[], rfl, rfl⟩, fun q _ h => ⟨0, Nat.zero_le _, rfl, by rw [List.drop_zero]; exact h, rfl⟩⟩
theorem GpsAt.next {s : List UInt8} {p : List Gp} {r : List UInt8 × Bool} (h : GpsAt s p r) (hr : r.1 ≠ []) {x : Gp} {r2 : List UInt8 × Bool} (hx : GpOut r x r2) : GpsAt s (p ++ [x]) r2 := by
  have hm := h.many
  have hl := hx.left.2 hr
  refine ⟨fun y hy => ?_, by simp; omega, fun e => ?_, fun q hq hw => ?_⟩
  · rcases List.mem_append.1 hy with hy | hy
    · exact h.size y hy
    · rw [List.mem_singleton.1 hy]
      have h1 := hx.nums
      have h2 := hx.many
      refine ⟨fun z hz => ?_, h1.1, h1.2.1, h1.2.2.1, h1.2.2.2, by omega⟩
      have := hx.size z hz
      omega
  · obtain ⟨e1, hd, e2, e3⟩ := hx.exact_ e
    obtain ⟨s0, e4, e5⟩ := h.exact_ e1
    refine ⟨s0 ++ (hd ++ 10 :: rowsT x.rows), ?_, Wrt.snoc e2 e5⟩
    rw [e4, e3]; simp
  · obtain ⟨k, hk, e1, e2, e3⟩ := h.back q hq hw
    have hlt : k < q.length := by
      rcases Nat.lt_or_ge k q.length with h5 | h5
      · exact h5
      · rw [List.drop_eq_nil_of_le h5] at e2
        exact absurd e2 hr
    rw [List.drop_eq_getElem_cons hlt] at e2
    obtain ⟨hd, s', f1, f2, f3⟩ := e2
    obtain ⟨g1, g2⟩ := hx.back q[k] hd s' (hq _ (List.getElem_mem hlt)) f1 f3.pre (Prod.ext f2 e3)
    refine ⟨k + 1, hlt, ?_, ?_, ?_⟩
    · rw [e1, g1, List.take_succ_eq_append_getElem hlt]
    · rw [g2]; exact f3
    · rw [g2]
theorem GpsAt.bad {s : List UInt8} {p : List Gp} {r : List UInt8 × Bool} (h : GpsAt s p r) (hr : r.1 = []) (hb : r.2 = true ∨ goodG p = false) : ReadIs s [] 1 false := by
  refine .inr ⟨rfl, rfl, rfl, ?_⟩
  rintro ⟨_, q, hq, hw⟩
  obtain ⟨k, hk, e1, e2, e3⟩ := h.back q (goodG_parts hq).2.2 hw
  have e4 := (e2.nonempty).1 hr
  rw [List.take_of_length_le (List.drop_eq_nil_iff.1 e4)] at e1
  rcases hb with hb | hb
  · rw [e3] at hb; cases hb
  · rw [e1, hq] at hb; cases hb
theorem GpsAt.ok {s : List UInt8} {p : List Gp} {r : List UInt8 × Bool} (h : GpsAt s p r) (hr : r.1 = []) (hf : r.2 = false) (hg : goodG p = true) (hs : s.length ≤ 3000) : ReadIs s p 0 true := by
  obtain ⟨s0, e1, e2⟩ := h.exact_ hf
  rw [hr, List.append_nil] at e1
  exact .inl ⟨hg, by rw [e1]; exact e2, hs, rfl, rfl⟩
theorem ReadIs.long {s : List UInt8} (h : 3000 < s.length) : ReadIs s [] 1 false := .inr ⟨rfl, rfl, rfl, fun e => by omega⟩

/-! A text is of one list of groups alone. -/

theorem rows_uniq : ∀ {q q' : List Rw} {t t' : List UInt8}, rowsOk q → rowsOk q' → Lib.hasPrefix t noneL = false → Lib.hasPrefix t' noneL = false → (lw 3 q).length = (lw 3 q').length → (lw 2 q).length = (lw 2 q').length → rowsT q ++ t = rowsT q' ++ t' → q = q' ∧ t = t'
  | [], q', t, t', _, hq', _, _, h3, h2, e => by
    have := rows_none hq'.kinds h3.symm h2.symm
    subst this
    exact ⟨rfl, by simpa [rowsT_nil] using e⟩
  | x :: q, [], t, t', hq, _, _, _, h3, h2, e => by
    have := rows_none hq.kinds h3 h2
    cases this
  | x :: q, x' :: q', t, t', hq, hq', ht, ht', h3, h2, e => by
    obtain ⟨a1, a2, a3⟩ := hq x (by simp)
    obtain ⟨b1, b2, b3⟩ := hq' x' (by simp)
    have hqr : rowsOk q := fun y hy => hq y (by simp [hy])
    have hqr' : rowsOk q' := fun y hy => hq' y (by simp [hy])
    have r1 := rRow_back a1 a2 a3 (rowsT q ++ t) (rowsT_pre hqr.kinds ht)
    have r2 := rRow_back b1 b2 b3 (rowsT q' ++ t') (rowsT_pre hqr'.kinds ht')
    rw [rowsT_cons, rowsT_cons, List.append_assoc, List.append_assoc] at e
    rw [e, r2] at r1
    injection r1 with r1 r3
    injection r3 with r3 _
    subst r1
    have c3 := lw_cons_len3 q a2 a3
    have c3' := lw_cons_len3 q' a2 a3
    have c2 := lw_cons_len2 q a2 a3
    have c2' := lw_cons_len2 q' a2 a3
    obtain ⟨e5, e6⟩ := rows_uniq hqr hqr' ht ht' (by omega) (by omega) r3.symm
    exact ⟨by rw [e5], e6⟩
theorem Wrt.uniq : ∀ {g g' : List Gp} {s : List UInt8}, (∀ x ∈ g, groupB x = true) → (∀ x ∈ g', groupB x = true) → Wrt g s → Wrt g' s → g = g'
  | [], g', s, _, _, h, h' => by
    have h : s = [] := h
    exact ((h'.nonempty).1 h).symm
  | x :: g, [], s, _, _, h, h' => by
    have h' : s = [] := h'
    exact (h.nonempty).1 h'
  | x :: g, x' :: g', s, hg, hg', h, h' => by
    obtain ⟨hd, u, a1, a2, a3⟩ := h
    obtain ⟨hd', u', b1, b2, b3⟩ := h'
    rw [a2] at b2
    obtain ⟨e1, e2⟩ := cut_same b2 a1.no10 b1.no10
    subst e1
    obtain ⟨n1, n2, n3, n4⟩ := a1.uniq b1
    obtain ⟨e3, e4⟩ := rows_uniq (groupB_line (hg x (by simp))) (groupB_line (hg' x' (by simp))) a3.pre b3.pre n2 n4 e2
    subst e4
    have g1 := groupB_len (hg x (by simp))
    have g2 := groupB_len (hg' x' (by simp))
    have e5 : x = x' := Gp.ext_ (by omega) (by omega) e3
    rw [e5, Wrt.uniq (fun y hy => hg y (by simp [hy])) (fun y hy => hg' y (by simp [hy])) a3 b3]
theorem ReadIs.same {s : List UInt8} {g g' : List Gp} {c c' : Int} {o o' : Bool} (h : ReadIs s g c o) (h' : ReadIs s g' c' o') : g = g' ∧ c = c' ∧ o = o' := by
  rcases h with ⟨a1, a2, a3, a4, a5⟩ | ⟨a1, a2, a3, a4⟩ <;> rcases h' with ⟨b1, b2, b3, b4, b5⟩ | ⟨b1, b2, b3, b4⟩
  · exact ⟨Wrt.uniq (goodG_parts a1).2.2 (goodG_parts b1).2.2 a2 b2, by rw [a4, b4], by rw [a5, b5]⟩
  · exact absurd ⟨a3, _, a1, a2⟩ b4
  · exact absurd ⟨b3, _, b1, b2⟩ a4
  · exact ⟨by rw [a1, b1], by rw [a2, b2], by rw [a3, b3]⟩

end Go.Proofs.YtkamenidgkjodaaGreatDoor.M

namespace Go.Proofs.YtkamenidgkjodaaGreatDoor.M
open Go

/-- Lines as a text is cut: all but the last one end in a byte 10, and none has one elsewhere. -/
def LinesOk : List (List UInt8) → Prop
  | [] => True
  | l :: L => (l ≠ [] ∧ (10 : UInt8) ∉ l.dropLast ∧ (L ≠ [] → endsL l = true)) ∧ LinesOk L
theorem LinesOk.drop : ∀ {L : List (List UInt8)} (k : Nat), LinesOk L → LinesOk (L.drop k)
  | [], k, h => by simpa using h
  | l :: L, 0, h => h
  | l :: L, k + 1, h => LinesOk.drop k h.2
theorem noend_last {l : List UInt8} (h : (10 : UInt8) ∉ l.dropLast) (he : endsL l = false) : (10 : UInt8) ∉ l := by
  intro hm
  have hne : l ≠ [] := fun e => by rw [e] at hm; cases hm
  rw [← List.dropLast_concat_getLast hne] at hm
  rcases List.mem_append.1 hm with h2 | h2
  · exact h h2
  · have h2 := List.mem_singleton.1 h2
    unfold endsL at he
    rw [List.getLast?_eq_some_getLast hne, ← h2] at he
    cases he
theorem first_line {l p rest : List UInt8} {L : List (List UInt8)} (h : LinesOk (l :: L)) (e : l ++ L.flatten = p ++ 10 :: rest) (hp : (10 : UInt8) ∉ p) : l = p ++ [10] ∧ L.flatten = rest := by
  obtain ⟨⟨h1, h2, h3⟩, _⟩ := h
  cases he : endsL l
  · exfalso
    have hL : L = [] := by
      cases L with
      | nil => rfl
      | cons m L => rw [h3 (by simp)] at he; cases he
    subst hL
    have hn := noend_last h2 he
    simp at e
    rw [e] at hn
    simp at hn
  · have e1 := ends_split he
    rw [e1, List.append_assoc] at e
    obtain ⟨e2, e3⟩ := cut_same (show l.dropLast ++ 10 :: L.flatten = p ++ 10 :: rest from e) h2 hp
    exact ⟨by rw [← e2]; exact e1, e3⟩
theorem flatten_ne {L : List (List UInt8)} (h : LinesOk L) : L.flatten = [] ↔ L = [] := by
  cases L with
  | nil => simp
  | cons l L => exact ⟨fun e => by simp at e; exact absurd e.1 h.1.1, fun e => (by cases e)⟩

def kindOf (b : UInt8) : Int := if b = 32 then 1 else if b = 45 then 2 else if b = 43 then 3 else 0
theorem kindOf_sign {b : UInt8} (h : kindOf b ≠ 0) : 1 ≤ kindOf b ∧ kindOf b ≤ 3 ∧ signB (kindOf b) = b := by
  unfold kindOf at *
  split
  · rename_i e; exact ⟨by omega, by omega, by rw [e]; rfl⟩
  · split
    · rename_i e; exact ⟨by omega, by omega, by rw [e]; rfl⟩
    · split
      · rename_i e; exact ⟨by omega, by omega, by rw [e]; rfl⟩
      · rename_i e1 e2 e3; rw [if_neg e1, if_neg e2, if_neg e3] at h; exact absurd rfl h
theorem kindOf_of {k : Int} (h1 : 1 ≤ k) (h3 : k ≤ 3) : kindOf (signB k) = k := by
  rcases (by omega : k = 1 ∨ k = 2 ∨ k = 3) with rfl | rfl | rfl <;> rfl
/-- The row of a line, behind which a word may stand. -/
def rowOf (b : UInt8) (s : List UInt8) (none_ : Bool) : Rw := ⟨kindOf b, bs (if none_ then s.dropLast else s)⟩

structure TakeAt (old fresh : Nat) (L : List (List UInt8)) (O : List Rw) (n : Nat) (o1 c1 : Int) : Prop where
  le : n ≤ L.length
  many : O.length ≤ n
  size : ∀ y ∈ O, y.line.size ≤ L.flatten.length ∧ 1 ≤ y.kind ∧ y.kind ≤ 3
  olds : o1 = (old : Int) - (lw 3 O).length
  news : c1 = (fresh : Int) - (lw 2 O).length
  exact_ : ∃ tail, (L.take n).flatten ++ tail = rowsT O ∧ (tail = [] ∨ n = L.length)
  back : ∀ q t, rowsOk q → Lib.hasPrefix t noneL = false → (lw 3 q).length = old → (lw 2 q).length = fresh → L.flatten = rowsT q ++ t → ∃ k, k ≤ q.length ∧ O = q.take k ∧ (L.drop n).flatten = rowsT (q.drop k) ++ t
theorem TakeAt.start (old fresh : Nat) (L : List (List UInt8)) : TakeAt old fresh L [] 0 old fresh :=
  ⟨Nat.zero_le _, Nat.le_refl _, fun y h => (by cases h), by simp [lw], by simp [lw], ⟨[], by simp [rowsT_nil], .inl rfl⟩, fun q t _ _ _ _ e => ⟨0, Nat.zero_le _, rfl, by simpa using e⟩⟩
theorem flat_take_drop (L : List (List UInt8)) (n : Nat) : (L.take n).flatten ++ (L.drop n).flatten = L.flatten := by
  rw [← List.flatten_append, List.take_append_drop]
/-- The first row that is written of a list of lines. -/
theorem row_first {b : UInt8} {s : List UInt8} {M : List (List UInt8)} (hl : LinesOk ((b :: s) :: M)) {x : Rw} (hx : lineB x.line = true) (h1 : 1 ≤ x.kind) (h3 : x.kind ≤ 3) {rest : List UInt8} (hr : Lib.hasPrefix rest noneL = false)
    (e : (b :: s) ++ M.flatten = rowT x ++ rest) : b = signB x.kind ∧ ((M.head? ≠ some noneL ∧ x = rowOf b s false ∧ M.flatten = rest) ∨ (∃ M', M = noneL :: M' ∧ s ≠ [] ∧ x = rowOf b s true ∧ M'.flatten = rest)) := by
  have hk := kindOf_of h1 h3
  unfold rowT at e
  rw [showT_eq] at e
  cases he : endsL x.line.data.toList
  · rw [he, if_neg Bool.false_ne_true] at e
    have h10 := noend_no10 hx he
    have hs10 : (10 : UInt8) ∉ [signB x.kind] ++ x.line.data.toList := by
      intro hm
      rcases List.mem_append.1 hm with h5 | h5
      · rcases signB_three h1 h3 with ⟨_, e⟩ | ⟨_, e⟩ | ⟨_, e⟩ <;> (rw [e] at h5; simp at h5)
      · exact h10 h5
    obtain ⟨e1, e2⟩ := first_line hl (rest := noneL ++ rest) (by rw [e]; simp) hs10
    rw [List.singleton_append, List.cons_append] at e1
    injection e1 with e3 e4
    refine ⟨e3, .inr ?_⟩
    cases M with
    | nil => simp [noneL] at e2
    | cons m M' =>
      obtain ⟨f1, f2⟩ := first_line hl.2 (p := [92, 32, 110, 111, 110, 101]) (rest := rest) (by simpa [noneL] using e2) (by decide)
      refine ⟨M', by rw [f1]; rfl, by rw [e4]; simp, ?_, f2⟩
      unfold rowOf
      rw [if_pos rfl, e3, hk, e4, List.dropLast_concat, bs_self]
  · rw [he, if_pos rfl] at e
    have e0 := ends_split he
    have hs10 : (10 : UInt8) ∉ [signB x.kind] ++ x.line.data.toList.dropLast := by
      intro hm
      rcases List.mem_append.1 hm with h5 | h5
      · rcases signB_three h1 h3 with ⟨_, e⟩ | ⟨_, e⟩ | ⟨_, e⟩ <;> (rw [e] at h5; simp at h5)
      · exact line_no10 hx h5
    obtain ⟨e1, e2⟩ := first_line hl (rest := rest) (by rw [e, e0]; simp) hs10
    rw [List.append_assoc, ← e0, List.singleton_append] at e1
    injection e1 with e3 e4
    refine ⟨e3, .inl ⟨?_, ?_, e2⟩⟩
    · intro h5
      cases M with
      | nil => cases h5
      | cons m M' =>
        simp at h5
        subst h5
        rw [← e2, List.flatten_cons, pre_self] at hr
        cases hr
    · unfold rowOf
      rw [if_neg Bool.false_ne_true, e3, hk, e4, bs_self]
theorem take2_flat {L : List (List UInt8)} {n : Nat} {l m : List UInt8} (h : L[n]? = some l) (h2 : L[n + 1]? = some m) : (L.take (n + 2)).flatten = (L.take n).flatten ++ l ++ m := by
  rw [take_snoc h2, take_snoc h]; simp
theorem mem_flat {L : List (List UInt8)} {n : Nat} {l : List UInt8} (h : L[n]? = some l) : l.length ≤ L.flatten.length := by
  have h1 := flat_take_drop L n
  rw [drop_at h] at h1
  have h2 := congrArg List.length h1
  simp at h2
  have : L.flatten.length = (List.map List.length L).sum := by simp
  omega
theorem take_last {old fresh : Nat} {L : List (List UInt8)} {O : List Rw} {n : Nat} {o1 c1 : Int} (h : TakeAt old fresh L O n o1 c1) {q : List Rw} (hq : rowsOk q) (h3 : (lw 3 q).length = old) (h2 : (lw 2 q).length = fresh) {k : Nat} (hk : k ≤ q.length) (e1 : O = q.take k) (hm : 0 < o1 + c1) : k < q.length := by
  rcases Nat.lt_or_ge k q.length with h5 | h5
  · exact h5
  · exfalso
    rw [List.take_of_length_le h5] at e1
    have := h.olds
    have := h.news
    rw [e1] at *
    omega
theorem TakeAt.next {old fresh : Nat} {L : List (List UInt8)} {O : List Rw} {n : Nat} {o1 c1 : Int} (h : TakeAt old fresh L O n o1 c1) (hL : LinesOk L) {b : UInt8} {s : List UInt8} (hl : L[n]? = some (b :: s)) (hk : kindOf b ≠ 0) (hm : 0 < o1 + c1) (hn : L[n + 1]? ≠ some noneL) :
    TakeAt old fresh L (O ++ [rowOf b s false]) (n + 1) (o1 - oldN (kindOf b)) (c1 - newN (kindOf b)) := by
  obtain ⟨k1, k3, ks⟩ := kindOf_sign hk
  have hlt : n < L.length := (List.getElem?_eq_some_iff.1 hl).1
  have hr : (rowOf b s false).kind = kindOf b := rfl
  have hLn := hL.drop n
  rw [drop_at hl] at hLn
  have hM : L.drop (n + 1) ≠ [] ↔ n + 1 < L.length := by rw [Ne, List.drop_eq_nil_iff]; omega
  refine ⟨hlt, by have := h.many; simp; omega, fun y hy => ?_, ?_, ?_, ?_, ?_⟩
  · rcases List.mem_append.1 hy with hy | hy
    · exact h.size y hy
    · rw [List.mem_singleton.1 hy]
      have := mem_flat hl
      refine ⟨?_, k1, k3⟩
      unfold rowOf
      rw [if_neg Bool.false_ne_true, bs_size]
      simp at this; simp; omega
  · rw [lw_snoc_len3 O (by rw [hr]; exact k1) (by rw [hr]; exact k3), h.olds, hr]; omega
  · rw [lw_snoc_len2 O (by rw [hr]; exact k1) (by rw [hr]; exact k3), h.news, hr]; omega
  · obtain ⟨tail, e1, e2⟩ := h.exact_
    have e3 : tail = [] := by
      rcases e2 with e2 | e2
      · exact e2
      · omega
    subst e3
    rw [List.append_nil] at e1
    rw [take_snoc hl, List.flatten_append, e1, rowsT_snoc]
    unfold rowT
    rw [hr, ks, showT_eq]
    have hline : (rowOf b s false).line.data.toList = s := by unfold rowOf; rw [if_neg Bool.false_ne_true, bs_list]
    rw [hline]
    cases he : endsL s
    · refine ⟨[10] ++ noneL, by simp, .inr ?_⟩
      rcases Nat.lt_or_ge (n + 1) L.length with h5 | h5
      · exfalso
        have h6 := hLn.1.2.2 (hM.2 h5)
        cases s with
        | nil =>
          unfold endsL at h6
          simp at h6
          rw [h6] at hk
          exact hk rfl
        | cons d s =>
          unfold endsL at h6 he
          rw [List.getLast?_cons_cons] at h6
          rw [h6] at he
          cases he
      · omega
    · exact ⟨[], by simp, .inl rfl⟩
  · intro q t hq ht h3 h2 e
    obtain ⟨k, hk2, e1, e2⟩ := h.back q t hq ht h3 h2 e
    have hkl := take_last h hq h3 h2 hk2 e1 hm
    have e3 : q.drop k = q[k] :: q.drop (k + 1) := List.drop_eq_getElem_cons hkl
    obtain ⟨g1, g2, g3⟩ := hq q[k] (List.getElem_mem hkl)
    rw [drop_at hl, List.flatten_cons, e3, rowsT_cons, List.append_assoc] at e2
    obtain ⟨r1, r2⟩ := row_first hLn g1 g2 g3 (rowsT_pre (hq.drop _).kinds ht) e2
    rcases r2 with ⟨_, r3, r4⟩ | ⟨M', r3, _⟩
    · exact ⟨k + 1, hkl, by rw [e1, ← r3, List.take_succ_eq_append_getElem hkl], r4⟩
    · exfalso
      apply hn
      have := congrArg (fun M => M[0]?) r3
      simpa using this
theorem TakeAt.next2 {old fresh : Nat} {L : List (List UInt8)} {O : List Rw} {n : Nat} {o1 c1 : Int} (h : TakeAt old fresh L O n o1 c1) (hL : LinesOk L) {b : UInt8} {s : List UInt8} (hl : L[n]? = some (b :: s)) (hk : kindOf b ≠ 0) (hm : 0 < o1 + c1) (hn : L[n + 1]? = some noneL) (hs : s ≠ []) :
    TakeAt old fresh L (O ++ [rowOf b s true]) (n + 2) (o1 - oldN (kindOf b)) (c1 - newN (kindOf b)) := by
  obtain ⟨k1, k3, ks⟩ := kindOf_sign hk
  have hlt : n + 1 < L.length := (List.getElem?_eq_some_iff.1 hn).1
  have hr : (rowOf b s true).kind = kindOf b := rfl
  have hLn := hL.drop n
  rw [drop_at hl, drop_at hn] at hLn
  have hend := hLn.1.2.2 (by simp)
  have hd10 := hLn.1.2.1
  have hends : endsL s = true := by
    cases s with
    | nil => exact absurd rfl hs
    | cons d s =>
      unfold endsL at hend ⊢
      rw [List.getLast?_cons_cons] at hend
      exact hend
  have hno : endsL s.dropLast = false := by
    apply no10_noend
    intro hm
    apply hd10
    cases s with
    | nil => exact absurd rfl hs
    | cons d s => rw [List.dropLast_cons_cons]; exact List.mem_cons_of_mem _ hm
  refine ⟨hlt, by have := h.many; simp; omega, fun y hy => ?_, ?_, ?_, ?_, ?_⟩
  · rcases List.mem_append.1 hy with hy | hy
    · exact h.size y hy
    · rw [List.mem_singleton.1 hy]
      have := mem_flat hl
      refine ⟨?_, k1, k3⟩
      unfold rowOf
      rw [if_pos rfl, bs_size]
      simp at this ⊢; omega
  · rw [lw_snoc_len3 O (by rw [hr]; exact k1) (by rw [hr]; exact k3), h.olds, hr]; omega
  · rw [lw_snoc_len2 O (by rw [hr]; exact k1) (by rw [hr]; exact k3), h.news, hr]; omega
  · obtain ⟨tail, e1, e2⟩ := h.exact_
    have e3 : tail = [] := by
      rcases e2 with e2 | e2
      · exact e2
      · omega
    subst e3
    rw [List.append_nil] at e1
    refine ⟨[], ?_, .inl rfl⟩
    rw [take2_flat hl hn, e1, rowsT_snoc, List.append_nil]
    unfold rowT
    rw [hr, ks, showT_eq]
    have hline : (rowOf b s true).line.data.toList = s.dropLast := by unfold rowOf; rw [if_pos rfl, bs_list]
    rw [hline, hno, if_neg Bool.false_ne_true]
    have := ends_split hends
    have e5 : b :: s = [b] ++ (s.dropLast ++ [10]) := by rw [← this]; rfl
    rw [e5]; simp
  · intro q t hq ht h3 h2 e
    obtain ⟨k, hk2, e1, e2⟩ := h.back q t hq ht h3 h2 e
    have hkl := take_last h hq h3 h2 hk2 e1 hm
    have e3 : q.drop k = q[k] :: q.drop (k + 1) := List.drop_eq_getElem_cons hkl
    obtain ⟨g1, g2, g3⟩ := hq q[k] (List.getElem_mem hkl)
    rw [drop_at hl, drop_at hn, List.flatten_cons, e3, rowsT_cons, List.append_assoc] at e2
    obtain ⟨r1, r2⟩ := row_first hLn g1 g2 g3 (rowsT_pre (hq.drop _).kinds ht) e2
    rcases r2 with ⟨r5, r3, r4⟩ | ⟨M', r3, _, r4, r5⟩
    · exact absurd rfl r5
    · injection r3 with _ r3
      refine ⟨k + 1, hkl, by rw [e1, ← r4, List.take_succ_eq_append_getElem hkl], ?_⟩
      rw [show n + 2 = n + 1 + 1 from rfl, r3]
      exact r5

/-- The rows that have been taken, in the end. -/
structure TakeOut (old fresh : Nat) (L : List (List UInt8)) (O : List Rw) (n : Nat) : Prop where
  le : n ≤ L.length
  many : O.length ≤ n
  size : ∀ y ∈ O, y.line.size ≤ L.flatten.length ∧ 1 ≤ y.kind ∧ y.kind ≤ 3
  exact_ : ∃ tail, (L.take n).flatten ++ tail = rowsT O ∧ (tail = [] ∨ n = L.length)
  back : ∀ q t, rowsOk q → Lib.hasPrefix t noneL = false → (lw 3 q).length = old → (lw 2 q).length = fresh → L.flatten = rowsT q ++ t → O = q ∧ (L.drop n).flatten = t
theorem TakeAt.ends {old fresh : Nat} {L : List (List UInt8)} {O : List Rw} {n : Nat} {o1 c1 : Int} (h : TakeAt old fresh L O n o1 c1) (hL : LinesOk L) (hs : L.length ≤ n ∨ o1 + c1 ≤ 0 ∨ ∃ b s, L[n]? = some (b :: s) ∧ kindOf b = 0) : TakeOut old fresh L O n := by
  refine ⟨h.le, h.many, h.size, h.exact_, fun q t hq ht h3 h2 e => ?_⟩
  obtain ⟨k, hk2, e1, e2⟩ := h.back q t hq ht h3 h2 e
  rcases Nat.lt_or_ge k q.length with h5 | h5
  · exfalso
    have e3 : q.drop k = q[k] :: q.drop (k + 1) := List.drop_eq_getElem_cons h5
    obtain ⟨g1, g2, g3⟩ := hq q[k] (List.getElem_mem h5)
    obtain ⟨r, er⟩ := rowT_head q[k]
    rw [e3, rowsT_cons, List.append_assoc] at e2
    rcases hs with hs | hs | ⟨b, s, hs, hb⟩
    · rw [List.drop_eq_nil_of_le hs, er] at e2
      simp at e2
    · have s3 := lw_split 3 q k
      have s2 := lw_split 2 q k
      rw [← e1] at s3 s2
      have := h.olds
      have := h.news
      have c3 := lw_cons_len3 (q.drop (k + 1)) g2 g3
      have c2 := lw_cons_len2 (q.drop (k + 1)) g2 g3
      rw [← e3] at c3 c2
      have := some_one g2 g3
      omega
    · rw [drop_at hs, List.flatten_cons, er] at e2
      injection e2 with e4 _
      rw [e4, kindOf_of g2 g3] at hb
      omega
  · rw [List.take_of_length_le h5] at e1
    rw [List.drop_eq_nil_of_le h5, rowsT_nil, List.nil_append] at e2
    exact ⟨e1, e2⟩

/-- A head as it was read, how many it tells, and its group. -/
structure Rec where
  hd : List UInt8
  old : Nat
  new : Nat
  gp : Gp
def Rec.Ok (x : Rec) : Prop := HeadIs x.hd x.gp.at_.toNat x.old x.gp.to_.toNat x.new ∧ (lw 3 x.gp.rows).length ≤ 999 ∧ (lw 2 x.gp.rows).length ≤ 999
def recS (x : Rec) : List UInt8 := x.hd ++ 10 :: rowsT x.gp.rows
def recW (x : Rec) : List UInt8 := headT x.gp.at_.toNat x.old x.gp.to_.toNat x.new ++ 10 :: rowsT x.gp.rows
theorem headT_no10 {a o t c : Nat} (ha : a ≤ 999) (ho : o ≤ 999) (ht : t ≤ 999) (hc : c ≤ 999) : (10 : UInt8) ∉ headT a o t c := (head_text ha ho ht hc).no10
theorem recs_same : ∀ {R : List Rec} {tail : List UInt8}, (∀ x ∈ R, x.Ok) → gpsT (R.map (·.gp)) ++ tail = R.flatMap recW → tail = [] ∧ ∀ x ∈ R, (lw 3 x.gp.rows).length = x.old ∧ (lw 2 x.gp.rows).length = x.new
  | [], tail, _, e => ⟨by simpa [gpsT] using e, fun x h => (by cases h)⟩
  | x :: R, tail, h, e => by
    obtain ⟨h1, h2, h3⟩ := h x (by simp)
    have hle := h1.le
    rw [List.map_cons, gpsT_cons, List.flatMap_cons] at e
    unfold gpT gpHead at e
    rw [show recW x = headT x.gp.at_.toNat x.old x.gp.to_.toNat x.new ++ 10 :: rowsT x.gp.rows from rfl] at e
    have e1 : headT x.gp.at_.toNat (lw 3 x.gp.rows).length x.gp.to_.toNat (lw 2 x.gp.rows).length ++ 10 :: (rowsT x.gp.rows ++ (gpsT (R.map (·.gp)) ++ tail)) = headT x.gp.at_.toNat x.old x.gp.to_.toNat x.new ++ 10 :: (rowsT x.gp.rows ++ R.flatMap recW) := by simpa using e
    obtain ⟨e2, e3⟩ := cut_same e1 (headT_no10 (by omega) (by omega) (by omega) (by omega)) (headT_no10 (by omega) (by omega) (by omega) (by omega))
    obtain ⟨e4, e5⟩ := headT_inj (by omega) (by omega) (by omega) (by omega) (by omega) (by omega) e2
    obtain ⟨e6, e7⟩ := recs_same (fun y hy => h y (by simp [hy])) (List.append_cancel_left e3)
    refine ⟨e6, fun y hy => ?_⟩
    rcases List.mem_cons.1 hy with rfl | hy
    · exact ⟨e4, e5⟩
    · exact e7 y hy
theorem recs_wrt : ∀ {R : List Rec}, (∀ x ∈ R, x.Ok ∧ (lw 3 x.gp.rows).length = x.old ∧ (lw 2 x.gp.rows).length = x.new) → Wrt (R.map (·.gp)) (R.flatMap recS)
  | [], _ => rfl
  | x :: R, h => by
    obtain ⟨h1, h2, h3⟩ := h x (by simp)
    refine ⟨x.hd, R.flatMap recS, ?_, ?_, recs_wrt (fun y hy => h y (by simp [hy]))⟩
    · unfold HeadOf
      rw [h2, h3]
      exact h1.1
    · rw [List.flatMap_cons]; simp [recS]

/-- What the model has read of groups: what was told so far, and the text that must come of it. -/
structure LinesAt (s : List UInt8) (out : List Gp) (want : List UInt8) (L : List (List UInt8)) : Prop where
  lines : LinesOk L
  many : out.length + L.length ≤ s.length
  flat : L.flatten.length ≤ s.length
  wide : want.length + L.flatten.length ≤ s.length + 28 * out.length
  size : ∀ x ∈ out, (∀ y ∈ x.rows, y.line.size ≤ s.length ∧ 1 ≤ y.kind ∧ y.kind ≤ 3) ∧ 0 ≤ x.at_ ∧ x.at_ ≤ 999 ∧ 0 ≤ x.to_ ∧ x.to_ ≤ 999 ∧ x.rows.length ≤ s.length
  exact_ : ∃ R : List Rec, ∃ s0 tail, out = R.map (·.gp) ∧ (∀ x ∈ R, HeadIs x.hd x.gp.at_.toNat x.old x.gp.to_.toNat x.new) ∧ s = s0 ++ L.flatten ∧ s0 ++ tail = R.flatMap recS ∧ want ++ tail = R.flatMap recW ∧ (tail = [] ∨ L = [])
  back : ∀ q : List Gp, (∀ x ∈ q, groupB x = true) → Wrt q s → ∃ k, k ≤ q.length ∧ out = q.take k ∧ Wrt (q.drop k) L.flatten ∧ want = gpsT (q.take k)
theorem LinesAt.start {s : List UInt8} {L : List (List UInt8)} (hL : LinesOk L) (e : L.flatten = s) (hn : L.length ≤ s.length) : LinesAt s [] [] L :=
  ⟨hL, by simpa using hn, by rw [e]; exact Nat.le_refl _, by rw [e]; simp, fun x h => (by cases h), ⟨[], [], [], rfl, fun x h => (by cases h), by simp [e], rfl, rfl, .inl rfl⟩, fun q _ h => ⟨0, Nat.zero_le _, rfl, by rw [List.drop_zero, e]; exact h, rfl⟩⟩
/-- A line without its byte 10. -/
def plainL (h : List UInt8) : List UInt8 := if endsL h then h.dropLast else h
theorem plain_hd {hd : List UInt8} : plainL (hd ++ [10]) = hd := by unfold plainL; rw [if_pos (by simp [endsL]), List.dropLast_concat]
theorem plain_back {h : List UInt8} (e : endsL h = true) : h = plainL h ++ [10] := by unfold plainL; rw [if_pos e]; exact ends_split e
theorem LinesAt.next {s : List UInt8} {out : List Gp} {want h : List UInt8} {L : List (List UInt8)} (hs : LinesAt s out want (h :: L)) {a o t c : Nat} (hh : HeadIs (plainL h) a o t c) (he : endsL h = true) {O : List Rw} {n : Nat} (ht : TakeOut o c L O n) :
    LinesAt s (out ++ [⟨a, t, O⟩]) (want ++ (headT a o t c ++ 10 :: (L.take n).flatten)) (L.drop n) := by
  have hle := hh.le
  have hm := hs.many
  have hf := hs.flat
  have hw := hs.wide
  have htl := ht.le
  have htm := ht.many
  have h27 := headT_len (a := a) (n := o) (t := t) (m := c) (by omega) (by omega) (by omega) (by omega)
  have hfl := congrArg List.length (flat_take_drop L n)
  rw [List.length_append] at hfl
  rw [List.flatten_cons, List.length_append] at hf hw
  rw [List.length_cons] at hm
  have hpos : 1 ≤ h.length := List.length_pos_iff.2 hs.lines.1.1
  refine ⟨hs.lines.2.drop n, by simp; omega, by omega, by simp only [List.length_append, List.length_cons, List.length_nil]; omega, fun y hy => ?_, ?_, fun q hq hwq => ?_⟩
  · rcases List.mem_append.1 hy with hy | hy
    · exact hs.size y hy
    · rw [List.mem_singleton.1 hy]
      refine ⟨fun z hz => ?_, by dsimp only; omega, by dsimp only; omega, by dsimp only; omega, by dsimp only; omega, by dsimp only; omega⟩
      have := ht.size z hz
      omega
  · obtain ⟨R, s0, tail, e1, e2, e3, e4, e5, e6⟩ := hs.exact_
    have e7 : tail = [] := by
      rcases e6 with e6 | e6
      · exact e6
      · cases e6
    subst e7
    rw [List.append_nil] at e4 e5
    obtain ⟨tl, f1, f2⟩ := ht.exact_
    refine ⟨R ++ [⟨plainL h, o, c, ⟨a, t, O⟩⟩], s0 ++ (h ++ (L.take n).flatten), tl, ?_, fun x hx => ?_, ?_, ?_, ?_, ?_⟩
    · rw [List.map_append, e1]; rfl
    · rcases List.mem_append.1 hx with hx | hx
      · exact e2 x hx
      · rw [List.mem_singleton.1 hx]; simpa using hh
    · rw [e3, List.flatten_cons, ← flat_take_drop L n]; simp
    · rw [List.flatMap_append, e4]
      have := plain_back he
      simp only [List.flatMap_cons, List.flatMap_nil, List.append_nil, recS]
      rw [← f1]
      simp only [List.append_assoc]
      congr 1
      conv => lhs; rw [this]
      simp
    · rw [List.flatMap_append, e5]
      simp only [List.flatMap_cons, List.flatMap_nil, List.append_nil, recW, Int.toNat_natCast]
      rw [← f1]
      simp
    · rcases f2 with f2 | f2
      · exact .inl f2
      · exact .inr (List.drop_eq_nil_of_le (by omega))
  · obtain ⟨k, hk, e1, e2, e3⟩ := hs.back q hq hwq
    have hlt : k < q.length := by
      rcases Nat.lt_or_ge k q.length with h5 | h5
      · exact h5
      · rw [List.drop_eq_nil_of_le h5] at e2
        have e2 : (h :: L).flatten = [] := e2
        rw [(flatten_ne hs.lines)] at e2
        cases e2
    rw [List.drop_eq_getElem_cons hlt] at e2
    obtain ⟨hd, s', f1, f2, f3⟩ := e2
    obtain ⟨g1, g2⟩ := first_line hs.lines f2 f1.no10
    rw [g1, plain_hd] at hh
    obtain ⟨n1, n2, n3, n4⟩ := hh.uniq f1
    have hg := hq q[k] (List.getElem_mem hlt)
    obtain ⟨j1, j2⟩ := ht.back q[k].rows s' (groupB_line hg) f3.pre n2.symm n4.symm g2
    have hgl := groupB_len hg
    have hx : (⟨a, t, O⟩ : Gp) = q[k] := Gp.ext_ (by dsimp only; omega) (by dsimp only; omega) j1
    refine ⟨k + 1, hlt, ?_, ?_, ?_⟩
    · rw [e1, hx, List.take_succ_eq_append_getElem hlt]
    · rw [j2]; exact f3
    · rw [List.take_succ_eq_append_getElem hlt, gpsT_snoc, e3]
      congr 1
      have h7 := flat_take_drop L n
      rw [j2, g2] at h7
      have h8 := List.append_cancel_right h7
      unfold gpT gpHead
      rw [h8, n1, n2, n3, n4]
      simp
theorem LinesAt.bad {s : List UInt8} {out : List Gp} {want h : List UInt8} {L : List (List UInt8)} (hs : LinesAt s out want (h :: L)) (hb : (∀ a o t c, ¬ HeadIs (plainL h) a o t c) ∨ endsL h = false) : ReadIs s [] 1 false := by
  refine .inr ⟨rfl, rfl, rfl, ?_⟩
  rintro ⟨_, q, hq, hw⟩
  obtain ⟨k, hk, e1, e2, e3⟩ := hs.back q (goodG_parts hq).2.2 hw
  have hlt : k < q.length := by
    rcases Nat.lt_or_ge k q.length with h5 | h5
    · exact h5
    · rw [List.drop_eq_nil_of_le h5] at e2
      have e2 : (h :: L).flatten = [] := e2
      rw [(flatten_ne hs.lines)] at e2
      cases e2
  rw [List.drop_eq_getElem_cons hlt] at e2
  obtain ⟨hd, s', f1, f2, f3⟩ := e2
  obtain ⟨g1, g2⟩ := first_line hs.lines f2 f1.no10
  rcases hb with hb | hb
  · rw [g1, plain_hd] at hb
    exact hb _ _ _ _ f1
  · rw [g1] at hb
    simp [endsL] at hb
theorem LinesAt.no {s : List UInt8} {out : List Gp} {want : List UInt8} (hs : LinesAt s out want []) (hb : goodG out = false ∨ gpsT out ≠ want) : ReadIs s [] 1 false := by
  refine .inr ⟨rfl, rfl, rfl, ?_⟩
  rintro ⟨_, q, hq, hw⟩
  obtain ⟨k, hk, e1, e2, e3⟩ := hs.back q (goodG_parts hq).2.2 hw
  have e4 := (e2.nonempty).1 rfl
  have h5 := List.drop_eq_nil_iff.1 e4
  rw [List.take_of_length_le h5] at e1 e3
  rcases hb with hb | hb
  · rw [e1, hq] at hb; cases hb
  · exact hb (by rw [e1, e3])
theorem LinesAt.yes {s : List UInt8} {out : List Gp} {want : List UInt8} (hs : LinesAt s out want []) (hg : goodG out = true) (he : gpsT out = want) (h3 : s.length ≤ 3000) : ReadIs s out 0 true := by
  obtain ⟨R, s0, tail, e1, e2, e4, e5, e6, _⟩ := hs.exact_
  have hgl := (goodG_parts hg).2.2
  have hok : ∀ x ∈ R, x.Ok := fun x hx => by
    have h1 := groupB_len (hgl x.gp (by rw [e1]; exact List.mem_map.2 ⟨x, hx, rfl⟩))
    exact ⟨e2 x hx, by omega, by omega⟩
  rw [← he, e1] at e6
  obtain ⟨f1, f2⟩ := recs_same hok e6
  subst f1
  have hw := recs_wrt (R := R) (fun x hx => ⟨hok x hx, f2 x hx⟩)
  rw [← e1, ← e5] at hw
  simp at e4 hw
  exact .inl ⟨hg, by rw [e4]; exact hw, h3, rfl, rfl⟩

end Go.Proofs.YtkamenidgkjodaaGreatDoor.M
