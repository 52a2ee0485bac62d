/-
  Plain facts on hunks: no Go, no program.
  Plain facts on hunks done to lines: no Go, no program.
  Plain facts on hunks that lead back, and on hunks that are trimmed: no Go, no program.
  Plain facts on hunks that are trimmed: no Go, no program.
  Plain facts on the places of lines behind hunks: no Go, no program.
  Plain facts on hunks that are joined: no Go, no program.
  Plain facts: what is patched is patched back; how many lines there are. No Go, no program.
  Plain facts: trimmed hunks do the same. No Go, no program.
  Plain facts: hunks that are joined do at once what both do in turn. No Go, no program.
-/
import Derived.Test.YtnnaigoomipklaaGreatDoorOiBase
set_option linter.unusedSimpArgs false
set_option linter.unusedVariables false
namespace Go.Proofs.YtnnaigoomipklaaGreatDoor.M

/-- A hunk: the place, how many go, what comes. -/
structure Hk where
  at_ : Int
  gone : Int
  new : List ByteArray

theorem Hk.ext_ {x y : Hk} (h1 : x.at_ = y.at_) (h2 : x.gone = y.gone) (h3 : x.new = y.new) : x = y := by
  cases x; cases y; simp at h1 h2 h3; simp [h1, h2, h3]
def eqH (x y : Hk) : Bool := decide (x.at_ = y.at_) && decide (x.gone = y.gone) && eqT x.new y.new
theorem eqH_iff (x y : Hk) : eqH x y = true ↔ x = y := by
  simp only [eqH, Bool.and_eq_true, decide_eq_true_eq, eqT]
  exact ⟨fun ⟨⟨h1, h2⟩, h3⟩ => Hk.ext_ h1 h2 h3, fun h => by subst h; exact ⟨⟨rfl, rfl⟩, rfl⟩⟩
/-- Two lists of hunks are the same. -/
def eqHS : List Hk → List Hk → Bool
  | [], [] => true
  | x :: l, y :: r => eqH x y && eqHS l r
  | _, _ => false
theorem eqHS_iff : ∀ (l r : List Hk), eqHS l r = true ↔ l = r
  | [], [] => by simp [eqHS]
  | [], y :: r => by simp [eqHS]
  | x :: l, [] => by simp [eqHS]
  | x :: l, y :: r => by simp [eqHS, eqH_iff, eqHS_iff l r]
theorem eqHS_refl (l : List Hk) : eqHS l l = true := (eqHS_iff l l).2 rfl
theorem eqHS_len {l r : List Hk} (h : l.length ≠ r.length) : eqHS l r = false := by
  rw [Bool.eq_false_iff]; intro e; exact h (by rw [(eqHS_iff l r).1 e])
theorem eqHS_at {l r : List Hk} {k : Nat} {s t : Hk} (hs : l[k]? = some s) (ht : r[k]? = some t) (h : eqH s t = false) : eqHS l r = false := by
  rw [Bool.eq_false_iff]; intro e; rw [(eqHS_iff l r).1 e, ht] at hs; injection hs with hs; subst hs; rw [(eqH_iff t t).2 rfl] at h; cases h
theorem eqHS_all {l r : List Hk} (h : ∀ (j : Nat) s t, l[j]? = some s → r[j]? = some t → eqH s t = true) (hl : l.length = r.length) : eqHS l r = true := by
  rw [eqHS_iff]
  apply List.ext_getElem?
  intro j
  by_cases hj : j < l.length
  · have h1 := List.getElem?_eq_getElem hj
    have h2 := List.getElem?_eq_getElem (show j < r.length by omega)
    rw [h1, h2, (eqH_iff _ _).1 (h j _ _ h1 h2)]
  · rw [List.getElem?_eq_none (by omega), List.getElem?_eq_none (by omega)]

theorem take_snoc {α : Type} {l : List α} {i : Nat} {x : α} (h : l[i]? = some x) : l.take (i + 1) = l.take i ++ [x] := by rw [List.take_add_one, h]; rfl

/-- A hunk that is good by itself, and hunks that rise. -/
def linesB (l : List ByteArray) : Bool := decide (l.length ≤ 40) && l.all lineB
def nothing (x : Hk) : Bool := decide (x.gone = 0) && decide (x.new.length = 0)
def hunkB (many : Int) (x : Hk) : Bool := decide (0 ≤ x.at_) && decide (0 ≤ x.gone) && decide (x.at_ + x.gone ≤ many) && !nothing x && linesB x.new
def riseB (many : Int) : Int → List Hk → Bool
  | _, [] => true
  | e, x :: l => hunkB many x && decide (e < x.at_) && riseB many (x.at_ + x.gone) l
def goodH (many : Int) (l : List Hk) : Bool := decide (0 ≤ many) && decide (many ≤ 40) && decide (l.length ≤ 20) && riseB many (-1) l
theorem rise_step {many e : Int} {l : List Hk} {k : Nat} {x : Hk} (h : l[k]? = some x) : riseB many e (l.drop k) = (hunkB many x && decide (e < x.at_) && riseB many (x.at_ + x.gone) (l.drop (k + 1))) := by
  have hk : k < l.length := (List.getElem?_eq_some_iff.1 h).1
  rw [List.getElem?_eq_getElem hk] at h
  injection h with h
  rw [List.drop_eq_getElem_cons hk, h]
  rfl
theorem rise_end {many e : Int} {l : List Hk} {k : Nat} (h : l.length ≤ k) : riseB many e (l.drop k) = true := by
  rw [List.drop_eq_nil_of_le h]; rfl
theorem goodH_bad {many : Int} {l : List Hk} (h : riseB many (-1) l = false) : goodH many l = false := by simp [goodH, h]
theorem goodH_ok {many : Int} {l : List Hk} (h : riseB many (-1) l = true) : goodH many l = (decide (l.length ≤ 20) && (decide (0 ≤ many) && decide (many ≤ 40))) := by
  unfold goodH; rw [h]; cases decide (l.length ≤ 20) <;> cases decide (0 ≤ many) <;> cases decide (many ≤ 40) <;> rfl
theorem linesB_bad {l : List ByteArray} {k : Nat} {s : ByteArray} (h : l[k]? = some s) (hs : lineB s = false) : linesB l = false := by
  have : l.all lineB = false := by rw [List.all_eq_false]; exact ⟨s, List.mem_of_getElem? h, by simp [hs]⟩
  simp [linesB, this]
theorem linesB_ok {l : List ByteArray} (h : ∀ (j : Nat) s, l[j]? = some s → lineB s = true) : linesB l = decide (l.length ≤ 40) := by
  have : l.all lineB = true := by
    rw [List.all_eq_true]
    intro s hs
    obtain ⟨j, hj⟩ := List.mem_iff_getElem?.1 hs
    exact h j s hj
  simp [linesB, this]
theorem line_step {l : List ByteArray} {k : Nat} {s : ByteArray} (H : ∀ (j : Nat) s, j < k → l[j]? = some s → lineB s = true) (hs : l[k]? = some s) (h : lineB s = true) : ∀ (j : Nat) s, j < k + 1 → l[j]? = some s → lineB s = true := by
  intro j t hj ht
  by_cases e : j = k
  · subst e; rw [hs] at ht; injection ht with ht; rw [← ht]; exact h
  · exact H j t (by omega) ht

theorem drop_at {α : Type} {l : List α} {k : Nat} {x : α} (h : l[k]? = some x) : l.drop k = x :: l.drop (k + 1) := by
  have hk : k < l.length := (List.getElem?_eq_some_iff.1 h).1
  rw [List.getElem?_eq_getElem hk] at h
  injection h with h
  rw [List.drop_eq_getElem_cons hk, h]
theorem rise_mem {many : Int} {x : Hk} : ∀ {l : List Hk} {e : Int}, riseB many e l = true → x ∈ l → hunkB many x = true
  | [], e, _, h => by simp at h
  | y :: l, e, hr, h => by
    simp only [riseB, Bool.and_eq_true] at hr
    rcases List.mem_cons.1 h with rfl | h
    · exact hr.1.1
    · exact rise_mem hr.2 h
theorem hunkB_parts {many : Int} {x : Hk} (h : hunkB many x = true) : 0 ≤ x.at_ ∧ 0 ≤ x.gone ∧ x.at_ + x.gone ≤ many ∧ nothing x = false ∧ linesB x.new = true := by
  simp only [hunkB, Bool.and_eq_true, decide_eq_true_eq, Bool.not_eq_true'] at h
  exact ⟨h.1.1.1.1, h.1.1.1.2, h.1.1.2, h.1.2, h.2⟩
theorem linesB_len {l : List ByteArray} (h : linesB l = true) : l.length ≤ 40 := by simp [linesB] at h; exact h.1
theorem goodH_parts {many : Int} {l : List Hk} (h : goodH many l = true) : 0 ≤ many ∧ many ≤ 40 ∧ l.length ≤ 20 ∧ riseB many (-1) l = true := by
  simp only [goodH, Bool.and_eq_true, decide_eq_true_eq] at h
  exact ⟨h.1.1.1, h.1.1.2, h.1.2, h.2⟩
theorem goodH_mem {many : Int} {l : List Hk} (h : goodH many l = true) {x : Hk} (hx : x ∈ l) : 0 ≤ x.at_ ∧ 0 ≤ x.gone ∧ x.at_ + x.gone ≤ many ∧ many ≤ 40 ∧ x.new.length ≤ 40 := by
  obtain ⟨h1, h2, h3, h4⟩ := goodH_parts h
  obtain ⟨a, b, c, d, e⟩ := hunkB_parts (rise_mem h4 hx)
  exact ⟨a, b, c, h2, linesB_len e⟩

end Go.Proofs.YtnnaigoomipklaaGreatDoor.M

namespace Go.Proofs.YtnnaigoomipklaaGreatDoor.M

/-- Lines from one place on up to another. -/
def seg (l : List ByteArray) (p q : Nat) : List ByteArray := (l.take q).drop p
def patchFrom (l : List ByteArray) : Nat → List Hk → List ByteArray
  | p, [] => l.drop p
  | p, x :: hs => seg l p x.at_.toNat ++ x.new ++ patchFrom l (x.at_ + x.gone).toNat hs
def patchH (l : List ByteArray) (hs : List Hk) : List ByteArray := patchFrom l 0 hs
/-- Patch's two answers. -/
def patchOk (l : List ByteArray) (hs : List Hk) : Bool := goodB l && goodH l.length hs && goodB (patchH l hs)
def patchOf (l : List ByteArray) (hs : List Hk) : List ByteArray × Bool := if patchOk l hs = true then (patchH l hs, true) else ([], false)
theorem patch_step {l : List ByteArray} {hs : List Hk} {p j : Nat} {x : Hk} (h : hs[j]? = some x) : patchFrom l p (hs.drop j) = seg l p x.at_.toNat ++ x.new ++ patchFrom l (x.at_ + x.gone).toNat (hs.drop (j + 1)) := by
  rw [drop_at h, patchFrom]
theorem patch_end {l : List ByteArray} {hs : List Hk} {p j : Nat} (h : hs.length ≤ j) : patchFrom l p (hs.drop j) = l.drop p := by
  rw [List.drop_eq_nil_of_le h]; rfl
theorem seg_len (l : List ByteArray) (p q : Nat) : (seg l p q).length = min q l.length - p := by simp [seg]
/-- What is known of the hunks that are still to be done. -/
def restOk (many : Int) (hs : List Hk) (p : Nat) : Prop := ∃ e : Int, riseB many e hs = true ∧ (p : Int) ≤ e + 1
theorem rest_start {many : Int} {hs : List Hk} (h : goodH many hs = true) : restOk many (hs.drop 0) 0 := ⟨-1, (goodH_parts h).2.2.2, by omega⟩
theorem rest_step {many : Int} {hs : List Hk} {p j : Nat} {x : Hk} (hx : hs[j]? = some x) (h : restOk many (hs.drop j) p) :
    ∃ a g : Nat, x.at_ = a ∧ x.gone = g ∧ p ≤ a ∧ ((a + g : Nat) : Int) ≤ many ∧ linesB x.new = true ∧ nothing x = false ∧ restOk many (hs.drop (j + 1)) (a + g) := by
  obtain ⟨e, h1, h2⟩ := h
  rw [rise_step hx, Bool.and_eq_true, Bool.and_eq_true, decide_eq_true_eq] at h1
  obtain ⟨⟨hb, he⟩, hr⟩ := h1
  obtain ⟨q0, q1, q2, q3, q4⟩ := hunkB_parts hb
  exact ⟨x.at_.toNat, x.gone.toNat, by omega, by omega, by omega, by omega, q4, q3, x.at_ + x.gone, hr, by omega⟩
theorem goodB_lines {l : List ByteArray} (h : goodB l = true) : linesB l = true := by
  have h1 := goodB_len h
  simp only [linesB, Bool.and_eq_true, decide_eq_true_eq, List.all_eq_true]
  refine ⟨h1, fun s hs => ?_⟩
  obtain ⟨j, hj⟩ := List.mem_iff_getElem?.1 hs
  exact (goodB_at h hj).1

end Go.Proofs.YtnnaigoomipklaaGreatDoor.M

namespace Go.Proofs.YtnnaigoomipklaaGreatDoor.M

/-- The lines of lists of hunks that are not too great. -/
theorem total_le {l : List ByteArray} {b : Nat} (h : ∀ s ∈ l, s.size ≤ b) : total l ≤ l.length * b := by
  induction l with
  | nil => simp [total]
  | cons s l ih =>
    have h1 := h s (by simp)
    have h2 := ih (fun t ht => h t (by simp [ht]))
    simp only [total, List.length_cons, Nat.add_mul, Nat.one_mul]
    omega
theorem linesB_seg {l : List ByteArray} (h : linesB l = true) (p q : Nat) : linesB (seg l p q) = true := by
  simp only [linesB, Bool.and_eq_true, decide_eq_true_eq, List.all_eq_true] at h ⊢
  refine ⟨by rw [seg_len]; omega, fun s hs => h.2 s (List.mem_of_mem_take (List.mem_of_mem_drop hs))⟩

end Go.Proofs.YtnnaigoomipklaaGreatDoor.M

namespace Go.Proofs.YtnnaigoomipklaaGreatDoor.M

theorem seg_get {l : List ByteArray} {p q i : Nat} (h : p + i < q) : (seg l p q)[i]? = l[p + i]? := by
  unfold seg
  rw [List.getElem?_drop, List.getElem?_take, if_pos h]

end Go.Proofs.YtnnaigoomipklaaGreatDoor.M

namespace Go.Proofs.YtnnaigoomipklaaGreatDoor.M

/-- Pairs of places that rise in both. -/
def rises : Nat → Nat → List (Nat × Nat) → Prop
  | _, _, [] => True
  | i, j, s :: t => i ≤ s.1 ∧ j ≤ s.2 ∧ rises (s.1 + 1) (s.2 + 1) t
theorem rises_snoc {t : Nat × Nat} : ∀ {L : List (Nat × Nat)} {i j : Nat}, rises i j L → (∀ s ∈ L, s.1 < t.1 ∧ s.2 < t.2) → i ≤ t.1 → j ≤ t.2 → rises i j (L ++ [t])
  | [], i, j, _, _, h1, h2 => ⟨h1, h2, trivial⟩
  | s :: L, i, j, h, hs, h1, h2 => by
    obtain ⟨a, b, c⟩ := h
    have := hs s (by simp)
    exact ⟨a, b, rises_snoc c (fun s hs' => hs s (by simp [hs'])) (by omega) (by omega)⟩
/-- Hunks of all that stands between. -/
def joinOne (last : List ByteArray) (i j : Nat) (s : Nat × Nat) : Hk := ⟨i, (s.1 : Int) - i, seg last j s.2⟩
def joinFrom (last : List ByteArray) : Nat → Nat → List (Nat × Nat) → List Hk
  | _, _, [] => []
  | i, j, s :: t => if i < s.1 ∨ j < s.2 then joinOne last i j s :: joinFrom last (s.1 + 1) (s.2 + 1) t else joinFrom last (s.1 + 1) (s.2 + 1) t
theorem join_yes {last : List ByteArray} {i j k : Nat} {L : List (Nat × Nat)} {s : Nat × Nat} (h : L[k]? = some s) (hn : i < s.1 ∨ j < s.2) : joinFrom last i j (L.drop k) = joinOne last i j s :: joinFrom last (s.1 + 1) (s.2 + 1) (L.drop (k + 1)) := by
  rw [drop_at h, joinFrom, if_pos hn]
theorem join_no {last : List ByteArray} {i j k : Nat} {L : List (Nat × Nat)} {s : Nat × Nat} (h : L[k]? = some s) (hn : ¬ (i < s.1 ∨ j < s.2)) : joinFrom last i j (L.drop k) = joinFrom last (s.1 + 1) (s.2 + 1) (L.drop (k + 1)) := by
  rw [drop_at h, joinFrom, if_neg hn]
theorem join_end {last : List ByteArray} {i j k : Nat} {L : List (Nat × Nat)} (h : L.length ≤ k) : joinFrom last i j (L.drop k) = [] := by
  rw [List.drop_eq_nil_of_le h]; rfl
theorem rises_step {i j k : Nat} {L : List (Nat × Nat)} {s : Nat × Nat} (h : L[k]? = some s) (hr : rises i j (L.drop k)) : i ≤ s.1 ∧ j ≤ s.2 ∧ rises (s.1 + 1) (s.2 + 1) (L.drop (k + 1)) := by
  rw [drop_at h] at hr
  exact hr

end Go.Proofs.YtnnaigoomipklaaGreatDoor.M

namespace Go.Proofs.YtnnaigoomipklaaGreatDoor.M

theorem seg_drop {l : List ByteArray} {p q : Nat} (h : p ≤ q) : seg l p q ++ l.drop q = l.drop p := by
  unfold seg
  rcases Nat.le_total l.length q with h1 | h1
  · rw [List.take_of_length_le h1, List.drop_eq_nil_of_le h1, List.append_nil]
  · have h2 := List.take_append_drop q l
    have h3 : l.drop p = (l.take q ++ l.drop q).drop p := by rw [h2]
    rw [h3, List.drop_append_of_le_length (by simp; omega)]
theorem seg_seg {l : List ByteArray} {p q r : Nat} (h1 : p ≤ q) (h2 : q ≤ r) : seg l p q ++ seg l q r = seg l p r := by
  have h := seg_drop (l := l.take r) h1
  unfold seg at *
  rw [List.take_take, Nat.min_eq_left h2] at h
  exact h

end Go.Proofs.YtnnaigoomipklaaGreatDoor.M

namespace Go.Proofs.YtnnaigoomipklaaGreatDoor.M

theorem seg_self (l : List ByteArray) (p : Nat) : seg l p p = [] := by
  apply List.eq_nil_of_length_eq_zero; rw [seg_len]; omega
theorem seg_one {l : List ByteArray} {p : Nat} {s : ByteArray} (h : l[p]? = some s) : seg l p (p + 1) = [s] := by
  apply List.ext_getElem?
  intro i
  cases i with
  | zero => rw [seg_get (by omega), Nat.add_zero, h]; rfl
  | succ i => rw [List.getElem?_eq_none (by rw [seg_len]; omega), List.getElem?_eq_none (by simp)]
theorem join_main {l last : List ByteArray} : ∀ {L : List (Nat × Nat)} {p i j : Nat}, rises i j (L ++ [(l.length, last.length)]) → (∀ s ∈ L, s.1 < l.length ∧ s.2 < last.length ∧ l[s.1]? = last[s.2]?) → p ≤ i →
    patchFrom l p (joinFrom last i j (L ++ [(l.length, last.length)])) = seg l p i ++ last.drop j
  | [], p, i, j, hr, _, hp => by
    obtain ⟨h1, h2, _⟩ := hr
    dsimp only at h1 h2
    rw [List.nil_append, joinFrom]
    split
    · rw [joinFrom, patchFrom, patchFrom]
      unfold joinOne
      dsimp only
      rw [Int.toNat_natCast, show ((i : Int) + ((l.length : Int) - (i : Int))).toNat = l.length from by omega, List.drop_eq_nil_of_le (Nat.le_refl _), List.append_nil]
      congr 1
      unfold seg
      rw [List.take_of_length_le (Nat.le_refl _)]
    · next hn =>
      dsimp only at hn
      rw [joinFrom, patchFrom, show i = l.length from by omega, show j = last.length from by omega, List.drop_eq_nil_of_le (Nat.le_refl _), List.append_nil]
      unfold seg
      rw [List.take_of_length_le (Nat.le_refl _)]
  | s :: L, p, i, j, hr, hs, hp => by
    rw [List.cons_append] at hr ⊢
    obtain ⟨h1, h2, hr⟩ := hr
    obtain ⟨s1, s2, s3⟩ := hs s (by simp)
    have hs' : ∀ t ∈ L, t.1 < l.length ∧ t.2 < last.length ∧ l[t.1]? = last[t.2]? := fun t ht => hs t (by simp [ht])
    obtain ⟨c, hc⟩ : ∃ c, l[s.1]? = some c := ⟨_, List.getElem?_eq_getElem s1⟩
    have hc2 : last[s.2]? = some c := by rw [← s3]; exact hc
    have hd : last.drop j = seg last j s.2 ++ (c :: last.drop (s.2 + 1)) := by rw [← drop_at hc2, seg_drop h2]
    rw [joinFrom]
    split
    · rw [patchFrom]
      unfold joinOne
      dsimp only
      rw [Int.toNat_natCast, show ((i : Int) + ((s.1 : Int) - (i : Int))).toNat = s.1 from by omega, join_main hr hs' (show s.1 ≤ s.1 + 1 by omega), seg_one hc, hd]
      simp only [List.append_assoc, List.singleton_append]
    · next hn =>
      have ei : i = s.1 := by omega
      have ej : j = s.2 := by omega
      rw [join_main hr hs' (show p ≤ s.1 + 1 by omega), ← seg_seg (show p ≤ s.1 by omega) (show s.1 ≤ s.1 + 1 by omega), seg_one hc, hd, ej, seg_self, ei]
      simp only [List.append_assoc, List.singleton_append, List.nil_append]

end Go.Proofs.YtnnaigoomipklaaGreatDoor.M
