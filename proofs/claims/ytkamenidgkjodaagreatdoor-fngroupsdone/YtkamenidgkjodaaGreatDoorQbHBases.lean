/-
  Plain facts on hunks: no Go, no program.
  Plain facts on hunks done to lines: no Go, no program.
  Plain facts on hunks that lead back, and on hunks that are trimmed: no Go, no program.
  Plain facts on hunks that are trimmed: no Go, no program.
  Plain facts on the places of lines behind hunks: no Go, no program.
  Plain facts on hunks that are joined: no Go, no program.
  Plain facts: what is patched is patched back; how many lines there are. No Go, no program.
  Plain facts: trimmed hunks do the same. No Go, no program.
  Plain facts: hunks that are joined do at once what both do in turn. No Go, no program.
-/
import Derived.Test.YtkamenidgkjodaaGreatDoorQbBase
set_option linter.unusedSimpArgs false
set_option linter.unusedVariables false
namespace Go.Proofs.YtkamenidgkjodaaGreatDoor.M

structure Hk where
  at_ : Int
  gone : Int
  new : List ByteArray

theorem Hk.ext_ {x y : Hk} (h1 : x.at_ = y.at_) (h2 : x.gone = y.gone) (h3 : x.new = y.new) : x = y := by
  cases x; cases y; simp at h1 h2 h3; simp [h1, h2, h3]

theorem take_snoc {α : Type} {l : List α} {i : Nat} {x : α} (h : l[i]? = some x) : l.take (i + 1) = l.take i ++ [x] := by rw [List.take_add_one, h]; rfl

def linesB (l : List ByteArray) : Bool := decide (l.length ≤ 40) && l.all lineB
def nothing (x : Hk) : Bool := decide (x.gone = 0) && decide (x.new.length = 0)
def hunkB (many : Int) (x : Hk) : Bool := decide (0 ≤ x.at_) && decide (0 ≤ x.gone) && decide (x.at_ + x.gone ≤ many) && !nothing x && linesB x.new
def riseB (many : Int) : Int → List Hk → Bool
  | _, [] => true
  | e, x :: l => hunkB many x && decide (e < x.at_) && riseB many (x.at_ + x.gone) l
def goodH (many : Int) (l : List Hk) : Bool := decide (0 ≤ many) && decide (many ≤ 40) && decide (l.length ≤ 20) && riseB many (-1) l
theorem rise_step {many e : Int} {l : List Hk} {k : Nat} {x : Hk} (h : l[k]? = some x) : riseB many e (l.drop k) = (hunkB many x && decide (e < x.at_) && riseB many (x.at_ + x.gone) (l.drop (k + 1))) := by
  have hk : k < l.length := (List.getElem?_eq_some_iff.1 h).1
  rw [List.getElem?_eq_getElem hk] at h
  injection h with h
  rw [List.drop_eq_getElem_cons hk, h]
  rfl
theorem rise_end {many e : Int} {l : List Hk} {k : Nat} (h : l.length ≤ k) : riseB many e (l.drop k) = true := by
  rw [List.drop_eq_nil_of_le h]; rfl
theorem goodH_bad {many : Int} {l : List Hk} (h : riseB many (-1) l = false) : goodH many l = false := by simp [goodH, h]
theorem goodH_ok {many : Int} {l : List Hk} (h : riseB many (-1) l = true) : goodH many l = (decide (l.length ≤ 20) && (decide (0 ≤ many) && decide (many ≤ 40))) := by
  unfold goodH; rw [h]; cases decide (l.length ≤ 20) <;> cases decide (0 ≤ many) <;> cases decide (many ≤ 40) <;> rfl
theorem linesB_bad {l : List ByteArray} {k : Nat} {s : ByteArray} (h : l[k]? = some s) (hs : lineB s = false) : linesB l = false := by
  have : l.all lineB = false := by rw [List.all_eq_false]; exact ⟨s, List.mem_of_getElem? h, by simp [hs]⟩
  simp [linesB, this]
theorem linesB_ok {l : List ByteArray} (h : ∀ (j : Nat) s, l[j]? = some s → lineB s = true) : linesB l = decide (l.length ≤ 40) := by
  have : l.all lineB = true := by
    rw [List.all_eq_true]
    intro s hs
    obtain ⟨j, hj⟩ := List.mem_iff_getElem?.1 hs
    exact h j s hj
  simp [linesB, this]
theorem line_step {l : List ByteArray} {k : Nat} {s : ByteArray} (H : ∀ (j : Nat) s, j < k → l[j]? = some s → lineB s = true) (hs : l[k]? = some s) (h : lineB s = true) : ∀ (j : Nat) s, j < k + 1 → l[j]? = some s → lineB s = true := by
  intro j t hj ht
  by_cases e : j = k
  · subst e; rw [hs] at ht; injection ht with ht; rw [← ht]; exact h
  · exact H j t (by omega) ht

theorem drop_at {α : Type} {l : List α} {k : Nat} {x : α} (h : l[k]? = some x) : l.drop k = x :: l.drop (k + 1) := by
  have hk : k < l.length := (List.getElem?_eq_some_iff.1 h).1
  rw [List.getElem?_eq_getElem hk] at h
  injection h with h
  rw [List.drop_eq_getElem_cons hk, h]
theorem rise_mem {many : Int} {x : Hk} : ∀ {l : List Hk} {e : Int}, riseB many e l = true → x ∈ l → hunkB many x = true
  | [], e, _, h => by simp at h
  | y :: l, e, hr, h => by
    simp only [riseB, Bool.and_eq_true] at hr
    rcases List.mem_cons.1 h with rfl | h
    · exact hr.1.1
    · exact rise_mem hr.2 h
theorem hunkB_parts {many : Int} {x : Hk} (h : hunkB many x = true) : 0 ≤ x.at_ ∧ 0 ≤ x.gone ∧ x.at_ + x.gone ≤ many ∧ nothing x = false ∧ linesB x.new = true := by
  simp only [hunkB, Bool.and_eq_true, decide_eq_true_eq, Bool.not_eq_true'] at h
  exact ⟨h.1.1.1.1, h.1.1.1.2, h.1.1.2, h.1.2, h.2⟩
theorem linesB_len {l : List ByteArray} (h : linesB l = true) : l.length ≤ 40 := by simp [linesB] at h; exact h.1
theorem linesB_mem {l : List ByteArray} (h : linesB l = true) {s : ByteArray} (hs : s ∈ l) : lineB s = true := by
  simp only [linesB, Bool.and_eq_true, List.all_eq_true] at h; exact h.2 s hs
theorem goodH_parts {many : Int} {l : List Hk} (h : goodH many l = true) : 0 ≤ many ∧ many ≤ 40 ∧ l.length ≤ 20 ∧ riseB many (-1) l = true := by
  simp only [goodH, Bool.and_eq_true, decide_eq_true_eq] at h
  exact ⟨h.1.1.1, h.1.1.2, h.1.2, h.2⟩
theorem goodH_mem {many : Int} {l : List Hk} (h : goodH many l = true) {x : Hk} (hx : x ∈ l) : 0 ≤ x.at_ ∧ 0 ≤ x.gone ∧ x.at_ + x.gone ≤ many ∧ many ≤ 40 ∧ x.new.length ≤ 40 := by
  obtain ⟨h1, h2, h3, h4⟩ := goodH_parts h
  obtain ⟨a, b, c, d, e⟩ := hunkB_parts (rise_mem h4 hx)
  exact ⟨a, b, c, h2, linesB_len e⟩

def placeFrom (k : Int) : Int → List Hk → Option Int
  | more, [] => some (k + more)
  | more, x :: l => if x.at_ + x.gone ≤ k then placeFrom k (more + (x.new.length - x.gone)) l else if x.at_ ≤ k then none else placeFrom k more l
theorem place_go {k more : Int} {l : List Hk} {j : Nat} {x : Hk} (h : l[j]? = some x) (h1 : x.at_ + x.gone ≤ k) : placeFrom k more (l.drop j) = placeFrom k (more + (x.new.length - x.gone)) (l.drop (j + 1)) := by
  rw [drop_at h, placeFrom, if_pos h1]
theorem place_no {k more : Int} {l : List Hk} {j : Nat} {x : Hk} (h : l[j]? = some x) (h1 : ¬ x.at_ + x.gone ≤ k) (h2 : x.at_ ≤ k) : placeFrom k more (l.drop j) = none := by
  rw [drop_at h, placeFrom, if_neg h1, if_pos h2]
theorem place_on {k more : Int} {l : List Hk} {j : Nat} {x : Hk} (h : l[j]? = some x) (h1 : ¬ x.at_ + x.gone ≤ k) (h2 : ¬ x.at_ ≤ k) : placeFrom k more (l.drop j) = placeFrom k more (l.drop (j + 1)) := by
  rw [drop_at h, placeFrom, if_neg h1, if_neg h2]
theorem place_end {k more : Int} {l : List Hk} {j : Nat} (h : l.length ≤ j) : placeFrom k more (l.drop j) = some (k + more) := by
  rw [List.drop_eq_nil_of_le h]; rfl
theorem place_nonneg {many k p : Int} (hk : 0 ≤ k) : ∀ {l : List Hk} {e more : Int}, riseB many e l = true → 0 ≤ k + more → (e ≤ k → 0 ≤ max e 0 + more) → placeFrom k more l = some p → 0 ≤ p
  | [], e, more, _, h1, _, h => by simp [placeFrom] at h; omega
  | x :: l, e, more, hr, h1, h2, h => by
    simp only [riseB, Bool.and_eq_true, decide_eq_true_eq] at hr
    obtain ⟨⟨hx, he⟩, hr⟩ := hr
    obtain ⟨a, b, c, _, _⟩ := hunkB_parts hx
    unfold placeFrom at h
    split at h
    · exact place_nonneg hk hr (by have := h2 (by omega); omega) (by intro _; have := h2 (by omega); omega) h
    · split at h
      · cases h
      · exact place_nonneg hk hr h1 (by omega) h
def placeN (l : List Hk) (k : Int) : Int := (placeFrom k 0 l).getD (-1)
def placeOf (l : List Hk) (many k : Int) : Int × Bool := if goodH many l = true ∧ 0 ≤ k ∧ k ≤ many ∧ 0 ≤ placeN l k then (placeN l k, true) else (0, false)
theorem place_none {many k : Int} {l : List Hk} (h : goodH many l = true) (hk : 0 ≤ k) : placeN l k < 0 ↔ placeFrom k 0 l = none := by
  unfold placeN
  cases hp : placeFrom k 0 l with
  | none => simp
  | some p =>
    have := place_nonneg hk (goodH_parts h).2.2.2 (more := 0) (by omega) (by omega) hp
    simp
    omega

end Go.Proofs.YtkamenidgkjodaaGreatDoor.M

namespace Go.Proofs.YtkamenidgkjodaaGreatDoor.M

def seg (l : List ByteArray) (p q : Nat) : List ByteArray := (l.take q).drop p
def oldOf (l : List ByteArray) (x : Hk) : List ByteArray := seg l x.at_.toNat (x.at_ + x.gone).toNat
def patchFrom (l : List ByteArray) : Nat → List Hk → List ByteArray
  | p, [] => l.drop p
  | p, x :: hs => seg l p x.at_.toNat ++ x.new ++ patchFrom l (x.at_ + x.gone).toNat hs
def patchH (l : List ByteArray) (hs : List Hk) : List ByteArray := patchFrom l 0 hs
def patchOk (l : List ByteArray) (hs : List Hk) : Bool := goodB l && goodH l.length hs && goodB (patchH l hs)
def patchOf (l : List ByteArray) (hs : List Hk) : List ByteArray × Bool := if patchOk l hs = true then (patchH l hs, true) else ([], false)
theorem patch_step {l : List ByteArray} {hs : List Hk} {p j : Nat} {x : Hk} (h : hs[j]? = some x) : patchFrom l p (hs.drop j) = seg l p x.at_.toNat ++ x.new ++ patchFrom l (x.at_ + x.gone).toNat (hs.drop (j + 1)) := by
  rw [drop_at h, patchFrom]
theorem patch_end {l : List ByteArray} {hs : List Hk} {p j : Nat} (h : hs.length ≤ j) : patchFrom l p (hs.drop j) = l.drop p := by
  rw [List.drop_eq_nil_of_le h]; rfl
theorem seg_len (l : List ByteArray) (p q : Nat) : (seg l p q).length = min q l.length - p := by simp [seg]
def restOk (many : Int) (hs : List Hk) (p : Nat) : Prop := ∃ e : Int, riseB many e hs = true ∧ (p : Int) ≤ e + 1
theorem rest_start {many : Int} {hs : List Hk} (h : goodH many hs = true) : restOk many (hs.drop 0) 0 := ⟨-1, (goodH_parts h).2.2.2, by omega⟩
theorem rest_step {many : Int} {hs : List Hk} {p j : Nat} {x : Hk} (hx : hs[j]? = some x) (h : restOk many (hs.drop j) p) :
    ∃ a g : Nat, x.at_ = a ∧ x.gone = g ∧ p ≤ a ∧ ((a + g : Nat) : Int) ≤ many ∧ linesB x.new = true ∧ nothing x = false ∧ restOk many (hs.drop (j + 1)) (a + g) := by
  obtain ⟨e, h1, h2⟩ := h
  rw [rise_step hx, Bool.and_eq_true, Bool.and_eq_true, decide_eq_true_eq] at h1
  obtain ⟨⟨hb, he⟩, hr⟩ := h1
  obtain ⟨q0, q1, q2, q3, q4⟩ := hunkB_parts hb
  exact ⟨x.at_.toNat, x.gone.toNat, by omega, by omega, by omega, by omega, q4, q3, x.at_ + x.gone, hr, by omega⟩
theorem goodB_lines {l : List ByteArray} (h : goodB l = true) : linesB l = true := by
  have h1 := goodB_len h
  simp only [linesB, Bool.and_eq_true, decide_eq_true_eq, List.all_eq_true]
  refine ⟨h1, fun s hs => ?_⟩
  obtain ⟨j, hj⟩ := List.mem_iff_getElem?.1 hs
  exact (goodB_at h hj).1

end Go.Proofs.YtkamenidgkjodaaGreatDoor.M

namespace Go.Proofs.YtkamenidgkjodaaGreatDoor.M

def backFrom (l : List ByteArray) : Int → List Hk → List Hk
  | _, [] => []
  | more, x :: hs => ⟨x.at_ + more, x.new.length, oldOf l x⟩ :: backFrom l (more + (x.new.length - x.gone)) hs
def backH (l : List ByteArray) (hs : List Hk) : List Hk := backFrom l 0 hs
theorem patchOk_parts {l : List ByteArray} {hs : List Hk} (h : patchOk l hs = true) : goodB l = true ∧ goodH l.length hs = true ∧ goodB (patchH l hs) = true := by
  simp only [patchOk, Bool.and_eq_true] at h
  exact ⟨h.1.1, h.1.2, h.2⟩
theorem back_len (l : List ByteArray) : ∀ (hs : List Hk) (more : Int), (backFrom l more hs).length = hs.length
  | [], _ => rfl
  | x :: hs, more => by simp [backFrom, back_len l hs]
theorem linesB_seg {l : List ByteArray} (h : linesB l = true) (p q : Nat) : linesB (seg l p q) = true := by
  simp only [linesB, Bool.and_eq_true, decide_eq_true_eq, List.all_eq_true] at h ⊢
  refine ⟨by rw [seg_len]; omega, fun s hs => h.2 s (List.mem_of_mem_take (List.mem_of_mem_drop hs))⟩

end Go.Proofs.YtkamenidgkjodaaGreatDoor.M

namespace Go.Proofs.YtkamenidgkjodaaGreatDoor.M

theorem rest_cons {many : Int} {x : Hk} {hs : List Hk} {p : Nat} (h : restOk many (x :: hs) p) :
    ∃ a g : Nat, x.at_ = a ∧ x.gone = g ∧ p ≤ a ∧ ((a + g : Nat) : Int) ≤ many ∧ linesB x.new = true ∧ nothing x = false ∧ restOk many hs (a + g) ∧ restOk many hs (a + g + 1) := by
  obtain ⟨e, h1, h2⟩ := h
  rw [riseB, Bool.and_eq_true, Bool.and_eq_true, decide_eq_true_eq] at h1
  obtain ⟨⟨hb, he⟩, hr⟩ := h1
  obtain ⟨q0, q1, q2, q3, q4⟩ := hunkB_parts hb
  exact ⟨x.at_.toNat, x.gone.toNat, by omega, by omega, by omega, by omega, q4, q3, ⟨x.at_ + x.gone, hr, by omega⟩, ⟨x.at_ + x.gone, hr, by omega⟩⟩
theorem seg_get {l : List ByteArray} {p q i : Nat} (h : p + i < q) : (seg l p q)[i]? = l[p + i]? := by
  unfold seg
  rw [List.getElem?_drop, List.getElem?_take, if_pos h]

end Go.Proofs.YtkamenidgkjodaaGreatDoor.M

namespace Go.Proofs.YtkamenidgkjodaaGreatDoor.M

def rises : Nat → Nat → List (Nat × Nat) → Prop
  | _, _, [] => True
  | i, j, s :: t => i ≤ s.1 ∧ j ≤ s.2 ∧ rises (s.1 + 1) (s.2 + 1) t
theorem rises_snoc {t : Nat × Nat} : ∀ {L : List (Nat × Nat)} {i j : Nat}, rises i j L → (∀ s ∈ L, s.1 < t.1 ∧ s.2 < t.2) → i ≤ t.1 → j ≤ t.2 → rises i j (L ++ [t])
  | [], i, j, _, _, h1, h2 => ⟨h1, h2, trivial⟩
  | s :: L, i, j, h, hs, h1, h2 => by
    obtain ⟨a, b, c⟩ := h
    have := hs s (by simp)
    exact ⟨a, b, rises_snoc c (fun s hs' => hs s (by simp [hs'])) (by omega) (by omega)⟩
def joinOne (last : List ByteArray) (i j : Nat) (s : Nat × Nat) : Hk := ⟨i, (s.1 : Int) - i, seg last j s.2⟩
def joinFrom (last : List ByteArray) : Nat → Nat → List (Nat × Nat) → List Hk
  | _, _, [] => []
  | i, j, s :: t => if i < s.1 ∨ j < s.2 then joinOne last i j s :: joinFrom last (s.1 + 1) (s.2 + 1) t else joinFrom last (s.1 + 1) (s.2 + 1) t
theorem join_yes {last : List ByteArray} {i j k : Nat} {L : List (Nat × Nat)} {s : Nat × Nat} (h : L[k]? = some s) (hn : i < s.1 ∨ j < s.2) : joinFrom last i j (L.drop k) = joinOne last i j s :: joinFrom last (s.1 + 1) (s.2 + 1) (L.drop (k + 1)) := by
  rw [drop_at h, joinFrom, if_pos hn]
theorem join_no {last : List ByteArray} {i j k : Nat} {L : List (Nat × Nat)} {s : Nat × Nat} (h : L[k]? = some s) (hn : ¬ (i < s.1 ∨ j < s.2)) : joinFrom last i j (L.drop k) = joinFrom last (s.1 + 1) (s.2 + 1) (L.drop (k + 1)) := by
  rw [drop_at h, joinFrom, if_neg hn]
theorem join_end {last : List ByteArray} {i j k : Nat} {L : List (Nat × Nat)} (h : L.length ≤ k) : joinFrom last i j (L.drop k) = [] := by
  rw [List.drop_eq_nil_of_le h]; rfl
theorem rises_step {i j k : Nat} {L : List (Nat × Nat)} {s : Nat × Nat} (h : L[k]? = some s) (hr : rises i j (L.drop k)) : i ≤ s.1 ∧ j ≤ s.2 ∧ rises (s.1 + 1) (s.2 + 1) (L.drop (k + 1)) := by
  rw [drop_at h] at hr
  exact hr

end Go.Proofs.YtkamenidgkjodaaGreatDoor.M

namespace Go.Proofs.YtkamenidgkjodaaGreatDoor.M

theorem seg_drop {l : List ByteArray} {p q : Nat} (h : p ≤ q) : seg l p q ++ l.drop q = l.drop p := by
  unfold seg
  rcases Nat.le_total l.length q with h1 | h1
  · rw [List.take_of_length_le h1, List.drop_eq_nil_of_le h1, List.append_nil]
  · have h2 := List.take_append_drop q l
    have h3 : l.drop p = (l.take q ++ l.drop q).drop p := by rw [h2]
    rw [h3, List.drop_append_of_le_length (by simp; omega)]
theorem seg_seg {l : List ByteArray} {p q r : Nat} (h1 : p ≤ q) (h2 : q ≤ r) : seg l p q ++ seg l q r = seg l p r := by
  have h := seg_drop (l := l.take r) h1
  unfold seg at *
  rw [List.take_take, Nat.min_eq_left h2] at h
  exact h
theorem seg_mid (a b c : List ByteArray) : seg (a ++ b ++ c) a.length (a.length + b.length) = b := by
  unfold seg
  rw [List.take_append_of_le_length (by simp), List.take_of_length_le (by simp), List.drop_left]
theorem back_main {l : List ByteArray} (hgl : linesB l = true) : ∀ {hs : List Hk} {p : Nat} {e more : Int} {pre : List ByteArray}, riseB l.length e hs = true → (p : Int) ≤ e + 1 → p ≤ l.length → (pre.length : Int) = p + more →
    patchFrom (pre ++ patchFrom l p hs) pre.length (backFrom l more hs) = l.drop p ∧ backFrom (pre ++ patchFrom l p hs) (-more) (backFrom l more hs) = hs ∧ riseB (pre ++ patchFrom l p hs).length (e + more) (backFrom l more hs) = true
  | [], p, e, more, pre, _, _, _, _ => by
    refine ⟨?_, rfl, rfl⟩
    rw [backFrom, patchFrom, patchFrom, List.drop_left]
  | x :: hs, p, e, more, pre, hr, hp, hpl, hpre => by
    rw [riseB, Bool.and_eq_true, Bool.and_eq_true, decide_eq_true_eq] at hr
    obtain ⟨⟨hb, he⟩, hr⟩ := hr
    obtain ⟨q0, q1, q2, q3, q4⟩ := hunkB_parts hb
    obtain ⟨a, ea⟩ : ∃ a : Nat, x.at_ = a := ⟨x.at_.toNat, by omega⟩
    obtain ⟨g, eg⟩ : ∃ g : Nat, x.gone = g := ⟨x.gone.toNat, by omega⟩
    obtain ⟨m, em⟩ : ∃ m : Nat, x.new.length = m := ⟨_, rfl⟩
    have hsl : (seg l p a).length = a - p := by rw [seg_len]; omega
    have hol : (oldOf l x).length = g := by unfold oldOf; rw [seg_len, ea, eg]; omega
    have hold : oldOf l x = seg l a (a + g) := by unfold oldOf; rw [ea, eg, Int.toNat_natCast, show ((a : Int) + (g : Int)).toNat = a + g from by omega]
    obtain ⟨i1, i2, i3⟩ := back_main hgl (hs := hs) (p := a + g) (e := x.at_ + x.gone) (more := more + (x.new.length - x.gone)) (pre := pre ++ seg l p a ++ x.new) hr (by omega) (by omega) (by simp only [List.length_append, hsl]; omega)
    have hP : pre ++ patchFrom l p (x :: hs) = pre ++ seg l p a ++ x.new ++ patchFrom l (a + g) hs := by
      rw [patchFrom, ea, eg, Int.toNat_natCast, show ((a : Int) + (g : Int)).toNat = a + g from by omega]
      simp only [List.append_assoc]
    have hn1 : (x.at_ + more).toNat = pre.length + (a - p) := by omega
    have hn2 : (x.at_ + more + (x.new.length : Int)).toNat = (pre ++ seg l p a ++ x.new).length := by simp only [List.length_append, hsl]; omega
    have hs1 : seg (pre ++ seg l p a ++ x.new ++ patchFrom l (a + g) hs) pre.length (pre.length + (a - p)) = seg l p a := by
      have := seg_mid pre (seg l p a) (x.new ++ patchFrom l (a + g) hs)
      rw [hsl] at this
      rw [List.append_assoc (pre ++ seg l p a)]
      exact this
    have hs2 : seg (pre ++ seg l p a ++ x.new ++ patchFrom l (a + g) hs) (pre.length + (a - p)) (pre ++ seg l p a ++ x.new).length = x.new := by
      have := seg_mid (pre ++ seg l p a) x.new (patchFrom l (a + g) hs)
      rw [show (pre ++ seg l p a ++ x.new).length = (pre ++ seg l p a).length + x.new.length from by simp [List.length_append]; omega, show pre.length + (a - p) = (pre ++ seg l p a).length from by rw [List.length_append, hsl]]
      exact this
    rw [hP, backFrom]
    refine ⟨?_, ?_, ?_⟩
    · rw [patchFrom]
      dsimp only
      rw [hn1, hn2, hs1, i1, hold, List.append_assoc, seg_drop (by omega), seg_drop (by omega)]
    · rw [backFrom]
      dsimp only
      rw [hol, show -more + ((g : Int) - (x.new.length : Int)) = -(more + ((x.new.length : Int) - x.gone)) from by rw [eg]; omega, i2]
      have h5 : oldOf (pre ++ seg l p a ++ x.new ++ patchFrom l (a + g) hs) ⟨x.at_ + more, (x.new.length : Int), oldOf l x⟩ = x.new := by
        unfold oldOf
        dsimp only
        rw [hn1, hn2, hs2]
      rw [h5]
      congr 1
      exact Hk.ext_ (by dsimp only; omega) (by dsimp only; omega) rfl
    · rw [riseB, Bool.and_eq_true, Bool.and_eq_true, decide_eq_true_eq]
      dsimp only
      refine ⟨⟨?_, by omega⟩, ?_⟩
      · simp only [hunkB, Bool.and_eq_true, decide_eq_true_eq, Bool.not_eq_true']
        refine ⟨⟨⟨⟨by omega, by omega⟩, ?_⟩, ?_⟩, ?_⟩
        · simp only [List.length_append, hsl]; omega
        · have h6 := q3
          rw [Bool.eq_false_iff] at h6 ⊢
          intro h7
          apply h6
          simp only [nothing, Bool.and_eq_true, decide_eq_true_eq, hol] at h7 ⊢
          omega
        · rw [hold]; exact linesB_seg hgl _ _
      · rw [show x.at_ + more + (x.new.length : Int) = x.at_ + x.gone + (more + ((x.new.length : Int) - x.gone)) from by omega]
        exact i3
theorem patch_back {l : List ByteArray} {hs : List Hk} (h : patchOk l hs = true) : patchOk (patchH l hs) (backH l hs) = true ∧ patchH (patchH l hs) (backH l hs) = l ∧ backH (patchH l hs) (backH l hs) = hs ∧ goodH (patchH l hs).length (backH l hs) = true := by
  obtain ⟨h1, h2, h3⟩ := patchOk_parts h
  obtain ⟨g1, g2, g3, g4⟩ := goodH_parts h2
  obtain ⟨i1, i2, i3⟩ := back_main (goodB_lines h1) (hs := hs) (p := 0) (e := -1) (more := 0) (pre := []) g4 (by omega) (by omega) (by simp)
  simp only [List.nil_append, List.length_nil, List.drop_zero, Int.neg_zero, Int.add_zero] at i1 i2 i3
  have hg : goodH (patchH l hs).length (backH l hs) = true := by
    have h5 := goodB_len h3
    simp only [goodH, Bool.and_eq_true, decide_eq_true_eq]
    exact ⟨⟨⟨by omega, by omega⟩, by unfold backH; rw [back_len]; exact g3⟩, i3⟩
  refine ⟨?_, i1, i2, hg⟩
  simp only [patchOk, Bool.and_eq_true]
  exact ⟨⟨h3, hg⟩, by show goodB (patchFrom _ 0 _) = true; unfold patchH backH; rw [i1]; exact h1⟩

end Go.Proofs.YtkamenidgkjodaaGreatDoor.M

namespace Go.Proofs.YtkamenidgkjodaaGreatDoor.M

theorem patch_shift {l : List ByteArray} {many : Int} {p q : Nat} (hpq : p ≤ q) : ∀ {hs : List Hk}, restOk many hs q → patchFrom l p hs = seg l p q ++ patchFrom l q hs
  | [], _ => by rw [patchFrom, patchFrom, seg_drop hpq]
  | x :: hs, h => by
    obtain ⟨a, g, ea, eg, h1, _⟩ := rest_cons h
    rw [patchFrom, patchFrom, ea, Int.toNat_natCast, ← seg_seg hpq h1]
    simp only [List.append_assoc]

end Go.Proofs.YtkamenidgkjodaaGreatDoor.M

namespace Go.Proofs.YtkamenidgkjodaaGreatDoor.M

theorem seg_self (l : List ByteArray) (p : Nat) : seg l p p = [] := by
  apply List.eq_nil_of_length_eq_zero; rw [seg_len]; omega
theorem seg_one {l : List ByteArray} {p : Nat} {s : ByteArray} (h : l[p]? = some s) : seg l p (p + 1) = [s] := by
  apply List.ext_getElem?
  intro i
  cases i with
  | zero => rw [seg_get (by omega), Nat.add_zero, h]; rfl
  | succ i => rw [List.getElem?_eq_none (by rw [seg_len]; omega), List.getElem?_eq_none (by simp)]

end Go.Proofs.YtkamenidgkjodaaGreatDoor.M
