/-
  Hunks taken together with what is around (GroupsOf): mathematics.
  One group after another (GroupsOf): mathematics.
-/
import Derived.Test.YtkamenidgkjodaaGreatDoorQbGMem
import Derived.Test.YtkamenidgkjodaaGreatDoorQbHBases
set_option linter.unusedSimpArgs false
set_option linter.unusedVariables false
namespace Go.Proofs.YtkamenidgkjodaaGreatDoor.M
open Go

def kR (k : Int) (l : List ByteArray) : List Rw := l.map fun s => ⟨k, s⟩
theorem kR_len (k : Int) (l : List ByteArray) : (kR k l).length = l.length := by simp [kR]
theorem kR_snoc {k : Int} {l : List ByteArray} {j : Nat} {s : ByteArray} (h : l[j]? = some s) : kR k (l.take (j + 1)) = kR k (l.take j) ++ [⟨k, s⟩] := by rw [take_at h]; simp [kR]
theorem kR_total (k : Int) (l : List ByteArray) : totalR (kR k l) = total l := by
  induction l with
  | nil => rfl
  | cons s l ih => simp only [kR, List.map_cons, totalR, total] at ih ⊢; rw [ih]

def rowsI (l : List ByteArray) : Nat → List Hk → List Rw
  | p, [] => kR 1 (l.drop p)
  | p, x :: r => kR 1 (seg l p x.at_.toNat) ++ kR 2 (seg l x.at_.toNat (x.at_ + x.gone).toNat) ++ kR 3 x.new ++ rowsI l (x.at_ + x.gone).toNat r
def rowsM (l : List ByteArray) (q : Nat) : Nat → List Hk → List Rw
  | p, [] => kR 1 (seg l p q)
  | p, x :: r => kR 1 (seg l p x.at_.toNat) ++ kR 2 (seg l x.at_.toNat (x.at_ + x.gone).toNat) ++ kR 3 x.new ++ rowsM l q (x.at_ + x.gone).toNat r
theorem seg_take {l : List ByteArray} {p a q : Nat} (h : a ≤ q) : seg (l.take q) p a = seg l p a := by
  unfold seg; rw [List.take_take, Nat.min_eq_left h]
theorem rows_eq {l : List ByteArray} {q : Nat} : ∀ {hs : List Hk} {p : Nat}, (∀ x ∈ hs, 0 ≤ x.gone ∧ 0 ≤ x.at_ ∧ (x.at_ + x.gone).toNat ≤ q) → rowsI (l.take q) p hs = rowsM l q p hs
  | [], p, _ => rfl
  | x :: r, p, h => by
    have h1 := h x (by simp)
    simp only [rowsI, rowsM]
    rw [seg_take (by omega), seg_take h1.2.2, rows_eq (fun y hy => h y (by simp [hy]))]
theorem rowsI_step {l : List ByteArray} {hs : List Hk} {p j : Nat} {x : Hk} (h : hs[j]? = some x) : rowsI l p (hs.drop j) = kR 1 (seg l p x.at_.toNat) ++ kR 2 (seg l x.at_.toNat (x.at_ + x.gone).toNat) ++ kR 3 x.new ++ rowsI l (x.at_ + x.gone).toNat (hs.drop (j + 1)) := by
  rw [drop_at h, rowsI]
theorem rowsI_end {l : List ByteArray} {hs : List Hk} {p j : Nat} (h : hs.length ≤ j) : rowsI l p (hs.drop j) = kR 1 (l.drop p) := by
  rw [List.drop_eq_nil_of_le h]; rfl
theorem rowsM_step {l : List ByteArray} {q : Nat} {hs : List Hk} {p j : Nat} {x : Hk} (h : hs[j]? = some x) : rowsM l q p (hs.drop j) = kR 1 (seg l p x.at_.toNat) ++ kR 2 (seg l x.at_.toNat (x.at_ + x.gone).toNat) ++ kR 3 x.new ++ rowsM l q (x.at_ + x.gone).toNat (hs.drop (j + 1)) := by
  rw [drop_at h, rowsM]
theorem rowsM_end {l : List ByteArray} {q : Nat} {hs : List Hk} {p j : Nat} (h : hs.length ≤ j) : rowsM l q p (hs.drop j) = kR 1 (seg l p q) := by
  rw [List.drop_eq_nil_of_le h]; rfl

def runF (W : Nat) : Hk → List Hk → Nat
  | _, [] => 0
  | x, y :: r => if y.at_ - x.at_ - x.gone ≤ 2 * (W : Int) then runF W y r + 1 else 0
theorem run_len (W : Nat) : ∀ (r : List Hk) (x : Hk), runF W x r ≤ r.length
  | [], x => by simp [runF]
  | y :: r, x => by
    simp only [runF]
    split
    · have := run_len W r y; simp; exact this
    · simp
theorem run_gap (W : Nat) : ∀ (r : List Hk) (x p y : Hk), (x :: r)[runF W x r]? = some p → r[runF W x r]? = some y → 2 * (W : Int) < y.at_ - p.at_ - p.gone
  | [], x, p, y, _, h => by simp at h
  | z :: r, x, p, y, hp, hy => by
    simp only [runF] at hp hy
    split at hp
    · rename_i hc
      rw [if_pos hc] at hy
      exact run_gap W r z p y (by simpa using hp) (by simpa using hy)
    · rename_i hc
      rw [if_neg hc] at hy
      simp at hp hy
      subst hp hy
      omega
def moreH : List Hk → Int
  | [] => 0
  | x :: r => (x.new.length : Int) - x.gone + moreH r
theorem moreH_append (a b : List Hk) : moreH (a ++ b) = moreH a + moreH b := by
  induction a with
  | nil => simp [moreH]
  | cons x a ih => simp only [List.cons_append, moreH, ih]; omega
theorem moreH_snoc {hs : List Hk} {i : Nat} {x : Hk} (h : hs[i]? = some x) : moreH (hs.take (i + 1)) = moreH (hs.take i) + ((x.new.length : Int) - x.gone) := by
  rw [take_at h, moreH_append]; simp [moreH]
theorem moreH_bound : ∀ {hs : List Hk}, (∀ x ∈ hs, 0 ≤ x.gone ∧ x.gone ≤ 40 ∧ x.new.length ≤ 40) → -40 * (hs.length : Int) ≤ moreH hs ∧ moreH hs ≤ 40 * (hs.length : Int)
  | [], _ => by simp [moreH]
  | x :: r, h => by
    have h1 := h x (by simp)
    have h2 := moreH_bound (hs := r) (fun y hy => h y (by simp [hy]))
    simp only [moreH, List.length_cons]
    omega

def fromN (W : Nat) (x : Hk) : Nat := x.at_.toNat - W
def endN (n W : Nat) (x : Hk) : Nat := min ((x.at_ + x.gone).toNat + W) n
def oneG (l : List ByteArray) (W : Nat) (more : Int) : List Hk → Gp
  | [] => blankGp
  | x :: r => ⟨fromN W x, (fromN W x : Int) + more, rowsM l (endN l.length W (r.getLastD x)) (fromN W x) (x :: r)⟩
def groupsF (l : List ByteArray) (W : Nat) : Nat → Int → List Hk → List Gp
  | 0, _, _ => []
  | _ + 1, _, [] => []
  | f + 1, more, x :: r => oneG l W more ((x :: r).take (runF W x r + 1)) :: groupsF l W f (more + moreH ((x :: r).take (runF W x r + 1))) ((x :: r).drop (runF W x r + 1))
theorem groupsF_nil (l : List ByteArray) (W f : Nat) (more : Int) : groupsF l W f more [] = [] := by cases f <;> rfl
def groupsOf (l : List ByteArray) (hs : List Hk) (W : Int) : List Gp × Bool := if patchOk l hs = true ∧ 0 ≤ W ∧ W ≤ 20 then (groupsF l W.toNat hs.length 0 hs, true) else ([], false)

theorem placeG_ahead {many e k : Int} : ∀ {hs : List Hk} {more : Int}, riseB many e hs = true → (∀ x ∈ hs, x.at_ + x.gone ≤ k) → placeFrom k more hs = some (k + (more + moreH hs))
  | [], more, _, _ => by simp [placeFrom, moreH]
  | x :: hs, more, hr, h => by
    simp only [riseB, Bool.and_eq_true] at hr
    rw [placeFrom, if_pos (h x (by simp)), placeG_ahead hr.2 (fun y hy => h y (by simp [hy])), moreH]
    congr 1; omega
theorem riseG_take {many : Int} : ∀ {hs : List Hk} {e : Int} (i : Nat), riseB many e hs = true → riseB many e (hs.take i) = true
  | [], e, i, h => by simpa using h
  | x :: hs, e, 0, h => rfl
  | x :: hs, e, i + 1, h => by
    simp only [riseB, Bool.and_eq_true, List.take_succ_cons] at h ⊢
    exact ⟨h.1, riseG_take i h.2⟩
theorem riseG_ends {many : Int} : ∀ {hs : List Hk} {e : Int} {i : Nat} {x : Hk}, riseB many e hs = true → hs[i]? = some x → ∀ y ∈ hs.take (i + 1), y.at_ + y.gone ≤ x.at_ + x.gone
  | [], e, i, x, _, hi => by simp at hi
  | y :: hs, e, 0, x, h, hi => by
    simp at hi
    subst hi
    intro z hz
    simp at hz
    subst hz
    omega
  | y :: hs, e, i + 1, x, h, hi => by
    simp only [riseB, Bool.and_eq_true, decide_eq_true_eq] at h
    have hx : hs[i]? = some x := by simpa using hi
    have h2 := riseG_ends h.2 hx
    intro z hz
    rw [List.take_succ_cons] at hz
    rcases List.mem_cons.1 hz with rfl | hz
    · cases hs with
      | nil => simp at hx
      | cons u hs =>
        have h4 := h2 u (by rw [List.take_succ_cons]; simp)
        have h5 := h.2
        simp only [riseB, Bool.and_eq_true, decide_eq_true_eq] at h5
        have h6 := hunkB_parts h5.1.1
        omega
    · exact h2 z hz
theorem goodHG_take {many : Int} {hs : List Hk} (i : Nat) (h : goodH many hs = true) : goodH many (hs.take i) = true := by
  obtain ⟨h1, h2, h3, h4⟩ := goodH_parts h
  simp only [goodH, Bool.and_eq_true, decide_eq_true_eq]
  exact ⟨⟨⟨h1, h2⟩, by simp; omega⟩, riseG_take i h4⟩
def GapAt (hs : List Hk) (W i : Nat) : Prop := i = 0 ∨ ∀ p x, hs[i - 1]? = some p → hs[i]? = some x → 2 * (W : Int) < x.at_ - p.at_ - p.gone
theorem placeG {many : Int} {hs : List Hk} {W i : Nat} {x : Hk} (hg : goodH many hs = true) (hgap : GapAt hs W i) (hx : hs[i]? = some x) :
    placeOf (hs.take i) many (fromN W x : Int) = ((fromN W x : Int) + moreH (hs.take i), true) := by
  obtain ⟨h1, h2, h3, h4⟩ := goodH_parts hg
  have hm := goodH_mem hg (List.mem_of_getElem? hx)
  have hall : ∀ z ∈ hs.take i, z.at_ + z.gone ≤ (fromN W x : Int) := by
    intro z hz
    cases i with
    | zero => simp at hz
    | succ i =>
      rcases hgap with h | h
      · omega
      · have hi : i < hs.length := by have := (List.getElem?_eq_some_iff.1 hx).1; omega
        have hp := List.getElem?_eq_getElem hi
        have h5 := h hs[i] x (by rw [Nat.add_sub_cancel]; exact hp) hx
        have h6 := riseG_ends h4 hp z hz
        unfold fromN
        omega
  have hp := placeG_ahead (more := 0) (riseG_take i h4) hall
  rw [Int.zero_add] at hp
  have hv : placeN (hs.take i) (fromN W x : Int) = (fromN W x : Int) + moreH (hs.take i) := by
    unfold placeN
    rw [hp]
    rfl
  have hn : 0 ≤ (fromN W x : Int) + moreH (hs.take i) := place_nonneg (many := many) (e := -1) (k := (fromN W x : Int)) (by omega) (riseG_take i h4) (more := 0) (by omega) (by omega) hp
  have hk : (fromN W x : Int) ≤ many := by unfold fromN; omega
  unfold placeOf
  rw [hv, if_pos ⟨goodHG_take i hg, by omega, hk, hn⟩]

theorem seg_total (l : List ByteArray) (p q : Nat) : total (seg l p q) ≤ total l := by
  have h1 : ∀ (l : List ByteArray) (k : Nat), total (l.take k) ≤ total l := total_take_le
  have h2 : ∀ (l : List ByteArray) (k : Nat), total (l.drop k) ≤ total l := fun l k => by
    induction l generalizing k with
    | nil => simp [total]
    | cons s l ih =>
      cases k with
      | zero => simp
      | succ k => have := ih k; simp only [List.drop_succ_cons, total]; omega
  unfold seg
  have := h2 (l.take q) p
  have := h1 l q
  omega
theorem linesB_total {l : List ByteArray} (h : linesB l = true) : total l ≤ 1200 := by
  have h1 := linesB_len h
  have h2 : ∀ (l : List ByteArray), (∀ s ∈ l, lineB s = true) → total l ≤ 30 * l.length := by
    intro l
    induction l with
    | nil => intro _; simp [total]
    | cons s l ih =>
      intro hl
      have := ih (fun t ht => hl t (by simp [ht]))
      have := (lineB_size (hl s (by simp))).2
      simp only [total, List.length_cons]
      omega
  have := h2 l (fun s hs => linesB_mem h hs)
  omega
theorem rowsM_bulk {l : List ByteArray} {q : Nat} (hl : linesB l = true) : ∀ {hs : List Hk} {p : Nat}, (∀ x ∈ hs, linesB x.new = true) → (rowsM l q p hs).length + totalR (rowsM l q p hs) ≤ 3720 * hs.length + 1240
  | [], p, _ => by
    have h1 := linesB_len hl
    have h2 := linesB_total hl
    have h3 := seg_total l p q
    simp only [rowsM, kR_len, kR_total, List.length_nil, seg_len]
    omega
  | x :: r, p, h => by
    have h1 := linesB_len hl
    have h2 := linesB_total hl
    have h3 := seg_total l p x.at_.toNat
    have h4 := seg_total l x.at_.toNat (x.at_ + x.gone).toNat
    have hx := h x (by simp)
    have h5 := linesB_len hx
    have h6 := linesB_total hx
    have h7 := rowsM_bulk hl (hs := r) (p := (x.at_ + x.gone).toNat) (q := q) (fun y hy => h y (by simp [hy]))
    simp only [rowsM, List.length_append, totalR_append, kR_len, kR_total, List.length_cons, seg_len]
    omega
theorem oneG_bulk {l : List ByteArray} {W : Nat} {more : Int} (hl : linesB l = true) {hs : List Hk} (h : ∀ x ∈ hs, linesB x.new = true) : bulkG (oneG l W more hs) ≤ 3720 * hs.length + 1240 := by
  cases hs with
  | nil => simp [oneG, blankGp, bulkG, totalR]
  | cons x r => exact rowsM_bulk hl h
theorem groupsF_bulk {l : List ByteArray} {W : Nat} (hl : linesB l = true) : ∀ {f : Nat} {more : Int} {hs : List Hk}, (∀ x ∈ hs, linesB x.new = true) → (groupsF l W f more hs).length + totalG (groupsF l W f more hs) ≤ 5000 * hs.length
  | 0, more, hs, _ => by simp [groupsF, totalG]
  | f + 1, more, [], _ => by simp [groupsF, totalG]
  | f + 1, more, x :: r, h => by
    have h1 := oneG_bulk (W := W) (more := more) hl (hs := (x :: r).take (runF W x r + 1)) (fun y hy => h y (List.mem_of_mem_take hy))
    have h2 := groupsF_bulk (W := W) hl (f := f) (more := more + moreH ((x :: r).take (runF W x r + 1))) (hs := (x :: r).drop (runF W x r + 1)) (fun y hy => h y (List.mem_of_mem_drop hy))
    have h3 := run_len W r x
    simp only [groupsF, List.length_cons, totalG]
    rw [List.length_take] at h1
    rw [List.length_drop] at h2
    simp only [List.length_cons] at h1 h2
    omega
theorem groupsOf_len (l : List ByteArray) (hs : List Hk) (W : Int) : (groupsOf l hs W).1.length + totalG (groupsOf l hs W).1 ≤ 1048576 := by
  unfold groupsOf
  split
  · rename_i h
    obtain ⟨h1, _, _⟩ := h
    simp only [patchOk, Bool.and_eq_true] at h1
    have hg := goodH_parts h1.1.2
    have hb := groupsF_bulk (W := W.toNat) (goodB_lines h1.1.1) (f := hs.length) (more := 0) (hs := hs) (fun x hx => (hunkB_parts (rise_mem hg.2.2.2 hx)).2.2.2.2)
    dsimp only
    omega
  · simp [totalG]

end Go.Proofs.YtkamenidgkjodaaGreatDoor.M

namespace Go.Proofs.YtkamenidgkjodaaGreatDoor.M
open Go

theorem run_last (W : Nat) : ∀ (r : List Hk) (x : Hk), (x :: r)[runF W x r]? = some ((r.take (runF W x r)).getLastD x)
  | [], x => by simp [runF]
  | y :: r, x => by
    simp only [runF]
    split
    · have h := run_last W r y
      rw [List.take_succ_cons, List.getElem?_cons_succ, h]
      congr 1
      cases hq : r.take (runF W y r) with
      | nil => simp
      | cons z q => simp [List.getLastD]
    · simp
theorem take_add' {α : Type} (hs : List α) (i k : Nat) : hs.take (i + k) = hs.take i ++ (hs.drop i).take k := by rw [List.take_add]
theorem group_step {l : List ByteArray} {W : Nat} {hs : List Hk} {i f : Nat} {x : Hk} (hx : hs[i]? = some x) (hf : hs.length - i ≤ f) :
    ∃ k f' y, k = runF W x (hs.drop (i + 1)) + 1 ∧ hs.length - (i + k) ≤ f' ∧ 1 ≤ k ∧ i + k ≤ hs.length ∧ GapAt hs W (i + k) ∧ hs[i + k - 1]? = some y ∧
      groupsF l W f (moreH (hs.take i)) (hs.drop i) = ⟨fromN W x, (fromN W x : Int) + moreH (hs.take i), rowsM l (endN l.length W y) (fromN W x) ((hs.drop i).take k)⟩ :: groupsF l W f' (moreH (hs.take (i + k))) (hs.drop (i + k)) := by
  have hi : i < hs.length := (List.getElem?_eq_some_iff.1 hx).1
  have hd := drop_at hx
  obtain ⟨f', rfl⟩ : ∃ f', f = f' + 1 := ⟨f - 1, by omega⟩
  obtain ⟨r, hr⟩ : ∃ r, hs.drop (i + 1) = r := ⟨_, rfl⟩
  have hrl : r.length = hs.length - (i + 1) := by rw [← hr]; simp
  have hrun := run_len W r x
  have at_ : ∀ j, hs[i + j]? = (x :: r)[j]? := fun j => by rw [← hr, ← hd, List.getElem?_drop]
  refine ⟨runF W x r + 1, f', (r.take (runF W x r)).getLastD x, by rw [hr], by omega, by omega, by omega, ?_, ?_, ?_⟩
  · right
    intro p y hp hy
    have e1 : i + (runF W x r + 1) - 1 = i + runF W x r := by omega
    rw [e1, at_] at hp
    have e2 : hs[i + (runF W x r + 1)]? = r[runF W x r]? := by rw [at_]; rfl
    rw [e2] at hy
    exact run_gap W r x p y hp hy
  · have e1 : i + (runF W x r + 1) - 1 = i + runF W x r := by omega
    rw [e1, at_, run_last]
  · rw [take_add' hs i (runF W x r + 1), moreH_append, ← List.drop_drop, hd, hr]
    rfl
theorem riseG_many {many m' : Int} : ∀ {hs : List Hk} {e : Int}, riseB many e hs = true → (∀ y ∈ hs, y.at_ + y.gone ≤ m') → riseB m' e hs = true
  | [], e, _, _ => rfl
  | x :: r, e, h, hm => by
    simp only [riseB, Bool.and_eq_true, decide_eq_true_eq] at h ⊢
    refine ⟨⟨?_, h.1.2⟩, riseG_many h.2 (fun y hy => hm y (by simp [hy]))⟩
    have h1 := h.1.1
    have h2 := hm x (by simp)
    simp only [hunkB, Bool.and_eq_true, decide_eq_true_eq] at h1 ⊢
    exact ⟨⟨⟨h1.1.1.1, h2⟩, h1.1.2⟩, h1.2⟩
theorem riseG_drop {many : Int} : ∀ {hs : List Hk} {e : Int} {i : Nat} {x : Hk}, riseB many e hs = true → hs[i]? = some x → riseB many (x.at_ - 1) (hs.drop i) = true
  | [], e, i, x, _, hi => by simp at hi
  | y :: hs, e, 0, x, h, hi => by
    simp at hi
    subst hi
    simp only [riseB, Bool.and_eq_true, decide_eq_true_eq, List.drop_zero] at h ⊢
    exact ⟨⟨h.1.1, by omega⟩, h.2⟩
  | y :: hs, e, i + 1, x, h, hi => by
    simp only [riseB, Bool.and_eq_true] at h
    rw [List.drop_succ_cons]
    exact riseG_drop h.2 (by simpa using hi)
theorem group_rest {many : Int} {hs : List Hk} {n W i k : Nat} {x y : Hk} (hg : goodH many hs = true) (hmn : many = n) (hx : hs[i]? = some x) (hk : 1 ≤ k) (hy : hs[i + k - 1]? = some y) :
    (∀ z ∈ (hs.drop i).take k, 0 ≤ z.gone ∧ 0 ≤ z.at_ ∧ (z.at_ + z.gone).toNat ≤ endN n W y) ∧ restOk (endN n W y : Nat) ((hs.drop i).take k) (fromN W x) ∧ fromN W x ≤ endN n W y ∧ endN n W y ≤ n := by
  obtain ⟨h1, h2, h3, h4⟩ := goodH_parts hg
  have hym := goodH_mem hg (List.mem_of_getElem? hy)
  have hxm := goodH_mem hg (List.mem_of_getElem? hx)
  have hsub : ∀ z ∈ (hs.drop i).take k, z ∈ hs.take (i + k - 1 + 1) := fun z hz => by
    rw [show i + k - 1 + 1 = i + k by omega, take_add']
    exact List.mem_append.2 (.inr hz)
  have hends : ∀ z ∈ (hs.drop i).take k, z.at_ + z.gone ≤ y.at_ + y.gone := fun z hz => riseG_ends h4 hy z (hsub z hz)
  have hall : ∀ z ∈ (hs.drop i).take k, 0 ≤ z.gone ∧ 0 ≤ z.at_ ∧ (z.at_ + z.gone).toNat ≤ endN n W y := fun z hz => by
    have h5 := hends z hz
    have h6 := goodH_mem hg (List.mem_of_mem_take (hsub z hz))
    unfold endN
    omega
  have hx0 : x ∈ (hs.drop i).take k := by
    obtain ⟨k', rfl⟩ : ∃ k', k = k' + 1 := ⟨k - 1, by omega⟩
    rw [drop_at hx, List.take_succ_cons]
    simp
  refine ⟨hall, ⟨x.at_ - 1, ?_, ?_⟩, ?_, ?_⟩
  · refine riseG_many (riseG_take k (riseG_drop h4 hx)) (fun z hz => ?_)
    have := hall z hz
    omega
  · unfold fromN; omega
  · have := hall x hx0
    unfold fromN
    omega
  · unfold endN; omega

end Go.Proofs.YtkamenidgkjodaaGreatDoor.M
