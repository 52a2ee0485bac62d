/-
  A text cut into lines: plain facts.
-/
import Derived.Test.YtnnaigoomipklaaGreatDoorOgBase
set_option linter.unusedSimpArgs false
set_option linter.unusedVariables false
namespace Go.Proofs.YtnnaigoomipklaaGreatDoor.M

/-- The lines of what is left, the bytes of the line that is begun ahead. -/
def cutGo : List UInt8 → List UInt8 → List ByteArray
  | cur, [] => if cur = [] then [] else [⟨cur.toArray⟩]
  | cur, c :: r => if c = 10 then ⟨(cur ++ [c]).toArray⟩ :: cutGo [] r else cutGo (cur ++ [c]) r
def cutOf (s : ByteArray) : List ByteArray := cutGo [] s.data.toList

theorem cutGo_cat : ∀ (r cur : List UInt8), catL (cutGo cur r) = cur ++ r
  | [], cur => by
    unfold cutGo
    split
    · rename_i h; subst h; rfl
    · simp [catL]
  | c :: r, cur => by
    unfold cutGo
    split
    · have := cutGo_cat r []
      simp only [catL, List.map_cons, List.flatten_cons] at *
      rw [this]; simp
    · rw [cutGo_cat r (cur ++ [c])]; simp
theorem cut_cat (s : ByteArray) : cat (cutOf s) = s := by
  apply bytes_ext
  show catL (cutOf s) = _
  rw [cutOf, cutGo_cat]
  rfl

/-- What is cut: not empty, a byte 10 at most at the end; and at the end of all but the last one. -/
def propB (p : ByteArray) : Bool := decide (1 ≤ p.size) && p.data.toList.dropLast.all (fun c => c != 10)
theorem cutGo_prop : ∀ (r cur : List UInt8), (∀ c ∈ cur, c ≠ 10) → ∀ (k : Nat) (p : ByteArray), (cutGo cur r)[k]? = some p → propB p = true ∧ (k + 1 < (cutGo cur r).length → endsB p = true)
  | [], cur, hc, k, p, hp => by
    unfold cutGo at hp ⊢
    split at hp
    · simp at hp
    · rename_i hne
      cases k with
      | succ k => simp at hp
      | zero =>
        simp at hp
        subst hp
        rw [if_neg hne]
        refine ⟨?_, by simp⟩
        unfold propB
        have h1 : 1 ≤ (⟨cur.toArray⟩ : ByteArray).size := by
          show 1 ≤ cur.toArray.size
          have := List.length_pos_iff.2 hne
          simp; omega
        have h2 : cur.dropLast.all (fun c => c != 10) = true := by
          rw [List.all_eq_true]
          intro c h
          simpa using hc c ((List.dropLast_sublist cur).subset h)
        simp only [Bool.and_eq_true, decide_eq_true_eq]
        exact ⟨h1, by simpa using h2⟩
  | c :: r, cur, hc, k, p, hp => by
    unfold cutGo at hp ⊢
    split at hp
    · rename_i h10
      rw [if_pos h10]
      subst h10
      cases k with
      | zero =>
        simp at hp
        subst hp
        refine ⟨?_, fun _ => ?_⟩
        · unfold propB
          have h1 : 1 ≤ (⟨(cur ++ [10]).toArray⟩ : ByteArray).size := by
            show 1 ≤ (cur ++ [10]).toArray.size
            simp
          have h2 : (cur ++ [10]).dropLast.all (fun c => c != 10) = true := by
            rw [List.dropLast_concat, List.all_eq_true]
            intro c h
            simpa using hc c h
          simp only [Bool.and_eq_true, decide_eq_true_eq]
          exact ⟨by simpa using h1, by simpa using h2⟩
        · unfold endsB
          simp
      | succ k =>
        simp only [List.getElem?_cons_succ] at hp
        have := cutGo_prop r [] (by simp) k p hp
        exact ⟨this.1, fun h => this.2 (by simp at h; omega)⟩
    · rename_i h10
      rw [if_neg h10]
      exact cutGo_prop r (cur ++ [c]) (by
        intro x hx
        rcases List.mem_append.1 hx with h | h
        · exact hc x h
        · simp at h; subst h; exact h10) k p hp

/-- A stretch of a text. -/
def segB (s : ByteArray) (i j : Nat) : List UInt8 := (s.data.toList.drop i).take (j - i)
/-- What is left to cut, from a place on, where a line is begun. -/
def restAt (s : ByteArray) (i j : Nat) : List ByteArray := cutGo (segB s i j) (s.data.toList.drop j)
theorem rest_zero (s : ByteArray) : restAt s 0 0 = cutOf s := by simp [restAt, segB, cutOf]
theorem segB_snoc (s : ByteArray) {i j : Nat} (h : i ≤ j) (hj : j < s.size) : segB s i (j + 1) = segB s i j ++ [s[j]'hj] := by
  unfold segB
  have hz : s.data.toList.length = s.size := by simp
  rw [show j + 1 - i = (j - i) + 1 from by omega, List.take_add_one, List.getElem?_drop, show i + (j - i) = j from by omega, List.getElem?_eq_getElem (by omega)]
  rfl
theorem drop_cons (s : ByteArray) {j : Nat} (hj : j < s.size) : s.data.toList.drop j = s[j]'hj :: s.data.toList.drop (j + 1) := by
  have hz : s.data.toList.length = s.size := by simp
  rw [List.drop_eq_getElem_cons (by omega)]
  rfl
theorem segB_self (s : ByteArray) (i : Nat) : segB s i i = [] := by simp [segB]
theorem extract_segB (s : ByteArray) (i j : Nat) : s.extract i j = ⟨(segB s i j).toArray⟩ := by
  apply bytes_ext
  rw [ByteArray.data_extract, Array.toList_extract]
  rfl
theorem rest_nl (s : ByteArray) {i j : Nat} (h : i ≤ j) (hj : j < s.size) (e : (s[j]'hj).toNat = 10) : restAt s i j = s.extract i (j + 1) :: restAt s (j + 1) (j + 1) := by
  have h10 : s[j]'hj = 10 := UInt8.toNat.inj (by simpa using e)
  unfold restAt
  rw [drop_cons s hj, cutGo, if_pos h10, segB_self, extract_segB, segB_snoc s h hj]
theorem rest_other (s : ByteArray) {i j : Nat} (h : i ≤ j) (hj : j < s.size) (e : (s[j]'hj).toNat ≠ 10) : restAt s i j = restAt s i (j + 1) := by
  have h10 : s[j]'hj ≠ 10 := fun h => e (by rw [h]; rfl)
  unfold restAt
  rw [drop_cons s hj, cutGo, if_neg h10, segB_snoc s h hj]
theorem rest_end (s : ByteArray) {i j : Nat} (h : i ≤ j) (hj : j = s.size) : restAt s i j = if i < s.size then [s.extract i s.size] else [] := by
  have hz : s.data.toList.length = s.size := by simp
  subst hj
  unfold restAt
  rw [List.drop_of_length_le (by omega), cutGo]
  by_cases hi : i < s.size
  · rw [if_pos hi, if_neg (by
      intro e
      have : (segB s i s.size).length = 0 := by rw [e]; rfl
      simp [segB] at this; omega), extract_segB]
  · rw [if_neg hi, if_pos (by
      apply List.eq_nil_of_length_eq_zero
      simp [segB]; omega)]

end Go.Proofs.YtnnaigoomipklaaGreatDoor.M
