/-
  Groups read back, done to lines and done back: mathematics.
-/
import Derived.Test.YtkamenidgkjodaaGreatDoorQaUReads
import Derived.Test.YtkamenidgkjodaaGreatDoorQaGBase
import Derived.Test.YtkamenidgkjodaaGreatDoorQaGSpans
import Derived.Test.YtkamenidgkjodaaGreatDoorQaHBases
set_option linter.unusedSimpArgs false
set_option linter.unusedVariables false
namespace Go.Proofs.YtkamenidgkjodaaGreatDoor.M
open Go

/-! A range is told no shorter than by its own text. -/

theorem numL_dig {l : List UInt8} {n : Nat} (h : numL l = some n) : l = Lib.decDigits n := by
  have h1 := (numL_some h).2.2
  unfold Lib.itoa at h1
  rw [if_neg (by omega)] at h1
  simpa using h1.symm
theorem countL_text {f : List UInt8} {a o : Nat} (h : countL f = some (a, o)) : (countT a o).length ≤ f.length := by
  rcases split_cases 44 f with h1 | ⟨p, q, rfl, h1⟩
  · rw [countL_one h1] at h
    cases hn : numL f with
    | none => rw [hn] at h; cases h
    | some n =>
      rw [hn] at h
      dsimp only at h
      split at h
      · rename_i hc
        have h2 : n - 1 = a ∧ 1 = o := by simpa using h
        obtain ⟨rfl, rfl⟩ := h2
        have e1 := congrArg List.length (numL_dig hn)
        unfold countT numAt
        rw [if_neg (by omega), if_neg (by omega), show n - 1 + 1 = n by omega, List.append_nil]
        omega
      · cases h
  · rw [countL_both h1] at h
    cases hn : numL p with
    | none => rw [hn] at h; cases h
    | some n =>
      cases hm : numL q with
      | none => rw [hn, hm] at h; cases h
      | some m =>
        rw [hn, hm] at h
        dsimp only at h
        split at h
        · rename_i hc
          have h2 : n - numAt 0 m = a ∧ m = o := by simpa using h
          obtain ⟨rfl, rfl⟩ := h2
          have e1 := congrArg List.length (numL_dig hn)
          have e2 := congrArg List.length (numL_dig hm)
          have e3 : numAt (n - numAt 0 m) m = n := by
            have := hc.1
            unfold numAt at *
            split <;> simp_all <;> omega
          unfold countT
          rw [e3, List.length_append, List.length_append, List.length_cons]
          split
          · rw [List.length_cons]; omega
          · rw [List.length_nil]; omega
        · cases h
theorem head_len {hd : List UInt8} {a o t c : Nat} (h : HeadIs hd a o t c) : (headT a o t c).length ≤ hd.length := by
  obtain ⟨f, s, rfl, h1, h2⟩ := h
  have h3 := countL_text h1
  have h4 := countL_text h2
  unfold headT
  simp only [List.length_append]; omega
theorem Wrt.len : ∀ {g : List Gp} {s : List UInt8}, Wrt g s → (gpsT g).length ≤ s.length
  | [], s, h => by simp [gpsT]
  | x :: g, s, h => by
    obtain ⟨hd, s', h1, rfl, h2⟩ := h
    have h3 := head_len h1
    have h4 := Wrt.len h2
    rw [gpsT_cons, gpT, gpHead]
    simp only [List.length_append, List.length_cons, List.length_nil]; omega
theorem ReadIs.cases_ {s : List UInt8} {g : List Gp} {c : Int} {o : Bool} (h : ReadIs s g c o) :
    (c = 0 ∧ o = true ∧ goodG g = true ∧ textG g = (gpsT g, true) ∧ (gpsT g).length ≤ s.length) ∨ (g = [] ∧ c = 1 ∧ o = false) := by
  rcases h with ⟨h1, h2, h3, h4, h5⟩ | ⟨h1, h2, h3, _⟩
  · have h6 := h2.len
    exact .inl ⟨h4, h5, h1, by unfold textG; rw [if_pos ⟨h1, by omega⟩], h6⟩
  · exact .inr ⟨h1, h2, h3⟩

/-! Rows turned round. -/

/-! The hunks of rows hang on no order of what goes and what comes. -/

/-! Hunks of rows, turned round. -/

/-! What rows make of the lines. -/

/-! Hunks made into groups are there again. -/

/-- A group of hunks has a row at least. -/
theorem rowsM_pos {l : List ByteArray} {q : Nat} {hs : List Hk} {p : Nat} (h : restOk q hs p) (hq : q ≤ l.length) (hne : hs ≠ []) : 1 ≤ (rowsM l q p hs).length := by
  cases hs with
  | nil => exact absurd rfl hne
  | cons x r =>
    obtain ⟨a, g, ea, eg, h1, h2, _, hn, _, _⟩ := rest_cons h
    simp only [nothing, Bool.and_eq_false_iff, decide_eq_false_iff_not] at hn
    rw [rowsM]
    simp only [List.length_append, kR_len, seg_len]
    omega
theorem groups_pos {l : List ByteArray} {W : Nat} {hs : List Hk} (hg : goodH l.length hs = true) : ∀ (n i f : Nat), hs.length - i ≤ n → hs.length - i ≤ f →
    (groupsF l W f (moreH (hs.take i)) (hs.drop i)).length ≤ hs.length - i ∧ ∀ x ∈ groupsF l W f (moreH (hs.take i)) (hs.drop i), 1 ≤ x.rows.length := by
  intro n
  induction n with
  | zero =>
    intro i f hi hf
    rw [List.drop_eq_nil_of_le (by omega), groupsF_nil]
    exact ⟨by simp, fun x hx => by simp at hx⟩
  | succ n ihn =>
    intro i f hi hf
    by_cases hil : hs.length ≤ i
    · rw [List.drop_eq_nil_of_le hil, groupsF_nil]
      exact ⟨by simp, fun x hx => by simp at hx⟩
    · have hx : hs[i]? = some (hs[i]'(by omega)) := List.getElem?_eq_getElem (by omega)
      obtain ⟨k, f', y, _, hf', hk1, hkn, _, hy, hstep⟩ := group_step (l := l) (W := W) hx hf
      obtain ⟨r1, r2, r3, r4⟩ := group_rest (n := l.length) (W := W) hg rfl hx hk1 hy
      have ih := ihn (i + k) f' (by omega) hf'
      rw [hstep]
      refine ⟨by rw [List.length_cons]; have := ih.1; omega, fun z hz => ?_⟩
      rcases List.mem_cons.1 hz with rfl | hz
      · refine rowsM_pos r2 r4 ?_
        intro e
        have := congrArg List.length e
        simp at this
        omega
      · exact ih.2 z hz
theorem groupsOf_pos (l : List ByteArray) (hs : List Hk) (W : Int) : (groupsOf l hs W).1.length ≤ hs.length ∧ ∀ x ∈ (groupsOf l hs W).1, 1 ≤ x.rows.length := by
  by_cases hc : patchOk l hs = true ∧ 0 ≤ W ∧ W ≤ 20
  · have e : groupsOf l hs W = (groupsF l W.toNat hs.length 0 hs, true) := if_pos hc
    rw [e]
    have h := groups_pos (l := l) (W := W.toNat) (patchOk_parts hc.1).2.1 hs.length 0 hs.length (by omega) (by omega)
    simp only [List.take_zero, List.drop_zero, moreH] at h
    exact ⟨by have := h.1; dsimp only; omega, h.2⟩
  · have e : groupsOf l hs W = ([], false) := if_neg hc
    rw [e]
    exact ⟨by simp, fun x hx => by simp at hx⟩

end Go.Proofs.YtkamenidgkjodaaGreatDoor.M
