/-
  Plain facts on bytes, texts and lists of texts: no Go, no program.
-/
import Derived.WalkKit
namespace Go.Proofs.Ytocfkdbaeagfiaa.M

/-- A text that is a line by itself. -/
def lineB (s : ByteArray) : Bool := decide (1 ≤ s.size) && decide (s.size ≤ 30) && s.data.toList.dropLast.all (fun c => c != 10)
/-- A text whose last byte is 10. -/
def endsB (s : ByteArray) : Bool := s.data.toList.getLast? == some 10

theorem dropLast_get (s : ByteArray) (k : Nat) (h : k + 1 < s.size) : s.data.toList.dropLast[k]? = some (s[k]'(by omega)) := by
  rw [List.getElem?_dropLast, if_pos (by simpa using (by omega : k < s.size - 1)), List.getElem?_eq_getElem (by simp; omega)]
  rfl

theorem lineB_nl (s : ByteArray) (k : Nat) (h : k + 1 < s.size) (e : (s[k]'(by omega)).toNat = 10) : lineB s = false := by
  have h1 : (s[k]'(by omega)) = 10 := UInt8.toNat.inj (by simpa using e)
  have h2 : (10 : UInt8) ∈ s.data.toList.dropLast := List.mem_of_getElem? (by rw [dropLast_get s k h, h1])
  have h3 : s.data.toList.dropLast.all (fun c => c != 10) = false := by
    rw [List.all_eq_false]; exact ⟨10, h2, by simp⟩
  simp [lineB, h3]

theorem lineB_none (s : ByteArray) (h : ∀ j (hj : j + 1 < s.size), (s[j]'(by omega)).toNat ≠ 10) : lineB s = (decide (1 ≤ s.size) && decide (s.size ≤ 30)) := by
  have h3 : s.data.toList.dropLast.all (fun c => c != 10) = true := by
    rw [List.all_eq_true]
    intro x hx
    obtain ⟨j, hj⟩ := List.mem_iff_getElem?.1 hx
    by_cases hlt : j + 1 < s.size
    · rw [dropLast_get s j hlt] at hj
      have := h j hlt
      simp at hj
      subst hj
      simp
      intro e
      exact this (by rw [e]; rfl)
    · rw [List.getElem?_eq_none (by simp; omega)] at hj
      cases hj
  simp [lineB, h3]

theorem endsB_eq (s : ByteArray) (h : 0 < s.size) : endsB s = ((s[s.size - 1]'(by omega)).toNat == 10) := by
  have e : s.data.toList.getLast? = some (s[s.size - 1]'(by omega)) := by
    rw [List.getLast?_eq_getElem?, List.getElem?_eq_getElem (by simp; omega)]
    simp
    rfl
  unfold endsB
  rw [e, Bool.eq_iff_iff]
  simp
  exact ⟨fun h => by rw [h]; rfl, fun h => UInt8.toNat.inj (by simpa using h)⟩

theorem lineB_size {s : ByteArray} (h : lineB s = true) : 1 ≤ s.size ∧ s.size ≤ 30 := by
  unfold lineB at h; simp at h; omega

/-- What a rune at a place takes with it holds no byte 10, and it is 10 just where its first byte is. -/
theorem decode_ten (s : ByteArray) (pos : Nat) (h : pos < s.size) :
    ((Utf8.decode s pos).1 = 10 ↔ (s[pos]'h).toNat = 10) ∧ 1 ≤ (Utf8.decode s pos).2 ∧ pos + (Utf8.decode s pos).2 ≤ s.size ∧
    (∀ k (hk : pos + k < s.size), 0 < k → k < (Utf8.decode s pos).2 → (s[pos + k]'hk).toNat ≠ 10) := by
  have hg : ∀ k (hk : pos + k < s.size), s.get! (pos + k) = s[pos + k]'hk := by
    intro k hk
    simp [ByteArray.get!, getElem!_pos, hk]
    rfl
  by_cases ha : (s[pos]'h).toNat < 128
  · rw [decode_ascii s pos h ha]
    exact ⟨Iff.rfl, Nat.le_refl _, by simp; omega, by intros; simp at *; omega⟩
  · have h0 := hg 0 (by omega)
    have hn : ¬ (s.get! (pos + 0)).toNat < 128 := by rw [h0]; exact ha
    have h128 := (decode_high s pos h (by omega)).1
    refine ⟨⟨fun e => by omega, fun e => by omega⟩, ?_, ?_, ?_⟩
    · exact (decode_high s pos h (by omega)).2
    · simp only [Utf8.decode, hn, if_false]
      repeat' split
      all_goals simp_all
      all_goals omega
    · intro k hk h1
      rw [← hg k hk]
      clear hg
      simp only [Utf8.decode, hn, if_false]
      repeat' split
      all_goals intro h2
      all_goals simp_all
      all_goals first
        | omega
        | (rcases (by omega : k = 1 ∨ k = 2 ∨ k = 3) with e | e | e <;> subst e <;> omega)

/-- The last byte, cut off and held against the one byte 10. -/
theorem suffix_nl (s : ByteArray) (h : 0 < s.size) : ((s.extract (s.size - 1) s.size).toList == [10]) = endsB s := by
  have hz : s.data.toList.length = s.size := by simp
  have e : (s.extract (s.size - 1) s.size).toList = [s[s.size - 1]'(by omega)] := by
    rw [ByteArray.toList_eq, ByteArray.data_extract, Array.toList_extract]
    show (s.data.toList.drop (s.size - 1)).take (s.size - (s.size - 1)) = _
    rw [List.drop_eq_getElem_cons (by omega), show s.size - (s.size - 1) = 0 + 1 from by omega, List.take_succ_cons, List.take_zero]
    rfl
  rw [e, endsB_eq s h, Bool.eq_iff_iff]
  simp
  exact ⟨fun h => by rw [h]; rfl, fun h => UInt8.toNat.inj (by simpa using h)⟩

theorem endsB_empty (s : ByteArray) (h : s.size = 0) : endsB s = false := by
  have hz : s.data.toList.length = s.size := by simp
  have e : s.data.toList = [] := List.eq_nil_of_length_eq_zero (by omega)
  unfold endsB; rw [e]; rfl

/-- A line without its byte 10. -/
def plain (s : ByteArray) : ByteArray := if endsB s then s.extract 0 (s.size - 1) else s

end Go.Proofs.Ytocfkdbaeagfiaa.M
