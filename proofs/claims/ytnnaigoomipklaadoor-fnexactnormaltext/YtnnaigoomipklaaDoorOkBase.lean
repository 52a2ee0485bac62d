/-
  Plain facts on bytes, texts and lists of texts: no Go, no program.
-/
import Derived.WalkKit
set_option linter.unusedSimpArgs false
set_option linter.unusedVariables false
namespace Go.Proofs.YtnnaigoomipklaaDoor.M

/-- A text that is a line by itself. -/
def lineB (s : ByteArray) : Bool := decide (1 ≤ s.size) && decide (s.size ≤ 30) && s.data.toList.dropLast.all (fun c => c != 10)
/-- A text whose last byte is 10. -/
def endsB (s : ByteArray) : Bool := s.data.toList.getLast? == some 10

theorem dropLast_get (s : ByteArray) (k : Nat) (h : k + 1 < s.size) : s.data.toList.dropLast[k]? = some (s[k]'(by omega)) := by
  rw [List.getElem?_dropLast, if_pos (by simpa using (by omega : k < s.size - 1)), List.getElem?_eq_getElem (by simp; omega)]
  rfl

theorem lineB_nl (s : ByteArray) (k : Nat) (h : k + 1 < s.size) (e : (s[k]'(by omega)).toNat = 10) : lineB s = false := by
  have h1 : (s[k]'(by omega)) = 10 := UInt8.toNat.inj (by simpa using e)
  have h2 : (10 : UInt8) ∈ s.data.toList.dropLast := List.mem_of_getElem? (by rw [dropLast_get s k h, h1])
  have h3 : s.data.toList.dropLast.all (fun c => c != 10) = false := by
    rw [List.all_eq_false]; exact ⟨10, h2, by simp⟩
  simp [lineB, h3]

theorem lineB_none (s : ByteArray) (h : ∀ j (hj : j + 1 < s.size), (s[j]'(by omega)).toNat ≠ 10) : lineB s = (decide (1 ≤ s.size) && decide (s.size ≤ 30)) := by
  have h3 : s.data.toList.dropLast.all (fun c => c != 10) = true := by
    rw [List.all_eq_true]
    intro x hx
    obtain ⟨j, hj⟩ := List.mem_iff_getElem?.1 hx
    by_cases hlt : j + 1 < s.size
    · rw [dropLast_get s j hlt] at hj
      have := h j hlt
      simp at hj
      subst hj
      simp
      intro e
      exact this (by rw [e]; rfl)
    · rw [List.getElem?_eq_none (by simp; omega)] at hj
      cases hj
  simp [lineB, h3]

theorem endsB_eq (s : ByteArray) (h : 0 < s.size) : endsB s = ((s[s.size - 1]'(by omega)).toNat == 10) := by
  have e : s.data.toList.getLast? = some (s[s.size - 1]'(by omega)) := by
    rw [List.getLast?_eq_getElem?, List.getElem?_eq_getElem (by simp; omega)]
    simp
    rfl
  unfold endsB
  rw [e, Bool.eq_iff_iff]
  simp
  exact ⟨fun h => by rw [h]; rfl, fun h => UInt8.toNat.inj (by simpa using h)⟩

theorem lineB_size {s : ByteArray} (h : lineB s = true) : 1 ≤ s.size ∧ s.size ≤ 30 := by
  unfold lineB at h; simp at h; omega

/-- What a rune at a place takes with it holds no byte 10, and it is 10 just where its first byte is. -/
theorem decode_ten (s : ByteArray) (pos : Nat) (h : pos < s.size) :
    ((Utf8.decode s pos).1 = 10 ↔ (s[pos]'h).toNat = 10) ∧ 1 ≤ (Utf8.decode s pos).2 ∧ pos + (Utf8.decode s pos).2 ≤ s.size ∧
    (∀ k (hk : pos + k < s.size), 0 < k → k < (Utf8.decode s pos).2 → (s[pos + k]'hk).toNat ≠ 10) := by
  have hg : ∀ k (hk : pos + k < s.size), s.get! (pos + k) = s[pos + k]'hk := by
    intro k hk
    simp [ByteArray.get!, getElem!_pos, hk]
    rfl
  by_cases ha : (s[pos]'h).toNat < 128
  · rw [decode_ascii s pos h ha]
    exact ⟨Iff.rfl, Nat.le_refl _, by simp; omega, by intros; simp at *; omega⟩
  · have h0 := hg 0 (by omega)
    have hn : ¬ (s.get! (pos + 0)).toNat < 128 := by rw [h0]; exact ha
    have h128 := (decode_high s pos h (by omega)).1
    refine ⟨⟨fun e => by omega, fun e => by omega⟩, ?_, ?_, ?_⟩
    · exact (decode_high s pos h (by omega)).2
    · simp only [Utf8.decode, hn, if_false]
      repeat' split
      all_goals simp_all
      all_goals omega
    · intro k hk h1
      rw [← hg k hk]
      clear hg
      simp only [Utf8.decode, hn, if_false]
      repeat' split
      all_goals intro h2
      all_goals simp_all
      all_goals first
        | omega
        | (rcases (by omega : k = 1 ∨ k = 2 ∨ k = 3) with e | e | e <;> subst e <;> omega)

/-- The last byte, cut off and held against the one byte 10. -/
theorem suffix_nl (s : ByteArray) (h : 0 < s.size) : ((s.extract (s.size - 1) s.size).toList == [10]) = endsB s := by
  have hz : s.data.toList.length = s.size := by simp
  have e : (s.extract (s.size - 1) s.size).toList = [s[s.size - 1]'(by omega)] := by
    rw [ByteArray.toList_eq, ByteArray.data_extract, Array.toList_extract]
    show (s.data.toList.drop (s.size - 1)).take (s.size - (s.size - 1)) = _
    rw [List.drop_eq_getElem_cons (by omega), show s.size - (s.size - 1) = 0 + 1 from by omega, List.take_succ_cons, List.take_zero]
    rfl
  rw [e, endsB_eq s h, Bool.eq_iff_iff]
  simp
  exact ⟨fun h => by rw [h]; rfl, fun h => UInt8.toNat.inj (by simpa using h)⟩

theorem endsB_empty (s : ByteArray) (h : s.size = 0) : endsB s = false := by
  have hz : s.data.toList.length = s.size := by simp
  have e : s.data.toList = [] := List.eq_nil_of_length_eq_zero (by omega)
  unfold endsB; rw [e]; rfl

/-- Good lines. -/
def okAt (n k : Nat) (s : ByteArray) : Bool := lineB s && (decide (n ≤ k + 1) || endsB s)
def goodFrom (n : Nat) : Nat → List ByteArray → Bool
  | _, [] => true
  | k, s :: l => okAt n k s && goodFrom n (k + 1) l
def goodB (l : List ByteArray) : Bool := decide (l.length ≤ 40) && goodFrom l.length 0 l

theorem goodFrom_iff (n : Nat) : ∀ (l : List ByteArray) (k : Nat), goodFrom n k l = true ↔ ∀ j s, l[j]? = some s → okAt n (k + j) s = true
  | [], k => by simp [goodFrom]
  | s :: l, k => by
    rw [goodFrom, Bool.and_eq_true, goodFrom_iff n l (k + 1)]
    constructor
    · rintro ⟨h1, h2⟩ j t hj
      cases j with
      | zero => simp at hj; subst hj; exact h1
      | succ j => have := h2 j t (by simpa using hj); rwa [show k + 1 + j = k + (j + 1) from by omega] at this
    · intro h
      refine ⟨h 0 s rfl, fun j t hj => ?_⟩
      have := h (j + 1) t (by simpa using hj)
      rwa [show k + (j + 1) = k + 1 + j from by omega] at this

theorem goodB_bad {l : List ByteArray} {k : Nat} {s : ByteArray} (hk : l[k]? = some s) (h : okAt l.length k s = false) : goodB l = false := by
  have h1 : goodFrom l.length 0 l = false := by
    rw [Bool.eq_false_iff]
    intro e
    have := (goodFrom_iff l.length l 0).1 e k s hk
    rw [Nat.zero_add, h] at this
    cases this
  simp [goodB, h1]
theorem goodB_ok {l : List ByteArray} (h : ∀ j s, l[j]? = some s → okAt l.length j s = true) : goodB l = decide (l.length ≤ 40) := by
  have h1 := (goodFrom_iff l.length l 0).2 (fun j s hj => by rw [Nat.zero_add]; exact h j s hj)
  simp [goodB, h1]
theorem goodB_at {l : List ByteArray} (h : goodB l = true) {j : Nat} {s : ByteArray} (hj : l[j]? = some s) : lineB s = true ∧ (j + 1 < l.length → endsB s = true) := by
  unfold goodB at h
  rw [Bool.and_eq_true] at h
  have := (goodFrom_iff l.length l 0).1 h.2 j s hj
  unfold okAt at this
  simp at this
  exact ⟨this.1, fun hl => by rcases this.2 with h | h; omega; exact h⟩
theorem goodB_len {l : List ByteArray} (h : goodB l = true) : l.length ≤ 40 := by
  unfold goodB at h; simp at h; exact h.1

/-- All bytes of some texts. -/
def total : List ByteArray → Nat
  | [] => 0
  | s :: l => s.size + total l
theorem total_append (a b : List ByteArray) : total (a ++ b) = total a + total b := by
  induction a with
  | nil => simp [total]
  | cons s a ih => simp [total, ih]; omega
theorem total_take_succ {l : List ByteArray} {k : Nat} {s : ByteArray} (h : l[k]? = some s) : total (l.take (k + 1)) = total (l.take k) + s.size := by
  rw [List.take_add_one, h, total_append]; simp [total]
theorem total_take_le (l : List ByteArray) (k : Nat) : total (l.take k) ≤ total l := by
  have h := total_append (l.take k) (l.drop k)
  rw [List.take_append_drop] at h
  omega
/-- What is left of a measure when texts are counted off, -1 where it does not reach. -/
def szS (l : List ByteArray) (left : Int) : Int := if left < l.length + total l then -1 else left - l.length - total l

/-- A list that is being filled: its first k, and blanks behind. -/
def fill (l : List ByteArray) (k : Nat) : List ByteArray := l.take k ++ List.replicate (l.length - k) ByteArray.empty
theorem fill_len (l : List ByteArray) {k : Nat} (h : k ≤ l.length) : (fill l k).length = l.length := by simp [fill]; omega
theorem fill_zero (l : List ByteArray) : fill l 0 = List.replicate l.length ByteArray.empty := by simp [fill]
theorem fill_all (l : List ByteArray) {k : Nat} (h : l.length ≤ k) : fill l k = l := by
  simp [fill, List.take_of_length_le h, show l.length - k = 0 from by omega]
theorem fill_set {l : List ByteArray} {k : Nat} {s : ByteArray} (h : l[k]? = some s) : (fill l k).set k s = fill l (k + 1) := by
  have hk : k < l.length := (List.getElem?_eq_some_iff.1 h).1
  unfold fill
  rw [List.set_append, if_neg (by simp; omega), List.take_add_one, h]
  simp only [List.length_take, Nat.min_eq_left (Nat.le_of_lt hk), Nat.sub_self, Option.toList_some, List.append_assoc, List.singleton_append]
  rw [show l.length - k = (l.length - (k + 1)) + 1 from by omega, List.replicate_succ, List.set_cons_zero]

/-- Two lists of texts are the same. -/
def eqT (l r : List ByteArray) : Bool := decide (l = r)
theorem eqT_len {l r : List ByteArray} (h : l.length ≠ r.length) : eqT l r = false := by
  simp [eqT]; intro e; exact h (by rw [e])
theorem eqT_at {l r : List ByteArray} {k : Nat} {s t : ByteArray} (hs : l[k]? = some s) (ht : r[k]? = some t) (h : s ≠ t) : eqT l r = false := by
  simp [eqT]; intro e; rw [e, ht] at hs; injection hs with hs; exact h hs.symm
theorem eqT_all {l r : List ByteArray} (h : ∀ (j : Nat) s t, l[j]? = some s → r[j]? = some t → s = t) (hl : l.length = r.length) : eqT l r = true := by
  simp only [eqT, decide_eq_true_eq]
  apply List.ext_getElem? 
  intro j
  by_cases hj : j < l.length
  · have h1 := List.getElem?_eq_getElem hj
    have h2 := List.getElem?_eq_getElem (show j < r.length by omega)
    rw [h1, h2, h j _ _ h1 h2]
  · rw [List.getElem?_eq_none (by omega), List.getElem?_eq_none (by omega)]
theorem beq_bytes (s t : ByteArray) : (s.toList == t.toList) = decide (s = t) := by
  rw [ByteArray.toList_eq, ByteArray.toList_eq, Bool.eq_iff_iff]
  simp
  exact ⟨fun h => by cases s; cases t; simp_all, fun h => by rw [h]⟩
theorem beq_same (s : ByteArray) : (s.toList == s.toList) = true := by simp
theorem beq_other {s t : ByteArray} (h : s ≠ t) : (s.toList == t.toList) = false := by rw [beq_bytes]; simp [h]

theorem eqT_refl (l : List ByteArray) : eqT l l = true := by simp [eqT]

end Go.Proofs.YtnnaigoomipklaaDoor.M
