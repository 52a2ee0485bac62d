/-
  Plain facts on hunks that are joined: no Go, no program.
-/
import Derived.Test.YtdejlepgihgfgaaHBase5
set_option linter.unusedSimpArgs false
set_option linter.unusedVariables false
namespace Go.Proofs.Ytdejlepgihgfgaa.M

/-- Pairs of places that rise in both. -/
def rises : Nat → Nat → List (Nat × Nat) → Prop
  | _, _, [] => True
  | i, j, s :: t => i ≤ s.1 ∧ j ≤ s.2 ∧ rises (s.1 + 1) (s.2 + 1) t
theorem rises_snoc {t : Nat × Nat} : ∀ {L : List (Nat × Nat)} {i j : Nat}, rises i j L → (∀ s ∈ L, s.1 < t.1 ∧ s.2 < t.2) → i ≤ t.1 → j ≤ t.2 → rises i j (L ++ [t])
  | [], i, j, _, _, h1, h2 => ⟨h1, h2, trivial⟩
  | s :: L, i, j, h, hs, h1, h2 => by
    obtain ⟨a, b, c⟩ := h
    have := hs s (by simp)
    exact ⟨a, b, rises_snoc c (fun s hs' => hs s (by simp [hs'])) (by omega) (by omega)⟩
/-- A line that both leave: its place, and its place behind both. -/
def stayOf (a b : List Hk) (k : Nat) : Option (Nat × Nat) := if 0 ≤ placeN a k ∧ 0 ≤ placeN b (placeN a k) then some (k, (placeN b (placeN a k)).toNat) else none
def staysTo (a b : List Hk) (n : Nat) : List (Nat × Nat) := (List.range n).filterMap (stayOf a b)
theorem stays_step (a b : List Hk) (n : Nat) : staysTo a b (n + 1) = staysTo a b n ++ (stayOf a b n).toList := by
  unfold staysTo
  rw [List.range_succ, List.filterMap_append]
  cases h : stayOf a b n <;> simp [h]
theorem stays_len (a b : List Hk) : ∀ n, (staysTo a b n).length ≤ n
  | 0 => by simp [staysTo]
  | n + 1 => by
    rw [stays_step, List.length_append]
    have := stays_len a b n
    cases stayOf a b n <;> simp <;> omega
theorem stays_mem {a b : List Hk} {n : Nat} {s : Nat × Nat} (h : s ∈ staysTo a b n) : s.1 < n ∧ stayOf a b s.1 = some s := by
  unfold staysTo at h
  rw [List.mem_filterMap] at h
  obtain ⟨k, hk, e⟩ := h
  rw [List.mem_range] at hk
  have : s.1 = k := by
    unfold stayOf at e
    split at e
    · injection e with e; rw [← e]
    · cases e
  rw [this]
  exact ⟨hk, e⟩
theorem stay_parts {l : List ByteArray} {a b : List Hk} (ha : goodH l.length a = true) (hb : goodH (patchH l a).length b = true) {k : Nat} (hk : k < l.length) {s : Nat × Nat} (h : stayOf a b k = some s) :
    s.1 = k ∧ ∃ p : Nat, placeFrom k 0 a = some (p : Int) ∧ p < (patchH l a).length ∧ placeFrom p 0 b = some (s.2 : Int) ∧ s.2 < (patchH (patchH l a) b).length ∧ (patchH (patchH l a) b)[s.2]? = l[k]? := by
  unfold stayOf at h
  split at h
  · next h0 =>
    injection h with h
    obtain ⟨p, p1, p2, p3, p4⟩ := place_at ha hk h0.1
    rw [p2] at h0 h
    obtain ⟨q, q1, q2, q3, q4⟩ := place_at hb p4 h0.2
    rw [q2] at h
    have hs : s.2 = q := by rw [← h]; simp
    refine ⟨by rw [← h], p, p1, p4, by rw [hs]; exact q1, by rw [hs]; exact q4, by rw [hs, q3, p3]⟩
  · cases h
theorem stays_rise {l : List ByteArray} {a b : List Hk} (ha : goodH l.length a = true) (hb : goodH (patchH l a).length b = true) : ∀ n, n ≤ l.length → rises 0 0 (staysTo a b n)
  | 0, _ => trivial
  | n + 1, hn => by
    rw [stays_step]
    have ih := stays_rise ha hb n (by omega)
    cases h : stayOf a b n with
    | none => simpa using ih
    | some s =>
      obtain ⟨e, p, p1, p2, p3, _, _⟩ := stay_parts ha hb (by omega) h
      refine rises_snoc ih (fun t ht => ?_) (by omega) (by omega)
      obtain ⟨t1, t2⟩ := stays_mem ht
      obtain ⟨e', p', p1', p2', p3', _, _⟩ := stay_parts ha hb (show t.1 < l.length by omega) t2
      have h5 := place_mono (l := l) (show t.1 < n from t1) (p := 0) (by have := rest_start ha; simpa using this) p1' p1
      have h6 := place_mono (l := patchH l a) (show p' < p by omega) (p := 0) (by have := rest_start hb; simpa using this) p3' p3
      omega
def stopsOf (l : List ByteArray) (a b : List Hk) : List (Nat × Nat) := staysTo a b l.length ++ [(l.length, (patchH (patchH l a) b).length)]
theorem stops_rise {l : List ByteArray} {a b : List Hk} (ha : goodH l.length a = true) (hb : goodH (patchH l a).length b = true) : rises 0 0 (stopsOf l a b) := by
  refine rises_snoc (stays_rise ha hb _ (Nat.le_refl _)) (fun t ht => ?_) (by simp) (by simp)
  obtain ⟨t1, t2⟩ := stays_mem ht
  obtain ⟨e', p', p1', p2', p3', h5, _⟩ := stay_parts ha hb t1 t2
  exact ⟨t1, h5⟩
theorem stops_le {l : List ByteArray} {a b : List Hk} (ha : goodH l.length a = true) (hb : goodH (patchH l a).length b = true) {s : Nat × Nat} (h : s ∈ stopsOf l a b) : s.1 ≤ l.length ∧ s.2 ≤ (patchH (patchH l a) b).length := by
  rcases List.mem_append.1 h with h | h
  · obtain ⟨t1, t2⟩ := stays_mem h
    obtain ⟨e', p', p1', p2', p3', h5, _⟩ := stay_parts ha hb t1 t2
    omega
  · simp at h; rw [h]; exact ⟨Nat.le_refl _, Nat.le_refl _⟩
/-- Hunks of all that stands between. -/
def joinOne (last : List ByteArray) (i j : Nat) (s : Nat × Nat) : Hk := ⟨i, (s.1 : Int) - i, seg last j s.2⟩
def joinFrom (last : List ByteArray) : Nat → Nat → List (Nat × Nat) → List Hk
  | _, _, [] => []
  | i, j, s :: t => if i < s.1 ∨ j < s.2 then joinOne last i j s :: joinFrom last (s.1 + 1) (s.2 + 1) t else joinFrom last (s.1 + 1) (s.2 + 1) t
def joinH (l : List ByteArray) (a b : List Hk) : List Hk := joinFrom (patchH (patchH l a) b) 0 0 (stopsOf l a b)
def joinOk (l : List ByteArray) (a b : List Hk) : Bool := patchOk l a && patchOk (patchH l a) b && goodH l.length (joinH l a b)
def joinOf (l : List ByteArray) (a b : List Hk) : List Hk × Bool := if joinOk l a b = true then (joinH l a b, true) else ([], false)
theorem join_yes {last : List ByteArray} {i j k : Nat} {L : List (Nat × Nat)} {s : Nat × Nat} (h : L[k]? = some s) (hn : i < s.1 ∨ j < s.2) : joinFrom last i j (L.drop k) = joinOne last i j s :: joinFrom last (s.1 + 1) (s.2 + 1) (L.drop (k + 1)) := by
  rw [drop_at h, joinFrom, if_pos hn]
theorem join_no {last : List ByteArray} {i j k : Nat} {L : List (Nat × Nat)} {s : Nat × Nat} (h : L[k]? = some s) (hn : ¬ (i < s.1 ∨ j < s.2)) : joinFrom last i j (L.drop k) = joinFrom last (s.1 + 1) (s.2 + 1) (L.drop (k + 1)) := by
  rw [drop_at h, joinFrom, if_neg hn]
theorem join_end {last : List ByteArray} {i j k : Nat} {L : List (Nat × Nat)} (h : L.length ≤ k) : joinFrom last i j (L.drop k) = [] := by
  rw [List.drop_eq_nil_of_le h]; rfl
theorem rises_step {i j k : Nat} {L : List (Nat × Nat)} {s : Nat × Nat} (h : L[k]? = some s) (hr : rises i j (L.drop k)) : i ≤ s.1 ∧ j ≤ s.2 ∧ rises (s.1 + 1) (s.2 + 1) (L.drop (k + 1)) := by
  rw [drop_at h] at hr
  exact hr
theorem joinOf_len (l : List ByteArray) (a b : List Hk) : (joinOf l a b).1.length + totalH (joinOf l a b).1 ≤ 30000 := by
  unfold joinOf
  split
  · next h =>
    simp only [joinOk, Bool.and_eq_true] at h
    exact goodH_total h.2
  · simp [totalH]
theorem stops_len (l : List ByteArray) (a b : List Hk) : (stopsOf l a b).length ≤ l.length + 1 := by
  unfold stopsOf
  have := stays_len a b l.length
  simp
  omega

end Go.Proofs.Ytdejlepgihgfgaa.M
