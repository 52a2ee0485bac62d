/-
  Plain facts: hunks that are joined do at once what both do in turn. No Go, no program.
-/
import Derived.Test.YtdejlepgihgfgaaHBase8
set_option linter.unusedSimpArgs false
set_option linter.unusedVariables false
namespace Go.Proofs.Ytdejlepgihgfgaa.M

theorem seg_self (l : List ByteArray) (p : Nat) : seg l p p = [] := by
  apply List.eq_nil_of_length_eq_zero; rw [seg_len]; omega
theorem seg_one {l : List ByteArray} {p : Nat} {s : ByteArray} (h : l[p]? = some s) : seg l p (p + 1) = [s] := by
  apply List.ext_getElem?
  intro i
  cases i with
  | zero => rw [seg_get (by omega), Nat.add_zero, h]; rfl
  | succ i => rw [List.getElem?_eq_none (by rw [seg_len]; omega), List.getElem?_eq_none (by simp)]
theorem join_main {l last : List ByteArray} : ∀ {L : List (Nat × Nat)} {p i j : Nat}, rises i j (L ++ [(l.length, last.length)]) → (∀ s ∈ L, s.1 < l.length ∧ s.2 < last.length ∧ l[s.1]? = last[s.2]?) → p ≤ i →
    patchFrom l p (joinFrom last i j (L ++ [(l.length, last.length)])) = seg l p i ++ last.drop j
  | [], p, i, j, hr, _, hp => by
    obtain ⟨h1, h2, _⟩ := hr
    dsimp only at h1 h2
    rw [List.nil_append, joinFrom]
    split
    · rw [joinFrom, patchFrom, patchFrom]
      unfold joinOne
      dsimp only
      rw [Int.toNat_natCast, show ((i : Int) + ((l.length : Int) - (i : Int))).toNat = l.length from by omega, List.drop_eq_nil_of_le (Nat.le_refl _), List.append_nil]
      congr 1
      unfold seg
      rw [List.take_of_length_le (Nat.le_refl _)]
    · next hn =>
      dsimp only at hn
      rw [joinFrom, patchFrom, show i = l.length from by omega, show j = last.length from by omega, List.drop_eq_nil_of_le (Nat.le_refl _), List.append_nil]
      unfold seg
      rw [List.take_of_length_le (Nat.le_refl _)]
  | s :: L, p, i, j, hr, hs, hp => by
    rw [List.cons_append] at hr ⊢
    obtain ⟨h1, h2, hr⟩ := hr
    obtain ⟨s1, s2, s3⟩ := hs s (by simp)
    have hs' : ∀ t ∈ L, t.1 < l.length ∧ t.2 < last.length ∧ l[t.1]? = last[t.2]? := fun t ht => hs t (by simp [ht])
    obtain ⟨c, hc⟩ : ∃ c, l[s.1]? = some c := ⟨_, List.getElem?_eq_getElem s1⟩
    have hc2 : last[s.2]? = some c := by rw [← s3]; exact hc
    have hd : last.drop j = seg last j s.2 ++ (c :: last.drop (s.2 + 1)) := by rw [← drop_at hc2, seg_drop h2]
    rw [joinFrom]
    split
    · rw [patchFrom]
      unfold joinOne
      dsimp only
      rw [Int.toNat_natCast, show ((i : Int) + ((s.1 : Int) - (i : Int))).toNat = s.1 from by omega, join_main hr hs' (show s.1 ≤ s.1 + 1 by omega), seg_one hc, hd]
      simp only [List.append_assoc, List.singleton_append]
    · next hn =>
      have ei : i = s.1 := by omega
      have ej : j = s.2 := by omega
      rw [join_main hr hs' (show p ≤ s.1 + 1 by omega), ← seg_seg (show p ≤ s.1 by omega) (show s.1 ≤ s.1 + 1 by omega), seg_one hc, hd, ej, seg_self, ei]
      simp only [List.append_assoc, List.singleton_append, List.nil_append]
theorem join_ok {l : List ByteArray} {a b : List Hk} (h : joinOk l a b = true) : patchOk l a = true ∧ patchOk (patchH l a) b = true ∧ patchOk l (joinH l a b) = true ∧ patchH l (joinH l a b) = patchH (patchH l a) b := by
  simp only [joinOk, Bool.and_eq_true] at h
  obtain ⟨⟨h1, h2⟩, h3⟩ := h
  obtain ⟨a1, a2, a3⟩ := patchOk_parts h1
  obtain ⟨b1, b2, b3⟩ := patchOk_parts h2
  have hj : patchH l (joinH l a b) = patchH (patchH l a) b := by
    have := join_main (l := l) (last := patchH (patchH l a) b) (L := staysTo a b l.length) (p := 0) (i := 0) (j := 0) (stops_rise a2 b2) (fun s hs => by
      obtain ⟨t1, t2⟩ := stays_mem hs
      obtain ⟨e', p', p1', p2', p3', h5, h6⟩ := stay_parts a2 b2 t1 t2
      exact ⟨t1, h5, h6.symm⟩) (Nat.le_refl _)
    rw [seg_self, List.nil_append, List.drop_zero] at this
    exact this
  refine ⟨h1, h2, ?_, hj⟩
  simp only [patchOk, Bool.and_eq_true, hj]
  exact ⟨⟨a1, h3⟩, b3⟩
/-- A line that stays stands at its place. -/
theorem place_line {l : List ByteArray} {hs : List Hk} (h : patchOk l hs = true) {k : Nat} {s : ByteArray} (hk : l[k]? = some s) (hp : (placeOf hs l.length k).2 = true) :
    ∃ p : Nat, (placeOf hs l.length k).1 = p ∧ p < (patchH l hs).length ∧ (patchH l hs)[p]? = some s := by
  obtain ⟨h1, h2, h3⟩ := patchOk_parts h
  have hkl : k < l.length := (List.getElem?_eq_some_iff.1 hk).1
  unfold placeOf at hp ⊢
  split at hp
  · next hc =>
    obtain ⟨r, r1, r2, r3, r4⟩ := place_at h2 hkl hc.2.2.2
    rw [if_pos hc]
    exact ⟨r, r2, r4, by rw [r3, hk]⟩
  · cases hp

end Go.Proofs.Ytdejlepgihgfgaa.M
