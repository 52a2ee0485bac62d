/-
  Plain facts on the places of lines behind hunks: no Go, no program.
-/
import Derived.Test.YtdejlepgihgfgaaHBase4
set_option linter.unusedSimpArgs false
set_option linter.unusedVariables false
namespace Go.Proofs.Ytdejlepgihgfgaa.M

/-- The same as rest_step, at the list's head. -/
theorem rest_cons {many : Int} {x : Hk} {hs : List Hk} {p : Nat} (h : restOk many (x :: hs) p) :
    ∃ a g : Nat, x.at_ = a ∧ x.gone = g ∧ p ≤ a ∧ ((a + g : Nat) : Int) ≤ many ∧ linesB x.new = true ∧ nothing x = false ∧ restOk many hs (a + g) ∧ restOk many hs (a + g + 1) := by
  obtain ⟨e, h1, h2⟩ := h
  rw [riseB, Bool.and_eq_true, Bool.and_eq_true, decide_eq_true_eq] at h1
  obtain ⟨⟨hb, he⟩, hr⟩ := h1
  obtain ⟨q0, q1, q2, q3, q4⟩ := hunkB_parts hb
  exact ⟨x.at_.toNat, x.gone.toNat, by omega, by omega, by omega, by omega, q4, q3, ⟨x.at_ + x.gone, hr, by omega⟩, ⟨x.at_ + x.gone, hr, by omega⟩⟩
theorem seg_get {l : List ByteArray} {p q i : Nat} (h : p + i < q) : (seg l p q)[i]? = l[p + i]? := by
  unfold seg
  rw [List.getElem?_drop, List.getElem?_take, if_pos h]
theorem place_before {k : Nat} : ∀ {many : Int} {hs : List Hk} {more : Int}, restOk many hs (k + 1) → placeFrom k more hs = some (k + more)
  | many, [], more, _ => rfl
  | many, x :: hs, more, h => by
    obtain ⟨a, g, ea, eg, h1, h2, _, _, h3, _⟩ := rest_cons h
    obtain ⟨e, hr, he⟩ := h3
    unfold placeFrom
    rw [if_neg (by omega), if_neg (by omega)]
    exact place_before ⟨e, hr, by omega⟩
theorem place_main {l : List ByteArray} {k : Nat} : ∀ {hs : List Hk} {p : Nat} {more r : Int}, restOk l.length hs p → p ≤ k → placeFrom k more hs = some r → (p : Int) + more ≤ r ∧ (patchFrom l p hs)[(r - p - more).toNat]? = l[k]?
  | [], p, more, r, _, hp, h => by
    simp only [placeFrom, Option.some.injEq] at h
    refine ⟨by omega, ?_⟩
    rw [patchFrom, List.getElem?_drop, show p + (r - ↑p - more).toNat = k from by omega]
  | x :: hs, p, more, r, hr, hp, h => by
    obtain ⟨a, g, ea, eg, h1, h2, _, _, h3, h4⟩ := rest_cons hr
    have hal : a + g ≤ l.length := by omega
    unfold placeFrom at h
    rw [ea, eg] at h
    rw [patchFrom, ea, eg, Int.toNat_natCast, show ((a : Int) + (g : Int)).toNat = a + g from by omega]
    have hsl : (seg l p a).length = a - p := by rw [seg_len]; omega
    split at h
    · obtain ⟨i1, i2⟩ := place_main h3 (by omega) h
      refine ⟨by omega, ?_⟩
      rw [← i2, List.getElem?_append_right (by simp [hsl]; omega)]
      congr 1
      simp [hsl]
      omega
    · split at h
      · cases h
      · rw [place_before (many := l.length) (by obtain ⟨e, hr, he⟩ := h4; exact ⟨e, hr, by omega⟩)] at h
        injection h with h
        refine ⟨by omega, ?_⟩
        rw [List.append_assoc, List.getElem?_append_left (by rw [hsl]; omega), seg_get (by omega)]
        congr 1
        omega
theorem place_mono {l : List ByteArray} {k1 k2 : Nat} (hk : k1 < k2) : ∀ {hs : List Hk} {p : Nat} {more r1 r2 : Int}, restOk l.length hs p → placeFrom k1 more hs = some r1 → placeFrom k2 more hs = some r2 → r1 < r2
  | [], p, more, r1, r2, _, h1, h2 => by
    simp only [placeFrom, Option.some.injEq] at h1 h2
    omega
  | x :: hs, p, more, r1, r2, hr, h1, h2 => by
    obtain ⟨a, g, ea, eg, _, _, _, _, h3, h4⟩ := rest_cons hr
    unfold placeFrom at h1 h2
    rw [ea, eg] at h1 h2
    split at h1
    · rw [if_pos (by omega)] at h2
      exact place_mono hk h3 h1 h2
    · split at h1
      · cases h1
      · rw [place_before (many := l.length) (by obtain ⟨e, hr, he⟩ := h4; exact ⟨e, hr, by omega⟩)] at h1
        injection h1 with h1
        split at h2
        · have := (place_main (l := l) h3 (by omega) h2).1
          omega
        · split at h2
          · cases h2
          · rw [place_before (many := l.length) (by obtain ⟨e, hr, he⟩ := h4; exact ⟨e, hr, by omega⟩)] at h2
            injection h2 with h2
            omega
/-- A line that stays, its place and its text. -/
theorem place_at {l : List ByteArray} {hs : List Hk} (hg : goodH l.length hs = true) {k : Nat} (hk : k < l.length) (h0 : 0 ≤ placeN hs k) :
    ∃ r : Nat, placeFrom k 0 hs = some (r : Int) ∧ placeN hs k = r ∧ (patchH l hs)[r]? = l[k]? ∧ r < (patchH l hs).length := by
  cases hp : placeFrom k 0 hs with
  | none => unfold placeN at h0; rw [hp] at h0; simp at h0
  | some r =>
    have hn : placeN hs k = r := by unfold placeN; rw [hp]; rfl
    obtain ⟨h1, h2⟩ := place_main (l := l) (p := 0) (by have := rest_start hg; simpa using this) (Nat.zero_le _) hp
    have hr : r = ((r.toNat : Nat) : Int) := by omega
    refine ⟨r.toNat, by rw [← hr], by omega, ?_, ?_⟩
    · have : (r - (0 : Nat) - 0).toNat = r.toNat := by omega
      rw [this] at h2
      exact h2
    · have : (r - (0 : Nat) - 0).toNat = r.toNat := by omega
      rw [this, List.getElem?_eq_getElem hk] at h2
      exact (List.getElem?_eq_some_iff.1 h2).1

end Go.Proofs.Ytdejlepgihgfgaa.M
