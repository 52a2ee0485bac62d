/-
  Plain facts: trimmed hunks do the same. No Go, no program.
-/
import Derived.Test.YtdejlepgihgfgaaHBase7
set_option linter.unusedSimpArgs false
set_option linter.unusedVariables false
namespace Go.Proofs.Ytdejlepgihgfgaa.M

theorem upto_all (p : Nat → Bool) : ∀ (f k i : Nat), k ≤ i → i < upto p f k → p i = true
  | 0, k, i, h1, h2 => by simp [upto] at h2; omega
  | f + 1, k, i, h1, h2 => by
    unfold upto at h2
    split at h2
    · next hk =>
      by_cases e : i = k
      · rw [e]; exact hk
      · exact upto_all p f (k + 1) i (by omega) h2
    · omega
theorem upto_stop (p : Nat → Bool) : ∀ (f k : Nat), upto p f k = k + f ∨ p (upto p f k) = false
  | 0, k => .inl rfl
  | f + 1, k => by
    unfold upto
    split
    · rcases upto_stop p f (k + 1) with h | h
      · exact .inl (by omega)
      · exact .inr h
    · next hk => exact .inr (by simpa using hk)
theorem ahead_same {l r : List ByteArray} : l.take (aheadT l r) = r.take (aheadT l r) := by
  apply List.ext_getElem?
  intro j
  rw [List.getElem?_take, List.getElem?_take]
  split
  · next h =>
    have := upto_all (aheadP l r) _ 0 j (by omega) h
    simpa [aheadP] using this
  · rfl
theorem ahead_end {l r : List ByteArray} (h1 : aheadT l r < l.length) (h2 : aheadT l r < r.length) : l[aheadT l r]? ≠ r[aheadT l r]? := by
  rcases upto_stop (aheadP l r) (min l.length r.length) 0 with h | h
  · unfold aheadT at h1 h2; omega
  · intro e
    have : aheadP l r (aheadT l r) = true := by simp [aheadP, e]
    rw [show aheadP l r (aheadT l r) = false from h] at this
    cases this
theorem behind_same {l r : List ByteArray} : l.drop (l.length - behindT l r) = r.drop (r.length - behindT l r) := by
  obtain ⟨h1, h2⟩ := behind_le l r
  apply List.ext_getElem?
  intro j
  rw [List.getElem?_drop, List.getElem?_drop]
  by_cases hj : j < behindT l r
  · have h3 := upto_all (behindP l r) _ 0 (behindT l r - 1 - j) (by omega) (show behindT l r - 1 - j < behindT l r by omega)
    simp only [behindP, decide_eq_true_eq] at h3
    rw [show l.length - behindT l r + j = l.length - 1 - (behindT l r - 1 - j) from by omega, show r.length - behindT l r + j = r.length - 1 - (behindT l r - 1 - j) from by omega]
    exact h3
  · rw [List.getElem?_eq_none (by omega), List.getElem?_eq_none (by omega)]
theorem behind_end {l r : List ByteArray} (h1 : aheadT l r + behindT l r < l.length) (h2 : aheadT l r + behindT l r < r.length) : l[l.length - 1 - behindT l r]? ≠ r[r.length - 1 - behindT l r]? := by
  rcases upto_stop (behindP l r) (min l.length r.length - aheadT l r) 0 with h | h
  · have h5 : behindT l r = 0 + (min l.length r.length - aheadT l r) := h
    omega
  · intro e
    have : behindP l r (behindT l r) = true := by simp [behindP, e]
    rw [show behindP l r (behindT l r) = false from h] at this
    cases this
theorem ahead_zero {l r : List ByteArray} (h : l.length = 0 ∨ r.length = 0 ∨ l[0]? ≠ r[0]?) : aheadT l r = 0 := by
  unfold aheadT
  refine upto_is (Nat.zero_le _) (fun j hj => by omega) ?_
  rcases h with h | h | h
  · exact .inl (by omega)
  · exact .inl (by omega)
  · exact .inr (by simpa [aheadP] using h)
theorem behind_zero {l r : List ByteArray} (h : l.length = 0 ∨ r.length = 0 ∨ l[l.length - 1]? ≠ r[r.length - 1]?) : behindT l r = 0 := by
  unfold behindT
  refine upto_is (Nat.zero_le _) (fun j hj => by omega) ?_
  rcases h with h | h | h
  · exact .inl (by omega)
  · exact .inl (by omega)
  · exact .inr (by simpa [behindP] using h)
theorem patch_shift {l : List ByteArray} {many : Int} {p q : Nat} (hpq : p ≤ q) : ∀ {hs : List Hk}, restOk many hs q → patchFrom l p hs = seg l p q ++ patchFrom l q hs
  | [], _ => by rw [patchFrom, patchFrom, seg_drop hpq]
  | x :: hs, h => by
    obtain ⟨a, g, ea, eg, h1, _⟩ := rest_cons h
    rw [patchFrom, patchFrom, ea, Int.toNat_natCast, ← seg_seg hpq h1]
    simp only [List.append_assoc]
theorem rise_weak {many e e' : Int} (he : e' ≤ e) : ∀ {hs : List Hk}, riseB many e hs = true → riseB many e' hs = true
  | [], _ => rfl
  | x :: hs, h => by
    rw [riseB, Bool.and_eq_true, Bool.and_eq_true, decide_eq_true_eq] at h ⊢
    exact ⟨⟨h.1.1, by omega⟩, h.2⟩
/-- One hunk that is trimmed, in naturals. -/
theorem trim_parts {l : List ByteArray} {x : Hk} {e : Int} (hb : hunkB l.length x = true) :
    ∃ a g m na nb : Nat, x.at_ = a ∧ x.gone = g ∧ x.new.length = m ∧ a + g ≤ l.length ∧ na + nb ≤ g ∧ na + nb ≤ m ∧ oldOf l x = seg l a (a + g) ∧ trimOne l x = ⟨((a + na : Nat) : Int), ((g - na - nb : Nat) : Int), seg x.new na (m - nb)⟩ ∧
      seg l a (a + na) = seg x.new 0 na ∧ seg l (a + g - nb) (a + g) = x.new.drop (m - nb) ∧ oldOf l (trimOne l x) = seg l (a + na) (a + g - nb) ∧ trimOne l (trimOne l x) = trimOne l x := by
  obtain ⟨q0, q1, q2, q3, q4⟩ := hunkB_parts hb
  obtain ⟨a, ea⟩ : ∃ a : Nat, x.at_ = a := ⟨x.at_.toNat, by omega⟩
  obtain ⟨g, eg⟩ : ∃ g : Nat, x.gone = g := ⟨x.gone.toNat, by omega⟩
  have hold : oldOf l x = seg l a (a + g) := by unfold oldOf; rw [ea, eg, Int.toNat_natCast, show ((a : Int) + (g : Int)).toNat = a + g from by omega]
  have hol : (seg l a (a + g)).length = g := by rw [seg_len]; omega
  obtain ⟨h1, h2⟩ := behind_le (seg l a (a + g)) x.new
  have hA := ahead_same (l := seg l a (a + g)) (r := x.new)
  have hB := behind_same (l := seg l a (a + g)) (r := x.new)
  have hAE := ahead_end (l := seg l a (a + g)) (r := x.new)
  have hBE := behind_end (l := seg l a (a + g)) (r := x.new)
  obtain ⟨na, ena⟩ : ∃ na, aheadT (seg l a (a + g)) x.new = na := ⟨_, rfl⟩
  obtain ⟨nb, enb⟩ : ∃ nb, behindT (seg l a (a + g)) x.new = nb := ⟨_, rfl⟩
  obtain ⟨m, em⟩ : ∃ m : Nat, x.new.length = m := ⟨_, rfl⟩
  rw [ena, enb, hol] at h1
  rw [ena, enb, em] at h2
  rw [ena] at hA
  rw [enb, hol, em] at hB
  rw [ena, hol, em] at hAE
  rw [ena, enb, hol, em] at hBE
  have hT : trimOne l x = ⟨((a + na : Nat) : Int), ((g - na - nb : Nat) : Int), seg x.new na (m - nb)⟩ := by
    unfold trimOne
    rw [hold, ena, enb, em, ea, eg]
    exact Hk.ext_ (by dsimp only; omega) (by dsimp only; omega) rfl
  have ho2 : oldOf l (trimOne l x) = seg l (a + na) (a + g - nb) := by
    rw [hT]
    unfold oldOf
    dsimp only
    rw [Int.toNat_natCast, show (((a + na : Nat) : Int) + ((g - na - nb : Nat) : Int)).toNat = a + g - nb from by omega]
  have hL : (seg l (a + na) (a + g - nb)).length = g - na - nb := by rw [seg_len]; omega
  have hR : (seg x.new na (m - nb)).length = m - na - nb := by rw [seg_len, em]; omega
  have hgetL : ∀ i, i < g - na - nb → (seg l (a + na) (a + g - nb))[i]? = (seg l a (a + g))[na + i]? := fun i hi => by
    rw [seg_get (by omega), seg_get (by omega), Nat.add_assoc]
  have hgetR : ∀ i, i < m - na - nb → (seg x.new na (m - nb))[i]? = x.new[na + i]? := fun i hi => by rw [seg_get (by omega)]
  have z1 : aheadT (seg l (a + na) (a + g - nb)) (seg x.new na (m - nb)) = 0 := by
    apply ahead_zero
    rw [hL, hR]
    by_cases c1 : g - na - nb = 0
    · exact .inl c1
    · by_cases c2 : m - na - nb = 0
      · exact .inr (.inl c2)
      · refine .inr (.inr ?_)
        rw [hgetL 0 (by omega), hgetR 0 (by omega)]
        exact hAE (by omega) (by omega)
  have z2 : behindT (seg l (a + na) (a + g - nb)) (seg x.new na (m - nb)) = 0 := by
    apply behind_zero
    rw [hL, hR]
    by_cases c1 : g - na - nb = 0
    · exact .inl c1
    · by_cases c2 : m - na - nb = 0
      · exact .inr (.inl c2)
      · refine .inr (.inr ?_)
        rw [hgetL _ (by omega), hgetR _ (by omega), show na + (g - na - nb - 1) = g - 1 - nb from by omega, show na + (m - na - nb - 1) = m - 1 - nb from by omega]
        exact hBE (by omega) (by omega)
  refine ⟨a, g, m, na, nb, ea, eg, em, by omega, h1, h2, hold, hT, ?_, ?_, ho2, ?_⟩
  · have : seg l a (a + na) = (seg l a (a + g)).take na := by
      unfold seg
      rw [List.take_drop, List.take_take, Nat.min_eq_left (by omega)]
    rw [this, hA]
    unfold seg
    rw [List.drop_zero]
  · have : seg l (a + g - nb) (a + g) = (seg l a (a + g)).drop (g - nb) := by
      unfold seg
      rw [List.drop_drop, show a + (g - nb) = a + g - nb from by omega]
    rw [this, hB]
  · have h5 : ∀ y, y = trimOne l x → trimOne l y = y := by
      intro y hy
      have e1 : oldOf l y = seg l (a + na) (a + g - nb) := by rw [hy]; exact ho2
      have e2 : y.new = seg x.new na (m - nb) := by rw [hy, hT]
      unfold trimOne
      rw [e1, e2, z1, z2]
      refine Hk.ext_ (by dsimp only; omega) (by dsimp only; omega) ?_
      dsimp only
      rw [e2]
      unfold seg
      rw [Nat.sub_zero, List.drop_zero, List.take_of_length_le (Nat.le_refl _)]
    exact h5 _ rfl
theorem trim_main {l : List ByteArray} : ∀ {hs : List Hk} {e : Int}, riseB l.length e hs = true →
    riseB l.length e (trimH l hs) = true ∧ trimH l (trimH l hs) = trimH l hs ∧ 0 ≤ goneSum (trimH l hs) ∧ goneSum (trimH l hs) ≤ goneSum hs ∧ comeSum (trimH l hs) ≤ comeSum hs ∧ goneSum hs - goneSum (trimH l hs) = comeSum hs - comeSum (trimH l hs) ∧
      ∀ p : Nat, (p : Int) ≤ e + 1 → patchFrom l p (trimH l hs) = patchFrom l p hs
  | [], e, _ => ⟨rfl, rfl, by simp [trimH, goneSum], by simp [trimH, goneSum], by simp [trimH, comeSum], by simp [trimH, goneSum, comeSum], fun p _ => rfl⟩
  | x :: hs, e, hr => by
    rw [riseB, Bool.and_eq_true, Bool.and_eq_true, decide_eq_true_eq] at hr
    obtain ⟨⟨hb, he⟩, hr⟩ := hr
    obtain ⟨a, g, m, na, nb, ea, eg, em, hal, hg, hm, hold, hT, hA, hB, ho2, hTT⟩ := trim_parts (e := e) hb
    obtain ⟨i1, i2, i3, i4, i5, i6, i7⟩ := trim_main hr
    have hq4 := (hunkB_parts hb).2.2.2.2
    have hnl : (seg x.new na (m - nb)).length = m - na - nb := by rw [seg_len, em]; omega
    have hrest : restOk l.length (trimH l hs) (a + g) := ⟨x.at_ + x.gone, i1, by omega⟩
    have hnew : x.new = seg x.new 0 na ++ seg x.new na (m - nb) ++ x.new.drop (m - nb) := by
      rw [seg_seg (by omega) (by omega), seg_drop (by omega), List.drop_zero]
    have i7' := i7 (a + g) (by omega)
    cases hn : nothing (trimOne l x) with
    | true =>
      have hn2 := hn
      rw [hT] at hn2
      simp only [nothing, Bool.and_eq_true, decide_eq_true_eq, hnl] at hn2
      have e1 : trimH l (x :: hs) = trimH l hs := by rw [trimH, if_pos hn]
      rw [e1]
      refine ⟨rise_weak (by omega) i1, i2, i3, by rw [goneSum, eg]; omega, by rw [comeSum, em]; omega, by rw [goneSum, comeSum, eg, em]; omega, fun p hp => ?_⟩
      rw [patch_shift (show p ≤ a + g by omega) hrest, i7', patchFrom, ea, eg, Int.toNat_natCast, show ((a : Int) + (g : Int)).toNat = a + g from by omega]
      congr 1
      rw [hnew, ← hA, ← hB]
      have hz : seg x.new na (m - nb) = [] := List.eq_nil_of_length_eq_zero (by omega)
      rw [hz, List.append_nil, show a + g - nb = a + na from by omega, seg_seg (by omega) (by omega), seg_seg (by omega) (by omega)]
    | false =>
      have e1 : trimH l (x :: hs) = trimOne l x :: trimH l hs := by rw [trimH, if_neg (by rw [hn]; simp)]
      rw [e1]
      have hT1 : (trimOne l x).at_ = ((a + na : Nat) : Int) := by rw [hT]
      have hT2 : (trimOne l x).gone = ((g - na - nb : Nat) : Int) := by rw [hT]
      have hT3 : (trimOne l x).new = seg x.new na (m - nb) := by rw [hT]
      refine ⟨?_, ?_, ?_, ?_, ?_, ?_, fun p hp => ?_⟩
      · rw [riseB, Bool.and_eq_true, Bool.and_eq_true, decide_eq_true_eq, hT1, hT2]
        refine ⟨⟨?_, by omega⟩, rise_weak (by omega) i1⟩
        simp only [hunkB, Bool.and_eq_true, decide_eq_true_eq, Bool.not_eq_true', hn, hT1, hT2, hT3]
        exact ⟨⟨⟨⟨by omega, by omega⟩, by omega⟩, trivial⟩, linesB_seg hq4 _ _⟩
      · rw [trimH, hTT, if_neg (by rw [hn]; simp), i2]
      · rw [goneSum, hT2]; omega
      · rw [goneSum, goneSum, hT2, eg]; omega
      · rw [comeSum, comeSum, hT3, hnl, em]; omega
      · rw [goneSum, goneSum, comeSum, comeSum, hT2, hT3, hnl, eg, em]; omega
      · rw [patchFrom, patchFrom, hT1, hT2, hT3, ea, eg, Int.toNat_natCast, Int.toNat_natCast, show (((a + na : Nat) : Int) + ((g - na - nb : Nat) : Int)).toNat = a + g - nb from by omega, show ((a : Int) + (g : Int)).toNat = a + g from by omega, patch_shift (show a + g - nb ≤ a + g by omega) hrest, i7']
        have h6 : seg l p a ++ x.new ++ patchFrom l (a + g) hs = seg l p a ++ (seg l a (a + na) ++ seg x.new na (m - nb) ++ seg l (a + g - nb) (a + g)) ++ patchFrom l (a + g) hs := by
          rw [hA, hB, ← hnew]
        rw [h6, ← seg_seg (show p ≤ a by omega) (show a ≤ a + na by omega)]
        simp only [List.append_assoc]
/-- Trimmed hunks do the same. -/
theorem trim_ok {l : List ByteArray} {hs : List Hk} (h : patchOk l hs = true) : patchOk l (trimH l hs) = true ∧ patchH l (trimH l hs) = patchH l hs ∧ trimH l (trimH l hs) = trimH l hs ∧ 0 ≤ goneSum (trimH l hs) ∧ goneSum (trimH l hs) ≤ goneSum hs ∧ comeSum (trimH l hs) ≤ comeSum hs ∧ goneSum hs - goneSum (trimH l hs) = comeSum hs - comeSum (trimH l hs) := by
  obtain ⟨h1, h2, h3⟩ := patchOk_parts h
  obtain ⟨g1, g2, g3, g4⟩ := goodH_parts h2
  obtain ⟨i1, i2, i3, i4, i5, i6, i7⟩ := trim_main g4
  have hp : patchH l (trimH l hs) = patchH l hs := i7 0 (by omega)
  refine ⟨?_, hp, i2, i3, i4, i5, i6⟩
  simp only [patchOk, goodH, Bool.and_eq_true, decide_eq_true_eq, hp]
  exact ⟨⟨h1, ⟨⟨g1, g2⟩, Nat.le_trans (trim_len l hs) g3⟩, i1⟩, h3⟩

end Go.Proofs.Ytdejlepgihgfgaa.M
