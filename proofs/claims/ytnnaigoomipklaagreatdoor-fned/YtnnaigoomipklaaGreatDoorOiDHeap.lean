/-
  Plain facts on a heap in a list: no Go, no program.
-/
import Derived.Test.YtnnaigoomipklaaGreatDoorOiDBase
set_option linter.unusedSimpArgs false
set_option linter.unusedVariables false
namespace Go.Proofs.YtnnaigoomipklaaGreatDoor.M

/-- A pair of places, and how many lines both share behind. -/
structure Pr where
  f : Nat
  s : Nat
  b : Nat
deriving DecidableEq
def pr0 : Pr := ⟨0, 0, 0⟩
def leQ (p q : Pr) : Prop := p.f < q.f ∨ (p.f = q.f ∧ p.s ≤ q.s)
def ltQ (p q : Pr) : Bool := if p.f = q.f then decide (p.s < q.s) else decide (p.f < q.f)
theorem ltQ_le {p q : Pr} (h : ltQ p q = true) : leQ p q := by
  unfold ltQ at h
  unfold leQ
  split at h <;> simp at h <;> omega
theorem not_ltQ {p q : Pr} (h : ltQ p q = false) : leQ q p := by
  unfold ltQ at h
  unfold leQ
  split at h <;> simp at h <;> omega
theorem leQ_trans {p q r : Pr} (h : leQ p q) (k : leQ q r) : leQ p r := by unfold leQ at *; omega
theorem leQ_refl (p : Pr) : leQ p p := .inr ⟨rfl, Nat.le_refl _⟩
def at_ (L : List Pr) (k : Nat) : Pr := L.getD k pr0
theorem at_get {L : List Pr} {k : Nat} (h : k < L.length) : L[k]? = some (at_ L k) := by simp [at_, h]
theorem at_mem {L : List Pr} {k : Nat} (h : k < L.length) : at_ L k ∈ L := List.mem_of_getElem? (at_get h)
def swapL (L : List Pr) (i j : Nat) : List Pr := (L.set i (at_ L j)).set j (at_ L i)
theorem swap_at {L : List Pr} {i j : Nat} (hi : i < L.length) (hj : j < L.length) (k : Nat) : at_ (swapL L i j) k = if k = j then at_ L i else if k = i then at_ L j else at_ L k := by
  unfold swapL
  show ((L.set i (at_ L j)).set j (at_ L i)).getD k pr0 = _
  rw [List.getD_eq_getElem?_getD, List.getElem?_set, List.getElem?_set]
  by_cases h1 : k = j
  · subst h1; rw [if_pos rfl, if_pos rfl, if_pos (by simpa using hj)]; rfl
  · rw [if_neg (fun e => h1 e.symm), if_neg h1]
    by_cases h2 : k = i
    · subst h2; rw [if_pos rfl, if_pos rfl, if_pos hi]; rfl
    · rw [if_neg (fun e => h2 e.symm), if_neg h2]; simp [at_]
theorem swap_perm {L : List Pr} {i j : Nat} (hi : i < L.length) (hj : j < L.length) : (swapL L i j).Perm L := by
  have h := List.set_set_perm (as := L) hi hj
  unfold swapL
  have e1 : at_ L j = L[j] := by simp [at_, hj]
  have e2 : at_ L i = L[i] := by simp [at_, hi]
  rw [e1, e2]
  exact h
/-- The first n are a heap. -/
def isHeap (L : List Pr) (n : Nat) : Prop := ∀ k, 0 < k → k < n → leQ (at_ L ((k - 1) / 2)) (at_ L k)
/-- A heap but at j, seen from below. -/
def upOk (L : List Pr) (n j : Nat) : Prop := (∀ k, 0 < k → k < n → k ≠ j → leQ (at_ L ((k - 1) / 2)) (at_ L k)) ∧ (∀ k, 0 < k → k < n → (k - 1) / 2 = j → 0 < j → leQ (at_ L ((j - 1) / 2)) (at_ L k))
theorem up_start {L : List Pr} {n : Nat} (h : isHeap L n) (x : Pr) (hl : L.length = n) : upOk (L ++ [x]) (n + 1) n := by
  have e : ∀ k, k < n → at_ (L ++ [x]) k = at_ L k := fun k hk => by simp [at_, List.getElem?_append_left (show k < L.length by omega)]
  refine ⟨fun k h0 hk hne => ?_, fun k h0 hk hp _ => by omega⟩
  rw [e k (by omega), e _ (by omega)]
  exact h k h0 (by omega)
theorem up_step {L : List Pr} {n j : Nat} (h : upOk L n j) (hl : n ≤ L.length) (hj : j < n) (h0 : 0 < j) (hlt : ltQ (at_ L j) (at_ L ((j - 1) / 2)) = true) : upOk (swapL L ((j - 1) / 2) j) n ((j - 1) / 2) := by
  obtain ⟨i, hi⟩ : ∃ i, i = (j - 1) / 2 := ⟨_, rfl⟩
  rw [← hi] at hlt ⊢
  have hij : i < j := by omega
  have hle := ltQ_le hlt
  have hs := swap_at (L := L) (i := i) (j := j) (by omega) (by omega)
  refine ⟨fun k k0 kn kne => ?_, fun k k0 kn kp i0 => ?_⟩
  · rw [hs, hs]
    by_cases e : k = j
    · subst e
      rw [← hi, if_neg (by omega), if_pos rfl, if_pos rfl]
      exact hle
    · rw [if_neg e, if_neg kne]
      by_cases e1 : (k - 1) / 2 = j
      · rw [if_pos e1, hi]
        exact h.2 k k0 kn e1 h0
      · rw [if_neg e1]
        by_cases e2 : (k - 1) / 2 = i
        · rw [if_pos e2]
          have := h.1 k k0 kn e
          rw [e2] at this
          exact leQ_trans hle this
        · rw [if_neg e2]
          exact h.1 k k0 kn e
  · rw [hs, hs, if_neg (show (i - 1) / 2 ≠ j by omega), if_neg (show (i - 1) / 2 ≠ i by omega)]
    have hpi := h.1 i i0 (by omega) (by omega)
    by_cases e : k = j
    · rw [if_pos e]; exact hpi
    · rw [if_neg e, if_neg (by omega)]
      have := h.1 k k0 kn e
      rw [kp] at this
      exact leQ_trans hpi this
theorem up_end {L : List Pr} {n j : Nat} (h : upOk L n j) (he : j = 0 ∨ ltQ (at_ L j) (at_ L ((j - 1) / 2)) = false) : isHeap L n := by
  intro k k0 kn
  by_cases e : k = j
  · subst e
    rcases he with he | he
    · omega
    · exact not_ltQ he
  · exact h.1 k k0 kn e
/-- A heap but at i, seen from above. -/
def dnOk (L : List Pr) (n i : Nat) : Prop := (∀ k, 0 < k → k < n → (k - 1) / 2 ≠ i → leQ (at_ L ((k - 1) / 2)) (at_ L k)) ∧ (∀ k, 0 < k → k < n → (k - 1) / 2 = i → 0 < i → leQ (at_ L ((i - 1) / 2)) (at_ L k))
theorem dn_start {L : List Pr} {n : Nat} (h : isHeap L (n + 1)) (hl : L.length = n + 1) : dnOk (swapL L 0 n) n 0 := by
  have hs := swap_at (L := L) (i := 0) (j := n) (by omega) (by omega)
  refine ⟨fun k k0 kn kp => ?_, fun k k0 kn kp i0 => by omega⟩
  rw [hs, hs, if_neg (by omega), if_neg kp, if_neg (by omega), if_neg (by omega)]
  exact h k k0 (by omega)
theorem dn_step {L : List Pr} {n i j : Nat} (h : dnOk L n i) (hl : n ≤ L.length) (hj : j < n) (hc : (j - 1) / 2 = i) (h0 : 0 < j) (hm : ∀ k, 0 < k → k < n → (k - 1) / 2 = i → leQ (at_ L j) (at_ L k)) (hlt : ltQ (at_ L j) (at_ L i) = true) : dnOk (swapL L i j) n j := by
  have hij : i < j := by omega
  have hle := ltQ_le hlt
  have hs := swap_at (L := L) (i := i) (j := j) (by omega) (by omega)
  refine ⟨fun k k0 kn kp => ?_, fun k k0 kn kp j0 => ?_⟩
  · rw [hs, hs, if_neg kp]
    by_cases e : k = j
    · rw [if_pos e, if_pos (by rw [e]; exact hc)]
      exact hle
    · rw [if_neg e]
      by_cases e1 : (k - 1) / 2 = i
      · rw [if_pos e1, if_neg (by omega)]
        exact hm k k0 kn e1
      · rw [if_neg e1]
        by_cases e2 : k = i
        · rw [if_pos e2, e2]
          exact h.2 j h0 hj hc (by omega)
        · rw [if_neg e2]
          exact h.1 k k0 kn e1
  · rw [hs, hs, if_neg (by omega), if_pos hc, if_neg (by omega), if_neg (by omega)]
    have := h.1 k k0 kn (by omega)
    rw [kp] at this
    exact this
theorem dn_end {L : List Pr} {n i j : Nat} (h : dnOk L n i) (he : n ≤ 2 * i + 1 ∨ ((∀ k, 0 < k → k < n → (k - 1) / 2 = i → leQ (at_ L j) (at_ L k)) ∧ ltQ (at_ L j) (at_ L i) = false)) : isHeap L n := by
  intro k k0 kn
  by_cases e : (k - 1) / 2 = i
  · rcases he with he | ⟨hm, hlt⟩
    · omega
    · rw [e]; exact leQ_trans (not_ltQ hlt) (hm k k0 kn e)
  · exact h.1 k k0 kn e
theorem child_one {L : List Pr} {n i : Nat} (h : n ≤ 2 * i + 2) : ∀ k, 0 < k → k < n → (k - 1) / 2 = i → leQ (at_ L (2 * i + 1)) (at_ L k) := fun k k0 kn kp => by
  rw [show k = 2 * i + 1 from by omega]; exact leQ_refl _
theorem child_left {L : List Pr} {n i : Nat} (h : ltQ (at_ L (2 * i + 2)) (at_ L (2 * i + 1)) = false) : ∀ k, 0 < k → k < n → (k - 1) / 2 = i → leQ (at_ L (2 * i + 1)) (at_ L k) := fun k k0 kn kp => by
  rcases (show k = 2 * i + 1 ∨ k = 2 * i + 2 by omega) with e | e <;> rw [e]
  · exact leQ_refl _
  · exact not_ltQ h
theorem child_right {L : List Pr} {n i : Nat} (h : ltQ (at_ L (2 * i + 2)) (at_ L (2 * i + 1)) = true) : ∀ k, 0 < k → k < n → (k - 1) / 2 = i → leQ (at_ L (2 * i + 2)) (at_ L k) := fun k k0 kn kp => by
  rcases (show k = 2 * i + 1 ∨ k = 2 * i + 2 by omega) with e | e <;> rw [e]
  · exact ltQ_le h
  · exact leQ_refl _
theorem heap_least {L : List Pr} {n : Nat} (h : isHeap L n) : ∀ k, k < n → leQ (at_ L 0) (at_ L k) := by
  intro k
  induction k using Nat.strongRecOn with
  | ind k ih =>
    intro hk
    by_cases e : k = 0
    · rw [e]; exact leQ_refl _
    · exact leQ_trans (ih ((k - 1) / 2) (by omega) (by omega)) (h k (by omega) hk)
/-- Behind a pop: what is left, and what comes. -/
theorem pop_parts {L H : List Pr} {n : Nat} (hp : H.Perm L) (hl : L.length = n + 1) (hh : isHeap H n) : isHeap (H.take n) n ∧ L.Perm (at_ H n :: H.take n) ∧ (H.take n).length = n := by
  have hlen : H.length = n + 1 := by rw [hp.length_eq, hl]
  have e : H = H.take n ++ [at_ H n] := by
    have h1 := List.take_append_drop n H
    have h2 : H.drop n = [at_ H n] := by
      rw [drop_at (at_get (show n < H.length by omega)), List.drop_eq_nil_of_le (by omega)]
    rw [h2] at h1
    exact h1.symm
  refine ⟨fun k k0 kn => ?_, ?_, by simp; omega⟩
  · have h1 := hh k k0 kn
    have h2 : ∀ j, j < n → at_ (H.take n) j = at_ H j := fun j hj => by simp [at_, List.getElem?_take, hj]
    rw [h2 k kn, h2 _ (by omega)]
    exact h1
  · have h1 := hp.symm
    rw [e] at h1
    refine h1.trans ?_
    exact List.perm_append_comm

/-- The hits, each with what is shared behind. -/
def hitQ (a b : List ByteArray) (p : Nat × Nat) : Pr := ⟨p.1, p.2, tab a b (p.1 + 1) (p.2 + 1)⟩
/-- The least of what is left of a sorted list is its first. -/
theorem least_first {a b : List ByteArray} {p : Pr} {q : Nat × Nat} {M : List (Nat × Nat)} (hs : (q :: M).Pairwise ltP) (hp : p ∈ (q :: M).map (hitQ a b)) (hl : ∀ x ∈ (q :: M).map (hitQ a b), leQ p x) : p = hitQ a b q := by
  rw [List.map_cons] at hp hl
  rcases List.mem_cons.1 hp with e | hm
  · exact e
  · rw [List.mem_map] at hm
    obtain ⟨r, hr, rfl⟩ := hm
    have h1 := hl (hitQ a b q) (by simp)
    have h2 := (List.pairwise_cons.1 hs).1 r hr
    exfalso
    unfold leQ hitQ at h1
    unfold ltP at h2
    dsimp only at h1
    omega
/-- Pop of a heap of what is left takes the first. -/
theorem pop_first {a b : List ByteArray} {L H : List Pr} {n : Nat} {q : Nat × Nat} {M : List (Nat × Nat)} (hs : (q :: M).Pairwise ltP) (hL : L.Perm ((q :: M).map (hitQ a b))) (hh : isHeap L (n + 1)) (hl : L.length = n + 1)
    (hpop : L.Perm (at_ L 0 :: H)) : at_ L 0 = hitQ a b q ∧ H.Perm (M.map (hitQ a b)) := by
  have e : at_ L 0 = hitQ a b q := least_first hs (hL.subset (at_mem (by omega))) (fun x hx => by
    have hx := hL.symm.subset hx
    obtain ⟨k, hk, e⟩ := List.mem_iff_getElem.1 hx
    have := heap_least hh k (by omega)
    rw [show at_ L k = x from by rw [← e]; simp [at_, hk]] at this
    exact this)
  refine ⟨e, ?_⟩
  have h1 := hpop.symm.trans hL
  rw [e, List.map_cons] at h1
  exact h1.cons_inv

/-- What has been found when m rows from the end, and n of the next one, have been looked at. -/
def foundRow (a b : List ByteArray) (i n : Nat) : List (Nat × Nat) := (rowM a b i).filter fun p => decide (b.length - n ≤ p.2)
def foundAt (a b : List ByteArray) (m n : Nat) : List (Nat × Nat) := foundRow a b (a.length - 1 - m) n ++ ((List.range a.length).drop (a.length - m)).flatMap (rowM a b)
theorem found_zero (a b : List ByteArray) : ((List.range a.length).drop (a.length - 0)).flatMap (rowM a b) = [] := by rw [List.drop_eq_nil_of_le (by simp)]; rfl
theorem foundRow_zero (a b : List ByteArray) (i : Nat) : foundRow a b i 0 = [] := by
  unfold foundRow
  rw [List.filter_eq_nil_iff]
  intro p hp
  have := (rowM_mem.1 hp).2.1
  simp; omega
theorem foundRow_all (a b : List ByteArray) (i : Nat) : foundRow a b i b.length = rowM a b i := by
  unfold foundRow
  rw [List.filter_eq_self]
  intro p hp
  simp
theorem foundRow_eq (a b : List ByteArray) (i n : Nat) (hn : n ≤ b.length) : foundRow a b i n = ((List.range b.length).drop (b.length - n)).filterMap fun j => if a[i]? = b[j]? then some (i, j) else none := by
  unfold foundRow rowM
  have h := List.take_append_drop (b.length - n) (List.range b.length)
  conv => lhs; rw [← h]
  rw [List.filterMap_append, List.filter_append]
  have h1 : List.filter (fun p : Nat × Nat => decide (b.length - n ≤ p.2)) (((List.range b.length).take (b.length - n)).filterMap fun j => if a[i]? = b[j]? then some (i, j) else none) = [] := by
    rw [List.filter_eq_nil_iff]
    intro p hp
    rw [List.mem_filterMap] at hp
    obtain ⟨j, hj, e⟩ := hp
    rw [List.take_range, List.mem_range] at hj
    split at e
    · injection e with e; subst e; simp; omega
    · cases e
  rw [h1, List.nil_append, List.filter_eq_self]
  intro p hp
  rw [List.mem_filterMap] at hp
  obtain ⟨j, hj, e⟩ := hp
  obtain ⟨k, hk, rfl⟩ := List.mem_iff_getElem.1 hj
  split at e
  · injection e with e; subst e; simp
  · cases e
theorem foundRow_step {a b : List ByteArray} {i n : Nat} (hn : n < b.length) : foundRow a b i (n + 1) = (if a[i]? = b[b.length - 1 - n]? then [(i, b.length - 1 - n)] else []) ++ foundRow a b i n := by
  rw [foundRow_eq a b i (n + 1) hn, foundRow_eq a b i n (by omega)]
  have h1 : (List.range b.length)[b.length - 1 - n]? = some (b.length - 1 - n) := by rw [List.getElem?_range (by omega)]
  rw [show b.length - (n + 1) = b.length - 1 - n from by omega, drop_at h1, show b.length - 1 - n + 1 = b.length - n from by omega, List.filterMap_cons]
  by_cases e : a[i]? = b[b.length - 1 - n]?
  · rw [if_pos e, if_pos e]; rfl
  · rw [if_neg e, if_neg e]; rfl
theorem found_next {a b : List ByteArray} {m : Nat} (hm : m < a.length) : foundAt a b m b.length = ((List.range a.length).drop (a.length - (m + 1))).flatMap (rowM a b) := by
  unfold foundAt
  rw [foundRow_all]
  have h1 : (List.range a.length)[a.length - 1 - m]? = some (a.length - 1 - m) := by rw [List.getElem?_range (by omega)]
  rw [show a.length - (m + 1) = a.length - 1 - m from by omega, drop_at h1, show a.length - 1 - m + 1 = a.length - m from by omega, List.flatMap_cons]
theorem found_all (a b : List ByteArray) : ((List.range a.length).drop (a.length - a.length)).flatMap (rowM a b) = hits a b := by
  rw [Nat.sub_self, List.drop_zero]; rfl

end Go.Proofs.YtnnaigoomipklaaGreatDoor.M
