/-
  Reading steps, the program's way: mathematics. The reader is what is left of a text and whether it has failed.
-/
import Derived.Test.YtnimaadjmejmpaaGreatDoorSTxtB
import Derived.Test.YtnimaadjmejmpaaGreatDoorNVars
set_option linter.unusedSimpArgs false
set_option linter.unusedVariables false
namespace Go.Proofs.YtnimaadjmejmpaaGreatDoor.M
open Go

def rWord (p : List UInt8) (r : List UInt8 × Bool) : List UInt8 × Bool := if Lib.hasPrefix r.1 p = true then (r.1.drop p.length, r.2) else ([], true)
def rPlain (r : List UInt8 × Bool) : List UInt8 × (List UInt8 × Bool) := if (Lib.cut r.1 [10]).2.2 = true then ((Lib.cut r.1 [10]).1, ((Lib.cut r.1 [10]).2.1, r.2)) else ([], ([], true))
def rShown (sign : List UInt8) (r : List UInt8 × Bool) : List UInt8 × (List UInt8 × Bool) :=
  if Lib.hasPrefix (rPlain (rWord sign r)).2.1 noneL = true then ((rPlain (rWord sign r)).1, ((rPlain (rWord sign r)).2.1.drop 7, (rPlain (rWord sign r)).2.2)) else ((rPlain (rWord sign r)).1 ++ [10], (rPlain (rWord sign r)).2)
def rShowns (sign : List UInt8) : Nat → List UInt8 × Bool → List (List UInt8) × (List UInt8 × Bool)
  | 0, r => ([], r)
  | n + 1, r => if r.2 = true then ([], r) else ((rShown sign r).1 :: (rShowns sign n (rShown sign r).2).1, (rShowns sign n (rShown sign r).2).2)
def rOld (k : UInt8) (f t : Nat) (r : List UInt8 × Bool) : List (List UInt8) × (List UInt8 × Bool) := if k = 97 then ([], r) else rShowns [60, 32] (t - f + 1) r
def rMid (k : UInt8) (r : List UInt8 × Bool) : List UInt8 × Bool := if k = 99 then rWord ruleL r else r
def rNew (k : UInt8) (n m : Nat) (r : List UInt8 × Bool) : List (List UInt8) × (List UInt8 × Bool) := if k = 100 then ([], r) else rShowns [62, 32] (m - n + 1) r
/-- What a step's head and what follows are read as; k the letter. -/
def rBody (k : UInt8) (f t n m : Nat) (r : List UInt8 × Bool) : Sp × (List UInt8 × Bool) :=
  (⟨f, t, (rOld k f t r).1.map bs, n, m, (rNew k n m (rMid k (rOld k f t r).2)).1.map bs⟩, (rNew k n m (rMid k (rOld k f t r).2)).2)
/-- One step is read; c is where its letter is. -/
def rStep (c : Int) (r : List UInt8 × Bool) : Sp × (List UInt8 × Bool) :=
  if c < 0 then (blankP, ([], true)) else
  match pairL ((rPlain r).1.take c.toNat), pairL ((rPlain r).1.drop (c.toNat + 1)) with
  | some (f, t), some (n, m) => rBody (((rPlain r).1[c.toNat]?).getD 0) f t n m (rPlain r).2
  | _, _ => (blankP, ([], true))
/-- Where the letter of a head is: told exactly of heads of plain bytes. -/
def okCut (h : List UInt8) (c : Int) : Prop := -1 ≤ c ∧ c < h.length ∧ ((∀ b ∈ h, b.toNat < 128) → c = Lib.indexAny h [97, 99, 100]) ∧ (0 ≤ c → ∃ k : UInt8, h[c.toNat]? = some k ∧ (k = 97 ∨ k = 99 ∨ k = 100))

theorem pre_self (p q : List UInt8) : Lib.hasPrefix (p ++ q) p = true := by
  unfold Lib.hasPrefix
  rw [List.isPrefixOf_iff_prefix]
  exact List.prefix_append p q
theorem pre_none {c : UInt8} (h : c ≠ 92) (r : List UInt8) : Lib.hasPrefix (c :: r) noneL = false := by
  unfold Lib.hasPrefix noneL
  simp [List.isPrefixOf]
  intro e
  exact absurd e.symm h
theorem pre_nil : Lib.hasPrefix [] noneL = false := rfl
theorem rWord_hit (p q : List UInt8) (f : Bool) : rWord p (p ++ q, f) = (q, f) := by
  unfold rWord
  rw [if_pos (pre_self p q)]
  simp
theorem rPlain_hit {p : List UInt8} (h : (10 : UInt8) ∉ p) (q : List UInt8) (f : Bool) : rPlain (p ++ 10 :: q, f) = (p, (q, f)) := by
  unfold rPlain
  rw [cut_hit 10 p q h, if_pos rfl]
theorem rPlain_hit' {p : List UInt8} (h : (10 : UInt8) ∉ p) (q : List UInt8) (f : Bool) : rPlain (p ++ [10] ++ q, f) = (p, (q, f)) := by
  have := rPlain_hit h q f
  rwa [show p ++ [10] ++ q = p ++ 10 :: q by simp]

theorem ends_split {s : List UInt8} (h : endsL s = true) : s = s.dropLast ++ [10] := by
  unfold endsL at h
  have h : s.getLast? = some 10 := by simpa using h
  obtain ⟨p, rfl⟩ := List.getLast?_eq_some_iff.1 h
  simp
theorem noend_no10 {s : ByteArray} (h : lineB s = true) (he : endsL s.data.toList = false) : (10 : UInt8) ∉ s.data.toList := by
  have h1 := line_no10 h
  intro hm
  have hsz := (lineB_size h).1
  have hne : s.data.toList ≠ [] := by
    intro e
    have : s.size = 0 := by rw [Lib.size_eq, e]; rfl
    omega
  have e := List.dropLast_concat_getLast hne
  rw [← e] at hm
  rcases List.mem_append.1 hm with h2 | h2
  · exact h1 h2
  · have h2 := List.mem_singleton.1 h2
    unfold endsL at he
    rw [List.getLast?_eq_some_getLast hne, ← h2] at he
    cases he

theorem rShown_back {sign : List UInt8} {s : ByteArray} (h : lineB s = true) (t : List UInt8) (ht : Lib.hasPrefix t noneL = false) : rShown sign (showT sign s.data.toList ++ t, false) = (s.data.toList, (t, false)) := by
  rw [showT_eq]
  cases he : endsL s.data.toList
  · have e : rPlain (rWord sign (sign ++ s.data.toList ++ [10] ++ noneL ++ t, false)) = (s.data.toList, (noneL ++ t, false)) := by
      rw [show sign ++ s.data.toList ++ [10] ++ noneL ++ t = sign ++ (s.data.toList ++ [10] ++ (noneL ++ t)) by simp, rWord_hit, rPlain_hit' (noend_no10 h he)]
    rw [if_neg Bool.false_ne_true]
    unfold rShown
    rw [e]
    dsimp only
    rw [if_pos (pre_self noneL t)]
    simp [noneL]
  · have e1 := ends_split he
    have e : rPlain (rWord sign (sign ++ s.data.toList ++ t, false)) = (s.data.toList.dropLast, (t, false)) := by
      rw [show sign ++ s.data.toList ++ t = sign ++ (s.data.toList ++ t) by simp, rWord_hit]
      have e3 := rPlain_hit' (line_no10 h) t false
      rwa [← e1] at e3
    rw [if_pos rfl]
    unfold rShown
    rw [e]
    dsimp only
    rw [if_neg (by rw [ht]; simp), ← e1]

theorem showT_head {a b : UInt8} (s : List UInt8) : ∃ r, showT [a, b] s = a :: r := by
  rw [showT_eq]
  split
  · exact ⟨_, rfl⟩
  · exact ⟨_, rfl⟩

theorem sideT_cons (sign : List UInt8) (s : ByteArray) (l : List ByteArray) : sideT sign (s :: l) = showT sign s.data.toList ++ sideT sign l := by
  unfold sideT showT sideL
  rw [List.flatMap_cons, List.flatten_append]

theorem rShowns_back {a b : UInt8} (ha : a ≠ 92) : ∀ (l : List ByteArray) (t : List UInt8), (∀ s ∈ l, lineB s = true) → Lib.hasPrefix t noneL = false → rShowns [a, b] l.length (sideT [a, b] l ++ t, false) = (l.map (·.data.toList), (t, false))
  | [], t, _, _ => by simp [rShowns, sideT_nil]
  | s :: l, t, hl, ht => by
    have h1 : Lib.hasPrefix (sideT [a, b] l ++ t) noneL = false := by
      cases l with
      | nil => simpa [sideT_nil] using ht
      | cons u l =>
        obtain ⟨r, e⟩ := showT_head (a := a) (b := b) u.data.toList
        rw [sideT_cons, e]
        exact pre_none ha _
    have h2 := rShown_back (sign := [a, b]) (hl s (by simp)) (sideT [a, b] l ++ t) h1
    rw [sideT_cons, List.append_assoc, List.length_cons, rShowns, if_neg (by simp), h2]
    dsimp only
    rw [rShowns_back ha l t (fun u hu => hl u (by simp [hu])) ht]
    rfl

theorem stepsT_pre (p : List Sp) : Lib.hasPrefix (stepsT p) noneL = false := by
  cases p with
  | nil => rfl
  | cons x p =>
    obtain ⟨c, r, e, hc⟩ := head_line (x := x)
    have e2 : stepsT (x :: p) = (headL x ++ [10]) ++ ((sideL [60, 32] x.old ++ ((if wordL x = 99 then [ruleL] else []) ++ sideL [62, 32] x.new)).flatten ++ stepsT p) := by
      unfold stepsT stepsL
      rw [List.flatMap_cons, List.flatten_append]
      simp [stepL]
    rw [e2, e]
    refine pre_none (fun e3 => ?_) _
    have := dig_range hc
    rw [e3] at this
    simp at this

theorem stepsT_cons (x : Sp) (p : List Sp) : stepsT (x :: p) = spT x ++ stepsT p := by
  unfold stepsT stepsL
  rw [List.flatMap_cons, List.flatten_append, stepL_flat]

theorem head_no10 (x : Sp) : (10 : UInt8) ∉ headL x := by
  intro h
  unfold headL at h
  rcases List.mem_append.1 h with h | h
  · exact nums_no10 h
  · rcases List.mem_cons.1 h with h | h
    · unfold wordL at h
      split at h
      · cases h
      · split at h <;> cases h
    · exact nums_no10 h

theorem word_is (x : Sp) : wordL x = 97 ∨ wordL x = 99 ∨ wordL x = 100 := by
  unfold wordL
  split
  · exact .inl rfl
  · split
    · exact .inr (.inr rfl)
    · exact .inr (.inl rfl)

theorem nums_noany {a b : Nat} {c : UInt8} (h : c ∈ numsL a b) : ([97, 99, 100] : List UInt8).contains c = false := by
  have h1 := nums_range h
  simp only [List.contains_cons, List.contains_nil, Bool.or_false, Bool.or_eq_false_iff, beq_eq_false_iff_ne]
  refine ⟨fun e => ?_, fun e => ?_, fun e => ?_⟩ <;> (rw [e] at h1; simp at h1)

theorem head_cut {x : Sp} {c : Int} (h : okCut (headL x) c) : c = ((numsL x.fr.toNat x.to_.toNat).length : Int) := by
  rw [h.2.2.1 ?_]
  · refine Lib.indexAny_hit (x := wordL x) ?_ ?_ ?_
    · intro j b hj hb
      unfold headL at hb
      rw [List.getElem?_append_left hj] at hb
      exact nums_noany (List.mem_of_getElem? hb)
    · unfold headL
      rw [List.getElem?_append_right (Nat.le_refl _)]
      simp
    · rcases word_is x with e | e | e <;> (rw [e]; rfl)
  · intro b hb
    unfold headL at hb
    rcases List.mem_append.1 hb with h | h
    · have := nums_range h; omega
    · rcases List.mem_cons.1 h with h | h
      · rcases word_is x with e | e | e <;> (rw [h, e]; decide)
      · have := nums_range h; omega

theorem map_bs (l : List ByteArray) : (l.map (·.data.toList)).map bs = l := by
  induction l with
  | nil => rfl
  | cons s l ih => simp only [List.map_cons, ih, bs_self]

theorem rStep_back {x : Sp} (h : stepB x = true) (p : List Sp) {c : Int} (hc : okCut (rPlain (stepsT (x :: p), false)).1 c) : rStep c (stepsT (x :: p), false) = (x, (stepsT p, false)) := by
  obtain ⟨h1, h2, h3⟩ := stepB_parts h
  obtain ⟨A, B, ea, eb, hab, hb, hg1, hl1, hl1'⟩ := side_le h1
  obtain ⟨C, D, ec, ed, hcd, hd, hg2, hl2, hl2'⟩ := side_le h2
  have e1 : stepsT (x :: p) = headL x ++ 10 :: (sideT [60, 32] x.old ++ (midT x ++ (sideT [62, 32] x.new ++ stepsT p))) := by
    rw [stepsT_cons, spT]; simp
  have e2 := rPlain_hit (head_no10 x) (sideT [60, 32] x.old ++ (midT x ++ (sideT [62, 32] x.new ++ stepsT p))) false
  rw [← e1] at e2
  rw [e2] at hc
  have hcc := head_cut hc
  have k1 : (headL x).take c.toNat = numsL x.fr.toNat x.to_.toNat := by
    rw [hcc, Int.toNat_natCast]; unfold headL; simp
  have k2 : (headL x).drop (c.toNat + 1) = numsL x.at_.toNat x.en.toNat := by
    rw [hcc, Int.toNat_natCast]; unfold headL; simp
  have k3 : (headL x)[c.toNat]? = some (wordL x) := by
    rw [hcc, Int.toNat_natCast]; unfold headL; simp
  unfold rStep
  rw [if_neg (by omega), e2]
  dsimp only
  rw [k1, k2, nums_back (by omega) (by omega), nums_back (by omega) (by omega), k3]
  dsimp only [Option.getD_some]
  have ho := good_lines hg1
  have hn := good_lines hg2
  have q1 : rOld (wordL x) x.fr.toNat x.to_.toNat (sideT [60, 32] x.old ++ (midT x ++ (sideT [62, 32] x.new ++ stepsT p)), false) = (x.old.map (·.data.toList), (midT x ++ (sideT [62, 32] x.new ++ stepsT p), false)) := by
    unfold rOld
    by_cases h0 : x.old.length = 0
    · have e0 := List.eq_nil_of_length_eq_zero h0
      have hw : wordL x = 97 := if_pos h0
      rw [if_pos hw, e0]
      simp [sideT_nil]
    · have hw : wordL x ≠ 97 := by
        unfold wordL
        rw [if_neg h0]
        split <;> decide
      rw [if_neg hw]
      have hlen : x.to_.toNat - x.fr.toNat + 1 = x.old.length := by have := hl1' h0; omega
      rw [hlen]
      refine rShowns_back (by decide) _ _ ho ?_
      unfold midT
      split
      · exact pre_none (by decide) _
      · rename_i hw2
        have h0' : x.new.length = 0 := by
          by_cases h0' : x.new.length = 0
          · exact h0'
          · exact absurd ((if_neg h0).trans (if_neg h0')) hw2
        rw [List.eq_nil_of_length_eq_zero h0']
        simpa [sideT_nil] using stepsT_pre p
  have q2 : rMid (wordL x) (midT x ++ (sideT [62, 32] x.new ++ stepsT p), false) = (sideT [62, 32] x.new ++ stepsT p, false) := by
    unfold rMid midT
    split
    · exact rWord_hit _ _ _
    · rfl
  have q3 : rNew (wordL x) x.at_.toNat x.en.toNat (sideT [62, 32] x.new ++ stepsT p, false) = (x.new.map (·.data.toList), (stepsT p, false)) := by
    unfold rNew
    by_cases h0 : x.new.length = 0
    · have e0 := List.eq_nil_of_length_eq_zero h0
      have hw : wordL x = 100 := by
        unfold wordL
        rw [if_neg (by omega), if_pos h0]
      rw [if_pos hw, e0]
      simp [sideT_nil]
    · have hw : wordL x ≠ 100 := by
        unfold wordL
        rw [if_neg h0]
        split <;> decide
      rw [if_neg hw]
      have hlen : x.en.toNat - x.at_.toNat + 1 = x.new.length := by have := hl2' h0; omega
      rw [hlen]
      exact rShowns_back (by decide) _ _ hn (stepsT_pre p)
  unfold rBody
  rw [q1]
  dsimp only
  rw [q2, q3]
  dsimp only
  rw [map_bs, map_bs]
  refine Prod.ext (Sp.ext_ ?_ ?_ rfl ?_ ?_ rfl) rfl <;> (dsimp only; omega)

/-! How much is left. -/

theorem rWord_le (p : List UInt8) (r : List UInt8 × Bool) : (rWord p r).1.length ≤ r.1.length := by
  unfold rWord; split <;> simp
theorem cut_le (l : List UInt8) : (Lib.cut l [10]).1.length ≤ l.length ∧ ((Lib.cut l [10]).2.2 = true → (Lib.cut l [10]).1.length + (Lib.cut l [10]).2.1.length < l.length) := by
  by_cases h : (10 : UInt8) ∈ l
  · obtain ⟨p, q, rfl, hp⟩ := List.eq_append_cons_of_mem h
    rw [cut_hit 10 p q hp]
    simp
  · rw [cut_none 10 l h]
    simp
theorem rPlain_le (r : List UInt8 × Bool) : (rPlain r).1.length ≤ r.1.length ∧ (rPlain r).2.1.length ≤ r.1.length ∧ (r.1 ≠ [] → (rPlain r).2.1.length < r.1.length) := by
  have h := cut_le r.1
  unfold rPlain
  split
  · rename_i h2
    have := h.2 h2
    exact ⟨by dsimp only; omega, by dsimp only; omega, fun _ => by dsimp only; omega⟩
  · refine ⟨by simp, by simp, fun e => ?_⟩
    have := List.length_pos_iff.2 e
    simpa using this
theorem rShown_le (sign : List UInt8) (r : List UInt8 × Bool) : (rShown sign r).1.length ≤ r.1.length + 1 ∧ (rShown sign r).2.1.length ≤ r.1.length := by
  have h1 := rWord_le sign r
  have h2 := rPlain_le (rWord sign r)
  unfold rShown
  split
  · refine ⟨by dsimp only; omega, ?_⟩
    dsimp only
    rw [List.length_drop]
    omega
  · refine ⟨by simp; omega, by dsimp only; omega⟩
theorem rShowns_le (sign : List UInt8) : ∀ (n : Nat) (r : List UInt8 × Bool), (rShowns sign n r).1.length ≤ n ∧ (rShowns sign n r).2.1.length ≤ r.1.length ∧ ∀ s ∈ (rShowns sign n r).1, s.length ≤ r.1.length + 1
  | 0, r => by simp [rShowns]
  | n + 1, r => by
    rw [rShowns]
    split
    · simp
    · have h1 := rShown_le sign r
      obtain ⟨h2, h3, h4⟩ := rShowns_le sign n (rShown sign r).2
      refine ⟨by simp; omega, by dsimp only; omega, fun s hs => ?_⟩
      rcases List.mem_cons.1 hs with e | e
      · rw [e]; omega
      · have := h4 s e; omega
theorem rOld_le (k : UInt8) (f t : Nat) (r : List UInt8 × Bool) : (rOld k f t r).2.1.length ≤ r.1.length ∧ ∀ s ∈ (rOld k f t r).1, s.length ≤ r.1.length + 1 := by
  unfold rOld
  split
  · simp
  · exact (rShowns_le _ _ _).2
theorem rMid_le (k : UInt8) (r : List UInt8 × Bool) : (rMid k r).1.length ≤ r.1.length := by
  unfold rMid
  split
  · exact rWord_le _ _
  · exact Nat.le_refl _
theorem rNew_le (k : UInt8) (f t : Nat) (r : List UInt8 × Bool) : (rNew k f t r).2.1.length ≤ r.1.length ∧ ∀ s ∈ (rNew k f t r).1, s.length ≤ r.1.length + 1 := by
  unfold rNew
  split
  · simp
  · exact (rShowns_le _ _ _).2
theorem rBody_le (k : UInt8) (f t n m : Nat) (r : List UInt8 × Bool) : (rBody k f t n m r).2.1.length ≤ r.1.length := by
  have h1 := (rOld_le k f t r).1
  have h2 := rMid_le k (rOld k f t r).2
  have h3 := (rNew_le k n m (rMid k (rOld k f t r).2)).1
  unfold rBody
  dsimp only
  omega
theorem rStep_lt (c : Int) {r : List UInt8 × Bool} (h : r.1 ≠ []) : (rStep c r).2.1.length < r.1.length := by
  have h0 := List.length_pos_iff.2 h
  have h1 := (rPlain_le r).2.2 h
  unfold rStep
  split
  · simpa using h0
  · split
    · have h2 := rBody_le (((rPlain r).1[c.toNat]?).getD 0) ‹Nat› ‹Nat› ‹Nat› ‹Nat› (rPlain r).2
      rename_i f t n m _ _
      have h2 := rBody_le (((rPlain r).1[c.toNat]?).getD 0) f t n m (rPlain r).2
      omega
    · simpa using h0

/-! The answer. -/

/-- What ReadNormal answers. -/
def readN (s : List UInt8) : List Sp × Int × Bool := match textSteps s with
  | some p => (p, 0, true)
  | none => ([], 1, false)
/-- What the program has read so far, where the text is one of good steps. -/
def Reads (s : List UInt8) (p : List Sp) (r : List UInt8 × Bool) : Prop := ∀ q : List Sp, q.all stepB = true → stepsT q = s → ∃ k, k ≤ q.length ∧ p = q.take k ∧ r = (stepsT (q.drop k), false)
theorem Reads.start (s : List UInt8) : Reads s [] (s, false) := fun q _ e => ⟨0, Nat.zero_le _, rfl, by rw [List.drop_zero, e]⟩
theorem Reads.next {s : List UInt8} {p : List Sp} {r : List UInt8 × Bool} (h : Reads s p r) (hr : r.1 ≠ []) {c : Int} (hc : okCut (rPlain r).1 c) : Reads s (p ++ [(rStep c r).1]) (rStep c r).2 := by
  intro q hq e
  obtain ⟨k, hk, e1, e2⟩ := h q hq e
  subst e2
  have hlt : k < q.length := by
    rcases Nat.lt_or_ge k q.length with h5 | h5
    · exact h5
    · exact absurd (by rw [List.drop_eq_nil_of_le h5]; rfl) hr
  have e3 : q.drop k = q[k] :: q.drop (k + 1) := List.drop_eq_getElem_cons hlt
  have hx : stepB q[k] = true := List.all_eq_true.1 hq _ (List.getElem_mem hlt)
  rw [e3] at hc
  have e4 := rStep_back hx (q.drop (k + 1)) hc
  rw [e3, e4]
  refine ⟨k + 1, hlt, ?_, rfl⟩
  rw [e1, List.take_succ_eq_append_getElem hlt]
theorem Reads.last {s : List UInt8} {p : List Sp} {r : List UInt8 × Bool} (h : Reads s p r) (hr : r.1 = []) {q : List Sp} (e : textSteps s = some q) : p = q ∧ r.2 = false := by
  obtain ⟨h1, h2, h3⟩ := textSteps_some.1 e
  have h4 : q.all stepB = true := by unfold stepsB at h2; simp only [Bool.and_eq_true] at h2; exact h2.1
  obtain ⟨k, hk, e1, e2⟩ := h q h4 h3
  subst e2
  have h5 := stepsL_len (q.drop k)
  dsimp only at hr
  rw [hr] at h5
  have h6 : k = q.length := by simp at h5; omega
  exact ⟨by rw [e1, h6, List.take_length], rfl⟩
theorem readN_bad {s : List UInt8} (h : textSteps s = none) : readN s = ([], 1, false) := by unfold readN; rw [h]
theorem readN_long {s : List UInt8} (h : 3000 < s.length) : readN s = ([], 1, false) := by
  refine readN_bad ?_
  cases e : textSteps s with
  | none => rfl
  | some q => have := (textSteps_some.1 e).1; omega
theorem readN_ok {s : List UInt8} {p : List Sp} (h1 : (textP p).2 = true) (h2 : (textP p).1 = s) : readN s = (p, 0, true) := by
  unfold textP at h1 h2
  split at h1
  · rename_i hc
    rw [if_pos hc] at h2
    dsimp only at h2
    have : textSteps s = some p := textSteps_some.2 ⟨by rw [← h2]; exact hc.2, hc.1, h2⟩
    unfold readN
    rw [this]
  · cases h1
theorem readN_not {s : List UInt8} {p : List Sp} {r : List UInt8 × Bool} (h : Reads s p r) (hr : r.1 = []) (hb : r.2 = true ∨ (textP p).2 = false ∨ (textP p).1 ≠ s) : readN s = ([], 1, false) := by
  refine readN_bad ?_
  cases e : textSteps s with
  | none => rfl
  | some q =>
    exfalso
    obtain ⟨e1, e2⟩ := h.last hr e
    obtain ⟨h1, h2, h3⟩ := textSteps_some.1 e
    subst e1
    have e4 : textP p = (stepsT p, true) := if_pos ⟨h2, by rw [h3]; exact h1⟩
    rw [e4] at hb
    rcases hb with hb | hb | hb
    · rw [e2] at hb; cases hb
    · cases hb
    · exact hb h3

/-! Reading steps, the model's way. -/

theorem takeS_stop1 {sign s : List UInt8} {r : List (List UInt8)} (h : s.length ≤ 2 ∨ s.take 2 ≠ sign) : takeS sign (s :: r) = ([], s :: r) := by
  cases r with
  | nil => rw [takeS, if_pos h]
  | cons t r => rw [takeS, if_pos h]
theorem takeS_none {sign s : List UInt8} {r : List (List UInt8)} (h : ¬ (s.length ≤ 2 ∨ s.take 2 ≠ sign)) : takeS sign (s :: noneL :: r) = ((s.drop 2).dropLast :: (takeS sign r).1, (takeS sign r).2) := by
  rw [takeS, if_neg h, if_pos rfl]
theorem takeS_more {sign s : List UInt8} {r : List (List UInt8)} (h : ¬ (s.length ≤ 2 ∨ s.take 2 ≠ sign)) (hr : ∀ t r', r = t :: r' → t ≠ noneL) : takeS sign (s :: r) = (s.drop 2 :: (takeS sign r).1, (takeS sign r).2) := by
  cases r with
  | nil =>
    have e0 : takeS sign [] = ([], []) := rfl
    rw [e0, takeS, if_neg h]
  | cons t r => rw [takeS, if_neg h, if_neg (hr t r rfl)]
/-- Of the lines L the first j are taken, as O. -/
def Took (sign : List UInt8) (L : List (List UInt8)) (j : Nat) (O : List (List UInt8)) : Prop := takeS sign L = (O ++ (takeS sign (L.drop j)).1, (takeS sign (L.drop j)).2)
theorem Took.start (sign : List UInt8) (L : List (List UInt8)) : Took sign L 0 [] := by unfold Took; simp
theorem Took.stop {sign : List UInt8} {L O : List (List UInt8)} {j : Nat} {s : List UInt8} (h : Took sign L j O) (hs : L[j]? = some s) (hc : s.length ≤ 2 ∨ s.take 2 ≠ sign) : takeS sign L = (O, L.drop j) := by
  have e : L.drop j = s :: L.drop (j + 1) := by
    obtain ⟨hj, e⟩ := List.getElem?_eq_some_iff.1 hs
    rw [List.drop_eq_getElem_cons hj, e]
  have h2 : takeS sign (L.drop j) = ([], L.drop j) := by rw [e]; exact takeS_stop1 hc
  rw [h, h2, List.append_nil]
theorem Took.all {sign : List UInt8} {L O : List (List UInt8)} {j : Nat} (h : Took sign L j O) (hj : L.length ≤ j) : takeS sign L = (O, L.drop j) := by
  have e : L.drop j = [] := List.drop_eq_nil_of_le hj
  rw [h, e]
  simp [takeS]
theorem Took.none {sign : List UInt8} {L O : List (List UInt8)} {j : Nat} {s : List UInt8} (h : Took sign L j O) (hs : L[j]? = some s) (hc : ¬ (s.length ≤ 2 ∨ s.take 2 ≠ sign)) (ht : L[j + 1]? = some noneL) : Took sign L (j + 2) (O ++ [(s.drop 2).dropLast]) := by
  have e : L.drop j = s :: noneL :: L.drop (j + 2) := by
    obtain ⟨hj, e⟩ := List.getElem?_eq_some_iff.1 hs
    obtain ⟨hj1, e1⟩ := List.getElem?_eq_some_iff.1 ht
    rw [List.drop_eq_getElem_cons hj, e, List.drop_eq_getElem_cons hj1, e1]
  unfold Took at h ⊢
  rw [h, e, takeS_none hc]
  simp
theorem Took.more {sign : List UInt8} {L O : List (List UInt8)} {j : Nat} {s : List UInt8} (h : Took sign L j O) (hs : L[j]? = some s) (hc : ¬ (s.length ≤ 2 ∨ s.take 2 ≠ sign)) (ht : L[j + 1]? ≠ some noneL) : Took sign L (j + 1) (O ++ [s.drop 2]) := by
  have e : L.drop j = s :: L.drop (j + 1) := by
    obtain ⟨hj, e⟩ := List.getElem?_eq_some_iff.1 hs
    rw [List.drop_eq_getElem_cons hj, e]
  unfold Took at h ⊢
  rw [h, e, takeS_more hc (fun t r' e2 e3 => ht (by
    have : (L.drop (j + 1))[0]? = some t := by rw [e2]; rfl
    rw [List.getElem?_drop] at this
    rw [← e3]
    simpa using this))]
  simp

def sOld (c : UInt8) (l : List (List UInt8)) : List (List UInt8) × List (List UInt8) := if c ≠ 97 then takeS [60, 32] l else ([], l)
def sMid (c : UInt8) (l : List (List UInt8)) : List (List UInt8) := if c = 99 then (sOld c l).2.drop 1 else (sOld c l).2
def sNew (c : UInt8) (l : List (List UInt8)) : List (List UInt8) × List (List UInt8) := if c ≠ 100 then takeS [62, 32] (sMid c l) else ([], sMid c l)
def sStep (f t : Nat) (c : UInt8) (n m : Nat) (l : List (List UInt8)) : Sp := ⟨f, t, (sOld c l).1.map bs, n, m, (sNew c l).1.map bs⟩
def plainL (h : List UInt8) : List UInt8 := if endsL h then h.dropLast else h
theorem parse_bad {k : Nat} {h : List UInt8} {l : List (List UInt8)} (e : readHead (plainL h) = none) : parseS (k + 1) (h :: l) = none := by
  unfold plainL at e
  rw [parseS, e]
theorem parse_more {k : Nat} {h : List UInt8} {l : List (List UInt8)} {f t n m : Nat} {c : UInt8} (e : readHead (plainL h) = some (f, t, c, n, m)) : parseS (k + 1) (h :: l) = (parseS k (sNew c l).2).map fun r => sStep f t c n m l :: r := by
  unfold plainL at e
  rw [parseS, e]
  rfl
theorem sNew_len (c : UInt8) (l : List (List UInt8)) : (sNew c l).2.length ≤ l.length := by
  have h1 := takeS_len [60, 32] l
  have h2 := takeS_len [62, 32] (sMid c l)
  have h3 : (sMid c l).length ≤ l.length := by
    have h4 : (sOld c l).2.length ≤ l.length := by
      unfold sOld
      split
      · exact h1
      · exact Nat.le_refl _
    unfold sMid
    split
    · rw [List.length_drop]; omega
    · exact h4
  unfold sNew
  split
  · omega
  · exact h3
/-- P has been read, and L is left. -/
def Parsed (s : List UInt8) (P : List Sp) (L : List (List UInt8)) : Prop := ∃ k, L.length ≤ k ∧ parseS s.length ((cutGo [] s).map (·.data.toList)) = (parseS k L).map fun r => P ++ r
theorem cut_length (s : List UInt8) : ∀ cur, (cutGo cur s).length ≤ s.length + (if cur = [] then 0 else 1) := by
  induction s with
  | nil => intro cur; rw [cutGo]; split <;> simp_all
  | cons c s ih =>
    intro cur
    rw [cutGo]
    split
    · have := ih []
      simp at this ⊢
      split <;> omega
    · have := ih (cur ++ [c])
      simp at this ⊢
      split <;> omega
theorem Parsed.start (s : List UInt8) : Parsed s [] ((cutGo [] s).map (·.data.toList)) := ⟨s.length, by have := cut_length s []; simpa using this, by simp⟩
theorem Parsed.bad {s : List UInt8} {P : List Sp} {h : List UInt8} {l : List (List UInt8)} (hp : Parsed s P (h :: l)) (e : readHead (plainL h) = none) : textSteps s = none := by
  obtain ⟨k, hk, hp⟩ := hp
  obtain ⟨k, rfl⟩ : ∃ j, k = j + 1 := ⟨k - 1, by simp at hk; omega⟩
  unfold textSteps
  rw [hp, parse_bad e]
  rfl
theorem Parsed.more {s : List UInt8} {P : List Sp} {h : List UInt8} {l : List (List UInt8)} (hp : Parsed s P (h :: l)) {f t n m : Nat} {c : UInt8} (e : readHead (plainL h) = some (f, t, c, n, m)) : Parsed s (P ++ [sStep f t c n m l]) (sNew c l).2 := by
  obtain ⟨k, hk, hp⟩ := hp
  obtain ⟨k, rfl⟩ : ∃ j, k = j + 1 := ⟨k - 1, by simp at hk; omega⟩
  refine ⟨k, ?_, ?_⟩
  · have := sNew_len c l
    simp at hk
    omega
  · rw [hp, parse_more e]
    cases parseS k (sNew c l).2 <;> simp
theorem Parsed.last {s : List UInt8} {P : List Sp} (hp : Parsed s P []) : textSteps s = if s.length ≤ 3000 ∧ stepsB P = true ∧ stepsT P = s then some P else none := by
  obtain ⟨k, hk, hp⟩ := hp
  unfold textSteps
  rw [hp]
  have : parseS k [] = some [] := by cases k <;> rfl
  rw [this]
  simp
theorem Parsed.no {s : List UInt8} {P : List Sp} (hp : Parsed s P []) (h : stepsB P = false ∨ stepsT P ≠ s) : readN s = ([], 1, false) := by
  refine readN_bad ?_
  rw [hp.last, if_neg]
  rintro ⟨_, h2, h3⟩
  rcases h with h | h
  · rw [h] at h2; cases h2
  · exact h h3
theorem Parsed.yes {s : List UInt8} {P : List Sp} (hp : Parsed s P []) (h0 : s.length ≤ 3000) (h : stepsB P = true) (h2 : stepsT P = s) : readN s = (P, 0, true) := by
  unfold readN
  rw [hp.last, if_pos ⟨h0, h, h2⟩]

end Go.Proofs.YtnimaadjmejmpaaGreatDoor.M
