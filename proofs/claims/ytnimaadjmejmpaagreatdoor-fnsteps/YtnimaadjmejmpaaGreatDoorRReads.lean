/-
  Reading steps, the program's way: mathematics. The reader is what is left of a text and whether it has failed.
  strings.IndexAny at the letters "acd", at every text.
  The reader of steps, the program's: its memory, words and lines.
  One step is read, and all of them: the program's.
  ReadNormal, the program's.
  Heads and shown lines, the model's.
  ReadNormal, the model's.
-/
import Derived.Test.YtnimaadjmejmpaaGreatDoorSTxtB
import Derived.Test.YtnimaadjmejmpaaGreatDoorNVars
import Derived.Test.YtnimaadjmejmpaaGreatDoorShelf
import Derived.Lib.OthersKept
import Derived.Laws.RangeAny
import Derived.Laws.Runes
import Derived.WalkMore
import Derived.BigQuiet
import Derived.Test.YtnimaadjmejmpaaGreatDoorNTwo
import Derived.Test.YtnimaadjmejmpaaGreatDoorNSplits
import Derived.Test.YtnimaadjmejmpaaGreatDoorSSteps
import Derived.Test.YtnimaadjmejmpaaGreatDoorSTxtI
import Derived.Test.YtnimaadjmejmpaaGreatDoorSStepsI
import Derived.Test.YtnimaadjmejmpaaGreatDoorHPatch
import Derived.StillTailTactics
import Derived.Test.YtnimaadjmejmpaaGreatDoorSTxtS
import Derived.Test.YtnimaadjmejmpaaGreatDoorSGoods
import Derived.Test.YtnimaadjmejmpaaGreatDoorLinesS
import Derived.Test.YtnimaadjmejmpaaGreatDoorPart
set_option linter.unusedSimpArgs false
set_option linter.unusedVariables false
namespace Go.Proofs.YtnimaadjmejmpaaGreatDoor.M
open Go

def rWord (p : List UInt8) (r : List UInt8 × Bool) : List UInt8 × Bool := if Lib.hasPrefix r.1 p = true then (r.1.drop p.length, r.2) else ([], true)
def rPlain (r : List UInt8 × Bool) : List UInt8 × (List UInt8 × Bool) := if (Lib.cut r.1 [10]).2.2 = true then ((Lib.cut r.1 [10]).1, ((Lib.cut r.1 [10]).2.1, r.2)) else ([], ([], true))
def rShown (sign : List UInt8) (r : List UInt8 × Bool) : List UInt8 × (List UInt8 × Bool) :=
  if Lib.hasPrefix (rPlain (rWord sign r)).2.1 noneL = true then ((rPlain (rWord sign r)).1, ((rPlain (rWord sign r)).2.1.drop 7, (rPlain (rWord sign r)).2.2)) else ((rPlain (rWord sign r)).1 ++ [10], (rPlain (rWord sign r)).2)
def rShowns (sign : List UInt8) : Nat → List UInt8 × Bool → List (List UInt8) × (List UInt8 × Bool)
  | 0, r => ([], r)
  | n + 1, r => if r.2 = true then ([], r) else ((rShown sign r).1 :: (rShowns sign n (rShown sign r).2).1, (rShowns sign n (rShown sign r).2).2)
def rOld (k : UInt8) (f t : Nat) (r : List UInt8 × Bool) : List (List UInt8) × (List UInt8 × Bool) := if k = 97 then ([], r) else rShowns [60, 32] (t - f + 1) r
def rMid (k : UInt8) (r : List UInt8 × Bool) : List UInt8 × Bool := if k = 99 then rWord ruleL r else r
def rNew (k : UInt8) (n m : Nat) (r : List UInt8 × Bool) : List (List UInt8) × (List UInt8 × Bool) := if k = 100 then ([], r) else rShowns [62, 32] (m - n + 1) r
/-- What a step's head and what follows are read as; k the letter. -/
def rBody (k : UInt8) (f t n m : Nat) (r : List UInt8 × Bool) : Sp × (List UInt8 × Bool) :=
  (⟨f, t, (rOld k f t r).1.map bs, n, m, (rNew k n m (rMid k (rOld k f t r).2)).1.map bs⟩, (rNew k n m (rMid k (rOld k f t r).2)).2)
/-- One step is read; c is where its letter is. -/
def rStep (c : Int) (r : List UInt8 × Bool) : Sp × (List UInt8 × Bool) :=
  if c < 0 then (blankP, ([], true)) else
  match pairL ((rPlain r).1.take c.toNat), pairL ((rPlain r).1.drop (c.toNat + 1)) with
  | some (f, t), some (n, m) => rBody (((rPlain r).1[c.toNat]?).getD 0) f t n m (rPlain r).2
  | _, _ => (blankP, ([], true))
/-- Where the letter of a head is: told exactly of heads of plain bytes. -/
def okCut (h : List UInt8) (c : Int) : Prop := -1 ≤ c ∧ c < h.length ∧ ((∀ b ∈ h, b.toNat < 128) → c = Lib.indexAny h [97, 99, 100]) ∧ (0 ≤ c → ∃ k : UInt8, h[c.toNat]? = some k ∧ (k = 97 ∨ k = 99 ∨ k = 100))

theorem pre_self (p q : List UInt8) : Lib.hasPrefix (p ++ q) p = true := by
  unfold Lib.hasPrefix
  rw [List.isPrefixOf_iff_prefix]
  exact List.prefix_append p q
theorem pre_none {c : UInt8} (h : c ≠ 92) (r : List UInt8) : Lib.hasPrefix (c :: r) noneL = false := by
  unfold Lib.hasPrefix noneL
  simp [List.isPrefixOf]
  intro e
  exact absurd e.symm h
theorem pre_nil : Lib.hasPrefix [] noneL = false := rfl
theorem rWord_hit (p q : List UInt8) (f : Bool) : rWord p (p ++ q, f) = (q, f) := by
  unfold rWord
  rw [if_pos (pre_self p q)]
  simp
theorem rPlain_hit {p : List UInt8} (h : (10 : UInt8) ∉ p) (q : List UInt8) (f : Bool) : rPlain (p ++ 10 :: q, f) = (p, (q, f)) := by
  unfold rPlain
  rw [cut_hit 10 p q h, if_pos rfl]
theorem rPlain_hit' {p : List UInt8} (h : (10 : UInt8) ∉ p) (q : List UInt8) (f : Bool) : rPlain (p ++ [10] ++ q, f) = (p, (q, f)) := by
  have := rPlain_hit h q f
  rwa [show p ++ [10] ++ q = p ++ 10 :: q by simp]

theorem ends_split {s : List UInt8} (h : endsL s = true) : s = s.dropLast ++ [10] := by
  unfold endsL at h
  have h : s.getLast? = some 10 := by simpa using h
  obtain ⟨p, rfl⟩ := List.getLast?_eq_some_iff.1 h
  simp
theorem noend_no10 {s : ByteArray} (h : lineB s = true) (he : endsL s.data.toList = false) : (10 : UInt8) ∉ s.data.toList := by
  have h1 := line_no10 h
  intro hm
  have hsz := (lineB_size h).1
  have hne : s.data.toList ≠ [] := by
    intro e
    have : s.size = 0 := by rw [Lib.size_eq, e]; rfl
    omega
  have e := List.dropLast_concat_getLast hne
  rw [← e] at hm
  rcases List.mem_append.1 hm with h2 | h2
  · exact h1 h2
  · have h2 := List.mem_singleton.1 h2
    unfold endsL at he
    rw [List.getLast?_eq_some_getLast hne, ← h2] at he
    cases he

theorem rShown_back {sign : List UInt8} {s : ByteArray} (h : lineB s = true) (t : List UInt8) (ht : Lib.hasPrefix t noneL = false) : rShown sign (showT sign s.data.toList ++ t, false) = (s.data.toList, (t, false)) := by
  rw [showT_eq]
  cases he : endsL s.data.toList
  · have e : rPlain (rWord sign (sign ++ s.data.toList ++ [10] ++ noneL ++ t, false)) = (s.data.toList, (noneL ++ t, false)) := by
      rw [show sign ++ s.data.toList ++ [10] ++ noneL ++ t = sign ++ (s.data.toList ++ [10] ++ (noneL ++ t)) by simp, rWord_hit, rPlain_hit' (noend_no10 h he)]
    rw [if_neg Bool.false_ne_true]
    unfold rShown
    rw [e]
    dsimp only
    rw [if_pos (pre_self noneL t)]
    simp [noneL]
  · have e1 := ends_split he
    have e : rPlain (rWord sign (sign ++ s.data.toList ++ t, false)) = (s.data.toList.dropLast, (t, false)) := by
      rw [show sign ++ s.data.toList ++ t = sign ++ (s.data.toList ++ t) by simp, rWord_hit]
      have e3 := rPlain_hit' (line_no10 h) t false
      rwa [← e1] at e3
    rw [if_pos rfl]
    unfold rShown
    rw [e]
    dsimp only
    rw [if_neg (by rw [ht]; simp), ← e1]

theorem showT_head {a b : UInt8} (s : List UInt8) : ∃ r, showT [a, b] s = a :: r := by
  rw [showT_eq]
  split
  · exact ⟨_, rfl⟩
  · exact ⟨_, rfl⟩

theorem sideT_cons (sign : List UInt8) (s : ByteArray) (l : List ByteArray) : sideT sign (s :: l) = showT sign s.data.toList ++ sideT sign l := by
  unfold sideT showT sideL
  rw [List.flatMap_cons, List.flatten_append]

theorem rShowns_back {a b : UInt8} (ha : a ≠ 92) : ∀ (l : List ByteArray) (t : List UInt8), (∀ s ∈ l, lineB s = true) → Lib.hasPrefix t noneL = false → rShowns [a, b] l.length (sideT [a, b] l ++ t, false) = (l.map (·.data.toList), (t, false))
  | [], t, _, _ => by simp [rShowns, sideT_nil]
  | s :: l, t, hl, ht => by
    have h1 : Lib.hasPrefix (sideT [a, b] l ++ t) noneL = false := by
      cases l with
      | nil => simpa [sideT_nil] using ht
      | cons u l =>
        obtain ⟨r, e⟩ := showT_head (a := a) (b := b) u.data.toList
        rw [sideT_cons, e]
        exact pre_none ha _
    have h2 := rShown_back (sign := [a, b]) (hl s (by simp)) (sideT [a, b] l ++ t) h1
    rw [sideT_cons, List.append_assoc, List.length_cons, rShowns, if_neg (by simp), h2]
    dsimp only
    rw [rShowns_back ha l t (fun u hu => hl u (by simp [hu])) ht]
    rfl

theorem stepsT_pre (p : List Sp) : Lib.hasPrefix (stepsT p) noneL = false := by
  cases p with
  | nil => rfl
  | cons x p =>
    obtain ⟨c, r, e, hc⟩ := head_line (x := x)
    have e2 : stepsT (x :: p) = (headL x ++ [10]) ++ ((sideL [60, 32] x.old ++ ((if wordL x = 99 then [ruleL] else []) ++ sideL [62, 32] x.new)).flatten ++ stepsT p) := by
      unfold stepsT stepsL
      rw [List.flatMap_cons, List.flatten_append]
      simp [stepL]
    rw [e2, e]
    refine pre_none (fun e3 => ?_) _
    have := dig_range hc
    rw [e3] at this
    simp at this

theorem stepsT_cons (x : Sp) (p : List Sp) : stepsT (x :: p) = spT x ++ stepsT p := by
  unfold stepsT stepsL
  rw [List.flatMap_cons, List.flatten_append, stepL_flat]

theorem head_no10 (x : Sp) : (10 : UInt8) ∉ headL x := by
  intro h
  unfold headL at h
  rcases List.mem_append.1 h with h | h
  · exact nums_no10 h
  · rcases List.mem_cons.1 h with h | h
    · unfold wordL at h
      split at h
      · cases h
      · split at h <;> cases h
    · exact nums_no10 h

theorem word_is (x : Sp) : wordL x = 97 ∨ wordL x = 99 ∨ wordL x = 100 := by
  unfold wordL
  split
  · exact .inl rfl
  · split
    · exact .inr (.inr rfl)
    · exact .inr (.inl rfl)

theorem nums_noany {a b : Nat} {c : UInt8} (h : c ∈ numsL a b) : ([97, 99, 100] : List UInt8).contains c = false := by
  have h1 := nums_range h
  simp only [List.contains_cons, List.contains_nil, Bool.or_false, Bool.or_eq_false_iff, beq_eq_false_iff_ne]
  refine ⟨fun e => ?_, fun e => ?_, fun e => ?_⟩ <;> (rw [e] at h1; simp at h1)

theorem head_cut {x : Sp} {c : Int} (h : okCut (headL x) c) : c = ((numsL x.fr.toNat x.to_.toNat).length : Int) := by
  rw [h.2.2.1 ?_]
  · refine Lib.indexAny_hit (x := wordL x) ?_ ?_ ?_
    · intro j b hj hb
      unfold headL at hb
      rw [List.getElem?_append_left hj] at hb
      exact nums_noany (List.mem_of_getElem? hb)
    · unfold headL
      rw [List.getElem?_append_right (Nat.le_refl _)]
      simp
    · rcases word_is x with e | e | e <;> (rw [e]; rfl)
  · intro b hb
    unfold headL at hb
    rcases List.mem_append.1 hb with h | h
    · have := nums_range h; omega
    · rcases List.mem_cons.1 h with h | h
      · rcases word_is x with e | e | e <;> (rw [h, e]; decide)
      · have := nums_range h; omega

theorem map_bs (l : List ByteArray) : (l.map (·.data.toList)).map bs = l := by
  induction l with
  | nil => rfl
  | cons s l ih => simp only [List.map_cons, ih, bs_self]

theorem rStep_back {x : Sp} (h : stepB x = true) (p : List Sp) {c : Int} (hc : okCut (rPlain (stepsT (x :: p), false)).1 c) : rStep c (stepsT (x :: p), false) = (x, (stepsT p, false)) := by
  obtain ⟨h1, h2, h3⟩ := stepB_parts h
  obtain ⟨A, B, ea, eb, hab, hb, hg1, hl1, hl1'⟩ := side_le h1
  obtain ⟨C, D, ec, ed, hcd, hd, hg2, hl2, hl2'⟩ := side_le h2
  have e1 : stepsT (x :: p) = headL x ++ 10 :: (sideT [60, 32] x.old ++ (midT x ++ (sideT [62, 32] x.new ++ stepsT p))) := by
    rw [stepsT_cons, spT]; simp
  have e2 := rPlain_hit (head_no10 x) (sideT [60, 32] x.old ++ (midT x ++ (sideT [62, 32] x.new ++ stepsT p))) false
  rw [← e1] at e2
  rw [e2] at hc
  have hcc := head_cut hc
  have k1 : (headL x).take c.toNat = numsL x.fr.toNat x.to_.toNat := by
    rw [hcc, Int.toNat_natCast]; unfold headL; simp
  have k2 : (headL x).drop (c.toNat + 1) = numsL x.at_.toNat x.en.toNat := by
    rw [hcc, Int.toNat_natCast]; unfold headL; simp
  have k3 : (headL x)[c.toNat]? = some (wordL x) := by
    rw [hcc, Int.toNat_natCast]; unfold headL; simp
  unfold rStep
  rw [if_neg (by omega), e2]
  dsimp only
  rw [k1, k2, nums_back (by omega) (by omega), nums_back (by omega) (by omega), k3]
  dsimp only [Option.getD_some]
  have ho := good_lines hg1
  have hn := good_lines hg2
  have q1 : rOld (wordL x) x.fr.toNat x.to_.toNat (sideT [60, 32] x.old ++ (midT x ++ (sideT [62, 32] x.new ++ stepsT p)), false) = (x.old.map (·.data.toList), (midT x ++ (sideT [62, 32] x.new ++ stepsT p), false)) := by
    unfold rOld
    by_cases h0 : x.old.length = 0
    · have e0 := List.eq_nil_of_length_eq_zero h0
      have hw : wordL x = 97 := if_pos h0
      rw [if_pos hw, e0]
      simp [sideT_nil]
    · have hw : wordL x ≠ 97 := by
        unfold wordL
        rw [if_neg h0]
        split <;> decide
      rw [if_neg hw]
      have hlen : x.to_.toNat - x.fr.toNat + 1 = x.old.length := by have := hl1' h0; omega
      rw [hlen]
      refine rShowns_back (by decide) _ _ ho ?_
      unfold midT
      split
      · exact pre_none (by decide) _
      · rename_i hw2
        have h0' : x.new.length = 0 := by
          by_cases h0' : x.new.length = 0
          · exact h0'
          · exact absurd ((if_neg h0).trans (if_neg h0')) hw2
        rw [List.eq_nil_of_length_eq_zero h0']
        simpa [sideT_nil] using stepsT_pre p
  have q2 : rMid (wordL x) (midT x ++ (sideT [62, 32] x.new ++ stepsT p), false) = (sideT [62, 32] x.new ++ stepsT p, false) := by
    unfold rMid midT
    split
    · exact rWord_hit _ _ _
    · rfl
  have q3 : rNew (wordL x) x.at_.toNat x.en.toNat (sideT [62, 32] x.new ++ stepsT p, false) = (x.new.map (·.data.toList), (stepsT p, false)) := by
    unfold rNew
    by_cases h0 : x.new.length = 0
    · have e0 := List.eq_nil_of_length_eq_zero h0
      have hw : wordL x = 100 := by
        unfold wordL
        rw [if_neg (by omega), if_pos h0]
      rw [if_pos hw, e0]
      simp [sideT_nil]
    · have hw : wordL x ≠ 100 := by
        unfold wordL
        rw [if_neg h0]
        split <;> decide
      rw [if_neg hw]
      have hlen : x.en.toNat - x.at_.toNat + 1 = x.new.length := by have := hl2' h0; omega
      rw [hlen]
      exact rShowns_back (by decide) _ _ hn (stepsT_pre p)
  unfold rBody
  rw [q1]
  dsimp only
  rw [q2, q3]
  dsimp only
  rw [map_bs, map_bs]
  refine Prod.ext (Sp.ext_ ?_ ?_ rfl ?_ ?_ rfl) rfl <;> (dsimp only; omega)

/-! How much is left. -/

theorem rWord_le (p : List UInt8) (r : List UInt8 × Bool) : (rWord p r).1.length ≤ r.1.length := by
  unfold rWord; split <;> simp
theorem cut_le (l : List UInt8) : (Lib.cut l [10]).1.length ≤ l.length ∧ ((Lib.cut l [10]).2.2 = true → (Lib.cut l [10]).1.length + (Lib.cut l [10]).2.1.length < l.length) := by
  by_cases h : (10 : UInt8) ∈ l
  · obtain ⟨p, q, rfl, hp⟩ := List.eq_append_cons_of_mem h
    rw [cut_hit 10 p q hp]
    simp
  · rw [cut_none 10 l h]
    simp
theorem rPlain_le (r : List UInt8 × Bool) : (rPlain r).1.length ≤ r.1.length ∧ (rPlain r).2.1.length ≤ r.1.length ∧ (r.1 ≠ [] → (rPlain r).2.1.length < r.1.length) := by
  have h := cut_le r.1
  unfold rPlain
  split
  · rename_i h2
    have := h.2 h2
    exact ⟨by dsimp only; omega, by dsimp only; omega, fun _ => by dsimp only; omega⟩
  · refine ⟨by simp, by simp, fun e => ?_⟩
    have := List.length_pos_iff.2 e
    simpa using this
theorem rShown_le (sign : List UInt8) (r : List UInt8 × Bool) : (rShown sign r).1.length ≤ r.1.length + 1 ∧ (rShown sign r).2.1.length ≤ r.1.length := by
  have h1 := rWord_le sign r
  have h2 := rPlain_le (rWord sign r)
  unfold rShown
  split
  · refine ⟨by dsimp only; omega, ?_⟩
    dsimp only
    rw [List.length_drop]
    omega
  · refine ⟨by simp; omega, by dsimp only; omega⟩
theorem rShowns_le (sign : List UInt8) : ∀ (n : Nat) (r : List UInt8 × Bool), (rShowns sign n r).1.length ≤ n ∧ (rShowns sign n r).2.1.length ≤ r.1.length ∧ ∀ s ∈ (rShowns sign n r).1, s.length ≤ r.1.length + 1
  | 0, r => by simp [rShowns]
  | n + 1, r => by
    rw [rShowns]
    split
    · simp
    · have h1 := rShown_le sign r
      obtain ⟨h2, h3, h4⟩ := rShowns_le sign n (rShown sign r).2
      refine ⟨by simp; omega, by dsimp only; omega, fun s hs => ?_⟩
      rcases List.mem_cons.1 hs with e | e
      · rw [e]; omega
      · have := h4 s e; omega
theorem rOld_le (k : UInt8) (f t : Nat) (r : List UInt8 × Bool) : (rOld k f t r).2.1.length ≤ r.1.length ∧ ∀ s ∈ (rOld k f t r).1, s.length ≤ r.1.length + 1 := by
  unfold rOld
  split
  · simp
  · exact (rShowns_le _ _ _).2
theorem rMid_le (k : UInt8) (r : List UInt8 × Bool) : (rMid k r).1.length ≤ r.1.length := by
  unfold rMid
  split
  · exact rWord_le _ _
  · exact Nat.le_refl _
theorem rNew_le (k : UInt8) (f t : Nat) (r : List UInt8 × Bool) : (rNew k f t r).2.1.length ≤ r.1.length ∧ ∀ s ∈ (rNew k f t r).1, s.length ≤ r.1.length + 1 := by
  unfold rNew
  split
  · simp
  · exact (rShowns_le _ _ _).2
theorem rBody_le (k : UInt8) (f t n m : Nat) (r : List UInt8 × Bool) : (rBody k f t n m r).2.1.length ≤ r.1.length := by
  have h1 := (rOld_le k f t r).1
  have h2 := rMid_le k (rOld k f t r).2
  have h3 := (rNew_le k n m (rMid k (rOld k f t r).2)).1
  unfold rBody
  dsimp only
  omega
theorem rStep_lt (c : Int) {r : List UInt8 × Bool} (h : r.1 ≠ []) : (rStep c r).2.1.length < r.1.length := by
  have h0 := List.length_pos_iff.2 h
  have h1 := (rPlain_le r).2.2 h
  unfold rStep
  split
  · simpa using h0
  · split
    · have h2 := rBody_le (((rPlain r).1[c.toNat]?).getD 0) ‹Nat› ‹Nat› ‹Nat› ‹Nat› (rPlain r).2
      rename_i f t n m _ _
      have h2 := rBody_le (((rPlain r).1[c.toNat]?).getD 0) f t n m (rPlain r).2
      omega
    · simpa using h0

/-! The answer. -/

/-- What ReadNormal answers. -/
def readN (s : List UInt8) : List Sp × Int × Bool := match textSteps s with
  | some p => (p, 0, true)
  | none => ([], 1, false)
/-- What the program has read so far, where the text is one of good steps. -/
def Reads (s : List UInt8) (p : List Sp) (r : List UInt8 × Bool) : Prop := ∀ q : List Sp, q.all stepB = true → stepsT q = s → ∃ k, k ≤ q.length ∧ p = q.take k ∧ r = (stepsT (q.drop k), false)
theorem Reads.start (s : List UInt8) : Reads s [] (s, false) := fun q _ e => ⟨0, Nat.zero_le _, rfl, by rw [List.drop_zero, e]⟩
theorem Reads.next {s : List UInt8} {p : List Sp} {r : List UInt8 × Bool} (h : Reads s p r) (hr : r.1 ≠ []) {c : Int} (hc : okCut (rPlain r).1 c) : Reads s (p ++ [(rStep c r).1]) (rStep c r).2 := by
  intro q hq e
  obtain ⟨k, hk, e1, e2⟩ := h q hq e
  subst e2
  have hlt : k < q.length := by
    rcases Nat.lt_or_ge k q.length with h5 | h5
    · exact h5
    · exact absurd (by rw [List.drop_eq_nil_of_le h5]; rfl) hr
  have e3 : q.drop k = q[k] :: q.drop (k + 1) := List.drop_eq_getElem_cons hlt
  have hx : stepB q[k] = true := List.all_eq_true.1 hq _ (List.getElem_mem hlt)
  rw [e3] at hc
  have e4 := rStep_back hx (q.drop (k + 1)) hc
  rw [e3, e4]
  refine ⟨k + 1, hlt, ?_, rfl⟩
  rw [e1, List.take_succ_eq_append_getElem hlt]
theorem Reads.last {s : List UInt8} {p : List Sp} {r : List UInt8 × Bool} (h : Reads s p r) (hr : r.1 = []) {q : List Sp} (e : textSteps s = some q) : p = q ∧ r.2 = false := by
  obtain ⟨h1, h2, h3⟩ := textSteps_some.1 e
  have h4 : q.all stepB = true := by unfold stepsB at h2; simp only [Bool.and_eq_true] at h2; exact h2.1
  obtain ⟨k, hk, e1, e2⟩ := h q h4 h3
  subst e2
  have h5 := stepsL_len (q.drop k)
  dsimp only at hr
  rw [hr] at h5
  have h6 : k = q.length := by simp at h5; omega
  exact ⟨by rw [e1, h6, List.take_length], rfl⟩
theorem readN_bad {s : List UInt8} (h : textSteps s = none) : readN s = ([], 1, false) := by unfold readN; rw [h]
theorem readN_long {s : List UInt8} (h : 3000 < s.length) : readN s = ([], 1, false) := by
  refine readN_bad ?_
  cases e : textSteps s with
  | none => rfl
  | some q => have := (textSteps_some.1 e).1; omega
theorem readN_ok {s : List UInt8} {p : List Sp} (h1 : (textP p).2 = true) (h2 : (textP p).1 = s) : readN s = (p, 0, true) := by
  unfold textP at h1 h2
  split at h1
  · rename_i hc
    rw [if_pos hc] at h2
    dsimp only at h2
    have : textSteps s = some p := textSteps_some.2 ⟨by rw [← h2]; exact hc.2, hc.1, h2⟩
    unfold readN
    rw [this]
  · cases h1
theorem readN_not {s : List UInt8} {p : List Sp} {r : List UInt8 × Bool} (h : Reads s p r) (hr : r.1 = []) (hb : r.2 = true ∨ (textP p).2 = false ∨ (textP p).1 ≠ s) : readN s = ([], 1, false) := by
  refine readN_bad ?_
  cases e : textSteps s with
  | none => rfl
  | some q =>
    exfalso
    obtain ⟨e1, e2⟩ := h.last hr e
    obtain ⟨h1, h2, h3⟩ := textSteps_some.1 e
    subst e1
    have e4 : textP p = (stepsT p, true) := if_pos ⟨h2, by rw [h3]; exact h1⟩
    rw [e4] at hb
    rcases hb with hb | hb | hb
    · rw [e2] at hb; cases hb
    · cases hb
    · exact hb h3

/-! Reading steps, the model's way. -/

theorem takeS_stop1 {sign s : List UInt8} {r : List (List UInt8)} (h : s.length ≤ 2 ∨ s.take 2 ≠ sign) : takeS sign (s :: r) = ([], s :: r) := by
  cases r with
  | nil => rw [takeS, if_pos h]
  | cons t r => rw [takeS, if_pos h]
theorem takeS_none {sign s : List UInt8} {r : List (List UInt8)} (h : ¬ (s.length ≤ 2 ∨ s.take 2 ≠ sign)) : takeS sign (s :: noneL :: r) = ((s.drop 2).dropLast :: (takeS sign r).1, (takeS sign r).2) := by
  rw [takeS, if_neg h, if_pos rfl]
theorem takeS_more {sign s : List UInt8} {r : List (List UInt8)} (h : ¬ (s.length ≤ 2 ∨ s.take 2 ≠ sign)) (hr : ∀ t r', r = t :: r' → t ≠ noneL) : takeS sign (s :: r) = (s.drop 2 :: (takeS sign r).1, (takeS sign r).2) := by
  cases r with
  | nil =>
    have e0 : takeS sign [] = ([], []) := rfl
    rw [e0, takeS, if_neg h]
  | cons t r => rw [takeS, if_neg h, if_neg (hr t r rfl)]
/-- Of the lines L the first j are taken, as O. -/
def Took (sign : List UInt8) (L : List (List UInt8)) (j : Nat) (O : List (List UInt8)) : Prop := takeS sign L = (O ++ (takeS sign (L.drop j)).1, (takeS sign (L.drop j)).2)
theorem Took.start (sign : List UInt8) (L : List (List UInt8)) : Took sign L 0 [] := by unfold Took; simp
theorem Took.stop {sign : List UInt8} {L O : List (List UInt8)} {j : Nat} {s : List UInt8} (h : Took sign L j O) (hs : L[j]? = some s) (hc : s.length ≤ 2 ∨ s.take 2 ≠ sign) : takeS sign L = (O, L.drop j) := by
  have e : L.drop j = s :: L.drop (j + 1) := by
    obtain ⟨hj, e⟩ := List.getElem?_eq_some_iff.1 hs
    rw [List.drop_eq_getElem_cons hj, e]
  have h2 : takeS sign (L.drop j) = ([], L.drop j) := by rw [e]; exact takeS_stop1 hc
  rw [h, h2, List.append_nil]
theorem Took.all {sign : List UInt8} {L O : List (List UInt8)} {j : Nat} (h : Took sign L j O) (hj : L.length ≤ j) : takeS sign L = (O, L.drop j) := by
  have e : L.drop j = [] := List.drop_eq_nil_of_le hj
  rw [h, e]
  simp [takeS]
theorem Took.none {sign : List UInt8} {L O : List (List UInt8)} {j : Nat} {s : List UInt8} (h : Took sign L j O) (hs : L[j]? = some s) (hc : ¬ (s.length ≤ 2 ∨ s.take 2 ≠ sign)) (ht : L[j + 1]? = some noneL) : Took sign L (j + 2) (O ++ [(s.drop 2).dropLast]) := by
  have e : L.drop j = s :: noneL :: L.drop (j + 2) := by
    obtain ⟨hj, e⟩ := List.getElem?_eq_some_iff.1 hs
    obtain ⟨hj1, e1⟩ := List.getElem?_eq_some_iff.1 ht
    rw [List.drop_eq_getElem_cons hj, e, List.drop_eq_getElem_cons hj1, e1]
  unfold Took at h ⊢
  rw [h, e, takeS_none hc]
  simp
theorem Took.more {sign : List UInt8} {L O : List (List UInt8)} {j : Nat} {s : List UInt8} (h : Took sign L j O) (hs : L[j]? = some s) (hc : ¬ (s.length ≤ 2 ∨ s.take 2 ≠ sign)) (ht : L[j + 1]? ≠ some noneL) : Took sign L (j + 1) (O ++ [s.drop 2]) := by
  have e : L.drop j = s :: L.drop (j + 1) := by
    obtain ⟨hj, e⟩ := List.getElem?_eq_some_iff.1 hs
    rw [List.drop_eq_getElem_cons hj, e]
  unfold Took at h ⊢
  rw [h, e, takeS_more hc (fun t r' e2 e3 => ht (by
    have : (L.drop (j + 1))[0]? = some t := by rw [e2]; rfl
    rw [List.getElem?_drop] at this
    rw [← e3]
    simpa using this))]
  simp

def sOld (c : UInt8) (l : List (List UInt8)) : List (List UInt8) × List (List UInt8) := if c ≠ 97 then takeS [60, 32] l else ([], l)
def sMid (c : UInt8) (l : List (List UInt8)) : List (List UInt8) := if c = 99 then (sOld c l).2.drop 1 else (sOld c l).2
def sNew (c : UInt8) (l : List (List UInt8)) : List (List UInt8) × List (List UInt8) := if c ≠ 100 then takeS [62, 32] (sMid c l) else ([], sMid c l)
def sStep (f t : Nat) (c : UInt8) (n m : Nat) (l : List (List UInt8)) : Sp := ⟨f, t, (sOld c l).1.map bs, n, m, (sNew c l).1.map bs⟩
def plainL (h : List UInt8) : List UInt8 := if endsL h then h.dropLast else h
theorem parse_bad {k : Nat} {h : List UInt8} {l : List (List UInt8)} (e : readHead (plainL h) = none) : parseS (k + 1) (h :: l) = none := by
  unfold plainL at e
  rw [parseS, e]
theorem parse_more {k : Nat} {h : List UInt8} {l : List (List UInt8)} {f t n m : Nat} {c : UInt8} (e : readHead (plainL h) = some (f, t, c, n, m)) : parseS (k + 1) (h :: l) = (parseS k (sNew c l).2).map fun r => sStep f t c n m l :: r := by
  unfold plainL at e
  rw [parseS, e]
  rfl
theorem sNew_len (c : UInt8) (l : List (List UInt8)) : (sNew c l).2.length ≤ l.length := by
  have h1 := takeS_len [60, 32] l
  have h2 := takeS_len [62, 32] (sMid c l)
  have h3 : (sMid c l).length ≤ l.length := by
    have h4 : (sOld c l).2.length ≤ l.length := by
      unfold sOld
      split
      · exact h1
      · exact Nat.le_refl _
    unfold sMid
    split
    · rw [List.length_drop]; omega
    · exact h4
  unfold sNew
  split
  · omega
  · exact h3
/-- P has been read, and L is left. -/
def Parsed (s : List UInt8) (P : List Sp) (L : List (List UInt8)) : Prop := ∃ k, L.length ≤ k ∧ parseS s.length ((cutGo [] s).map (·.data.toList)) = (parseS k L).map fun r => P ++ r
theorem cut_length (s : List UInt8) : ∀ cur, (cutGo cur s).length ≤ s.length + (if cur = [] then 0 else 1) := by
  induction s with
  | nil => intro cur; rw [cutGo]; split <;> simp_all
  | cons c s ih =>
    intro cur
    rw [cutGo]
    split
    · have := ih []
      simp at this ⊢
      split <;> omega
    · have := ih (cur ++ [c])
      simp at this ⊢
      split <;> omega
theorem Parsed.start (s : List UInt8) : Parsed s [] ((cutGo [] s).map (·.data.toList)) := ⟨s.length, by have := cut_length s []; simpa using this, by simp⟩
theorem Parsed.bad {s : List UInt8} {P : List Sp} {h : List UInt8} {l : List (List UInt8)} (hp : Parsed s P (h :: l)) (e : readHead (plainL h) = none) : textSteps s = none := by
  obtain ⟨k, hk, hp⟩ := hp
  obtain ⟨k, rfl⟩ : ∃ j, k = j + 1 := ⟨k - 1, by simp at hk; omega⟩
  unfold textSteps
  rw [hp, parse_bad e]
  rfl
theorem Parsed.more {s : List UInt8} {P : List Sp} {h : List UInt8} {l : List (List UInt8)} (hp : Parsed s P (h :: l)) {f t n m : Nat} {c : UInt8} (e : readHead (plainL h) = some (f, t, c, n, m)) : Parsed s (P ++ [sStep f t c n m l]) (sNew c l).2 := by
  obtain ⟨k, hk, hp⟩ := hp
  obtain ⟨k, rfl⟩ : ∃ j, k = j + 1 := ⟨k - 1, by simp at hk; omega⟩
  refine ⟨k, ?_, ?_⟩
  · have := sNew_len c l
    simp at hk
    omega
  · rw [hp, parse_more e]
    cases parseS k (sNew c l).2 <;> simp
theorem Parsed.last {s : List UInt8} {P : List Sp} (hp : Parsed s P []) : textSteps s = if s.length ≤ 3000 ∧ stepsB P = true ∧ stepsT P = s then some P else none := by
  obtain ⟨k, hk, hp⟩ := hp
  unfold textSteps
  rw [hp]
  have : parseS k [] = some [] := by cases k <;> rfl
  rw [this]
  simp
theorem Parsed.no {s : List UInt8} {P : List Sp} (hp : Parsed s P []) (h : stepsB P = false ∨ stepsT P ≠ s) : readN s = ([], 1, false) := by
  refine readN_bad ?_
  rw [hp.last, if_neg]
  rintro ⟨_, h2, h3⟩
  rcases h with h | h
  · rw [h] at h2; cases h2
  · exact h h3
theorem Parsed.yes {s : List UInt8} {P : List Sp} (hp : Parsed s P []) (h0 : s.length ≤ 3000) (h : stepsB P = true) (h2 : stepsT P = s) : readN s = (P, 0, true) := by
  unfold readN
  rw [hp.last, if_pos ⟨h0, h, h2⟩]

end Go.Proofs.YtnimaadjmejmpaaGreatDoor.M

namespace Go.Proofs.YtnimaadjmejmpaaGreatDoor
open Go.RowKit M

set_option maxHeartbeats 2000000 in
set_option maxRecDepth 100000 in
theorem indexRune_error (w : World) : Calls Tryz.prog 116 #[.string ⟨#[97, 99, 100]⟩, .int .i32 65533] w fun e w' => e = .returned (.int .i64 (-1)) ∧ Below w.heap.size w w' := by
  go_enter Tryz.func116, Tryz.ntmps116
  go_wp2
  go_loopw [5, 6] (fun _ _ w' => ∃ pos, w' = w.iter ⟨#[97, 99, 100]⟩ pos ∧ pos ≤ 3) (fun _ _ w' => 3 - w'.iterPos w.heap.size)
  case atStart => exact ⟨0, rfl, by omega⟩
  case round =>
    obtain ⟨pos, rfl, hp⟩ := hrel
    rcases (by omega : pos = 0 ∨ pos = 1 ∨ pos = 2 ∨ pos = 3) with rfl | rfl | rfl | rfl
    · have hnx : ∀ ty, (Instr.next (.pointer (some ⟨w.heap.size, 0, none⟩)) true ty).run Tryz.prog (w.iter ⟨#[97, 99, 100]⟩ 0) = .ok (.tuple #[.bool true, .int .i64 0, .int .i32 97]) (w.iter ⟨#[97, 99, 100]⟩ 1) := fun ty => run_next_ascii w ⟨#[97, 99, 100]⟩ 0 ty (by decide) (by decide)
      go_wp2
      go_roundw
      case rel => exact ⟨1, rfl, by omega⟩
      case measure => simp
    · have hnx : ∀ ty, (Instr.next (.pointer (some ⟨w.heap.size, 0, none⟩)) true ty).run Tryz.prog (w.iter ⟨#[97, 99, 100]⟩ 1) = .ok (.tuple #[.bool true, .int .i64 1, .int .i32 99]) (w.iter ⟨#[97, 99, 100]⟩ 2) := fun ty => run_next_ascii w ⟨#[97, 99, 100]⟩ 1 ty (by decide) (by decide)
      go_wp2
      go_roundw
      case rel => exact ⟨2, rfl, by omega⟩
      case measure => simp
    · have hnx : ∀ ty, (Instr.next (.pointer (some ⟨w.heap.size, 0, none⟩)) true ty).run Tryz.prog (w.iter ⟨#[97, 99, 100]⟩ 2) = .ok (.tuple #[.bool true, .int .i64 2, .int .i32 100]) (w.iter ⟨#[97, 99, 100]⟩ 3) := fun ty => run_next_ascii w ⟨#[97, 99, 100]⟩ 2 ty (by decide) (by decide)
      go_wp2
      go_roundw
      case rel => exact ⟨3, rfl, by omega⟩
      case measure => simp
    · have hnx : ∀ ty, (Instr.next (.pointer (some ⟨w.heap.size, 0, none⟩)) true ty).run Tryz.prog (w.iter ⟨#[97, 99, 100]⟩ 3) = .ok (.tuple #[.bool false]) (w.iter ⟨#[97, 99, 100]⟩ 3) := fun ty => run_next_end w ⟨#[97, 99, 100]⟩ 3 ty (by decide)
      go_wp2
      go_ret
      exact ⟨rfl, (Below.refl _ _).alloc (Nat.le_refl _) _⟩

theorem valid_same {r : Int} (h : Lib.validRune r = true) : Utf8.valid r = true := by
  unfold Lib.validRune at h
  unfold Utf8.valid
  have h := of_decide_eq_true h
  simp
  omega

theorem indexByte_one {d : UInt8} (h : 128 ≤ d.toNat) : Lib.indexByte [100] d = -1 := by
  have h1 : ((100 : UInt8) == d) = false := by
    rw [beq_eq_false_iff_ne]
    intro e
    rw [← e] at h
    simp at h
  simp [Lib.indexByte, h1]

set_option maxHeartbeats 2000000 in
set_option maxRecDepth 100000 in
theorem indexRune_high (r : Int) (h : 128 ≤ r) (h2 : r ≤ 2147483647) (h3 : r ≠ 65533) (w : World) :
    Calls Tryz.prog 116 #[.string ⟨#[97, 99, 100]⟩, .int .i32 r] w fun e w' => e = .returned (.int .i64 (-1)) ∧ Below w.heap.size w w' := by
  have q1 : decide (r < 128) = false := by simp; omega
  have q2 : (r == 65533) = false := by simp; omega
  cases hv : Lib.validRune r
  · have HV := Lib.hid hv
    clear hv
    go_enter Tryz.func116, Tryz.ntmps116
    go_wp2_with fail
    refine (Tryz.utf8_ValidRune r _).mono ?_
    rintro e w1 ⟨rfl, rfl⟩
    rw [HV.out]
    go_wp2
    go_ret
    exact ⟨rfl, Below.refl _ _⟩
  · have HV := Lib.hid hv
    obtain ⟨e1, e2, e3⟩ := encode_facts r (valid_same hv) h
    obtain ⟨E, HE⟩ : ∃ E, Hid (E = Utf8.encode r) := ⟨_, rfl⟩
    rw [← HE.out] at e1 e2 e3
    have hcv : ∀ w, (convert 21 9 (.int .i32 r)).run Tryz.prog w = .ok (.string E) w := fun w => by rw [HE.out]; exact run_convert_int_string w 21 9 .i32 r (by kernel_rfl) (by kernel_rfl)
    clear hv
    obtain ⟨z, hz⟩ : ∃ z, z = E.size := ⟨_, rfl⟩
    obtain ⟨d, hd, hd2⟩ : ∃ d : UInt8, (∀ h : z - 1 < E.size, E[z - 1]'h = d) ∧ 128 ≤ d.toNat := ⟨E[z - 1]'(by omega), fun _ => rfl, by subst hz; exact e3 _⟩
    have HD := Lib.hid hd2
    clear e3
    rcases (by omega : z = 2 ∨ z = 3 ∨ z = 4) with hz2 | hz2 | hz2
    · subst hz2
      have hzs : E.size = 2 := hz.symm
      have hw2 : IntKind.i64.wrap 2 = 2 := by decide
      have hE : ∀ hh : 1 < E.size, E[1]'hh = d := fun hh => hd hh
      have HI := Lib.hid (indexByte_one hd2)
      have HI2 := Lib.hid (show Lib.indexByte ((⟨#[97, 99, 100]⟩ : ByteArray).extract 2 3).data.toList (d.toNat : Int).toNat.toUInt8 = -1 by rw [show ((d.toNat : Int)).toNat.toUInt8 = d by simp]; exact HI.out)
      have hne : ((((⟨#[97, 99, 100]⟩ : ByteArray)[1]'(by decide)).toNat : Int) != (d.toNat : Int)) = true := (show ((99 : Int) != (d.toNat : Int)) = true by simp; omega)
      clear hz hd e1 e2
      go_enter Tryz.func116, Tryz.ntmps116
      go_wp2_with fail
      refine (Tryz.utf8_ValidRune r _).mono ?_
      rintro e w1 ⟨rfl, rfl⟩
      rw [HV.out]
      go_wp2
      go_step3
      go_wp2
      go_loopw [9, 10] (fun i f w' => i = .int .i64 1 ∧ f = .int .i64 0 ∧ w' = w1) (fun _ _ _ => 0)
      case atStart => exact ⟨rfl, rfl, rfl⟩
      case round =>
        obtain ⟨rfl, rfl, rfl⟩ := hrel
        go_wp2
        go_step3
        go_wp2
        go_quiet (fail)
        go_wp2
        obtain ⟨W1, HW1⟩ : ∃ W1, Hid (W1 = wr.drewN nq) := ⟨_, rfl⟩
        rw [← HW1.out]
        go_quiet ((go_at_call 134; exact Calls.quiet_of_same (Tryz.strings_IndexByte _ _ _)))
        rw [HI2.out]
        go_wp2
        change bodyPost Tryz.prog Tryz.f116 (fun e w' => e = .returned (.int .i64 (-1)) ∧ Below wr.heap.size wr w') .ret _ _
        go_ret
        exact ⟨rfl, by rw [HW1.out]; exact below_drewN (below_drewN (Below.refl _ _) _) _⟩
    · subst hz2
      have hzs : E.size = 3 := hz.symm
      have hw3 : IntKind.i64.wrap 3 = 3 := by decide
      have hE : ∀ hh : 2 < E.size, E[2]'hh = d := fun hh => hd hh
      have hne : ((((⟨#[97, 99, 100]⟩ : ByteArray)[2]'(by decide)).toNat : Int) != (d.toNat : Int)) = true := (show ((100 : Int) != (d.toNat : Int)) = true by simp; omega)
      clear hz hd e1 e2
      go_enter Tryz.func116, Tryz.ntmps116
      go_wp2_with fail
      refine (Tryz.utf8_ValidRune r _).mono ?_
      rintro e w1 ⟨rfl, rfl⟩
      rw [HV.out]
      go_wp2
      go_step3
      go_wp2
      go_loopw [9, 10] (fun i f w' => i = .int .i64 2 ∧ f = .int .i64 0 ∧ w' = w1) (fun _ _ _ => 0)
      case atStart => exact ⟨rfl, rfl, rfl⟩
      case round =>
        obtain ⟨rfl, rfl, rfl⟩ := hrel
        go_wp2
        go_step3
        go_wp2
        go_quiet (fail)
        go_wp2
        obtain ⟨W1, HW1⟩ : ∃ W1, Hid (W1 = wr.drewN nq) := ⟨_, rfl⟩
        rw [← HW1.out]
        go_quiet ((go_at_call 134; exact Calls.quiet_of_same (Tryz.strings_IndexByte _ _ _)))
        rw [show Lib.indexByte ByteArray.empty.data.toList (d.toNat : Int).toNat.toUInt8 = -1 from rfl]
        go_wp2
        change bodyPost Tryz.prog Tryz.f116 (fun e w' => e = .returned (.int .i64 (-1)) ∧ Below wr.heap.size wr w') .ret _ _
        go_ret
        exact ⟨rfl, by rw [HW1.out]; exact below_drewN (below_drewN (Below.refl _ _) _) _⟩
    · subst hz2
      have hzs : E.size = 4 := hz.symm
      clear hz hd e1 e2
      go_enter Tryz.func116, Tryz.ntmps116
      go_wp2_with fail
      refine (Tryz.utf8_ValidRune r _).mono ?_
      rintro e w1 ⟨rfl, rfl⟩
      rw [HV.out]
      go_wp2
      go_step3
      go_wp2
      go_loopw [9, 10] (fun i f w' => i = .int .i64 3 ∧ f = .int .i64 0 ∧ w' = w1) (fun _ _ _ => 0)
      case atStart => exact ⟨rfl, rfl, rfl⟩
      case round =>
        obtain ⟨rfl, rfl, rfl⟩ := hrel
        go_wp2
        (try rw [Exit.noGoto_ret])
        go_ret
        exact ⟨rfl, Below.refl _ _⟩

theorem indexAny_lt (l chars : List UInt8) : Lib.indexAny l chars < l.length := by
  induction l with
  | nil => simp [Lib.indexAny]
  | cons b l ih =>
    rw [Lib.indexAny]
    split
    · simp <;> omega
    · split
      · simp <;> omega
      · simp <;> omega
theorem indexAny_at (chars : List UInt8) : ∀ l : List UInt8, 0 ≤ Lib.indexAny l chars → ∃ k, l[(Lib.indexAny l chars).toNat]? = some k ∧ chars.contains k = true
  | [], h => by simp [Lib.indexAny] at h
  | b :: l, h => by
    have hge := Lib.indexAny_ge chars l
    by_cases hb : chars.contains b = true
    · have e : Lib.indexAny (b :: l) chars = 0 := by rw [Lib.indexAny, if_pos hb]
      rw [e]
      exact ⟨b, rfl, hb⟩
    · by_cases h1 : (Lib.indexAny l chars == -1) = true
      · have e : Lib.indexAny (b :: l) chars = -1 := by rw [Lib.indexAny, if_neg hb, if_pos h1]
        rw [e] at h; omega
      · have e : Lib.indexAny (b :: l) chars = Lib.indexAny l chars + 1 := by rw [Lib.indexAny, if_neg hb, if_neg h1]
        have h2 : Lib.indexAny l chars ≠ -1 := by simpa using h1
        obtain ⟨k, hk, hc⟩ := indexAny_at chars l (by omega)
        refine ⟨k, ?_, hc⟩
        rw [e, show (Lib.indexAny l chars + 1).toNat = (Lib.indexAny l chars).toNat + 1 by omega]
        simpa using hk
theorem acd_is {k : UInt8} (h : ([97, 99, 100] : List UInt8).contains k = true) : k = 97 ∨ k = 99 ∨ k = 100 := by
  simpa using h
theorem okCut_any (l : List UInt8) : okCut l (Lib.indexAny l [97, 99, 100]) :=
  ⟨Lib.indexAny_ge _ l, indexAny_lt _ _, fun _ => rfl, fun h => by obtain ⟨k, h1, h2⟩ := indexAny_at _ l h; exact ⟨k, h1, acd_is h2⟩⟩
theorem decode_top (s : ByteArray) (pos : Nat) : (Utf8.decode s pos).1 ≤ 2147483647 := by
  have h0 : ∀ k, (s.get! (pos + k)).toNat < 256 := fun k => UInt8.toNat_lt _
  have a0 := h0 0
  have a1 := h0 1
  have a2 := h0 2
  have a3 := h0 3
  simp only [Utf8.decode, Utf8.runeError]
  repeat' split
  all_goals (try dsimp only)
  all_goals omega

theorem iterPos_at {w : World} {k : Nat} {s : ByteArray} {p : Nat} (h : w.heap[k]? = some (.stringIter s p)) : w.iterPos k = p := by
  unfold World.iterPos
  rw [h]

set_option maxHeartbeats 2000000 in
set_option maxRecDepth 100000 in
theorem indexAny_short (s : ByteArray) (h8 : s.size ≤ 8) (hno : ¬ ∀ b ∈ s.data.toList, b.toNat < 128) (w : World) :
    Calls Tryz.prog 80 #[.string s, .string ⟨#[97, 99, 100]⟩] w fun e w' => ∃ c : Int, e = .returned (.int .i64 c) ∧ okCut s.data.toList c ∧ Below w.heap.size w w' := by
  have HNO := Lib.hid hno
  have HSZ := Lib.hid (show s.data.toList.length = s.size by simp)
  have h8z : decide ((8 : Int) < (s.size : Int)) = false := decide_eq_false (by omega)
  clear hno
  go_enter Tryz.func80, Tryz.ntmps80
  go_wp2_with fail
  refine (Tryz.strings_shouldUseASCIISet _ _).mono ?_
  rintro e w1 ⟨rfl, rfl⟩
  rw [h8z]
  go_wp2
  go_loopw [9, 10] (fun _ _ w' => ∃ pos, Hid (w'.heap[w1.heap.size]? = some (.stringIter s pos)) ∧ pos ≤ s.size ∧ Below w1.heap.size w1 w') (fun _ _ w' => s.size - w'.iterPos w1.heap.size)
  case atStart => exact ⟨0, heap_alloc_new w1 _, by omega, below_alloc _ _⟩
  case round =>
    obtain ⟨pos, HK, hp, hb⟩ := hrel
    by_cases hlt : pos < s.size
    · have hnx := fun ty => Lib.run_next_any_at (P := Tryz.prog) wr w1.heap.size s pos ty HK.out hlt
      obtain ⟨_, d2, d3, _⟩ := decode_ten s pos hlt
      obtain ⟨W2, HW2⟩ : ∃ W2, Hid (W2 = wr.iterAt w1.heap.size s (pos + (Utf8.decode s pos).2)) := ⟨_, rfl⟩
      have HK2 := Lib.hid (show W2.heap[w1.heap.size]? = some (.stringIter s (pos + (Utf8.decode s pos).2)) by rw [HW2.out]; exact Lib.iterAt_heap wr _ s pos _ HK.out)
      have HB2 := Lib.hid (show Below w1.heap.size w1 W2 by rw [HW2.out]; exact Lib.below_iterAt hb (Nat.le_refl _) s _)
      rw [← HW2.out] at hnx
      have HSM := Lib.hid (show w1.heap.size < W2.heap.size from (Array.getElem?_eq_some_iff.1 HK2.out).1)
      obtain ⟨x, hx⟩ : ∃ x : UInt8, s[pos]'hlt = x := ⟨_, rfl⟩
      have HX := Lib.hid (show s.data.toList[pos]? = some x by rw [← hx]; exact Lib.data_getElem? s pos hlt)
      by_cases ha : x.toNat < 128
      · have hdec := decode_ascii s pos hlt (by rw [hx]; exact ha)
        rw [hx] at hdec
        rw [hdec] at hnx
        have HKA := Lib.hid (show W2.heap[w1.heap.size]? = some (.stringIter s (pos + 1)) by have := HK2.out; rwa [hdec] at this)
        have hback : ((x.toNat : Int)).toNat.toUInt8 = x := by simp
        have hcon := Lib.contains_iff_indexByte [97, 99, 100] x
        cases hin : ([97, 99, 100] : List UInt8).contains x
        · rw [hin] at hcon
          have hlt2 : ¬ ((0 : Int) ≤ Lib.indexByte [97, 99, 100] x) := of_decide_eq_false hcon.symm
          clear hcon hin hdec d2 d3 HK2
          go_wp2_with fail
          refine (Tryz.strings_IndexRune_ascii _ _ _ (by omega) (by omega)).mono ?_
          rintro e w3 ⟨rfl, rfl⟩
          rw [hback]
          go_wp2
          go_roundw
          case rel => exact ⟨pos + 1, HKA.out, by omega, HB2.out⟩
          case measure => rw [iterPos_at HKA.out, iterPos_at HK.out]; omega
        · rw [hin] at hcon
          have hge2 : (0 : Int) ≤ Lib.indexByte [97, 99, 100] x := of_decide_eq_true hcon.symm
          have HIN := Lib.hid (acd_is hin)
          clear hcon hin hdec d2 d3 HK2
          go_wp2_with fail
          refine (Tryz.strings_IndexRune_ascii _ _ _ (by omega) (by omega)).mono ?_
          rintro e w3 ⟨rfl, rfl⟩
          rw [hback]
          go_wp2
          go_ret
          exact ⟨(pos : Int), rfl, ⟨by omega, by rw [HSZ.out]; omega, fun h => absurd h HNO.out, fun _ => ⟨x, by simpa using HX.out, HIN.out⟩⟩, HB2.out⟩
      · have hhi := (decode_high s pos hlt (by rw [hx]; omega)).1
        have htop := decode_top s pos
        obtain ⟨q, hq⟩ : ∃ q : Int, q = ((Utf8.decode s pos).1 : Int) := ⟨_, rfl⟩
        rw [← hq] at hnx
        have hq1 : 128 ≤ q := by omega
        have hq2 : q ≤ 2147483647 := by omega
        clear hq hhi htop
        by_cases h3 : q = 65533
        · subst h3
          go_wp2_with fail
          refine (indexRune_error _).mono ?_
          rintro e w3 ⟨rfl, b3⟩
          have HK3 := Lib.hid (show w3.heap[w1.heap.size]? = some (.stringIter s (pos + (Utf8.decode s pos).2)) from (b3.block _ HSM.out).trans HK2.out)
          go_wp2
          go_roundw
          case rel => exact ⟨_, HK3.out, by omega, HB2.out.next b3⟩
          case measure => rw [iterPos_at HK3.out, iterPos_at HK.out]; omega
        · go_wp2_with fail
          refine (indexRune_high q hq1 hq2 h3 _).mono ?_
          rintro e w3 ⟨rfl, b3⟩
          have HK3 := Lib.hid (show w3.heap[w1.heap.size]? = some (.stringIter s (pos + (Utf8.decode s pos).2)) from (b3.block _ HSM.out).trans HK2.out)
          go_wp2
          go_roundw
          case rel => exact ⟨_, HK3.out, by omega, HB2.out.next b3⟩
          case measure => rw [iterPos_at HK3.out, iterPos_at HK.out]; omega
    · have hnx := fun ty => Lib.run_next_end_at (P := Tryz.prog) wr w1.heap.size s pos ty HK.out hlt
      go_wp2
      go_ret
      exact ⟨-1, rfl, ⟨by omega, by omega, fun h => absurd h HNO.out, fun h => by omega⟩, hb⟩

theorem acd_ascii : ∀ (j : Nat) b, (⟨#[97, 99, 100]⟩ : ByteArray).data.toList[j]? = some b → b.toNat < 128 := by
  intro j b h
  have := List.mem_of_getElem? h
  simp at this
  rcases this with e | e | e <;> (rw [e]; decide)

theorem IndexAny_acd (s : ByteArray) (hs : s.size ≤ 3000) (w : World) :
    Calls Tryz.prog 80 #[.string s, .string ⟨#[97, 99, 100]⟩] w fun e w' => ∃ c : Int, e = .returned (.int .i64 c) ∧ okCut s.data.toList c ∧ Below w.heap.size w w' := by
  by_cases h8 : s.size ≤ 8
  · by_cases ha : ∀ b ∈ s.data.toList, b.toNat < 128
    · refine (Tryz.strings_IndexAny_laid s ⟨#[97, 99, 100]⟩ w (by omega) (by decide) (fun j b h => ha b (List.mem_of_getElem? h)) acd_ascii).mono ?_
      rintro e w' ⟨rfl, hb⟩
      exact ⟨_, rfl, okCut_any _, hb⟩
    · exact indexAny_short s h8 ha w
  · refine (Tryz.strings_IndexAny_long (zero_of_info (n := 256) (by kernel_rfl)).1 s ⟨#[97, 99, 100]⟩ w (by decide) (by omega) (by omega) (by decide) acd_ascii).mono ?_
    rintro e w' ⟨rfl, rfl⟩
    exact ⟨_, rfl, okCut_any _, (below_alloc w _).next (below_alloc _ _)⟩

end Go.Proofs.YtnimaadjmejmpaaGreatDoor

namespace Go.Proofs.YtnimaadjmejmpaaGreatDoor
open Go.RowKit M

/-- The reader lies in block b: what is left, and whether it has failed. W0: the world ahead of it, with the library's own variables. -/
structure Rdr (W0 w : World) (b : Nat) (r : List UInt8 × Bool) : Prop where
  vars : Vars W0
  low : Below W0.heap.size W0 w
  ge : W0.heap.size ≤ b
  small : r.1.length ≤ 3000
  heap : w.heap[b]? = some (.cells #[.string (bs r.1), .bool r.2] 76 (0, 0))

section
variable {W0 w w' : World} {b : Nat} {r : List UInt8 × Bool}
theorem Rdr.lt (h : Rdr W0 w b r) : b < w.heap.size := (Array.getElem?_eq_some_iff.1 h.heap).1
theorem Rdr.c0 (h : Rdr W0 w b r) : w.cell? ⟨b, 0, none⟩ = some (.string (bs r.1)) := by simp [World.cell?, h.heap]
theorem Rdr.c1 (h : Rdr W0 w b r) : w.cell? ⟨b, 1, none⟩ = some (.bool r.2) := by simp [World.cell?, h.heap]
theorem Rdr.free (h : Rdr W0 w b r) (j : Nat) : w.frozen? ⟨b, j, none⟩ = false := by simp [World.frozen?, h.heap]
theorem Rdr.now (h : Rdr W0 w b r) : Vars w := h.vars.below h.low
theorem Rdr.keep (h : Rdr W0 w b r) (hb : Below w.heap.size w w') : Rdr W0 w' b r := ⟨h.vars, h.low.next hb, h.ge, h.small, (hb.block b h.lt).trans h.heap⟩
/-- Whatever is written elsewhere, at or behind W0's end. -/
theorem Rdr.kept {row : Option Nat} (h : Rdr W0 w b r) (hg : w.grownBy w' row) (hr : ∀ g, row = some g → b < g) : Rdr W0 w' b r :=
  ⟨h.vars, h.low.grown hg h.low.size (fun g e => Nat.le_trans h.ge (Nat.le_of_lt (hr g e))), h.ge, h.small, (hg.block b h.lt (fun e => by have := hr b e.symm; omega)).trans h.heap⟩
theorem Rdr.wrote {S : Nat → Prop} (h : Rdr W0 w b r) (hw : Wrote S w w') (hs : ∀ g, S g → b < g) : Rdr W0 w' b r :=
  ⟨h.vars, Wrote.below' h.low hw (fun g e => Nat.le_trans h.ge (Nat.le_of_lt (hs g e))), h.ge, h.small, (hw.block b h.lt (fun e => by have := hs b e; omega)).trans h.heap⟩
theorem Rdr.set0 (h : Rdr W0 w b r) (t : List UInt8) (ht : t.length ≤ 3000) : Rdr W0 (w.setCell ⟨b, 0, none⟩ (.string (bs t))) b (t, r.2) :=
  ⟨h.vars, Wrote.below' h.low (Wrote.set (fun i => i = b) w _ _ rfl) (fun k e => e ▸ h.ge), h.ge, ht, heap_set_same h.heap⟩
theorem Rdr.set1 (h : Rdr W0 w b r) (f : Bool) : Rdr W0 (w.setCell ⟨b, 1, none⟩ (.bool f)) b (r.1, f) :=
  ⟨h.vars, Wrote.below' h.low (Wrote.set (fun i => i = b) w _ _ rfl) (fun k e => e ▸ h.ge), h.ge, h.small, heap_set_same h.heap⟩
theorem wset (w : World) (b j : Nat) (u : Value) : Wrote (fun i => i = b) w (w.setCell ⟨b, j, none⟩ u) := Wrote.set (fun i => i = b) w _ _ rfl
end

set_option maxHeartbeats 400000 in
theorem rfail_any (W0 : World) (b : Nat) (r : List UInt8 × Bool) (w : World) (h : Rdr W0 w b r) :
    Calls Tryz.prog 81 #[.pointer (some ⟨b, 0, none⟩)] w fun e w' => e = .returned (.tuple #[]) ∧ Rdr W0 w' b ([], true) ∧ Wrote (fun i => i = b) w w' := by
  have c0 := h.c0
  have c1 := h.c1
  have f0 := h.free
  have HR := Lib.hid (show Rdr W0 ((w.setCell ⟨b, 0, none⟩ (.string ⟨#[]⟩)).setCell ⟨b, 1, none⟩ (.bool true)) b ([], true) from (h.set0 [] (by simp)).set1 true)
  have HW := Lib.hid (show Wrote (fun i => i = b) w ((w.setCell ⟨b, 0, none⟩ (.string ⟨#[]⟩)).setCell ⟨b, 1, none⟩ (.bool true)) from (wset w b 0 _).trans (wset _ b 1 _) (fun _ _ e => e))
  clear h
  go_enter Tryz.func81, Tryz.ntmps81
  go_wp2
  refine bodyPost_end (results_none rfl _ _ _) rfl ?_
  exact ⟨rfl, HR.out, HW.out⟩

/-! strings.CutPrefix. -/

theorem pre_take (s p : List UInt8) : Lib.hasPrefix s p = (decide (p.length ≤ s.length) && (s.take p.length == p)) := by
  unfold Lib.hasPrefix
  rw [Bool.eq_iff_iff, List.isPrefixOf_iff_prefix, List.prefix_iff_eq_take]
  simp only [Bool.and_eq_true, decide_eq_true_eq, beq_iff_eq]
  constructor
  · intro e
    have h := congrArg List.length e
    rw [List.length_take] at h
    exact ⟨by omega, e.symm⟩
  · exact fun e => e.2.symm
theorem pre_bytes (s p : ByteArray) (h : p.size ≤ s.size) : ((s.extract 0 p.size).toList == p.toList) = Lib.hasPrefix s.data.toList p.data.toList := by
  rw [pre_take, ByteArray.toList_eq, ByteArray.toList_eq]
  have e1 : (s.extract 0 p.size).data.toList = s.data.toList.take p.data.toList.length := by
    rw [extract_bs, bs_list, Lib.size_eq p, List.drop_zero, Nat.sub_zero]
  have e2 : decide (p.data.toList.length ≤ s.data.toList.length) = true := by rw [← Lib.size_eq, ← Lib.size_eq]; exact decide_eq_true h
  rw [e1, e2, Bool.true_and]
theorem pre_short (s p : ByteArray) (h : ¬ p.size ≤ s.size) : Lib.hasPrefix s.data.toList p.data.toList = false := by
  rw [pre_take]
  have e2 : decide (p.data.toList.length ≤ s.data.toList.length) = false := by rw [← Lib.size_eq, ← Lib.size_eq]; exact decide_eq_false h
  rw [e2, Bool.false_and]

set_option maxHeartbeats 400000 in
theorem HasPrefix_any (s p : ByteArray) (w : World) (hs : s.size ≤ 1048576) (hp : p.size ≤ 1048576) :
    Calls Tryz.prog 148 #[.string s, .string p] w fun e w' => e = .returned (.bool (Lib.hasPrefix s.data.toList p.data.toList)) ∧ w' = w := by
  by_cases h0 : p.size ≤ s.size
  · have H := Lib.hid (pre_bytes s p h0)
    go_enter Tryz.func148, Tryz.ntmps148
    go_wp2
    go_ret
    exact ⟨ret_bool H.out, rfl⟩
  · have H := Lib.hid (pre_short s p h0)
    go_enter Tryz.func148, Tryz.ntmps148
    go_wp2
    go_ret
    exact ⟨ret_bool H.out.symm, rfl⟩

set_option maxHeartbeats 400000 in
theorem CutPrefix_no (s p : ByteArray) (w : World) (hs : s.size ≤ 1048576) (hp : p.size ≤ 1048576) (hq : Lib.hasPrefix s.data.toList p.data.toList = false) :
    Calls Tryz.prog 122 #[.string s, .string p] w fun e w' => e = .returned (.tuple #[.string s, .bool false]) ∧ w' = w := by
  have HQ := Lib.hid hq
  have h0 : ∀ w, Calls Tryz.prog 139 #[.string s, .string p] w fun e w' => e = .returned (.tuple #[.string s, .bool false]) ∧ w' = w := by
    clear hq
    intro w
    go_enter Tryz.func139, Tryz.ntmps139
    go_wp2_with fail
    refine (HasPrefix_any s p _ hs hp).mono ?_
    rintro e w1 ⟨rfl, rfl⟩
    rw [HQ.out]
    go_wp2
    go_ret2
    exact ⟨rfl, rfl⟩
  have H0 := Lib.hid h0
  clear hq h0
  go_enter Tryz.func122, Tryz.ntmps122
  go_wp2_with fail
  refine (H0.out _).mono ?_
  rintro e w1 ⟨rfl, rfl⟩
  go_wp2
  go_ret2
  exact ⟨rfl, rfl⟩

set_option maxHeartbeats 400000 in
theorem CutPrefix_yes (s p : ByteArray) (w : World) (hs : s.size ≤ 1048576) (hp : p.size ≤ 1048576) (hq : Lib.hasPrefix s.data.toList p.data.toList = true) :
    Calls Tryz.prog 122 #[.string s, .string p] w fun e w' => e = .returned (.tuple #[.string (bs (s.data.toList.drop p.data.toList.length)), .bool true]) ∧ w' = w := by
  have HQ := Lib.hid hq
  have hle : p.size ≤ s.size := by
    by_cases h : p.size ≤ s.size
    · exact h
    · rw [pre_short s p h] at hq; cases hq
  have HE := Lib.hid (show s.extract p.size s.size = bs (s.data.toList.drop p.data.toList.length) by
    rw [extract_bs, Lib.size_eq p, Lib.size_eq s]
    congr 1
    exact List.take_of_length_le (by simp))
  have h0 : ∀ w, Calls Tryz.prog 139 #[.string s, .string p] w fun e w' => e = .returned (.tuple #[.string (bs (s.data.toList.drop p.data.toList.length)), .bool true]) ∧ w' = w := by
    clear hq
    intro w
    go_enter Tryz.func139, Tryz.ntmps139
    go_wp2_with fail
    refine (HasPrefix_any s p _ hs hp).mono ?_
    rintro e w1 ⟨rfl, rfl⟩
    rw [HQ.out]
    go_wp2
    go_ret2
    exact ⟨by rw [← HE.out]; rfl, rfl⟩
  have H0 := Lib.hid h0
  clear hq h0 hle
  go_enter Tryz.func122, Tryz.ntmps122
  go_wp2_with fail
  refine (H0.out _).mono ?_
  rintro e w1 ⟨rfl, rfl⟩
  go_wp2
  go_ret2
  exact ⟨rfl, rfl⟩

theorem rWord_no {p : List UInt8} {r : List UInt8 × Bool} (h : Lib.hasPrefix r.1 p = false) : rWord p r = ([], true) := if_neg (by rw [h]; simp)
theorem rWord_yes {p : List UInt8} {r : List UInt8 × Bool} (h : Lib.hasPrefix r.1 p = true) : rWord p r = (r.1.drop p.length, r.2) := if_pos h

set_option maxHeartbeats 400000 in
theorem rword_any (W0 : World) (b : Nat) (r : List UInt8 × Bool) (p : ByteArray) (hps : p.size ≤ 100) (w : World) (h : Rdr W0 w b r) :
    Calls Tryz.prog 84 #[.pointer (some ⟨b, 0, none⟩), .string p] w fun e w' => e = .returned (.tuple #[]) ∧ Rdr W0 w' b (rWord p.data.toList r) ∧ Wrote (fun i => i = b) w w' := by
  have c0 := h.c0
  have f0 := h.free
  have HB := Lib.hid (bs_list r.1)
  have H := Lib.hid h
  clear h
  cases hp : Lib.hasPrefix r.1 p.data.toList
  · have HP := Lib.hid hp
    have HQ := Lib.hid (rWord_no hp)
    clear hp
    go_enter Tryz.func84, Tryz.ntmps84
    go_wp2_with fail
    refine (CutPrefix_no (bs r.1) p _ (by rw [bs_size]; have := H.out.small; omega) (by omega) (by rw [HB.out]; exact HP.out)).mono ?_
    rintro e w1 ⟨rfl, rfl⟩
    go_wp2_with fail
    refine (rfail_any W0 b r _ H.out).mono ?_
    rintro e w1 ⟨rfl, hr, hw⟩
    go_wp2
    refine bodyPost_ret (results_none rfl _ _ _) rfl ?_
    exact ⟨rfl, by rw [HQ.out]; exact hr, hw⟩
  · have HP := Lib.hid hp
    have HQ := Lib.hid (rWord_yes hp)
    have HR := Lib.hid (H.out.set0 (r.1.drop p.data.toList.length) (by have := H.out.small; simp; omega))
    clear hp
    go_enter Tryz.func84, Tryz.ntmps84
    go_wp2_with fail
    refine (CutPrefix_yes (bs r.1) p _ (by rw [bs_size]; have := H.out.small; omega) (by omega) (by rw [HB.out]; exact HP.out)).mono ?_
    rintro e w1 ⟨rfl, rfl⟩
    rw [HB.out]
    go_wp2
    refine bodyPost_end (results_none rfl _ _ _) rfl ?_
    exact ⟨rfl, by rw [HQ.out]; exact HR.out, wset _ _ _ _⟩

theorem CutLine_any (s : List UInt8) (hs : s.length ≤ 3000) (w : World) (hv : Vars w) :
    Calls Tryz.prog 115 #[.string (bs s), .string ⟨#[10]⟩] w fun e w' => e = .returned (.tuple #[.string (bs (Lib.cut s [10]).1), .string (bs (Lib.cut s [10]).2.1), .bool (Lib.cut s [10]).2.2]) ∧ Below w.heap.size w w' := by
  obtain ⟨m, hm⟩ := hv.big
  refine (Tryz.strings_Cut (bs s) ⟨#[10]⟩ m w (by rw [bs_size]; omega) hm).mono ?_
  rintro e w' ⟨rfl, n, rfl⟩
  rw [bs_list]
  exact ⟨rfl, below_drewN (Below.refl _ _) n⟩

set_option maxHeartbeats 400000 in
theorem rplain_any (W0 : World) (b : Nat) (r : List UInt8 × Bool) (w : World) (h : Rdr W0 w b r) :
    Calls Tryz.prog 79 #[.pointer (some ⟨b, 0, none⟩)] w fun e w' => e = .returned (.string (bs (rPlain r).1)) ∧ Rdr W0 w' b (rPlain r).2 ∧ Wrote (fun i => i = b) w w' := by
  have c0 := h.c0
  have H := Lib.hid h
  clear h
  obtain ⟨x, y, q, HC⟩ : ∃ x y q, Hid (Lib.cut r.1 [10] = (x, y, q)) := ⟨_, _, _, rfl⟩
  have HY := Lib.hid (show q = true → y.length ≤ 3000 by
    have h1 := cut_le r.1
    have h2 := H.out.small
    rw [HC.out] at h1
    intro e
    have := h1.2 e
    dsimp only at this
    omega)
  cases q
  · have HQ := Lib.hid (show rPlain r = ([], ([], true)) by unfold rPlain; rw [HC.out]; rfl)
    go_enter Tryz.func79, Tryz.ntmps79
    go_wp2_with fail
    refine (CutLine_any r.1 H.out.small _ H.out.now).mono ?_
    rintro e w1 ⟨rfl, b1⟩
    rw [HC.out]
    have H1 := Lib.hid (H.out.keep b1)
    go_wp2_with fail
    refine (rfail_any W0 b r _ H1.out).mono ?_
    rintro e w2 ⟨rfl, hr, hw⟩
    go_wp2
    go_ret
    exact ⟨by rw [HQ.out]; rfl, by rw [HQ.out]; exact hr, (Wrote.of_below b1).trans hw (fun _ _ e => e)⟩
  · have HQ := Lib.hid (show rPlain r = (x, (y, r.2)) by unfold rPlain; rw [HC.out]; rfl)
    go_enter Tryz.func79, Tryz.ntmps79
    go_wp2_with fail
    refine (CutLine_any r.1 H.out.small _ H.out.now).mono ?_
    rintro e w1 ⟨rfl, b1⟩
    rw [HC.out]
    have H1 := Lib.hid (H.out.keep b1)
    have d0 := H1.out.c0
    have f0 := H1.out.free
    go_wp2
    go_ret
    exact ⟨by rw [HQ.out]; rfl, by rw [HQ.out]; exact H1.out.set0 y (HY.out (by trivial)), (Wrote.of_below b1).trans (wset _ _ _ _) (fun _ _ e => e)⟩

theorem rShown_no {sign : List UInt8} {r : List UInt8 × Bool} {x : List UInt8} {r1 : List UInt8 × Bool} (h : rPlain (rWord sign r) = (x, r1)) (h2 : Lib.hasPrefix r1.1 noneL = false) : rShown sign r = (x ++ [10], r1) := by
  unfold rShown
  rw [h]
  exact if_neg (by rw [h2]; simp)
theorem rShown_yes {sign : List UInt8} {r : List UInt8 × Bool} {x : List UInt8} {r1 : List UInt8 × Bool} (h : rPlain (rWord sign r) = (x, r1)) (h2 : Lib.hasPrefix r1.1 noneL = true) : rShown sign r = (x, (r1.1.drop 7, r1.2)) := by
  unfold rShown
  rw [h]
  exact if_pos h2

set_option maxHeartbeats 800000 in
theorem rshown_any (W0 : World) (b : Nat) (r : List UInt8 × Bool) (sign : ByteArray) (hps : sign.size ≤ 100) (w : World) (h : Rdr W0 w b r) :
    Calls Tryz.prog 121 #[.pointer (some ⟨b, 0, none⟩), .string sign] w fun e w' => e = .returned (.string (bs (rShown sign.data.toList r).1)) ∧ Rdr W0 w' b (rShown sign.data.toList r).2 ∧ Wrote (fun i => i = b) w w' := by
  obtain ⟨x, r1, HC⟩ : ∃ x r1, Hid (rPlain (rWord sign.data.toList r) = (x, r1)) := ⟨_, _, rfl⟩
  have HX := Lib.hid (show x.length ≤ 3000 by
    have h1 := rPlain_le (rWord sign.data.toList r)
    have h2 := rWord_le sign.data.toList r
    have h3 := h.small
    rw [HC.out] at h1
    dsimp only at h1
    omega)
  go_enter Tryz.func121, Tryz.ntmps121
  go_wp2_with fail
  refine (rword_any W0 b r sign hps _ h).mono ?_
  rintro e w1 ⟨rfl, h1, hw1⟩
  go_wp2_with fail
  refine (rplain_any W0 b _ _ h1).mono ?_
  rintro e w2 ⟨rfl, h2, hw2⟩
  rw [HC.out] at h2 ⊢
  dsimp only at h2 ⊢
  have HW := Lib.hid (hw1.trans hw2 (fun _ _ e => e))
  have H2 := Lib.hid h2
  have c0 := h2.c0
  have f0 := h2.free
  have HB := Lib.hid (bs_list r1.1)
  clear h h1 h2 hw1 hw2
  cases hp : Lib.hasPrefix r1.1 noneL
  · have HP := Lib.hid (show Lib.hasPrefix r1.1 (⟨#[92, 32, 110, 111, 110, 101, 10]⟩ : ByteArray).data.toList = false from hp)
    have HQ := Lib.hid (rShown_no HC.out hp)
    have hlim : (9223372036854775807 < (bs x).size + 1) = False := eq_false (by have := HX.out; rw [bs_size]; omega)
    clear hp
    go_wp2_with fail
    refine (CutPrefix_no (bs r1.1) ⟨#[92, 32, 110, 111, 110, 101, 10]⟩ _ (by rw [bs_size]; have := H2.out.small; omega) (by decide) (by rw [HB.out]; exact HP.out)).mono ?_
    rintro e w3 ⟨rfl, rfl⟩
    go_wp2
    go_ret
    exact ⟨ret_str (by rw [HQ.out]; exact bs_app x [10]), by rw [HQ.out]; exact H2.out, HW.out⟩
  · have HP := Lib.hid (show Lib.hasPrefix r1.1 (⟨#[92, 32, 110, 111, 110, 101, 10]⟩ : ByteArray).data.toList = true from hp)
    have HT := Lib.hid (show bs (r1.1.drop (⟨#[92, 32, 110, 111, 110, 101, 10]⟩ : ByteArray).data.toList.length) = bs (r1.1.drop 7) from rfl)
    have HQ := Lib.hid (rShown_yes HC.out hp)
    have HR := Lib.hid (H2.out.set0 (r1.1.drop 7) (by have := H2.out.small; simp; omega))
    clear hp
    go_wp2_with fail
    refine (CutPrefix_yes (bs r1.1) ⟨#[92, 32, 110, 111, 110, 101, 10]⟩ _ (by rw [bs_size]; have := H2.out.small; omega) (by decide) (by rw [HB.out]; exact HP.out)).mono ?_
    rintro e w3 ⟨rfl, rfl⟩
    rw [HB.out, HT.out]
    go_wp2
    go_ret
    exact ⟨ret_str (by rw [HQ.out]), by rw [HQ.out]; exact HR.out, HW.out.trans (wset _ _ _ _) (fun _ _ e => e)⟩

/-- How long a slice is. -/
def slen : Value → Nat
  | .slice _ n _ => n
  | _ => 0
theorem rShowns_stop {sign : List UInt8} {n : Nat} {r : List UInt8 × Bool} (h : n = 0 ∨ r.2 = true) : rShowns sign n r = ([], r) := by
  cases n with
  | zero => rfl
  | succ n =>
    rcases h with h | h
    · omega
    · rw [rShowns, if_pos h]
theorem rShowns_go {sign : List UInt8} {n : Nat} {r : List UInt8 × Bool} (h : r.2 = false) : rShowns sign (n + 1) r = ((rShown sign r).1 :: (rShowns sign n (rShown sign r).2).1, (rShowns sign n (rShown sign r).2).2) := by
  rw [rShowns, if_neg (by rw [h]; simp)]

set_option maxHeartbeats 1600000 in
theorem rshowns_any (W0 : World) (b : Nat) (r : List UInt8 × Bool) (sign : ByteArray) (hps : sign.size ≤ 100) (many : Nat) (hm : many ≤ 2000) (w : World) (h : Rdr W0 w b r) :
    Calls Tryz.prog 83 #[.pointer (some ⟨b, 0, none⟩), .string sign, .int .i64 (many : Int)] w fun e w' => ∃ v, e = .returned v ∧ OwnV w' w.heap.size v ((rShowns sign.data.toList many r).1.map bs) ∧ Rdr W0 w' b (rShowns sign.data.toList many r).2 ∧ Wrote (fun i => i = b) w w' := by
  have HLT := Lib.hid h.lt
  have HSM := Lib.hid h.small
  go_enter Tryz.func83, Tryz.ntmps83
  go_wp2
  go_loopw [7] (fun v w' => ∃ (u : Value) (A : Option Addr) (n c : Nat) (O : List (List UInt8)) (r1 : List UInt8 × Bool), u = v ∧ u = .slice A n c ∧ n ≤ many ∧ O.length = n ∧ OwnV w' w.heap.size u (O.map bs) ∧ Rdr W0 w' b r1 ∧ Hid (r1.1.length ≤ r.1.length) ∧ Hid (rShowns sign.data.toList many r = (O ++ (rShowns sign.data.toList (many - n) r1).1, (rShowns sign.data.toList (many - n) r1).2)) ∧ Wrote (fun i => i = b) w w') (fun v _ => many - slen v)
  case atStart => exact ⟨_, none, 0, 0, [], r, rfl, rfl, by omega, rfl, OwnV.nil_, h, Lib.hid (Nat.le_refl _), Lib.hid (by simp), Wrote.refl _ _⟩
  case round =>
    obtain ⟨u, A, n, c, O, r1, rfl, rfl, hn, hO, ho, h1, HL, HR, hw⟩ := hrel
    have c1 := h1.c1
    have HLEN := Lib.hid (show (O.map bs).length = n by rw [List.length_map]; exact hO)
    obtain ⟨t1, f1⟩ := r1
    dsimp only at c1
    by_cases hlt : n < many
    · cases f1 with
      | false =>
        obtain ⟨y, r2, HS⟩ : ∃ y r2, Hid (rShown sign.data.toList (t1, false) = (y, r2)) := ⟨_, _, rfl⟩
        have hle := rShown_le sign.data.toList (t1, false)
        rw [HS.out] at hle
        have HY := Lib.hid (show y.length ≤ 3001 ∧ r2.1.length ≤ r.1.length by have := HL.out; have := HSM.out; dsimp only at *; omega)
        have HR2 := Lib.hid (show rShowns sign.data.toList many r = ((O ++ [y]) ++ (rShowns sign.data.toList (many - (n + 1)) r2).1, (rShowns sign.data.toList (many - (n + 1)) r2).2) by
          rw [HR.out, show many - n = (many - (n + 1)) + 1 by omega, rShowns_go rfl, HS.out]
          simp)
        have HO := Lib.hid ho
        have HW := Lib.hid hw
        have H1 := Lib.hid h1
        clear hle ho hw h1 hO HR HL
        go_wp2_with (first
          | (go_at_call 121; refine (rshown_any W0 b (t1, false) sign hps _ H1.out).mono ?_; rintro e w1 ⟨rfl, h2, hw2⟩; rw [HS.out] at h2 ⊢; dsimp only at h2 ⊢
             have H2 := Lib.hid h2
             have HW2 := Lib.hid hw2
             clear h2 hw2)
          | (at_builtin; refine app_strs (.tmp 19) (.tmp 23) w.heap.size (.slice A n c) (O.map bs) ((HO.out.wrote HW2.out (fun g e e2 => by have h3 := (HO.out.lt e).1; have h4 := HLT.out; omega)).below (below_alloc _ _)) _ 1 1 [bs y] (strs_one w1 (bs y) (by rw [bs_size]; have := HY.out; unfold maxLen; omega)) (by rw [HLEN.out]; omega) (Nat.le_trans (Nat.le_trans HW.out.size HW2.out.size) (below_alloc _ _).size) rfl rfl rfl rfl ?_; intro v3 w3 o3 g3 p3)
          | fail)
        have o3' : OwnV w3 w.heap.size v3 ((O ++ [y]).map bs) := by rw [List.map_append]; exact o3
        obtain ⟨A3, c3, rfl, h31, h32⟩ := o3'.form (n := n + 1) (by rw [List.length_map, List.length_append]; have := HLEN.out; rw [List.length_map] at this; rw [this]; rfl)
        go_roundw
        case rel =>
          refine ⟨_, A3, n + 1, c3, O ++ [y], r2, rfl, rfl, by omega, ?_, o3', ?_, Lib.hid HY.out.2, HR2, ?_⟩
          · have := HLEN.out; rw [List.length_map] at this; simp [this]
          · exact ((H2.out.keep (below_alloc _ _)).kept g3 (fun g e => by have h3 := (HO.out.lt e).1; have h4 := HLT.out; omega))
          · exact (((HW.out.trans HW2.out (fun _ _ e => e)).next (below_alloc _ _)).trans (Wrote.of_grown (S := fun i => (Value.slice A n c).ownBlock = some i) g3 (fun _ e => e)) (fun i hi e => by have h3 := (HO.out.lt e).1; omega))
        case measure => simp [slen]; omega
      | true =>
        have HE := Lib.hid (show rShowns sign.data.toList many r = (O, (t1, true)) by rw [HR.out, rShowns_stop (.inr rfl), List.append_nil])
        go_wp2
        go_ret
        exact ⟨_, rfl, by rw [HE.out]; exact ho, by rw [HE.out]; exact h1, hw⟩
    · have HE := Lib.hid (show rShowns sign.data.toList many r = (O, (t1, f1)) by rw [HR.out, rShowns_stop (.inl (by omega)), List.append_nil])
      go_wp2
      go_ret
      exact ⟨_, rfl, by rw [HE.out]; exact ho, by rw [HE.out]; exact h1, hw⟩

end Go.Proofs.YtnimaadjmejmpaaGreatDoor

namespace Go.Proofs.YtnimaadjmejmpaaGreatDoor
open Go.RowKit M

/-- A step that has been read: its value, with lists of the call's own. -/
def StepOut (W0 w w' : World) (b : Nat) (r : List UInt8 × Bool) (e : Ending) : Prop :=
  ∃ c u v, okCut (rPlain r).1 c ∧ e = .returned (.agg #[.int .i64 (rStep c r).1.fr, .int .i64 (rStep c r).1.to_, u, .int .i64 (rStep c r).1.at_, .int .i64 (rStep c r).1.en, v]) ∧ OwnV w' w.heap.size u (rStep c r).1.old ∧ OwnV w' w.heap.size v (rStep c r).1.new ∧
    (∀ g, u.ownBlock = some g → v.ownBlock ≠ some g) ∧ SpOk (rStep c r).1 ∧ Rdr W0 w' b (rStep c r).2 ∧ Wrote (fun i => i = b) w w'

theorem wset6 (w : World) (g : Nat) (v0 v1 v2 v3 v4 v5 : Value) : Wrote (fun i => i = g) w ((((((w.setCell ⟨g, 0, none⟩ v0).setCell ⟨g, 1, none⟩ v1).setCell ⟨g, 2, none⟩ v2).setCell ⟨g, 3, none⟩ v3).setCell ⟨g, 4, none⟩ v4).setCell ⟨g, 5, none⟩ v5) :=
  (((((wset w g 0 v0).trans (wset _ g 1 v1) (fun _ _ e => e)).trans (wset _ g 2 v2) (fun _ _ e => e)).trans (wset _ g 3 v3) (fun _ _ e => e)).trans (wset _ g 4 v4) (fun _ _ e => e)).trans (wset _ g 5 v5) (fun _ _ e => e)

theorem blank_ok : SpOk blankP := ⟨⟨by decide, by decide⟩, ⟨by decide, by decide⟩, ⟨by decide, by decide⟩, ⟨by decide, by decide⟩, fun s h => by simp [blankP] at h, fun s h => by simp [blankP] at h⟩

theorem rStep_neg {c : Int} {r : List UInt8 × Bool} (h : c < 0) : rStep c r = (blankP, ([], true)) := if_pos h
theorem rStep_none1 {c : Int} {r : List UInt8 × Bool} {L : List UInt8} {r1 : List UInt8 × Bool} (hp : rPlain r = (L, r1)) (h : pairL (L.take c.toNat) = none) : rStep c r = (blankP, ([], true)) := by
  unfold rStep
  rw [hp]
  dsimp only
  rw [h]
  split <;> rfl
theorem rStep_none2 {c : Int} {r : List UInt8 × Bool} {L : List UInt8} {r1 : List UInt8 × Bool} (hp : rPlain r = (L, r1)) (h : pairL (L.drop (c.toNat + 1)) = none) : rStep c r = (blankP, ([], true)) := by
  unfold rStep
  rw [hp]
  dsimp only
  rw [h]
  split
  · rfl
  · split
    · rename_i h2; cases h2
    · rfl
theorem rStep_some {c : Int} {r : List UInt8 × Bool} {L : List UInt8} {r1 : List UInt8 × Bool} {f t n m : Nat} {k : UInt8} (hp : rPlain r = (L, r1)) (hc : 0 ≤ c) (h1 : pairL (L.take c.toNat) = some (f, t)) (h2 : pairL (L.drop (c.toNat + 1)) = some (n, m)) (hk : L[c.toNat]? = some k) : rStep c r = rBody k f t n m r1 := by
  unfold rStep
  rw [if_neg (by omega), hp]
  dsimp only
  rw [h1, h2, hk]
  rfl
theorem pairL_le {l : List UInt8} {f t : Nat} (h : pairL l = some (f, t)) : f ≤ t ∧ t ≤ 1000 := by
  rw [pairL_two] at h
  have h1 := Option.filter_eq_some_iff.1 h
  have h2 := two1000_le h1.1
  have h3 := of_decide_eq_true h1.2
  dsimp only at h3
  omega
theorem body_ok {k : UInt8} {f t n m : Nat} {r : List UInt8 × Bool} (hf : f ≤ 1000) (ht : t ≤ 1000) (hn : n ≤ 1000) (hm : m ≤ 1000) (hr : r.1.length ≤ 3000) : SpOk (rBody k f t n m r).1 := by
  have h1 := rOld_le k f t r
  have h2 := rMid_le k (rOld k f t r).2
  have h3 := rNew_le k n m (rMid k (rOld k f t r).2)
  refine ⟨⟨?_, ?_⟩, ⟨?_, ?_⟩, ⟨?_, ?_⟩, ⟨?_, ?_⟩, fun s hs => ?_, fun s hs => ?_⟩
  all_goals (try (unfold rBody; dsimp only; omega))
  · unfold rBody at hs
    dsimp only at hs
    obtain ⟨x, hx, rfl⟩ := List.mem_map.1 hs
    have := h1.2 x hx
    rw [bs_size]
    unfold maxLen
    omega
  · unfold rBody at hs
    dsimp only at hs
    obtain ⟨x, hx, rfl⟩ := List.mem_map.1 hs
    have := h3.2 x hx
    rw [bs_size]
    unfold maxLen
    omega
theorem duo_some {l : List UInt8} {n m : Nat} (h : pairL l = some (n, m)) : duo (pairL l) = .tuple #[.int .i64 (n : Int), .int .i64 (m : Int), .bool true] := by rw [h]; rfl
theorem duo_none {l : List UInt8} (h : pairL l = none) : duo (pairL l) = .tuple #[.int .i64 0, .int .i64 0, .bool false] := by rw [h]; rfl

/-- The zero value of a step, in a block. -/
def SpBlk (w : World) (g : Nat) (v0 v1 v2 v3 v4 v5 : Value) : Prop := w.heap[g]? = some (.cells #[v0, v1, v2, v3, v4, v5] 69 (0, 0))
section
variable {w w' : World} {g : Nat} {v0 v1 v2 v3 v4 v5 : Value}
theorem SpBlk.c0 (h : SpBlk w g v0 v1 v2 v3 v4 v5) : w.cell? ⟨g, 0, none⟩ = some v0 := by unfold SpBlk at h; simp [World.cell?, h]
theorem SpBlk.c1 (h : SpBlk w g v0 v1 v2 v3 v4 v5) : w.cell? ⟨g, 1, none⟩ = some v1 := by unfold SpBlk at h; simp [World.cell?, h]
theorem SpBlk.c2 (h : SpBlk w g v0 v1 v2 v3 v4 v5) : w.cell? ⟨g, 2, none⟩ = some v2 := by unfold SpBlk at h; simp [World.cell?, h]
theorem SpBlk.c3 (h : SpBlk w g v0 v1 v2 v3 v4 v5) : w.cell? ⟨g, 3, none⟩ = some v3 := by unfold SpBlk at h; simp [World.cell?, h]
theorem SpBlk.c4 (h : SpBlk w g v0 v1 v2 v3 v4 v5) : w.cell? ⟨g, 4, none⟩ = some v4 := by unfold SpBlk at h; simp [World.cell?, h]
theorem SpBlk.c5 (h : SpBlk w g v0 v1 v2 v3 v4 v5) : w.cell? ⟨g, 5, none⟩ = some v5 := by unfold SpBlk at h; simp [World.cell?, h]
theorem SpBlk.free (h : SpBlk w g v0 v1 v2 v3 v4 v5) (j : Nat) : w.frozen? ⟨g, j, none⟩ = false := by unfold SpBlk at h; simp [World.frozen?, h]
theorem SpBlk.lt (h : SpBlk w g v0 v1 v2 v3 v4 v5) : g < w.heap.size := (Array.getElem?_eq_some_iff.1 h).1
theorem SpBlk.keep (h : SpBlk w g v0 v1 v2 v3 v4 v5) (hb : Below w.heap.size w w') : SpBlk w' g v0 v1 v2 v3 v4 v5 := (hb.block g h.lt).trans h
theorem SpBlk.wrote {S : Nat → Prop} (h : SpBlk w g v0 v1 v2 v3 v4 v5) (hw : Wrote S w w') (hs : ¬ S g) : SpBlk w' g v0 v1 v2 v3 v4 v5 := (hw.block g h.lt hs).trans h
end

set_option maxHeartbeats 4000000 in
set_option maxRecDepth 100000 in
theorem rstep_any (W0 : World) (b : Nat) (r : List UInt8 × Bool) (w : World) (h : Rdr W0 w b r) :
    Calls Tryz.prog 41 #[.pointer (some ⟨b, 0, none⟩)] w fun e w' => StepOut W0 w w' b r e := by
  have HLT := Lib.hid h.lt
  obtain ⟨L, r1, HC⟩ : ∃ L r1, Hid (rPlain r = (L, r1)) := ⟨_, _, rfl⟩
  have HLN := Lib.hid (show L.length ≤ 3000 ∧ r1.1.length ≤ 3000 by
    have h1 := rPlain_le r
    have h3 := h.small
    rw [HC.out] at h1
    dsimp only at h1
    omega)
  obtain ⟨T, HT⟩ : ∃ T, Hid (T = bs L) := ⟨_, rfl⟩
  have HTL := Lib.hid (show T.data.toList = L by rw [HT.out, bs_list])
  have hTS : T.size = L.length := by rw [HT.out, bs_size]
  have hL3 : L.length ≤ 3000 := HLN.out.1
  obtain ⟨W, HW⟩ : ∃ W, Hid (W = w.alloc (.cells #[.int .i64 0, .int .i64 0, .slice none 0 0, .int .i64 0, .int .i64 0, .slice none 0 0] 69)) := ⟨_, rfl⟩
  have HB := Lib.hid (show Below w.heap.size w W by rw [HW.out]; exact below_alloc w _)
  have HG := Lib.hid (show SpBlk W w.heap.size (.int .i64 0) (.int .i64 0) (.slice none 0 0) (.int .i64 0) (.int .i64 0) (.slice none 0 0) by rw [HW.out]; exact heap_alloc_new w _)
  have HR0 := Lib.hid (h.keep HB.out)
  clear h
  go_enter Tryz.func41, Tryz.ntmps41
  go_wp2_with fail
  rw [← HW.out]
  refine (rplain_any W0 b r _ HR0.out).mono ?_
  rintro e w1 ⟨rfl, h1, hw1⟩
  rw [HC.out] at h1 ⊢
  dsimp only at h1 ⊢
  rw [← HT.out]
  go_wp2_with fail
  refine (IndexAny_acd T (by omega) _).mono ?_
  rintro e w2 ⟨c, rfl, hc, b2⟩
  rw [HTL.out] at hc
  have HOK := Lib.hid (show okCut (rPlain r).1 c by rw [HC.out]; exact hc)
  have HG2 := Lib.hid ((HG.out.wrote hw1 (fun e => by have := HLT.out; omega)).keep b2)
  have H2 := Lib.hid (h1.keep b2)
  have HW2 := Lib.hid (((Wrote.of_below (S := fun i => i = b) HB.out).trans hw1 (fun _ _ e => e)).next b2)
  have hc1 := hc.1
  have hc2 := hc.2.1
  have HCK := Lib.hid hc.2.2.2
  clear hc h1 hw1 b2
  by_cases hneg : c < 0
  · have HS := Lib.hid (rStep_neg (r := r) hneg)
    go_wp2_with fail
    refine (rfail_any W0 b r1 _ H2.out).mono ?_
    rintro e w3 ⟨rfl, h3, hw3⟩
    have HG3 := Lib.hid (HG2.out.wrote hw3 (fun e => by have := HLT.out; omega))
    have z0 := HG3.out.c0; have z1 := HG3.out.c1; have z2 := HG3.out.c2; have z3 := HG3.out.c3; have z4 := HG3.out.c4; have z5 := HG3.out.c5
    have fz := HG3.out.free
    have H3 := Lib.hid h3
    have HW3 := Lib.hid (HW2.out.trans hw3 (fun _ _ e => e))
    clear h3 hw3
    go_wp2
    (try simp only [Exit.inBlock, Exit.then])
    refine bodyPost_ret (v := .agg #[.int .i64 0, .int .i64 0, .slice none 0 0, .int .i64 0, .int .i64 0, .slice none 0 0]) (by simp [results, Tryz.results41, go_sem, z0, z1, z2, z3, z4, z5]) rfl ?_
    have hq := wset6 w3 w.heap.size (.int .i64 0) (.int .i64 0) (.slice none 0 0) (.int .i64 0) (.int .i64 0) (.slice none 0 0)
    exact ⟨c, .slice none 0 0, .slice none 0 0, HOK.out, by rw [HS.out]; rfl, by rw [HS.out]; exact OwnV.nil_, by rw [HS.out]; exact OwnV.nil_, (fun g e => by cases e), by rw [HS.out]; exact blank_ok, by rw [HS.out]; exact H3.out.wrote hq (fun g e => by rw [e]; exact HLT.out), HW3.out.trans hq (fun i hi e => by omega)⟩
  · obtain ⟨k, rfl⟩ := Int.eq_ofNat_of_zero_le (show 0 ≤ c by omega)
    have hk : k < T.size := by omega
    obtain ⟨kk, hkk, hkc⟩ := HCK.out (by omega)
    rw [Int.toNat_natCast] at hkk
    have HX1 := Lib.hid (show (T.extract 0 k).data.toList = L.take k by rw [extract_bs, bs_list, HTL.out]; simp)
    have HX2 := Lib.hid (show (T.extract (k + 1) L.length).data.toList = L.drop (k + 1) by rw [extract_bs, bs_list, HTL.out]; exact List.take_of_length_le (by simp))
    have hX1 : (T.extract 0 k).size ≤ 2097152 := by rw [ByteArray.size_extract]; omega
    have hX2 : (T.extract (k + 1) L.length).size ≤ 2097152 := by rw [ByteArray.size_extract]; omega
    have hkx : (T[k]'hk).toNat = kk.toNat := by
      have e1 : T.data.toList[k]? = some (T[k]'hk) := Lib.data_getElem? T k hk
      rw [HTL.out, hkk] at e1
      rw [Option.some.inj e1]
    have HKK := Lib.hid hkk
    clear hkk HCK hneg hc1 hc2
    obtain ⟨X1, hXe1⟩ : ∃ X, Hid (X = T.extract 0 k) := ⟨_, rfl⟩
    obtain ⟨X2, hXe2⟩ : ∃ X, Hid (X = T.extract (k + 1) L.length) := ⟨_, rfl⟩
    rw [← hXe1.out] at HX1 hX1
    rw [← hXe2.out] at HX2 hX2
    cases hp1 : pairL (L.take k) with
    | none =>
      have HS := Lib.hid (rStep_none1 (c := (k : Int)) HC.out (by rw [Int.toNat_natCast]; exact hp1))
      have HD1 := Lib.hid (show duo (pairL X1.data.toList) = .tuple #[.int .i64 0, .int .i64 0, .bool false] by rw [HX1.out]; exact duo_none hp1)
      clear hp1
      obtain ⟨f2, t2, o2, HD2⟩ : ∃ f2 t2 o2, Hid (duo (pairL X2.data.toList) = .tuple #[.int .i64 f2, .int .i64 t2, .bool o2]) := by
        cases hp2 : pairL X2.data.toList with
        | none => exact ⟨0, 0, false, rfl⟩
        | some x => exact ⟨_, _, true, rfl⟩
      go_wp2_with fail
      rw [← hXe1.out]
      refine (ReadPair_any X1 hX1 _ H2.out.now).mono ?_
      rintro e w3 ⟨rfl, b3⟩
      rw [HD1.out]
      have H3' := Lib.hid (H2.out.keep b3)
      go_wp2_with fail
      rw [← hXe2.out]
      refine (ReadPair_any X2 hX2 _ H3'.out.now).mono ?_
      rintro e w4 ⟨rfl, b4⟩
      rw [HD2.out]
      have H4 := Lib.hid (H3'.out.keep b4)
      have HG4 := Lib.hid ((HG2.out.keep b3).keep b4)
      have HW4 := Lib.hid ((HW2.out.next b3).next b4)
      clear b3 b4
      go_wp2_with fail
      refine (rfail_any W0 b r1 _ H4.out).mono ?_
      rintro e w5 ⟨rfl, h3, hw3⟩
      have HG3 := Lib.hid (HG4.out.wrote hw3 (fun e => by have := HLT.out; omega))
      have z0 := HG3.out.c0; have z1 := HG3.out.c1; have z2 := HG3.out.c2; have z3 := HG3.out.c3; have z4 := HG3.out.c4; have z5 := HG3.out.c5
      have fz := HG3.out.free
      have H3 := Lib.hid h3
      have HW3 := Lib.hid (HW4.out.trans hw3 (fun _ _ e => e))
      clear h3 hw3
      go_wp2
      (try simp only [Exit.inBlock, Exit.then])
      refine bodyPost_ret (v := .agg #[.int .i64 0, .int .i64 0, .slice none 0 0, .int .i64 0, .int .i64 0, .slice none 0 0]) (by simp [results, Tryz.results41, go_sem, z0, z1, z2, z3, z4, z5]) rfl ?_
      have hq := wset6 w5 w.heap.size (.int .i64 0) (.int .i64 0) (.slice none 0 0) (.int .i64 0) (.int .i64 0) (.slice none 0 0)
      exact ⟨_, .slice none 0 0, .slice none 0 0, HOK.out, by rw [HS.out]; rfl, by rw [HS.out]; exact OwnV.nil_, by rw [HS.out]; exact OwnV.nil_, (fun g e => by cases e), by rw [HS.out]; exact blank_ok, by rw [HS.out]; exact H3.out.wrote hq (fun g e => by rw [e]; exact HLT.out), HW3.out.trans hq (fun i hi e => by omega)⟩
    | some x1 =>
      obtain ⟨f, t⟩ := x1
      have hft := pairL_le hp1
      have HD1 := Lib.hid (show duo (pairL X1.data.toList) = .tuple #[.int .i64 (f : Int), .int .i64 (t : Int), .bool true] by rw [HX1.out]; exact duo_some hp1)
      have HP1 := Lib.hid hp1
      clear hp1
      cases hp2 : pairL (L.drop (k + 1)) with
      | none =>
        have HS := Lib.hid (rStep_none2 (c := (k : Int)) HC.out (by rw [Int.toNat_natCast]; exact hp2))
        have HD2 := Lib.hid (show duo (pairL X2.data.toList) = .tuple #[.int .i64 0, .int .i64 0, .bool false] by rw [HX2.out]; exact duo_none hp2)
        clear hp2
        go_wp2_with fail
        rw [← hXe1.out]
        refine (ReadPair_any X1 hX1 _ H2.out.now).mono ?_
        rintro e w3 ⟨rfl, b3⟩
        rw [HD1.out]
        have H3' := Lib.hid (H2.out.keep b3)
        go_wp2_with fail
        rw [← hXe2.out]
        refine (ReadPair_any X2 hX2 _ H3'.out.now).mono ?_
        rintro e w4 ⟨rfl, b4⟩
        rw [HD2.out]
        have H4 := Lib.hid (H3'.out.keep b4)
        have HG4 := Lib.hid ((HG2.out.keep b3).keep b4)
        have HW4 := Lib.hid ((HW2.out.next b3).next b4)
        clear b3 b4
        go_wp2_with fail
        refine (rfail_any W0 b r1 _ H4.out).mono ?_
        rintro e w5 ⟨rfl, h3, hw3⟩
        have HG3 := Lib.hid (HG4.out.wrote hw3 (fun e => by have := HLT.out; omega))
        have z0 := HG3.out.c0; have z1 := HG3.out.c1; have z2 := HG3.out.c2; have z3 := HG3.out.c3; have z4 := HG3.out.c4; have z5 := HG3.out.c5
        have fz := HG3.out.free
        have H3 := Lib.hid h3
        have HW3 := Lib.hid (HW4.out.trans hw3 (fun _ _ e => e))
        clear h3 hw3
        go_wp2
        (try simp only [Exit.inBlock, Exit.then])
        refine bodyPost_ret (v := .agg #[.int .i64 0, .int .i64 0, .slice none 0 0, .int .i64 0, .int .i64 0, .slice none 0 0]) (by simp [results, Tryz.results41, go_sem, z0, z1, z2, z3, z4, z5]) rfl ?_
        have hq := wset6 w5 w.heap.size (.int .i64 0) (.int .i64 0) (.slice none 0 0) (.int .i64 0) (.int .i64 0) (.slice none 0 0)
        exact ⟨_, .slice none 0 0, .slice none 0 0, HOK.out, by rw [HS.out]; rfl, by rw [HS.out]; exact OwnV.nil_, by rw [HS.out]; exact OwnV.nil_, (fun g e => by cases e), by rw [HS.out]; exact blank_ok, by rw [HS.out]; exact H3.out.wrote hq (fun g e => by rw [e]; exact HLT.out), HW3.out.trans hq (fun i hi e => by omega)⟩
      | some x2 =>
        obtain ⟨n, m⟩ := x2
        have hnm := pairL_le hp2
        have HD2 := Lib.hid (show duo (pairL X2.data.toList) = .tuple #[.int .i64 (n : Int), .int .i64 (m : Int), .bool true] by rw [HX2.out]; exact duo_some hp2)
        have HS := Lib.hid (rStep_some (c := (k : Int)) HC.out (by omega) (by rw [Int.toNat_natCast]; exact HP1.out) (by rw [Int.toNat_natCast]; exact hp2) (by rw [Int.toNat_natCast]; exact HKK.out))
        have HBO := Lib.hid (body_ok (k := kk) (f := f) (t := t) (n := n) (m := m) (r := r1) (by omega) (by omega) (by omega) (by omega) HLN.out.2)
        have eo : (t : Int) - (f : Int) + 1 = ((t - f + 1 : Nat) : Int) := by omega
        have en : (m : Int) - (n : Int) + 1 = ((m - n + 1 : Nat) : Int) := by omega
        have EO := Lib.hid eo
        have EN := Lib.hid en
        obtain ⟨hf1, ht1⟩ := hft
        obtain ⟨hn1, hm1⟩ := hnm
        clear hp2 eo en
        go_wp2_with fail
        rw [← hXe1.out]
        refine (ReadPair_any X1 hX1 _ H2.out.now).mono ?_
        rintro e w3 ⟨rfl, b3⟩
        rw [HD1.out]
        have H3' := Lib.hid (H2.out.keep b3)
        go_wp2_with fail
        rw [← hXe2.out]
        refine (ReadPair_any X2 hX2 _ H3'.out.now).mono ?_
        rintro e w4 ⟨rfl, b4⟩
        rw [HD2.out]
        obtain ⟨W5, HW5⟩ : ∃ W5, Hid (W5 = w4.alloc (.cells #[.int .i64 (f : Int), .int .i64 (t : Int), .slice none 0 0, .int .i64 (n : Int), .int .i64 (m : Int), .slice none 0 0] 69)) := ⟨_, rfl⟩
        have b5 : Below w4.heap.size w4 W5 := by rw [HW5.out]; exact below_alloc w4 _
        have HP5 := Lib.hid (show SpBlk W5 w4.heap.size (.int .i64 (f : Int)) (.int .i64 (t : Int)) (.slice none 0 0) (.int .i64 (n : Int)) (.int .i64 (m : Int)) (.slice none 0 0) by rw [HW5.out]; exact heap_alloc_new w4 _)
        have HG4 := Lib.hid ((HG2.out.keep b3).keep b4)
        have HZ := Lib.hid (show b < w.heap.size ∧ w.heap.size < w4.heap.size ∧ w4.heap.size < W5.heap.size from ⟨HLT.out, HG4.out.lt, HP5.out.lt⟩)
        have HG5 := Lib.hid (HG4.out.keep b5)
        have H5 := Lib.hid ((H3'.out.keep b4).keep b5)
        have HW5' := Lib.hid (((HW2.out.next b3).next b4).next b5)
        clear b3 b4 b5 HG4 H3'
        rcases hkc with hkc | hkc | hkc
        · -- a: what comes alone
          subst hkc
          have hkx : (T[k]'hk).toNat = 97 := hkx
          have HQ := Lib.hid (show rBody 97 f t n m r1 = (⟨f, t, [], n, m, (rShowns [62, 32] (m - n + 1) r1).1.map bs⟩, (rShowns [62, 32] (m - n + 1) r1).2) by unfold rBody rOld rMid rNew; simp)
          rw [HQ.out] at HS HBO
          dsimp only at HBO
          go_wp2_with fail
          rw [← HW5.out, EN.out]
          refine (rshowns_any W0 b r1 ⟨#[62, 32]⟩ (by decide) (m - n + 1) (by omega) _ H5.out).mono ?_
          rintro e w6 ⟨v6, rfl, o6, h6, hw6⟩
          obtain ⟨v6a, v6c, rfl, h61, h62⟩ := o6.form rfl
          have HP6 := Lib.hid (HP5.out.wrote hw6 (fun e => by have := HZ.out; omega))
          have HG6 := Lib.hid (HG5.out.wrote hw6 (fun e => by have := HZ.out; omega))
          have O6 := Lib.hid o6
          have H6 := Lib.hid h6
          have HW6 := Lib.hid (HW5'.out.trans hw6 (fun _ _ e => e))
          clear o6 h6 hw6
          obtain ⟨q6, HQ6⟩ : ∃ q6, Hid (q6 = ((rShowns [62, 32] (m - n + 1) r1).1.map bs).length) := ⟨_, rfl⟩
          rw [← HQ6.out] at O6 ⊢
          have p0 := HP6.out.c0; have p1 := HP6.out.c1; have p2 := HP6.out.c2; have p3 := HP6.out.c3; have p4 := HP6.out.c4; have p5 := HP6.out.c5
          have pz := HP6.out.free
          have z0 := HG6.out.c0; have z1 := HG6.out.c1; have z2 := HG6.out.c2; have z3 := HG6.out.c3; have z4 := HG6.out.c4; have z5 := HG6.out.c5
          have fz := HG6.out.free
          have hne : w4.heap.size ≠ w.heap.size := by have := HZ.out; omega
          have hne2 : w.heap.size ≠ w4.heap.size := by have := HZ.out; omega
          go_wp2
          (try simp only [Exit.inBlock, Exit.then])
          refine bodyPost_ret (v := .agg #[.int .i64 (f : Int), .int .i64 (t : Int), .slice none 0 0, .int .i64 (n : Int), .int .i64 (m : Int), .slice v6a q6 v6c]) (by simp [results, Tryz.results41, go_sem, z0, z1, z2, z3, z4, z5, hne, hne2]) rfl ?_
          have hs6 := wset w6 w4.heap.size 5 (.slice v6a q6 v6c)
          have hq := wset6 (w6.setCell ⟨w4.heap.size, 5, none⟩ (.slice v6a q6 v6c)) w.heap.size (.int .i64 (f : Int)) (.int .i64 (t : Int)) (.slice none 0 0) (.int .i64 (n : Int)) (.int .i64 (m : Int)) (.slice v6a q6 v6c)
          exact ⟨_, .slice none 0 0, .slice v6a q6 v6c, HOK.out, by rw [HS.out], by rw [HS.out]; exact OwnV.nil_, by rw [HS.out]; exact ((O6.out.wrote hs6 (fun g e e2 => by have h3 := (O6.out.lt e).1; have h4 := HZ.out; omega)).wrote hq (fun g e e2 => by have h3 := (O6.out.lt e).1; have h4 := HZ.out; omega)).more (by have h4 := HZ.out; omega), (fun g e => by cases e), by rw [HS.out]; exact HBO.out, by rw [HS.out]; exact (H6.out.wrote hs6 (fun g e => by have h4 := HZ.out; omega)).wrote hq (fun g e => by have h4 := HZ.out; omega), (HW6.out.trans hs6 (fun i hi e => by have h4 := HZ.out; omega)).trans hq (fun i hi e => by omega)⟩
        · -- c: both
          subst hkc
          have hkx : (T[k]'hk).toNat = 99 := hkx
          have HQ := Lib.hid (show rBody 99 f t n m r1 = (⟨f, t, (rShowns [60, 32] (t - f + 1) r1).1.map bs, n, m, (rShowns [62, 32] (m - n + 1) (rWord ruleL (rShowns [60, 32] (t - f + 1) r1).2)).1.map bs⟩, (rShowns [62, 32] (m - n + 1) (rWord ruleL (rShowns [60, 32] (t - f + 1) r1).2)).2) by unfold rBody rOld rMid rNew; simp)
          rw [HQ.out] at HS HBO
          dsimp only at HBO
          go_wp2_with fail
          rw [← HW5.out, EO.out]
          refine (rshowns_any W0 b r1 ⟨#[60, 32]⟩ (by decide) (t - f + 1) (by omega) _ H5.out).mono ?_
          rintro e w6 ⟨v6, rfl, o6, h6, hw6⟩
          obtain ⟨q6, HQ6⟩ : ∃ q6, Hid (((rShowns [60, 32] (t - f + 1) r1).1.map bs).length = q6) := ⟨_, rfl⟩
          obtain ⟨v6a, v6c, rfl, h61, h62⟩ := o6.form (n := q6) HQ6.out
          have HP6 := Lib.hid (HP5.out.wrote hw6 (fun e => by have := HZ.out; omega))
          have HG6 := Lib.hid (HG5.out.wrote hw6 (fun e => by have := HZ.out; omega))
          have p2 := HP6.out.c2
          have pz := HP6.out.free
          obtain ⟨V6, HV6⟩ : ∃ V6, Hid (V6 = w6.setCell ⟨w4.heap.size, 2, none⟩ (.slice v6a q6 v6c)) := ⟨_, rfl⟩
          have hs6 : Wrote (fun i => i = w4.heap.size) w6 V6 := by rw [HV6.out]; exact wset _ _ _ _
          have HPV := Lib.hid (show SpBlk V6 w4.heap.size (.int .i64 (f : Int)) (.int .i64 (t : Int)) (.slice v6a q6 v6c) (.int .i64 (n : Int)) (.int .i64 (m : Int)) (.slice none 0 0) by rw [HV6.out]; exact heap_set_same HP6.out)
          have HGV := Lib.hid (HG6.out.wrote hs6 (fun e => by have := HZ.out; omega))
          have OV := Lib.hid (o6.wrote hs6 (fun g e e2 => by have h3 := (o6.lt e).1; have h4 := HZ.out; omega))
          have HRV := Lib.hid (h6.wrote hs6 (fun g e => by have h4 := HZ.out; omega))
          have HWV := Lib.hid ((HW5'.out.trans hw6 (fun _ _ e => e)).trans hs6 (fun i hi e => by have h4 := HZ.out; omega))
          have HZV := Lib.hid (show W5.heap.size ≤ V6.heap.size from Nat.le_trans hw6.size hs6.size)
          clear o6 h6 hw6 hs6
          go_wp2_with fail
          rw [← HV6.out]
          refine (rword_any W0 b _ ⟨#[45, 45, 45, 10]⟩ (by decide) _ HRV.out).mono ?_
          rintro e w7 ⟨rfl, h7, hw7⟩
          have HR7 := Lib.hid (show Rdr W0 w7 b (rWord ruleL (rShowns [60, 32] (t - f + 1) r1).2) from h7)
          go_wp2_with fail
          rw [EN.out]
          refine (rshowns_any W0 b _ ⟨#[62, 32]⟩ (by decide) (m - n + 1) (by omega) _ HR7.out).mono ?_
          rintro e w8 ⟨v8, rfl, o8, h8, hw8⟩
          obtain ⟨q8, HQ8⟩ : ∃ q8, Hid (((rShowns [62, 32] (m - n + 1) (rWord ruleL (rShowns [60, 32] (t - f + 1) r1).2)).1.map bs).length = q8) := ⟨_, rfl⟩
          obtain ⟨v8a, v8c, rfl, h81, h82⟩ := o8.form (n := q8) HQ8.out
          have HP8 := Lib.hid ((HPV.out.wrote hw7 (fun e => by have := HZ.out; omega)).wrote hw8 (fun e => by have := HZ.out; omega))
          have HG8 := Lib.hid ((HGV.out.wrote hw7 (fun e => by have := HZ.out; omega)).wrote hw8 (fun e => by have := HZ.out; omega))
          have OV8 := Lib.hid ((OV.out.wrote hw7 (fun g e e2 => by have h3 := (OV.out.lt e).1; have h4 := HZ.out; omega)).wrote hw8 (fun g e e2 => by have h3 := (OV.out.lt e).1; have h4 := HZ.out; omega))
          have O8 := Lib.hid o8
          have H8 := Lib.hid h8
          have HW8 := Lib.hid ((HWV.out.trans hw7 (fun _ _ e => e)).trans hw8 (fun _ _ e => e))
          have HAP := Lib.hid (show ∀ g, (Value.slice v6a q6 v6c).ownBlock = some g → g < w7.heap.size from fun g e => Nat.lt_of_lt_of_le (OV.out.lt e).2 hw7.size)
          have HZ8 := Lib.hid (show W5.heap.size ≤ w7.heap.size from Nat.le_trans HZV.out hw7.size)
          clear o8 h8 hw8 h7 hw7 p2 pz
          have p0 := HP8.out.c0; have p1 := HP8.out.c1; have p2 := HP8.out.c2; have p3 := HP8.out.c3; have p4 := HP8.out.c4; have p5 := HP8.out.c5
          have pz := HP8.out.free
          have z0 := HG8.out.c0; have z1 := HG8.out.c1; have z2 := HG8.out.c2; have z3 := HG8.out.c3; have z4 := HG8.out.c4; have z5 := HG8.out.c5
          have fz := HG8.out.free
          have hne : w4.heap.size ≠ w.heap.size := by have := HZ.out; omega
          have hne2 : w.heap.size ≠ w4.heap.size := by have := HZ.out; omega
          go_wp2
          (try simp only [Exit.inBlock, Exit.then])
          refine bodyPost_ret (v := .agg #[.int .i64 (f : Int), .int .i64 (t : Int), .slice v6a q6 v6c, .int .i64 (n : Int), .int .i64 (m : Int), .slice v8a q8 v8c]) (by simp [results, Tryz.results41, go_sem, z0, z1, z2, z3, z4, z5, hne, hne2]) rfl ?_
          have hs6 := wset w8 w4.heap.size 5 (.slice v8a q8 v8c)
          have hq := wset6 (w8.setCell ⟨w4.heap.size, 5, none⟩ (.slice v8a q8 v8c)) w.heap.size (.int .i64 (f : Int)) (.int .i64 (t : Int)) (.slice v6a q6 v6c) (.int .i64 (n : Int)) (.int .i64 (m : Int)) (.slice v8a q8 v8c)
          exact ⟨_, .slice v6a q6 v6c, .slice v8a q8 v8c, HOK.out, by rw [HS.out], by rw [HS.out]; exact ((OV8.out.wrote hs6 (fun g e e2 => by have h3 := (OV8.out.lt e).1; have h4 := HZ.out; omega)).wrote hq (fun g e e2 => by have h3 := (OV8.out.lt e).1; have h4 := HZ.out; omega)).more (by have h4 := HZ.out; omega), by rw [HS.out]; exact ((O8.out.wrote hs6 (fun g e e2 => by have h3 := (O8.out.lt e).1; have h4 := HZ.out; have h5 := HZ8.out; omega)).wrote hq (fun g e e2 => by have h3 := (O8.out.lt e).1; have h4 := HZ.out; have h5 := HZ8.out; omega)).more (by have h4 := HZ.out; have h5 := HZ8.out; omega), (fun g e e2 => by have h3 := HAP.out g e; have h4 := (O8.out.lt e2).1; omega), by rw [HS.out]; exact HBO.out, by rw [HS.out]; exact (H8.out.wrote hs6 (fun g e => by have h4 := HZ.out; omega)).wrote hq (fun g e => by have h4 := HZ.out; omega), (HW8.out.trans hs6 (fun i hi e => by have h4 := HZ.out; omega)).trans hq (fun i hi e => by omega)⟩
        · -- d: what goes alone
          subst hkc
          have hkx : (T[k]'hk).toNat = 100 := hkx
          have HQ := Lib.hid (show rBody 100 f t n m r1 = (⟨f, t, (rShowns [60, 32] (t - f + 1) r1).1.map bs, n, m, []⟩, (rShowns [60, 32] (t - f + 1) r1).2) by unfold rBody rOld rMid rNew; simp)
          rw [HQ.out] at HS HBO
          dsimp only at HBO
          go_wp2_with fail
          rw [← HW5.out, EO.out]
          refine (rshowns_any W0 b r1 ⟨#[60, 32]⟩ (by decide) (t - f + 1) (by omega) _ H5.out).mono ?_
          rintro e w6 ⟨v6, rfl, o6, h6, hw6⟩
          obtain ⟨v6a, v6c, rfl, h61, h62⟩ := o6.form rfl
          have HP6 := Lib.hid (HP5.out.wrote hw6 (fun e => by have := HZ.out; omega))
          have HG6 := Lib.hid (HG5.out.wrote hw6 (fun e => by have := HZ.out; omega))
          have O6 := Lib.hid o6
          have H6 := Lib.hid h6
          have HW6 := Lib.hid (HW5'.out.trans hw6 (fun _ _ e => e))
          clear o6 h6 hw6
          obtain ⟨q6, HQ6⟩ : ∃ q6, Hid (q6 = ((rShowns [60, 32] (t - f + 1) r1).1.map bs).length) := ⟨_, rfl⟩
          rw [← HQ6.out] at O6 ⊢
          have p0 := HP6.out.c0; have p1 := HP6.out.c1; have p2 := HP6.out.c2; have p3 := HP6.out.c3; have p4 := HP6.out.c4; have p5 := HP6.out.c5
          have pz := HP6.out.free
          have z0 := HG6.out.c0; have z1 := HG6.out.c1; have z2 := HG6.out.c2; have z3 := HG6.out.c3; have z4 := HG6.out.c4; have z5 := HG6.out.c5
          have fz := HG6.out.free
          have hne : w4.heap.size ≠ w.heap.size := by have := HZ.out; omega
          have hne2 : w.heap.size ≠ w4.heap.size := by have := HZ.out; omega
          go_wp2
          (try simp only [Exit.inBlock, Exit.then])
          refine bodyPost_ret (v := .agg #[.int .i64 (f : Int), .int .i64 (t : Int), .slice v6a q6 v6c, .int .i64 (n : Int), .int .i64 (m : Int), .slice none 0 0]) (by simp [results, Tryz.results41, go_sem, z0, z1, z2, z3, z4, z5, hne, hne2]) rfl ?_
          have hs6 := wset w6 w4.heap.size 2 (.slice v6a q6 v6c)
          have hq := wset6 (w6.setCell ⟨w4.heap.size, 2, none⟩ (.slice v6a q6 v6c)) w.heap.size (.int .i64 (f : Int)) (.int .i64 (t : Int)) (.slice v6a q6 v6c) (.int .i64 (n : Int)) (.int .i64 (m : Int)) (.slice none 0 0)
          exact ⟨_, .slice v6a q6 v6c, .slice none 0 0, HOK.out, by rw [HS.out], by rw [HS.out]; exact ((O6.out.wrote hs6 (fun g e e2 => by have h3 := (O6.out.lt e).1; have h4 := HZ.out; omega)).wrote hq (fun g e e2 => by have h3 := (O6.out.lt e).1; have h4 := HZ.out; omega)).more (by have h4 := HZ.out; omega), by rw [HS.out]; exact OwnV.nil_, (fun g e e2 => by cases e2), by rw [HS.out]; exact HBO.out, by rw [HS.out]; exact (H6.out.wrote hs6 (fun g e => by have h4 := HZ.out; omega)).wrote hq (fun g e => by have h4 := HZ.out; omega), (HW6.out.trans hs6 (fun i hi e => by have h4 := HZ.out; omega)).trans hq (fun i hi e => by omega)⟩

end Go.Proofs.YtnimaadjmejmpaaGreatDoor

namespace Go.Proofs.YtnimaadjmejmpaaGreatDoor
open Go.RowKit M

/-- How much is left in the reader at block k. -/
def restLen (w : World) (k : Nat) : Nat := match w.cell? ⟨k, 0, none⟩ with
  | some (.string b) => b.size
  | _ => 0
theorem Rdr.left {W0 w : World} {b : Nat} {r : List UInt8 × Bool} (h : Rdr W0 w b r) : restLen w b = r.1.length := by
  unfold restLen
  rw [h.c0]
  exact bs_size r.1
theorem some_left {l : List UInt8} (h : l ≠ []) : (!(bs l).toList.isEmpty) = true := by
  rw [ByteArray.toList_eq, bs_list]
  cases l with
  | nil => exact absurd rfl h
  | cons _ _ => rfl
theorem none_left : (!(bs []).toList.isEmpty) = false := by
  rw [ByteArray.toList_eq, bs_list]
  rfl

set_option maxHeartbeats 4000000 in
set_option maxRecDepth 100000 in
theorem implReadNormal_any (s : ByteArray) (hs : s.size ≤ 1048576) (w : World) (hv : Vars w) :
    Calls Tryz.prog 12 #[.string s] w fun e w' => ∃ v rows, e = .returned (.tuple #[v, .int .i64 (readN s.data.toList).2.1, .bool (readN s.data.toList).2.2]) ∧ OwnSt w' w.heap.size v (readN s.data.toList).1 rows ∧ Below w.heap.size w w' := by
  have HSZ := Lib.hid (Lib.size_eq s)
  by_cases h3 : 3000 < s.size
  · have HB := Lib.hid (readN_long (s := s.data.toList) (by have := HSZ.out; omega))
    go_enter Tryz.func12, Tryz.ntmps12
    go_wp2
    go_ret3
    exact ⟨_, [], by rw [HB.out]; rfl, by rw [HB.out]; exact OwnSt.nil_, Below.refl _ _⟩
  · obtain ⟨W, HW⟩ : ∃ W, Hid (W = w.alloc (.cells #[.string s, .bool false] 76)) := ⟨_, rfl⟩
    have HR0 := Lib.hid (show Rdr w W w.heap.size (s.data.toList, false) from ⟨hv, by rw [HW.out]; exact below_alloc w _, Nat.le_refl _, by have := HSZ.out; dsimp only; omega, by rw [HW.out, bs_self]; exact heap_alloc_new w _⟩)
    clear hv
    go_enter Tryz.func12, Tryz.ntmps12
    go_wp2
    rw [← HW.out]
    go_loopw [5] (fun v w' => ∃ (u : Value) (A : Option Addr) (n c : Nat) (out : List Sp) (rows : List (List D)) (r1 : List UInt8 × Bool), u = v ∧ u = .slice A n c ∧ OwnSt w' (w.heap.size + 1) u out rows ∧ Rdr w w' w.heap.size r1 ∧ Hid (Reads s.data.toList out r1) ∧ Hid (out.length + r1.1.length ≤ s.size)) (fun _ w' => restLen w' w.heap.size)
    case atStart => exact ⟨_, none, 0, 0, [], [], _, rfl, rfl, OwnSt.nil_, HR0.out, Lib.hid (Reads.start _), Lib.hid (by have := HSZ.out; dsimp only; simp only [List.length_nil]; omega)⟩
    case round =>
      obtain ⟨u, A, n, c, out, rows, r1, rfl, rfl, ho, h1, HRD, HLN⟩ := hrel
      obtain ⟨t1, f1⟩ := r1
      have c0 := h1.c0
      have c1 := h1.c1
      dsimp only at c0 c1
      have HLT := Lib.hid h1.lt
      by_cases he : t1 = []
      · subst he
        have hem := none_left
        obtain ⟨x, ok, HTP⟩ : ∃ x ok, Hid (textP out = (x, ok)) := ⟨_, _, rfl⟩
        have HO := Lib.hid ho
        have H1 := Lib.hid h1
        have HNOT := Lib.hid (fun hb => readN_not (p := out) (r := ([], f1)) HRD.out rfl hb)
        clear ho h1
        cases f1 with
        | true =>
          have HB := Lib.hid (HNOT.out (.inl rfl))
          go_wp2_with fail
          refine (implStepsText_any A n c out _ HO.out.sps H1.out.now.tab).mono ?_
          rintro e w2 ⟨rfl, b2⟩
          rw [HTP.out]
          dsimp only
          replace c1 := cell_keep b2 c1
          have HBL := Lib.hid (H1.out.low.next b2)
          clear b2
          go_wp2
          go_ret3
          exact ⟨_, [], by rw [HB.out]; rfl, by rw [HB.out]; exact OwnSt.nil_, HBL.out⟩
        | false =>
          cases ok with
          | false =>
            have HB := Lib.hid (HNOT.out (.inr (.inl (by rw [HTP.out]))))
            go_wp2_with fail
            refine (implStepsText_any A n c out _ HO.out.sps H1.out.now.tab).mono ?_
            rintro e w2 ⟨rfl, b2⟩
            rw [HTP.out]
            dsimp only
            replace c1 := cell_keep b2 c1
            have HBL := Lib.hid (H1.out.low.next b2)
            clear b2
            go_wp2
            go_ret3
            exact ⟨_, [], by rw [HB.out]; rfl, by rw [HB.out]; exact OwnSt.nil_, HBL.out⟩
          | true =>
            by_cases hx : bs x = s
            · have hq : ((bs x).toList == s.toList) = true := by rw [hx]; exact beq_same s
              have HB := Lib.hid (readN_ok (s := s.data.toList) (p := out) (by rw [HTP.out]) (by rw [HTP.out, ← hx, bs_list]))
              have HX := Lib.hid hx
              clear hx
              go_wp2_with fail
              refine (implStepsText_any A n c out _ HO.out.sps H1.out.now.tab).mono ?_
              rintro e w2 ⟨rfl, b2⟩
              rw [HTP.out]
              dsimp only
              replace c1 := cell_keep b2 c1
              have HBL := Lib.hid (H1.out.low.next b2)
              have HO2 := Lib.hid ((HO.out.below b2).more (Nat.le_succ w.heap.size))
              clear b2
              go_wp2
              go_ret3
              exact ⟨_, rows, by rw [HB.out]; rfl, by rw [HB.out]; exact HO2.out, HBL.out⟩
            · have hq : ((bs x).toList == s.toList) = false := beq_other hx
              have HB := Lib.hid (HNOT.out (.inr (.inr (by rw [HTP.out]; intro e; apply hx; dsimp only at e; rw [e, bs_self]))))
              clear hx
              go_wp2_with fail
              refine (implStepsText_any A n c out _ HO.out.sps H1.out.now.tab).mono ?_
              rintro e w2 ⟨rfl, b2⟩
              rw [HTP.out]
              dsimp only
              replace c1 := cell_keep b2 c1
              have HBL := Lib.hid (H1.out.low.next b2)
              clear b2
              go_wp2
              go_ret3
              exact ⟨_, [], by rw [HB.out]; rfl, by rw [HB.out]; exact OwnSt.nil_, HBL.out⟩
      · have hem := some_left he
        have HE := Lib.hid he
        have HO := Lib.hid ho
        have H1 := Lib.hid h1
        have HLE := Lib.hid (show out.length ≤ 1048576 by have := HLN.out; omega)
        clear ho h1 he
        go_wp2_with (first
          | (go_at_call 41; refine (rstep_any w w.heap.size (t1, f1) _ H1.out).mono ?_; rintro e w1 ⟨k, u1, u2, hk, rfl, o1, o2, hne, hok, h2, hw2⟩
             obtain ⟨X, r2, HXE⟩ : ∃ X r2, Hid (rStep k (t1, f1) = (X, r2)) := ⟨_, _, rfl⟩
             rw [HXE.out] at o1 o2 hok h2 ⊢
             dsimp only at o1 o2 hok h2 ⊢
             obtain ⟨a1, d1, rfl, h11, h12⟩ := o1.form rfl
             obtain ⟨a2, d2, rfl, h21, h22⟩ := o2.form rfl
             have HK := Lib.hid hk
             have O1 := Lib.hid o1
             have O2 := Lib.hid o2
             have HNE := Lib.hid hne
             have HOK := Lib.hid hok
             have H2 := Lib.hid h2
             have HW2 := Lib.hid hw2
             have HO1 := Lib.hid (HO.out.wrote hw2 (fun g e e2 => by have h3 := (HO.out.lt e).1; omega))
             have HBS := Lib.hid (show w.heap.size + 1 ≤ wr.heap.size from HLT.out)
             clear hk o1 o2 hne hok h2 hw2)
          | (at_builtin; refine wpList_sp (.tmp 17) (.tmp 19) (w.heap.size + 1) (.slice A n c) out rows (HO1.out.below (below_alloc _ _)) X HOK.out (.slice a1 X.old.length d1) (.slice a2 X.new.length d2) ((O1.out.more HBS.out).below (below_alloc _ _)) ((O2.out.more HBS.out).below (below_alloc _ _)) (fun g e e2 => by have h3 := (O1.out.lt e).1; have h4 := (HO.out.lt e2).2; omega) (fun g e e2 => by have h3 := (O2.out.lt e).1; have h4 := (HO.out.lt e2).2; omega) HNE.out w1.heap.size (by simp) (by simp) (by simp) (by simp) (by simp) (by simp) HLE.out (Nat.le_trans HBS.out (Nat.le_trans HW2.out.size (below_alloc _ _).size)) rfl rfl rfl rfl ?_
             intro v3 w3 o3 g3 p3)
          | fail)
        obtain ⟨A3, c3, rfl, h31, h32⟩ := o3.form rfl
        have HLR := Lib.hid (rStep_lt k (r := (t1, f1)) HE.out)
        rw [HXE.out] at HLR
        have H3 := Lib.hid (show Rdr w w3 w.heap.size r2 from (H2.out.keep (below_alloc _ _)).kept g3 (fun g e => by have h3 := (HO.out.lt (show BlkR (.slice A n c) rows g from List.mem_append.2 (.inl (by simp [e])))).1; omega))
        go_roundw
        case rel =>
          refine ⟨_, A3, _, c3, out ++ [X], _, r2, rfl, rfl, o3, H3.out, ?_, ?_⟩
          · have h5 := HRD.out.next HE.out HK.out
            rw [HXE.out] at h5
            exact h5
          · have h5 := HLN.out
            have h6 := HLR.out
            dsimp only at h5 h6
            exact Lib.hid (by rw [List.length_append, List.length_singleton]; omega)
        case measure => rw [H3.out.left, H1.out.left]; exact HLR.out

end Go.Proofs.YtnimaadjmejmpaaGreatDoor

namespace Go.Proofs.YtnimaadjmejmpaaGreatDoor
open Go.RowKit M

theorem duo_yes {l : List UInt8} {n m : Nat} (h : pairL l = some (n, m)) : duo (pairL l) = .tuple #[.int .i64 (n : Int), .int .i64 (m : Int), .bool true] := by rw [h]; rfl
theorem duo_not {l : List UInt8} (h : pairL l = none) : duo (pairL l) = .tuple #[.int .i64 0, .int .i64 0, .bool false] := by rw [h]; rfl

/-- The answer of l5Head. -/
def headO : Option (Nat × Nat × UInt8 × Nat × Nat) → Value
  | some (f, t, c, n, m) => .tuple #[.agg #[.int .i64 (f : Int), .int .i64 (t : Int), .slice none 0 0, .int .i64 (n : Int), .int .i64 (m : Int), .slice none 0 0], .int .u8 (c.toNat : Int), .bool true]
  | none => .tuple #[.agg #[.int .i64 0, .int .i64 0, .slice none 0 0, .int .i64 0, .int .i64 0, .slice none 0 0], .int .u8 0, .bool false]

theorem headAt_none : ∀ p : List UInt8, (∀ d ∈ p, ¬ (d = 97 ∨ d = 99 ∨ d = 100)) → headAt p = none
  | [], _ => rfl
  | c :: r, h => by rw [headAt, if_neg (h c (by simp)), headAt_none r (fun d hd => h d (by simp [hd]))]; rfl
theorem byte_eq {c : UInt8} {k : Nat} (h : c.toNat = k) (hk : k < 256) : c = UInt8.ofNat k := by
  apply UInt8.toNat.inj
  rw [h]
  simp
  omega
/-- None of the first k bytes is a letter of a head. -/
def noLetter (s : ByteArray) (k : Nat) : Prop := ∀ j (hj : j < s.size), j < k → (s[j]'hj).toNat ≠ 97 ∧ (s[j]'hj).toNat ≠ 99 ∧ (s[j]'hj).toNat ≠ 100
theorem noLetter.mem {s : ByteArray} {k : Nat} (h : noLetter s k) : ∀ d ∈ s.data.toList.take k, ¬ (d = 97 ∨ d = 99 ∨ d = 100) := by
  intro d hd
  obtain ⟨j, hj, e⟩ := List.getElem_of_mem hd
  rw [List.length_take] at hj
  have hjs : j < s.size := by rw [Lib.size_eq]; omega
  have e2 : s.data.toList[j]? = some (s[j]'hjs) := Lib.data_getElem? s j hjs
  have e3 : d = s[j]'hjs := by
    have e4 : (s.data.toList.take k)[j]? = some d := by rw [List.getElem?_eq_getElem (by rw [List.length_take]; exact hj), e]
    rw [List.getElem?_take, if_pos (by omega), e2] at e4
    exact (Option.some.inj e4).symm
  have h1 := h j hjs (by omega)
  rw [e3]
  rintro (e5 | e5 | e5) <;> (rw [e5] at h1; simp at h1)
theorem head_split {s : ByteArray} {k : Nat} (hk : k < s.size) (h : noLetter s k) (hc : s[k]'hk = 97 ∨ s[k]'hk = 99 ∨ s[k]'hk = 100) : headAt s.data.toList = some (s.data.toList.take k, s[k]'hk, s.data.toList.drop (k + 1)) := by
  have e2 : s.data.toList[k]? = some (s[k]'hk) := Lib.data_getElem? s k hk
  have hkl : k < s.data.toList.length := by rw [← Lib.size_eq]; exact hk
  have e3 : s.data.toList[k] = s[k]'hk := by rw [List.getElem?_eq_getElem hkl] at e2; exact Option.some.inj e2
  have e4 : s.data.toList = s.data.toList.take k ++ (s[k]'hk) :: s.data.toList.drop (k + 1) := by
    rw [← e3, ← List.drop_eq_getElem_cons hkl, List.take_append_drop]
  have e5 := headAt_hit (s.data.toList.take k) (s[k]'hk) (s.data.toList.drop (k + 1)) h.mem hc
  rw [← e4] at e5
  exact e5
theorem head_gone {s : ByteArray} (h : noLetter s s.size) : readHead s.data.toList = none := by
  have h1 := headAt_none s.data.toList (by
    have := h.mem
    rwa [Lib.size_eq, List.take_length] at this)
  unfold readHead
  rw [h1]
theorem readHead_at {l p q : List UInt8} {c : UInt8} (h : headAt l = some (p, c, q)) : readHead l = match pairL p, pairL q with
    | some (f, t), some (n, m) => some (f, t, c, n, m)
    | _, _ => none := by
  unfold readHead
  rw [h]
  rfl
theorem headAt_letter : ∀ {l p q : List UInt8} {c : UInt8}, headAt l = some (p, c, q) → c = 97 ∨ c = 99 ∨ c = 100
  | [], _, _, _, h => by simp [headAt] at h
  | d :: r, p, q, c, h => by
    rw [headAt] at h
    split at h
    · rename_i hd
      simp at h
      rw [← h.2.1]; exact hd
    · cases e : headAt r with
      | none => rw [e] at h; simp at h
      | some x =>
        obtain ⟨p', c', q'⟩ := x
        rw [e] at h
        simp at h
        have := headAt_letter e
        rw [← h.2.1]; exact this
theorem readHead_letter {l : List UInt8} {f t n m : Nat} {c : UInt8} (h : readHead l = some (f, t, c, n, m)) : (c = 97 ∨ c = 99 ∨ c = 100) := by
  unfold readHead at h
  split at h
  · cases h
  · rename_i p d q e
    split at h
    · simp at h
      rw [← h.2.2.1]
      exact headAt_letter e
    · cases h
theorem readHead_le {l : List UInt8} {f t n m : Nat} {c : UInt8} (h : readHead l = some (f, t, c, n, m)) : f ≤ 1000 ∧ t ≤ 1000 ∧ n ≤ 1000 ∧ m ≤ 1000 := by
  have key : ∀ {p : List UInt8} {a b : Nat}, pairL p = some (a, b) → a ≤ 1000 ∧ b ≤ 1000 := fun h => by
    rw [pairL_two] at h
    have h1 := Option.filter_eq_some_iff.1 h
    have h2 := two1000_le h1.1
    exact h2.2
  unfold readHead at h
  split at h
  · cases h
  · split at h
    · rename_i p d q e f' t' n' m' e1 e2
      simp at h
      have k1 := key e1
      have k2 := key e2
      omega
    · cases h

set_option maxHeartbeats 4000000 in
set_option maxRecDepth 100000 in
theorem l5Head_any (s : ByteArray) (hs : s.size ≤ 3000) (w : World) :
    Calls Tryz.prog 47 #[.string s] w fun e w' => e = .returned (headO (readHead s.data.toList)) ∧ Below w.heap.size w w' := by
  obtain ⟨W, HW⟩ : ∃ W, Hid (W = w.alloc (.cells #[.int .i64 0, .int .i64 0, .slice none 0 0, .int .i64 0, .int .i64 0, .slice none 0 0] 69)) := ⟨_, rfl⟩
  have HB := Lib.hid (show Below w.heap.size w W by rw [HW.out]; exact below_alloc w _)
  have HG := Lib.hid (show W.heap[w.heap.size]? = some (.cells #[.int .i64 0, .int .i64 0, .slice none 0 0, .int .i64 0, .int .i64 0, .slice none 0 0] 69 (0, 0)) by rw [HW.out]; exact heap_alloc_new w _)
  have HLW := Lib.hid (show w.heap.size < W.heap.size from (Array.getElem?_eq_some_iff.1 HG.out).1)
  go_enter Tryz.func47, Tryz.ntmps47
  go_wp2
  rw [← HW.out]
  go_loopw [5] (fun i w' => ∃ k : Nat, i = .int .i64 k ∧ k ≤ s.size ∧ Hid (noLetter s k) ∧ w' = W) (fun i _ => s.size - (intOf i).toNat)
  case atStart => exact ⟨0, rfl, by omega, Lib.hid (fun j _ h => by omega), rfl⟩
  case round =>
    obtain ⟨k, rfl, hk, H, rfl⟩ := hrel
    by_cases hlt : k < s.size
    · by_cases hhit : (s[k]'hlt).toNat = 97 ∨ (s[k]'hlt).toNat = 99 ∨ (s[k]'hlt).toNat = 100
      · have HH := Lib.hid (head_split hlt H.out (by
          rcases hhit with h | h | h
          · exact .inl (byte_eq h (by decide))
          · exact .inr (.inl (byte_eq h (by decide)))
          · exact .inr (.inr (byte_eq h (by decide)))))
        have HX1 := Lib.hid (show (s.extract 0 k).data.toList = s.data.toList.take k by rw [extract_bs, bs_list]; simp)
        have HX2 := Lib.hid (show (s.extract (k + 1) s.size).data.toList = s.data.toList.drop (k + 1) by rw [extract_bs, bs_list]; exact List.take_of_length_le (by rw [Lib.size_eq]; simp))
        have hX1 : (s.extract 0 k).size ≤ 1048576 := by rw [ByteArray.size_extract]; omega
        have hX2 : (s.extract (k + 1) s.size).size ≤ 1048576 := by rw [ByteArray.size_extract]; omega
        obtain ⟨X1, hXe1⟩ : ∃ X, Hid (X = s.extract 0 k) := ⟨_, rfl⟩
        obtain ⟨X2, hXe2⟩ : ∃ X, Hid (X = s.extract (k + 1) s.size) := ⟨_, rfl⟩
        rw [← hXe1.out] at HX1 hX1
        rw [← hXe2.out] at HX2 hX2
        have HRH := Lib.hid (readHead_at HH.out)
        cases hp1 : pairL (s.data.toList.take k) with
        | none =>
          have HE := Lib.hid (show readHead s.data.toList = none by rw [HRH.out, hp1])
          have HD1 := Lib.hid (show duo (pairL X1.data.toList) = .tuple #[.int .i64 0, .int .i64 0, .bool false] by rw [HX1.out]; exact duo_not hp1)
          obtain ⟨f2, t2, o2, HD2⟩ : ∃ f2 t2 o2, Hid (duo (pairL X2.data.toList) = .tuple #[.int .i64 f2, .int .i64 t2, .bool o2]) := by
            cases hp2 : pairL X2.data.toList with
            | none => exact ⟨0, 0, false, rfl⟩
            | some x => exact ⟨_, _, true, rfl⟩
          clear hp1
          rcases hhit with hhit | hhit | hhit
          all_goals
            go_wp2_with fail
            rw [← hXe1.out]
            refine (sReadPair_any X1 hX1 _).mono ?_
            rintro e w3 ⟨rfl, b3⟩
            rw [HD1.out]
            go_wp2_with fail
            rw [← hXe2.out]
            refine (sReadPair_any X2 hX2 _).mono ?_
            rintro e w4 ⟨rfl, b4⟩
            rw [HD2.out]
            have q := ((b3.next b4).block _ HLW.out).trans HG.out
            have z0 : w4.cell? ⟨w.heap.size, 0, none⟩ = some (.int .i64 0) := by simp [World.cell?, q]
            have z1 : w4.cell? ⟨w.heap.size, 1, none⟩ = some (.int .i64 0) := by simp [World.cell?, q]
            have z2 : w4.cell? ⟨w.heap.size, 2, none⟩ = some (.slice none 0 0) := by simp [World.cell?, q]
            have z3 : w4.cell? ⟨w.heap.size, 3, none⟩ = some (.int .i64 0) := by simp [World.cell?, q]
            have z4 : w4.cell? ⟨w.heap.size, 4, none⟩ = some (.int .i64 0) := by simp [World.cell?, q]
            have z5 : w4.cell? ⟨w.heap.size, 5, none⟩ = some (.slice none 0 0) := by simp [World.cell?, q]
            have fz : ∀ j, w4.frozen? ⟨w.heap.size, j, none⟩ = false := fun j => by simp [World.frozen?, q]
            have HB4 := Lib.hid (HB.out.next (b3.next b4))
            clear q b3 b4
            go_wp2
            (try simp only [Exit.inBlock, Exit.then])
            refine bodyPost_ret (v := headO none) (by simp [results, Tryz.results47, go_sem, z0, z1, z2, z3, z4, z5, headO]) rfl ?_
            exact ⟨by rw [HE.out], (((((HB4.out.setCell (Nat.le_refl _) _).setCell (Nat.le_refl _) _).setCell (Nat.le_refl _) _).setCell (Nat.le_refl _) _).setCell (Nat.le_refl _) _).setCell (Nat.le_refl _) _⟩
        | some x1 =>
          obtain ⟨f, t⟩ := x1
          have HD1 := Lib.hid (show duo (pairL X1.data.toList) = .tuple #[.int .i64 (f : Int), .int .i64 (t : Int), .bool true] by rw [HX1.out]; exact duo_yes hp1)
          cases hp2 : pairL (s.data.toList.drop (k + 1)) with
          | none =>
            have HE := Lib.hid (show readHead s.data.toList = none by rw [HRH.out, hp1, hp2])
            have HD2 := Lib.hid (show duo (pairL X2.data.toList) = .tuple #[.int .i64 0, .int .i64 0, .bool false] by rw [HX2.out]; exact duo_not hp2)
            clear hp1 hp2
            rcases hhit with hhit | hhit | hhit
            all_goals
              go_wp2_with fail
              rw [← hXe1.out]
              refine (sReadPair_any X1 hX1 _).mono ?_
              rintro e w3 ⟨rfl, b3⟩
              rw [HD1.out]
              go_wp2_with fail
              rw [← hXe2.out]
              refine (sReadPair_any X2 hX2 _).mono ?_
              rintro e w4 ⟨rfl, b4⟩
              rw [HD2.out]
              have q := ((b3.next b4).block _ HLW.out).trans HG.out
              have z0 : w4.cell? ⟨w.heap.size, 0, none⟩ = some (.int .i64 0) := by simp [World.cell?, q]
              have z1 : w4.cell? ⟨w.heap.size, 1, none⟩ = some (.int .i64 0) := by simp [World.cell?, q]
              have z2 : w4.cell? ⟨w.heap.size, 2, none⟩ = some (.slice none 0 0) := by simp [World.cell?, q]
              have z3 : w4.cell? ⟨w.heap.size, 3, none⟩ = some (.int .i64 0) := by simp [World.cell?, q]
              have z4 : w4.cell? ⟨w.heap.size, 4, none⟩ = some (.int .i64 0) := by simp [World.cell?, q]
              have z5 : w4.cell? ⟨w.heap.size, 5, none⟩ = some (.slice none 0 0) := by simp [World.cell?, q]
              have fz : ∀ j, w4.frozen? ⟨w.heap.size, j, none⟩ = false := fun j => by simp [World.frozen?, q]
              have HB4 := Lib.hid (HB.out.next (b3.next b4))
              clear q b3 b4
              go_wp2
              (try simp only [Exit.inBlock, Exit.then])
              refine bodyPost_ret (v := headO none) (by simp [results, Tryz.results47, go_sem, z0, z1, z2, z3, z4, z5, headO]) rfl ?_
              exact ⟨by rw [HE.out], (((((HB4.out.setCell (Nat.le_refl _) _).setCell (Nat.le_refl _) _).setCell (Nat.le_refl _) _).setCell (Nat.le_refl _) _).setCell (Nat.le_refl _) _).setCell (Nat.le_refl _) _⟩
          | some x2 =>
            obtain ⟨n, m⟩ := x2
            have HE := Lib.hid (show readHead s.data.toList = some (f, t, s[k]'hlt, n, m) by rw [HRH.out, hp1, hp2])
            have HD2 := Lib.hid (show duo (pairL X2.data.toList) = .tuple #[.int .i64 (n : Int), .int .i64 (m : Int), .bool true] by rw [HX2.out]; exact duo_yes hp2)
            clear hp1 hp2
            rcases hhit with hhit | hhit | hhit
            all_goals
              go_wp2_with fail
              rw [← hXe1.out]
              refine (sReadPair_any X1 hX1 _).mono ?_
              rintro e w3 ⟨rfl, b3⟩
              rw [HD1.out]
              go_wp2_with fail
              rw [← hXe2.out]
              refine (sReadPair_any X2 hX2 _).mono ?_
              rintro e w4 ⟨rfl, b4⟩
              rw [HD2.out]
              have q := ((b3.next b4).block _ HLW.out).trans HG.out
              have z0 : w4.cell? ⟨w.heap.size, 0, none⟩ = some (.int .i64 0) := by simp [World.cell?, q]
              have z1 : w4.cell? ⟨w.heap.size, 1, none⟩ = some (.int .i64 0) := by simp [World.cell?, q]
              have z2 : w4.cell? ⟨w.heap.size, 2, none⟩ = some (.slice none 0 0) := by simp [World.cell?, q]
              have z3 : w4.cell? ⟨w.heap.size, 3, none⟩ = some (.int .i64 0) := by simp [World.cell?, q]
              have z4 : w4.cell? ⟨w.heap.size, 4, none⟩ = some (.int .i64 0) := by simp [World.cell?, q]
              have z5 : w4.cell? ⟨w.heap.size, 5, none⟩ = some (.slice none 0 0) := by simp [World.cell?, q]
              have fz : ∀ j, w4.frozen? ⟨w.heap.size, j, none⟩ = false := fun j => by simp [World.frozen?, q]
              have HB4 := Lib.hid (HB.out.next (b3.next b4))
              clear q b3 b4
              have HHI := Lib.hid hhit
              go_wp2
              go_region
              all_goals go_wp2
              all_goals (try simp only [Exit.inBlock, Exit.then])
              all_goals refine bodyPost_ret (v := headO (some (f, t, s[k]'hlt, n, m))) (by simp [results, Tryz.results47, go_sem, z0, z1, z2, z3, z4, z5, headO, HHI.out]) rfl ?_
              all_goals exact ⟨by rw [HE.out], Below.drew ((((((HB4.out.setCell (Nat.le_refl _) _).setCell (Nat.le_refl _) _).setCell (Nat.le_refl _) _).setCell (Nat.le_refl _) _).setCell (Nat.le_refl _) _).setCell (Nat.le_refl _) _)⟩
      · have h1 : (s[k]'hlt).toNat ≠ 97 := fun e => hhit (.inl e)
        have h2 : (s[k]'hlt).toNat ≠ 99 := fun e => hhit (.inr (.inl e))
        have h3 : (s[k]'hlt).toNat ≠ 100 := fun e => hhit (.inr (.inr e))
        have b1 : (((s[k]'hlt).toNat : Int) != 97) = true := by simp; omega
        have b2 : (((s[k]'hlt).toNat : Int) != 99) = true := by simp; omega
        have b3 : (((s[k]'hlt).toNat : Int) != 100) = true := by simp; omega
        have H2 := Lib.hid (show noLetter s (k + 1) from fun j hj h5 => by
          by_cases e : j = k
          · subst e; exact ⟨h1, h2, h3⟩
          · exact H.out j hj (by omega))
        clear hhit
        go_wp2
        go_roundw
        case rel => exact ⟨k + 1, by go_num, by omega, H2, by first | rfl | trivial⟩
        case measure => simp [intOf]; omega
    · obtain rfl : k = s.size := by omega
      have HE := Lib.hid (head_gone H.out)
      have q := HG.out
      have z0 : wr.cell? ⟨w.heap.size, 0, none⟩ = some (.int .i64 0) := by simp [World.cell?, q]
      have z1 : wr.cell? ⟨w.heap.size, 1, none⟩ = some (.int .i64 0) := by simp [World.cell?, q]
      have z2 : wr.cell? ⟨w.heap.size, 2, none⟩ = some (.slice none 0 0) := by simp [World.cell?, q]
      have z3 : wr.cell? ⟨w.heap.size, 3, none⟩ = some (.int .i64 0) := by simp [World.cell?, q]
      have z4 : wr.cell? ⟨w.heap.size, 4, none⟩ = some (.int .i64 0) := by simp [World.cell?, q]
      have z5 : wr.cell? ⟨w.heap.size, 5, none⟩ = some (.slice none 0 0) := by simp [World.cell?, q]
      have fz : ∀ j, wr.frozen? ⟨w.heap.size, j, none⟩ = false := fun j => by simp [World.frozen?, q]
      clear q
      go_wp2
      (try simp only [Exit.inBlock, Exit.then])
      refine bodyPost_ret (v := headO none) (by simp [results, Tryz.results47, go_sem, z0, z1, z2, z3, z4, z5, headO]) rfl ?_
      exact ⟨by rw [HE.out], (((((HB.out.setCell (Nat.le_refl _) _).setCell (Nat.le_refl _) _).setCell (Nat.le_refl _) _).setCell (Nat.le_refl _) _).setCell (Nat.le_refl _) _).setCell (Nat.le_refl _) _⟩

theorem take2 (s : ByteArray) : (s.extract 0 2).data.toList = s.data.toList.take 2 := by rw [extract_bs, bs_list]; rfl
theorem drop2 (s : ByteArray) : s.extract 2 s.size = bs (s.data.toList.drop 2) := by
  rw [extract_bs]
  congr 1
  exact List.take_of_length_le (by rw [Lib.size_eq]; simp)
theorem drop2_last (s : ByteArray) : (s.extract 2 s.size).extract 0 ((s.extract 2 s.size).size - 1) = bs (s.data.toList.drop 2).dropLast := by
  rw [drop2, extract_bs, bs_list, bs_size, List.drop_zero, Nat.sub_zero, List.dropLast_eq_take]
theorem map_at {l : List ByteArray} {k : Nat} {s : ByteArray} (h : l[k]? = some s) : (l.map (·.data.toList))[k]? = some s.data.toList := by
  rw [List.getElem?_map, h]; rfl
theorem none_bytes {t : ByteArray} : (t.toList == [92, 32, 110, 111, 110, 101, 10]) = decide (t.data.toList = noneL) := by
  rw [ByteArray.toList_eq]
  unfold noneL
  rw [Bool.eq_iff_iff, beq_iff_eq, decide_eq_true_iff]

set_option maxHeartbeats 4000000 in
set_option maxRecDepth 100000 in
theorem l5Take_any (a : Option Addr) (n c : Nat) (l : List ByteArray) (sign : ByteArray) (w : World) (hl : Strs w a n l) (hsg : sign.size = 2) (hn : n ≤ 3001) (hsz : ∀ s ∈ l, s.size ≤ 3000) :
    Calls Tryz.prog 49 #[.slice a n c, .string sign] w fun e w' => ∃ v, ∃ k : Nat, ∃ O, e = .returned (.tuple #[v, .int .i64 (k : Int)]) ∧ OwnV w' w.heap.size v (O.map bs) ∧ k ≤ n ∧ O.length ≤ k ∧ takeS sign.data.toList (l.map (·.data.toList)) = (O, (l.map (·.data.toList)).drop k) ∧ Below w.heap.size w w' := by
  have HN := Lib.hid hl.len
  have HSZ := Lib.hid hsz
  have HSG := Lib.hid hsg
  clear hsz
  go_enter Tryz.func49, Tryz.ntmps49
  go_wp2
  go_loopw [6, 7] (fun v i w' => ∃ (u : Value) (O : List (List UInt8)) (k : Nat), u = v ∧ i = .int .i64 k ∧ k ≤ n ∧ OwnV w' w.heap.size u (O.map bs) ∧ O.length ≤ k ∧ Hid (Took sign.data.toList (l.map (·.data.toList)) k O) ∧ Below w.heap.size w w') (fun _ i _ => n - (intOf i).toNat)
  case atStart => exact ⟨_, [], 0, rfl, rfl, by omega, OwnV.nil_, by simp, Lib.hid (Took.start _ _), Below.refl _ _⟩
  case round =>
    obtain ⟨u, O, k, rfl, rfl, hk, ho, hO, HT, hb⟩ := hrel
    by_cases hlt : k < n
    · obtain ⟨b, off, s, rfl, hs, hsm, c0⟩ := (hl.below hb).at_ hlt
      have hs3 : s.size ≤ 3000 := HSZ.out s (List.mem_of_getElem? hs)
      have HS := Lib.hid (map_at hs)
      have HSS := Lib.hid (Lib.size_eq s)
      clear hs
      by_cases h2 : s.size ≤ 2
      · have HE := Lib.hid (HT.out.stop HS.out (.inl (by have := HSS.out; omega)))
        have q1 : decide ((s.size : Int) ≤ 2) = true := by simp; omega
        go_wp2
        go_ret2
        exact ⟨_, k, O, rfl, ho, hk, hO, HE.out, hb⟩
      · have q1 : decide ((s.size : Int) ≤ 2) = false := by simp; omega
        by_cases hq : s.extract 0 2 = sign
        · have q2 : ((s.extract 0 2).toList == sign.toList) = true := by rw [hq]; exact beq_same sign
          have HNC := Lib.hid (show ¬ (s.data.toList.length ≤ 2 ∨ s.data.toList.take 2 ≠ sign.data.toList) by
            rintro (h | h)
            · have := HSS.out; omega
            · exact h (by rw [← take2, hq]))
          obtain ⟨X, HX⟩ : ∃ X, Hid (X = s.extract 2 s.size) := ⟨_, rfl⟩
          have hXs : X.size = s.size - 2 := by rw [HX.out, ByteArray.size_extract]; omega
          have HXB := Lib.hid (HX.out.trans (drop2 s))
          clear hq
          by_cases h3 : k + 1 < n
          · obtain ⟨b', off', t, e, ht, htm, d0⟩ := (hl.below hb).at_ h3
            obtain ⟨rfl, rfl⟩ : b' = b ∧ off' = off := by injection e with e; injection e with e1 e2; exact ⟨e1.symm, e2.symm⟩
            have HTT := Lib.hid (map_at ht)
            clear e ht htm
            by_cases hno : t.data.toList = noneL
            · have q3 : (t.toList == [92, 32, 110, 111, 110, 101, 10]) = true := by rw [none_bytes]; exact decide_eq_true hno
              have HT2 := Lib.hid (HT.out.none HS.out HNC.out (by rw [HTT.out, hno]))
              obtain ⟨Y, HY⟩ : ∃ Y, Hid (Y = X.extract 0 (X.size - 1)) := ⟨_, rfl⟩
              have HYB := Lib.hid (show Y = bs (s.data.toList.drop 2).dropLast by rw [HY.out, HX.out, drop2_last])
              have HYS := Lib.hid (show Y.size ≤ 3000 by rw [HY.out, ByteArray.size_extract]; omega)
              have HYE := Lib.hid (show (s.extract 2 s.size).extract 0 (s.size - 2 - 1) = Y by rw [HY.out, hXs, HX.out])
              have HZ := Lib.hid hb.size
              have HOL := Lib.hid (show (O.map bs).length ≤ 3001 by rw [List.length_map]; omega)
              have HO := Lib.hid ho
              have HB := Lib.hid hb
              clear hno ho hb
              go_wp2_with (first
                | (at_builtin; rw [HYE.out]; refine app_strs (.tmp 54) (.tmp 56) w.heap.size u (O.map bs) (HO.out.below (below_alloc _ _)) _ 1 1 [Y] (strs_one wr Y (by have := HYS.out; unfold maxLen; omega)) (by have := HOL.out; omega) (Nat.le_trans HZ.out (below_alloc _ _).size) rfl rfl rfl rfl ?_; intro v1 w1 o1 g1 p1)
                | fail)
              go_roundw
              case rel => exact ⟨v1, O ++ [(s.data.toList.drop 2).dropLast], k + 2, rfl, by go_num, by omega, by rw [List.map_append]; rw [HYB.out] at o1; exact o1, by simp; omega, HT2, (HB.out.next (below_alloc _ _)).grown g1 (Nat.le_trans HZ.out (below_alloc _ _).size) (fun b e => (HO.out.lt e).1)⟩
              case measure => simp [intOf]; omega
            · have q3 : (t.toList == [92, 32, 110, 111, 110, 101, 10]) = false := by rw [none_bytes]; exact decide_eq_false hno
              have HT2 := Lib.hid (HT.out.more HS.out HNC.out (by rw [HTT.out]; intro e; exact hno (Option.some.inj e)))
              have HZ := Lib.hid hb.size
              have HOL := Lib.hid (show (O.map bs).length ≤ 3001 by rw [List.length_map]; omega)
              have HO := Lib.hid ho
              have HB := Lib.hid hb
              clear hno ho hb
              go_wp2_with (first
                | (at_builtin; rw [← HX.out]; refine app_strs (.tmp 54) (.tmp 56) w.heap.size u (O.map bs) (HO.out.below (below_alloc _ _)) _ 1 1 [X] (strs_one wr X (by unfold maxLen; omega)) (by have := HOL.out; omega) (Nat.le_trans HZ.out (below_alloc _ _).size) rfl rfl rfl rfl ?_; intro v1 w1 o1 g1 p1)
                | fail)
              go_roundw
              case rel => exact ⟨v1, O ++ [s.data.toList.drop 2], k + 1, rfl, by go_num, by omega, by rw [List.map_append]; rw [HXB.out] at o1; exact o1, by simp; omega, HT2, (HB.out.next (below_alloc _ _)).grown g1 (Nat.le_trans HZ.out (below_alloc _ _).size) (fun b e => (HO.out.lt e).1)⟩
              case measure => simp [intOf]; omega
          · have HT2 := Lib.hid (HT.out.more HS.out HNC.out (by rw [List.getElem?_eq_none (by rw [List.length_map, HN.out]; omega)]; simp))
            have HZ := Lib.hid hb.size
            have HOL := Lib.hid (show (O.map bs).length ≤ 3001 by rw [List.length_map]; omega)
            have HO := Lib.hid ho
            have HB := Lib.hid hb
            clear ho hb
            go_wp2_with (first
              | (at_builtin; rw [← HX.out]; refine app_strs (.tmp 54) (.tmp 56) w.heap.size u (O.map bs) (HO.out.below (below_alloc _ _)) _ 1 1 [X] (strs_one wr X (by unfold maxLen; omega)) (by have := HOL.out; omega) (Nat.le_trans HZ.out (below_alloc _ _).size) rfl rfl rfl rfl ?_; intro v1 w1 o1 g1 p1)
              | fail)
            go_roundw
            case rel => exact ⟨v1, O ++ [s.data.toList.drop 2], k + 1, rfl, by go_num, by omega, by rw [List.map_append]; rw [HXB.out] at o1; exact o1, by simp; omega, HT2, (HB.out.next (below_alloc _ _)).grown g1 (Nat.le_trans HZ.out (below_alloc _ _).size) (fun b e => (HO.out.lt e).1)⟩
            case measure => simp [intOf]; omega
        · have q2 : ((s.extract 0 2).toList == sign.toList) = false := beq_other hq
          have HE := Lib.hid (HT.out.stop HS.out (.inr (fun e => hq (bytes_ext (by rw [take2]; exact e)))))
          clear hq
          go_wp2
          go_ret2
          exact ⟨_, k, O, rfl, ho, hk, hO, HE.out, hb⟩
    · have HE := Lib.hid (HT.out.all (by rw [List.length_map, HN.out]; omega))
      go_wp2
      go_ret2
      exact ⟨_, k, O, rfl, ho, hk, hO, HE.out, hb⟩

end Go.Proofs.YtnimaadjmejmpaaGreatDoor

namespace Go.Proofs.YtnimaadjmejmpaaGreatDoor
open Go.RowKit M

theorem size_le_total {x : ByteArray} : ∀ {l : List ByteArray}, x ∈ l → x.size ≤ total l
  | [], h => by simp at h
  | y :: l, h => by
    rw [total]
    rcases List.mem_cons.1 h with e | e
    · rw [e]; omega
    · have := size_le_total e; omega
theorem cut_sizes (s : ByteArray) : ∀ x ∈ cutOf s, 1 ≤ x.size ∧ x.size ≤ s.size := by
  intro x hx
  obtain ⟨k, hk, e⟩ := List.getElem_of_mem hx
  have h1 := (cutGo_prop s.data.toList [] (by simp) k x (by rw [show cutGo [] s.data.toList = cutOf s from rfl, List.getElem?_eq_getElem hk, e])).1
  have h2 := size_le_total hx
  rw [← cat_size, cut_cat] at h2
  unfold propB at h1
  simp only [Bool.and_eq_true, decide_eq_true_eq] at h1
  exact ⟨h1.1, h2⟩
theorem cut_count (s : ByteArray) : (cutOf s).length ≤ s.size := by
  have := cut_length s.data.toList []
  rw [Lib.size_eq]
  simpa [cutOf] using this
theorem plain_list (s : ByteArray) : (plain s).data.toList = plainL s.data.toList := by
  unfold plain plainL
  have e : endsL s.data.toList = endsB s := rfl
  rw [e]
  cases h : endsB s
  · rw [if_neg (by simp), if_neg (by simp)]
  · rw [if_pos rfl, if_pos rfl, extract_bs, bs_list, List.drop_zero, Nat.sub_zero, List.dropLast_eq_take, Lib.size_eq]
theorem plain_le (s : ByteArray) : (plain s).size ≤ s.size := by
  unfold plain
  split
  · rw [ByteArray.size_extract]; omega
  · exact Nat.le_refl _
theorem headO_some (f t : Nat) (c : UInt8) (n m k : Nat) (h : c.toNat = k) : headO (some (f, t, c, n, m)) = .tuple #[.agg #[.int .i64 (f : Int), .int .i64 (t : Int), .slice none 0 0, .int .i64 (n : Int), .int .i64 (m : Int), .slice none 0 0], .int .u8 (k : Int), .bool true] := by
  rw [← h]; rfl
theorem sNew_a {l O : List (List UInt8)} {k : Nat} (h : takeS [62, 32] l = (O, l.drop k)) (f t n m : Nat) : sStep f t 97 n m l = ⟨f, t, [], n, m, O.map bs⟩ ∧ (sNew 97 l).2 = l.drop k := by
  have e1 : sOld 97 l = ([], l) := rfl
  have e2 : sMid 97 l = l := rfl
  have e3 : sNew 97 l = (O, l.drop k) := by unfold sNew; rw [e2]; exact h
  unfold sStep
  rw [e1, e3]
  exact ⟨rfl, rfl⟩
theorem sNew_d {l O : List (List UInt8)} {k : Nat} (h : takeS [60, 32] l = (O, l.drop k)) (f t n m : Nat) : sStep f t 100 n m l = ⟨f, t, O.map bs, n, m, []⟩ ∧ (sNew 100 l).2 = l.drop k := by
  have e1 : sOld 100 l = (O, l.drop k) := h
  have e2 : sMid 100 l = l.drop k := by unfold sMid; rw [e1]; rfl
  have e3 : sNew 100 l = ([], l.drop k) := by unfold sNew; rw [e2]; rfl
  unfold sStep
  rw [e1, e3]
  exact ⟨rfl, rfl⟩
theorem sNew_c {l O O2 : List (List UInt8)} {k d k2 : Nat} (h : takeS [60, 32] l = (O, l.drop k)) (hd : (l.drop k).drop 1 = (l.drop k).drop d) (h2 : takeS [62, 32] ((l.drop k).drop d) = (O2, ((l.drop k).drop d).drop k2)) (f t n m : Nat) : sStep f t 99 n m l = ⟨f, t, O.map bs, n, m, O2.map bs⟩ ∧ (sNew 99 l).2 = ((l.drop k).drop d).drop k2 := by
  have e1 : sOld 99 l = (O, l.drop k) := h
  have e2 : sMid 99 l = (l.drop k).drop d := by unfold sMid; rw [e1]; exact hd
  have e3 : sNew 99 l = (O2, ((l.drop k).drop d).drop k2) := by unfold sNew; rw [e2]; exact h2
  unfold sStep
  rw [e1, e3]
  exact ⟨rfl, rfl⟩
theorem cut_one (a : Option Addr) (n c : Nat) (h1 : 1 ≤ n) (h2 : n ≤ c) (w : World) :
    (Instr.slice 33 (.slice a n c) (some (.int .i64 1)) none none).run Tryz.prog w = .ok (.slice (cutA a c 1) (n - 1) (c - 1)) w := by
  have := cut_lo_strs a n c 1 h1 h2 w
  simpa using this
theorem empty_bad {p : List Sp} {x : Sp} (hx : x ∈ p) {t : ByteArray} (ht : t ∈ x.old ++ x.new) (h0 : t.size = 0) : stepsB p = false := by
  cases h : stepsB p with
  | false => rfl
  | true =>
    exfalso
    unfold stepsB at h
    simp only [Bool.and_eq_true] at h
    obtain ⟨s1, s2, _⟩ := stepB_parts (List.all_eq_true.1 h.1 x hx)
    obtain ⟨_, _, _, _, _, _, g1, _⟩ := side_le s1
    obtain ⟨_, _, _, _, _, _, g2, _⟩ := side_le s2
    have : lineB t = true := by
      rcases List.mem_append.1 ht with h5 | h5
      · exact good_lines g1 t h5
      · exact good_lines g2 t h5
    have := (lineB_size this).1
    omega
theorem step_strs3 {w : World} {ops : Array Oper} {o : Oper} {a : Act} {K : Act → World → Prop} {Q : Exit → Act → World → Prop} {E : Prop} (s x : Operand) (base : Nat) (v : Value) (l : List ByteArray) (hown : OwnV w base v l) (A : Option Addr) (m c : Nat) (r : List ByteArray) (hr : Strs w A m r)
    (hbound : l.length + m ≤ 4294967296) (hbase : base ≤ w.heap.size) (hgd : Region.wanted o (yielded ops a.tmps) = true) (ho : o.op = .call { callee := .builtin .append, args := #[s, x], argTypes := #[33, 33] }) (hs : a.eval s = v) (hx : a.eval x = .slice A m c)
    (h : ∀ v' w', OwnV w' base v' (l ++ r) → w.grownBy w' v.ownBlock → (v'.ownBlock = v.ownBlock ∨ v'.ownBlock = some w.heap.size) → K (a.put o.dst v') w') : if Region.wanted o (yielded ops a.tmps) = true then Oper.wp Tryz.prog o a w K Q else E := by
  obtain ⟨i, h1, h2, h3, h4⟩ := info_parts str_info
  exact step_app Tryz.underlying33 h1 h2 h3 h4 s x base v l hown A m c r hr hbound hbase hgd ho hs hx h

set_option maxHeartbeats 8000000 in
set_option maxRecDepth 100000 in
theorem specReadNormal_any (s : ByteArray) (hs : s.size ≤ 1048576) (w : World) :
    Calls Tryz.prog 15 #[.string s] w fun e w' => ∃ v rows, e = .returned (.tuple #[v, .int .i64 (readN s.data.toList).2.1, .bool (readN s.data.toList).2.2]) ∧ OwnSt w' w.heap.size v (readN s.data.toList).1 rows ∧ Below w.heap.size w w' := by
  have HSZ := Lib.hid (Lib.size_eq s)
  by_cases h3 : 3000 < s.size
  · have HB := Lib.hid (readN_long (s := s.data.toList) (by have := HSZ.out; omega))
    go_enter Tryz.func15, Tryz.ntmps15
    go_wp2
    go_ret3
    exact ⟨_, [], by rw [HB.out]; rfl, by rw [HB.out]; exact OwnSt.nil_, Below.refl _ _⟩
  · have HCNT := Lib.hid (cut_count s)
    have HCS := Lib.hid (cut_sizes s)
    go_enter Tryz.func15, Tryz.ntmps15
    go_wp2_with fail
    refine (l1Cut_any s _ hs).mono ?_
    rintro e w1 ⟨v0, rfl, o0, b0⟩
    obtain ⟨n0, HN0⟩ : ∃ n0, Hid ((cutOf s).length = n0) := ⟨_, rfl⟩
    obtain ⟨A0, c0, rfl, h01, h02⟩ := o0.form HN0.out
    have HB0 := Lib.hid b0
    have HST0 := Lib.hid o0.strs
    clear o0 b0
    go_wp2
    go_loopw [5, 6] (fun lv ov w' => ∃ (A : Option Addr) (n c : Nat) (L : List ByteArray) (u : Value) (out : List Sp) (rows : List (List D)), lv = .slice A n c ∧ u = ov ∧ n ≤ c ∧ Strs w1 A n L ∧ OwnSt w' w1.heap.size u out rows ∧ Hid (Parsed s.data.toList out (L.map (·.data.toList))) ∧ Hid (∀ x ∈ L, 1 ≤ x.size ∧ x.size ≤ 3000) ∧ Hid (out.length + n ≤ 3000) ∧ Hid (∀ x ∈ out, x.old.length ≤ 1048576 ∧ x.new.length ≤ 1048576) ∧ Below w1.heap.size w1 w') (fun lv _ _ => slen lv)
    case atStart => exact ⟨A0, n0, c0, cutOf s, _, [], [], rfl, rfl, h01, HST0.out, OwnSt.nil_, Lib.hid (Parsed.start _), Lib.hid (fun x hx => by have := HCS.out x hx; omega), Lib.hid (by have := HCNT.out; have := HN0.out; simp only [List.length_nil]; omega), Lib.hid (fun x hx => by simp at hx), Below.refl _ _⟩
    case round =>
      obtain ⟨A, n, c, L, u, out, rows, rfl, rfl, hnc, hst, ho, HPA, HLS, HOL, HOB, hb⟩ := hrel
      have HSTL := Lib.hid hst.len
      by_cases hn0 : n = 0
      · have hL0 : L = [] := List.eq_nil_of_length_eq_zero (by rw [HSTL.out]; exact hn0)
        subst hL0
        have HPE := Lib.hid (show Parsed s.data.toList out [] from HPA.out)
        have hq0 : decide (0 < n) = false := by simp; omega
        obtain ⟨N, HN⟩ : ∃ N, Hid (out.length = N) := ⟨_, rfl⟩
        obtain ⟨A9, c9, rfl, h91, h92⟩ := ho.form HN.out
        have hN3 : N ≤ 3000 := by have := HOL.out; have := HN.out; omega
        have HSP := Lib.hid ho.sps
        have HOW := Lib.hid ho
        have HBW := Lib.hid hb
        obtain ⟨w2, hw2⟩ : ∃ w2, w2 = wr := ⟨_, rfl⟩
        subst hw2
        clear ho hb hst hn0 HPA HLS HSTL
        go_wp2
        go_loopw [78] (fun i w' => ∃ j : Nat, i = .int .i64 j ∧ j ≤ N ∧ Below w2.heap.size w2 w') (fun i _ => N - (intOf i).toNat)
        case atStart => exact ⟨0, rfl, by omega, Below.refl _ _⟩
        case round =>
          obtain ⟨j, rfl, hj, hbj⟩ := hrel
          by_cases hlt : j < N
          · obtain ⟨b, off, B1, m1, d1, B2, m2, d2, x, rfl, hx, k0, k1, k2, k3, k4, k5, hs1, hmm1, hs2, hmm2, hok⟩ := (HSP.out.below hbj).at_ hlt
            have HXM := Lib.hid (List.mem_of_getElem? hx)
            have hm1 : m1 ≤ 1048576 := by rw [← hs1.len]; exact (HOB.out x HXM.out).1
            have hm2 : m2 ≤ 1048576 := by rw [← hs2.len]; exact (HOB.out x HXM.out).2
            have HL1 := Lib.hid hs1.len
            have HL2 := Lib.hid hs2.len
            obtain ⟨w3, hw3⟩ : ∃ w3, w3 = wr := ⟨_, rfl⟩
            subst hw3
            obtain ⟨W6, HW6⟩ : ∃ W6, Hid (W6 = w3.alloc (.cells #[.int .i64 x.fr, .int .i64 x.to_, .slice B1 m1 d1, .int .i64 x.at_, .int .i64 x.en, .slice B2 m2 d2] 69)) := ⟨_, rfl⟩
            have B6 := Lib.hid (show Below w3.heap.size w3 W6 by rw [HW6.out]; exact below_alloc _ _)
            have q2 : W6.cell? ⟨w3.heap.size, 2, none⟩ = some (.slice B1 m1 d1) := by rw [HW6.out]; simp
            have q5 : W6.cell? ⟨w3.heap.size, 5, none⟩ = some (.slice B2 m2 d2) := by rw [HW6.out]; simp
            have HQL := Lib.hid (cell_lt q2)
            have HS1 := Lib.hid (hs1.below B6.out)
            have HS2 := Lib.hid (hs2.below B6.out)
            obtain ⟨M, HM⟩ : ∃ M, Hid ((x.old ++ x.new).length = M) := ⟨_, rfl⟩
            have hM3 : M ≤ 2097152 := by have h5 := HM.out; rw [List.length_append] at h5; have := HL1.out; have := HL2.out; omega
            have HBJ := Lib.hid hbj
            clear hx hs1 hs2 hok hbj
            go_wp2
            rw [← HW6.out]
            go_region_held3 (fun w' => w'.cell? ⟨w3.heap.size, 2, none⟩ = some (.slice B1 m1 d1) ∧ w'.cell? ⟨w3.heap.size, 5, none⟩ = some (.slice B2 m2 d2)) (first | exact ⟨q2, q5⟩ | exact ⟨cell_keep B5.out q2, cell_keep B5.out q5⟩ | exact K7 | go_keep)
              (first
                | (go_at_call 50; refine (l1OwnT_any B1 m1 d1 x.old W6.drew (HS1.out.below (Below.refl _ W6).drew) hm1).mono ?_; rintro e w5 ⟨v5, rfl, o5, b5⟩
                   have B5 := Lib.hid (show Below W6.heap.size W6 w5 from (Below.refl _ W6).drew.next b5)
                   have O5 := Lib.hid (show OwnV w5 W6.heap.size v5 x.old from o5)
                   clear o5 b5)
                | (refine step_strs3 (.tmp 84) (.tmp 86) W6.heap.size v5 x.old O5.out B2 m2 d2 x.new (HS2.out.below B5.out) (by have := HL1.out; omega) B5.out.size rfl rfl rfl rfl ?_
                   intro v7 w7 o7 g7 p7
                   obtain ⟨A7, c7, rfl, h71, h72⟩ := o7.form HM.out
                   have K7 := (show w7.cell? ⟨w3.heap.size, 2, none⟩ = some (.slice B1 m1 d1) ∧ w7.cell? ⟨w3.heap.size, 5, none⟩ = some (.slice B2 m2 d2) from ⟨g7.cell (cell_keep B5.out q2) (fun e => by have h5 := (O5.out.lt e.symm).1; have h6 := HQL.out; dsimp only at h5 h6; omega), g7.cell (cell_keep B5.out q5) (fun e => by have h5 := (O5.out.lt e.symm).1; have h6 := HQL.out; dsimp only at h5 h6; omega)⟩))
                | fail)
            have HB7 := Lib.hid (show Below W6.heap.size W6 w7 from B5.out.grown g7 B5.out.size (fun k e => (O5.out.lt e).1))
            have O7 := Lib.hid o7
            clear o7 g7 p7 K7
            go_wp2
            go_loopw [89] (fun i w' => ∃ q : Nat, i = .int .i64 q ∧ q ≤ M ∧ Below w7.heap.size w7 w') (fun i _ => M - (intOf i).toNat)
            case atStart => exact ⟨0, rfl, by omega, Below.refl _ _⟩
            case round =>
              obtain ⟨q, rfl, hq, hbq⟩ := hrel
              have HBA := Lib.hid (show Below w2.heap.size w2 wr from ((HBJ.out.next B6.out).next HB7.out).next hbq)
              by_cases hlq : q < M
              · obtain ⟨b7, off7, tx, rfl, htx, htm, e7⟩ := (O7.out.strs.below hbq).at_ hlq
                by_cases h0 : tx.size = 0
                · have HBAD := Lib.hid (HPE.out.no (.inl (empty_bad HXM.out (List.mem_of_getElem? htx) h0)))
                  have hem : tx.toList.isEmpty = true := by
                    rw [ByteArray.toList_eq, List.isEmpty_iff]
                    exact List.eq_nil_of_length_eq_zero (by rw [← Lib.size_eq]; exact h0)
                  clear h0
                  go_wp2
                  go_ret3
                  exact ⟨_, [], by rw [HBAD.out]; rfl, by rw [HBAD.out]; exact OwnSt.nil_, (HB0.out.next HBW.out).next HBA.out⟩
                · have hem : tx.toList.isEmpty = false := by
                    rw [ByteArray.toList_eq]
                    cases hl : tx.data.toList with
                    | nil => exact absurd (by rw [Lib.size_eq, hl]; rfl) h0
                    | cons _ _ => rfl
                  clear h0
                  go_wp2
                  go_roundw
                  case rel => exact ⟨q + 1, by go_num, by omega, hbq⟩
                  case measure => simp [intOf]; omega
              · go_wp2
                go_roundw
                case rel => exact ⟨j + 1, by go_num, by omega, HBA.out⟩
                case measure => simp [intOf]; omega
          · have HSJ := Lib.hid (HSP.out.below hbj)
            have HBJ := Lib.hid hbj
            clear hbj
            cases hg : stepsB out
            · have HBAD := Lib.hid (HPE.out.no (.inl hg))
              have HG := Lib.hid hg
              clear hg
              go_wp2_with fail
              refine (specGoodSteps_any A9 N c9 out _ HSJ.out HOB.out).mono ?_
              rintro e w4 ⟨rfl, b4⟩
              rw [HG.out]
              go_wp2
              go_ret3
              exact ⟨_, [], by rw [HBAD.out]; rfl, by rw [HBAD.out]; exact OwnSt.nil_, ((HB0.out.next HBW.out).next HBJ.out).next b4⟩
            · have HG := Lib.hid hg
              obtain ⟨T, HT⟩ : ∃ T, Hid (bs (stepsT out) = T) := ⟨_, rfl⟩
              by_cases hts : T = s
              · have hq : (T.toList == s.toList) = true := by rw [hts]; exact beq_same s
                have HGD := Lib.hid (HPE.out.yes (by have := HSZ.out; omega) hg (by have e := HT.out; rw [hts] at e; rw [← e, bs_list]))
                clear hg hts
                go_wp2_with fail
                refine (specGoodSteps_any A9 N c9 out _ HSJ.out HOB.out).mono ?_
                rintro e w4 ⟨rfl, b4⟩
                rw [HG.out]
                go_wp2_with fail
                refine (l5Text_any A9 N c9 out _ (HSJ.out.below b4) HG.out).mono ?_
                rintro e w5 ⟨rfl, b5⟩
                rw [HT.out]
                go_wp2
                go_ret3
                exact ⟨_, rows, by rw [HGD.out]; rfl, by rw [HGD.out]; exact (((HOW.out.below HBJ.out).below b4).below b5).more HB0.out.size, (((HB0.out.next HBW.out).next HBJ.out).next b4).next b5⟩
              · have hq : (T.toList == s.toList) = false := beq_other hts
                have HBAD := Lib.hid (HPE.out.no (.inr (fun e => hts (by rw [← HT.out, e, bs_self]))))
                clear hg hts
                go_wp2_with fail
                refine (specGoodSteps_any A9 N c9 out _ HSJ.out HOB.out).mono ?_
                rintro e w4 ⟨rfl, b4⟩
                rw [HG.out]
                go_wp2_with fail
                refine (l5Text_any A9 N c9 out _ (HSJ.out.below b4) HG.out).mono ?_
                rintro e w5 ⟨rfl, b5⟩
                rw [HT.out]
                go_wp2
                go_ret3
                exact ⟨_, [], by rw [HBAD.out]; rfl, by rw [HBAD.out]; exact OwnSt.nil_, (((HB0.out.next HBW.out).next HBJ.out).next b4).next b5⟩

      · obtain ⟨x, L', rfl⟩ : ∃ x L', L = x :: L' := by
          cases L with
          | nil => exact absurd HSTL.out.symm hn0
          | cons x L' => exact ⟨x, L', rfl⟩
        obtain ⟨b, off, x', rfl, hx', hxm, d0⟩ := (hst.below hb).at_ (k := 0) (by omega)
        obtain rfl : x' = x := by simpa using hx'.symm
        have d00 : wr.cell? ⟨b, off, none⟩ = some (.string x') := by simpa using d0
        have hxs := HLS.out x' (by simp)
        have hxs1 := hxs.1
        have hxs2 := hxs.2
        have HPL' := Lib.hid (plain_list x')
        obtain ⟨n1, Hn1⟩ : ∃ n1, Hid (n - 1 = n1) := ⟨_, rfl⟩
        obtain ⟨c1, Hc1⟩ : ∃ c1, Hid (c - 1 = c1) := ⟨_, rfl⟩
        obtain ⟨A1, HA1⟩ : ∃ A1, Hid (cutA (some ⟨b, off, none⟩) c 1 = A1) := ⟨_, rfl⟩
        have hcut1 : ∀ w, (Instr.slice 33 (.slice (some ⟨b, off, none⟩) n c) (some (.int .i64 1)) none none).run Tryz.prog w = .ok (.slice A1 n1 c1) w := fun w => by
          have := cut_one (some ⟨b, off, none⟩) n c (by omega) hnc w
          rw [HA1.out, Hn1.out, Hc1.out] at this
          exact this
        have HST1 := Lib.hid (show Strs w1 A1 n1 L' by
          have := hst.drop_ (lo := 1) (by omega) hnc
          rw [HA1.out, Hn1.out] at this
          exact this)
        have hn1 : n1 + 1 = n := by have := Hn1.out; omega
        have hn1c : n1 ≤ c1 := by have := Hc1.out; omega
        have hn3 : n ≤ 3000 := by have := HOL.out; omega
        have HLS1 := Lib.hid (show ∀ y ∈ L', y.size ≤ 3000 from fun y hy => (HLS.out y (by simp [hy])).2)
        have HLS2 := Lib.hid (show ∀ y ∈ L', 1 ≤ y.size ∧ y.size ≤ 3000 from fun y hy => HLS.out y (by simp [hy]))
        have HPM := Lib.hid (show Parsed s.data.toList out (x'.data.toList :: L'.map (·.data.toList)) from HPA.out)
        have HO := Lib.hid ho
        have HBW := Lib.hid hb
        have HOUL := Lib.hid (show out.length ≤ 1048576 by have := HOL.out; omega)
        have hpl : (plain x').size ≤ 3000 := by have := plain_le x'; omega
        clear hx' d0 hxm hst ho hb hxs HPA HLS HSTL hn0
        cases hrh : readHead (plainL x'.data.toList) with
        | none =>
          have HBAD := Lib.hid (readN_bad (HPM.out.bad hrh))
          have HH := Lib.hid (show headO (readHead (plain x').data.toList) = .tuple #[.agg #[.int .i64 0, .int .i64 0, .slice none 0 0, .int .i64 0, .int .i64 0, .slice none 0 0], .int .u8 0, .bool false] by rw [HPL'.out, hrh]; rfl)
          clear hrh
          go_wp2_with fail
          refine (l1Plain_any x' _ (by unfold maxLen; omega) (by omega)).mono ?_
          rintro e w2 ⟨rfl, rfl⟩
          go_wp2_with fail
          refine (l5Head_any (plain x') hpl _).mono ?_
          rintro e w3 ⟨rfl, b3⟩
          rw [HH.out]
          go_wp2
          go_ret3
          exact ⟨_, [], by rw [HBAD.out]; rfl, by rw [HBAD.out]; exact OwnSt.nil_, ((HB0.out.next HBW.out).next b3).next (below_alloc _ _)⟩
        | some y =>
          obtain ⟨f, t, cc, n', m'⟩ := y
          obtain ⟨hf, ht, hn', hm'⟩ := readHead_le hrh
          have HMORE := Lib.hid (HPM.out.more hrh)
          have HLET := Lib.hid (readHead_letter hrh)
          have HHD := Lib.hid (show headO (readHead (plain x').data.toList) = headO (some (f, t, cc, n', m')) by rw [HPL'.out, hrh])
          clear hrh
          rcases HLET.out with hcc | hcc | hcc
          · -- a: what comes alone
            subst hcc
            have HH := Lib.hid (HHD.out.trans (headO_some f t 97 n' m' 97 rfl))
            go_wp2_with fail
            refine (l1Plain_any x' _ (by unfold maxLen; omega) (by omega)).mono ?_
            rintro e w2 ⟨rfl, rfl⟩
            go_wp2_with fail
            refine (l5Head_any (plain x') hpl _).mono ?_
            rintro e w3 ⟨rfl, b3⟩
            rw [HH.out]
            obtain ⟨W5, HW5⟩ : ∃ W5, Hid (W5 = w3.alloc (.cells #[.int .i64 (f : Int), .int .i64 (t : Int), .slice none 0 0, .int .i64 (n' : Int), .int .i64 (m' : Int), .slice none 0 0] 69)) := ⟨_, rfl⟩
            have b5 : Below w3.heap.size w3 W5 := by rw [HW5.out]; exact below_alloc w3 _
            have HP5 := Lib.hid (show SpBlk W5 w3.heap.size (.int .i64 (f : Int)) (.int .i64 (t : Int)) (.slice none 0 0) (.int .i64 (n' : Int)) (.int .i64 (m' : Int)) (.slice none 0 0) by rw [HW5.out]; exact heap_alloc_new w3 _)
            have B5 := Lib.hid (b3.next b5)
            have HZ := Lib.hid (show w1.heap.size ≤ wr.heap.size ∧ wr.heap.size ≤ w3.heap.size ∧ w3.heap.size < W5.heap.size from ⟨HBW.out.size, b3.size, HP5.out.lt⟩)
            clear b3 b5
            go_wp2_with fail
            rw [← HW5.out]
            refine (l5Take_any A1 n1 c1 L' ⟨#[62, 32]⟩ _ (HST1.out.below (HBW.out.next B5.out)) rfl (by omega) HLS1.out).mono ?_
            rintro e w6 ⟨v6, k, O, rfl, o6, hk, hO, htk, b6⟩
            obtain ⟨q6, Hq6⟩ : ∃ q, Hid ((O.map bs).length = q) := ⟨_, rfl⟩
            obtain ⟨v6a, v6c, rfl, hv61, hv62⟩ := o6.form Hq6.out
            have Hq63 : q6 ≤ 3000 := by have := Hq6.out; rw [List.length_map] at this; omega
            have HTk := Lib.hid htk
            clear htk
            have HPL := Lib.hid (HP5.out.keep b6)
            have HOL6 := Lib.hid ((HO.out.below B5.out).below b6)
            have O6 := Lib.hid o6
            have B6 := Lib.hid b6
            clear o6 b6
            have HOKX := Lib.hid (show SpOk (⟨(f : Int), (t : Int), [], (n' : Int), (m' : Int), O.map bs⟩ : Sp) from ⟨⟨by dsimp only; omega, by dsimp only; omega⟩, ⟨by dsimp only; omega, by dsimp only; omega⟩, ⟨by dsimp only; omega, by dsimp only; omega⟩, ⟨by dsimp only; omega, by dsimp only; omega⟩, ((OwnV.nil_ : OwnV w6 0 (.slice none 0 0) [])).small, (O6.out).small⟩)
            have hcutL := cut_lo_strs A1 n1 c1 k hk hn1c
            have p0 := HPL.out.c0; have p1 := HPL.out.c1; have p2 := HPL.out.c2; have p3 := HPL.out.c3; have p4 := HPL.out.c4; have p5 := HPL.out.c5
            have pz := HPL.out.free
            obtain ⟨wL, HWL⟩ : ∃ wL, Hid (wL = w6.setCell ⟨w3.heap.size, 5, none⟩ (.slice v6a q6 v6c)) := ⟨_, rfl⟩
            have hsL : Wrote (fun i => i = w3.heap.size) w6 wL := by rw [HWL.out]; exact wset _ _ _ _
            have HSL := Lib.hid hsL
            have HSZL := Lib.hid (show w6.heap.size = wL.heap.size by rw [HWL.out]; simp [World.setCell])
            have OUT := Lib.hid (HOL6.out.wrote hsL (fun g e e2 => by have h5 := (HO.out.lt e).2; have h6 := HZ.out; omega))
            have OX5 := Lib.hid (show OwnV wL w1.heap.size (.slice none 0 0) (⟨(f : Int), (t : Int), [], (n' : Int), (m' : Int), O.map bs⟩ : Sp).old from OwnV.nil_)
            have OX6 := Lib.hid (show OwnV wL w1.heap.size (.slice v6a q6 v6c) (⟨(f : Int), (t : Int), [], (n' : Int), (m' : Int), O.map bs⟩ : Sp).new from ((O6.out.wrote HSL.out (fun g e e2 => by have h5 := (O6.out.lt e).1; have h6 := HZ.out; omega)).more (by have h6 := HZ.out; omega)))
            have HF5 := Lib.hid (show ∀ g, (.slice none 0 0 : Value).ownBlock = some g → ¬ BlkR u rows g from (fun g e => by cases e))
            have HF6 := Lib.hid (show ∀ g, (.slice v6a q6 v6c : Value).ownBlock = some g → ¬ BlkR u rows g from (fun g e e2 => by have h5 := (O6.out.lt e).1; have h6 := (HO.out.lt e2).2; have h7 := HZ.out; omega))
            have HNE := Lib.hid (show ∀ g, (.slice none 0 0 : Value).ownBlock = some g → (.slice v6a q6 v6c : Value).ownBlock ≠ some g from (fun g e => by cases e))
            have HBL := Lib.hid (show Below w1.heap.size w1 wL from Wrote.below' ((HBW.out.next B5.out).next B6.out) hsL (fun g e => by have h6 := HZ.out; omega))
            have HLZ := Lib.hid HBL.out.size
            clear hsL
            go_wp2_with (first
              | (at_builtin; rw [← HWL.out]; refine wpList_sp (.tmp 72) (.tmp 74) w1.heap.size u out rows (OUT.out.below (below_alloc _ _)) (⟨(f : Int), (t : Int), [], (n' : Int), (m' : Int), O.map bs⟩ : Sp) HOKX.out (.slice none 0 0) (.slice v6a q6 v6c) (OX5.out.below (below_alloc _ _)) (OX6.out.below (below_alloc _ _)) HF5.out HF6.out HNE.out w6.heap.size (by rw [HSZL.out]; simp) (by rw [HSZL.out]; simp) (by rw [HSZL.out]; simp) (by rw [HSZL.out]; simp) (by rw [HSZL.out]; simp) (by rw [HSZL.out]; simp) HOUL.out (Nat.le_trans HLZ.out (below_alloc _ _).size) rfl rfl rfl rfl ?_
                 intro v9 w9 o9 g9 p9)
              | fail)
            go_roundw
            case rel =>
              refine ⟨_, n1 - k, c1 - k, L'.drop k, v9, out ++ [(⟨(f : Int), (t : Int), [], (n' : Int), (m' : Int), O.map bs⟩ : Sp)], _, rfl, rfl, by omega, HST1.out.drop_ hk hn1c, o9, Lib.hid ?_, Lib.hid (fun y hy => HLS2.out y (by first | exact hy | exact List.mem_of_mem_drop hy | exact List.mem_of_mem_drop (List.mem_of_mem_drop hy) | exact List.mem_of_mem_drop (List.mem_of_mem_drop (List.mem_of_mem_drop hy)))), Lib.hid (by have := HOL.out; rw [List.length_append, List.length_singleton]; omega), Lib.hid (fun y hy => ?_), (HBL.out.next (below_alloc _ _)).grown g9 (Nat.le_trans HLZ.out (below_alloc _ _).size) (fun g e => (HO.out.lt (show BlkR u rows g from List.mem_append.2 (.inl (by simp [e])))).1)⟩
              · have h5 := HMORE.out
                obtain ⟨e1, e2⟩ := sNew_a HTk.out f t n' m'
                rw [e1, e2] at h5
                simpa [List.map_drop] using h5
              · rcases List.mem_append.1 hy with h5 | h5
                · exact HOB.out y h5
                · rw [List.mem_singleton.1 h5]; exact ⟨by simp, by have := Hq6.out; dsimp only; omega⟩
            case measure => simp [slen]; omega
          · -- c: both
            subst hcc
            have HH := Lib.hid (HHD.out.trans (headO_some f t 99 n' m' 99 rfl))
            go_wp2_with fail
            refine (l1Plain_any x' _ (by unfold maxLen; omega) (by omega)).mono ?_
            rintro e w2 ⟨rfl, rfl⟩
            go_wp2_with fail
            refine (l5Head_any (plain x') hpl _).mono ?_
            rintro e w3 ⟨rfl, b3⟩
            rw [HH.out]
            obtain ⟨W5, HW5⟩ : ∃ W5, Hid (W5 = w3.alloc (.cells #[.int .i64 (f : Int), .int .i64 (t : Int), .slice none 0 0, .int .i64 (n' : Int), .int .i64 (m' : Int), .slice none 0 0] 69)) := ⟨_, rfl⟩
            have b5 : Below w3.heap.size w3 W5 := by rw [HW5.out]; exact below_alloc w3 _
            have HP5 := Lib.hid (show SpBlk W5 w3.heap.size (.int .i64 (f : Int)) (.int .i64 (t : Int)) (.slice none 0 0) (.int .i64 (n' : Int)) (.int .i64 (m' : Int)) (.slice none 0 0) by rw [HW5.out]; exact heap_alloc_new w3 _)
            have B5 := Lib.hid (b3.next b5)
            have HZ := Lib.hid (show w1.heap.size ≤ wr.heap.size ∧ wr.heap.size ≤ w3.heap.size ∧ w3.heap.size < W5.heap.size from ⟨HBW.out.size, b3.size, HP5.out.lt⟩)
            clear b3 b5
            go_wp2_with fail
            rw [← HW5.out]
            refine (l5Take_any A1 n1 c1 L' ⟨#[60, 32]⟩ _ (HST1.out.below (HBW.out.next B5.out)) rfl (by omega) HLS1.out).mono ?_
            rintro e w6 ⟨v6, k, O, rfl, o6, hk, hO, htk, b6⟩
            obtain ⟨q6, Hq6⟩ : ∃ q, Hid ((O.map bs).length = q) := ⟨_, rfl⟩
            obtain ⟨v6a, v6c, rfl, hv61, hv62⟩ := o6.form Hq6.out
            have Hq63 : q6 ≤ 3000 := by have := Hq6.out; rw [List.length_map] at this; omega
            have HTk := Lib.hid htk
            clear htk
            have HP6 := Lib.hid (HP5.out.keep b6)
            have p2' := HP6.out.c2
            have pz' := HP6.out.free
            obtain ⟨V6, HV6⟩ : ∃ V6, Hid (V6 = w6.setCell ⟨w3.heap.size, 2, none⟩ (.slice v6a q6 v6c)) := ⟨_, rfl⟩
            have hs6 : Wrote (fun i => i = w3.heap.size) w6 V6 := by rw [HV6.out]; exact wset _ _ _ _
            have HPV := Lib.hid (show SpBlk V6 w3.heap.size (.int .i64 (f : Int)) (.int .i64 (t : Int)) (.slice v6a q6 v6c) (.int .i64 (n' : Int)) (.int .i64 (m' : Int)) (.slice none 0 0) by rw [HV6.out]; exact heap_set_same HP6.out)
            have HOV := Lib.hid (((HO.out.below B5.out).below b6).wrote hs6 (fun g e e2 => by have h5 := (HO.out.lt e).2; have h6 := HZ.out; omega))
            have OV6 := Lib.hid (o6.wrote hs6 (fun g e e2 => by have h5 := (o6.lt e).1; have h6 := HZ.out; omega))
            have HBV := Lib.hid (show Below w1.heap.size w1 V6 from Wrote.below' ((HBW.out.next B5.out).next b6) hs6 (fun g e => by have h6 := HZ.out; omega))
            have HZV := Lib.hid (show W5.heap.size ≤ V6.heap.size from Nat.le_trans b6.size hs6.size)
            obtain ⟨n2, Hn2⟩ : ∃ n2, Hid (n1 - k = n2) := ⟨_, rfl⟩
            obtain ⟨c2, Hc2⟩ : ∃ c2, Hid (c1 - k = c2) := ⟨_, rfl⟩
            obtain ⟨A2, HA2⟩ : ∃ A2, Hid (cutA A1 c1 k = A2) := ⟨_, rfl⟩
            have hcut2 : ∀ w, (Instr.slice 33 (.slice A1 n1 c1) (some (.int .i64 (k : Int))) none none).run Tryz.prog w = .ok (.slice A2 n2 c2) w := fun w => by
              have := cut_lo_strs A1 n1 c1 k hk hn1c w
              rw [HA2.out, Hn2.out, Hc2.out] at this
              exact this
            have HST2 := Lib.hid (show Strs w1 A2 n2 (L'.drop k) by
              have := HST1.out.drop_ hk hn1c
              rw [HA2.out, Hn2.out] at this
              exact this)
            have hn2c : n2 ≤ c2 := by have := Hn2.out; have := Hc2.out; omega
            have hn2 : n2 + k = n1 := by have := Hn2.out; omega
            clear o6 b6 hs6
            by_cases h0 : n2 = 0
            · have hq0 : decide (0 < n2) = false := by simp; omega
              have hq0' : ((n2 : Int) > 0) = False := by simp; omega
              have HD := Lib.hid (show ((L'.map (·.data.toList)).drop k).drop 1 = ((L'.map (·.data.toList)).drop k).drop 0 by
                have h5 : ((L'.map (·.data.toList)).drop k).length = 0 := by have := HST2.out.len; simp at this ⊢; omega
                rw [List.eq_nil_of_length_eq_zero h5]; rfl)
              have H0 := Lib.hid h0
              clear h0
              go_wp2_with fail
              rw [← HV6.out]
              refine (l5Take_any A2 n2 c2 (L'.drop k) ⟨#[62, 32]⟩ _ (HST2.out.below HBV.out) rfl (by omega) (fun y hy => HLS1.out y (List.mem_of_mem_drop hy))).mono ?_
              rintro e w8 ⟨v8, k2, O2, rfl, o8, hk2, hO2, htk2, b8⟩
              obtain ⟨q8, Hq8⟩ : ∃ q, Hid ((O2.map bs).length = q) := ⟨_, rfl⟩
              obtain ⟨v8a, v8c, rfl, hv81, hv82⟩ := o8.form Hq8.out
              have Hq83 : q8 ≤ 3000 := by have := Hq8.out; rw [List.length_map] at this; omega
              have HTk2 := Lib.hid htk2
              clear htk2
              have HPL := Lib.hid (HPV.out.keep b8)
              have HOL6 := Lib.hid (HOV.out.below b8)
              have O6 := Lib.hid (OV6.out.below b8)
              have O8 := Lib.hid o8
              have B8 := Lib.hid b8
              have HAP := Lib.hid (show ∀ g, (Value.slice v6a q6 v6c).ownBlock = some g → g < V6.heap.size from fun g e => (OV6.out.lt e).2)
              clear o8 b8
              have HOKX := Lib.hid (show SpOk (⟨(f : Int), (t : Int), O.map bs, (n' : Int), (m' : Int), O2.map bs⟩ : Sp) from ⟨⟨by dsimp only; omega, by dsimp only; omega⟩, ⟨by dsimp only; omega, by dsimp only; omega⟩, ⟨by dsimp only; omega, by dsimp only; omega⟩, ⟨by dsimp only; omega, by dsimp only; omega⟩, (O6.out).small, (O8.out).small⟩)
              have hcutL := cut_lo_strs A2 n2 c2 k2 hk2 hn2c
              have p0 := HPL.out.c0; have p1 := HPL.out.c1; have p2 := HPL.out.c2; have p3 := HPL.out.c3; have p4 := HPL.out.c4; have p5 := HPL.out.c5
              have pz := HPL.out.free
              obtain ⟨wL, HWL⟩ : ∃ wL, Hid (wL = w8.setCell ⟨w3.heap.size, 5, none⟩ (.slice v8a q8 v8c)) := ⟨_, rfl⟩
              have hsL : Wrote (fun i => i = w3.heap.size) w8 wL := by rw [HWL.out]; exact wset _ _ _ _
              have HSL := Lib.hid hsL
              have HSZL := Lib.hid (show w8.heap.size = wL.heap.size by rw [HWL.out]; simp [World.setCell])
              have OUT := Lib.hid (HOL6.out.wrote hsL (fun g e e2 => by have h5 := (HO.out.lt e).2; have h6 := HZ.out; omega))
              have OX5 := Lib.hid (show OwnV wL w1.heap.size (.slice v6a q6 v6c) (⟨(f : Int), (t : Int), O.map bs, (n' : Int), (m' : Int), O2.map bs⟩ : Sp).old from ((O6.out.wrote HSL.out (fun g e e2 => by have h5 := (O6.out.lt e).1; have h6 := HZ.out; omega)).more (by have h6 := HZ.out; omega)))
              have OX6 := Lib.hid (show OwnV wL w1.heap.size (.slice v8a q8 v8c) (⟨(f : Int), (t : Int), O.map bs, (n' : Int), (m' : Int), O2.map bs⟩ : Sp).new from ((O8.out.wrote HSL.out (fun g e e2 => by have h5 := (O8.out.lt e).1; have h6 := HZ.out; have h7 := HZV.out; omega)).more (by have h6 := HZ.out; have h7 := HZV.out; omega)))
              have HF5 := Lib.hid (show ∀ g, (.slice v6a q6 v6c : Value).ownBlock = some g → ¬ BlkR u rows g from (fun g e e2 => by have h5 := (O6.out.lt e).1; have h6 := (HO.out.lt e2).2; have h7 := HZ.out; omega))
              have HF6 := Lib.hid (show ∀ g, (.slice v8a q8 v8c : Value).ownBlock = some g → ¬ BlkR u rows g from (fun g e e2 => by have h5 := (O8.out.lt e).1; have h6 := (HO.out.lt e2).2; have h7 := HZ.out; have h8 := HZV.out; omega))
              have HNE := Lib.hid (show ∀ g, (.slice v6a q6 v6c : Value).ownBlock = some g → (.slice v8a q8 v8c : Value).ownBlock ≠ some g from (fun g e e2 => by have h5 := HAP.out g e; have h6 := (O8.out.lt e2).1; omega))
              have HBL := Lib.hid (show Below w1.heap.size w1 wL from Wrote.below' (HBV.out.next B8.out) hsL (fun g e => by have h6 := HZ.out; omega))
              have HLZ := Lib.hid HBL.out.size
              clear hsL
              go_wp2_with (first
                | (at_builtin; rw [← HWL.out]; refine wpList_sp (.tmp 72) (.tmp 74) w1.heap.size u out rows (OUT.out.below (below_alloc _ _)) (⟨(f : Int), (t : Int), O.map bs, (n' : Int), (m' : Int), O2.map bs⟩ : Sp) HOKX.out (.slice v6a q6 v6c) (.slice v8a q8 v8c) (OX5.out.below (below_alloc _ _)) (OX6.out.below (below_alloc _ _)) HF5.out HF6.out HNE.out w8.heap.size (by rw [HSZL.out]; simp) (by rw [HSZL.out]; simp) (by rw [HSZL.out]; simp) (by rw [HSZL.out]; simp) (by rw [HSZL.out]; simp) (by rw [HSZL.out]; simp) HOUL.out (Nat.le_trans HLZ.out (below_alloc _ _).size) rfl rfl rfl rfl ?_
                   intro v9 w9 o9 g9 p9)
                | fail)
              go_roundw
              case rel =>
                refine ⟨_, n2 - k2, c2 - k2, (L'.drop k).drop k2, v9, out ++ [(⟨(f : Int), (t : Int), O.map bs, (n' : Int), (m' : Int), O2.map bs⟩ : Sp)], _, rfl, rfl, by omega, HST2.out.drop_ hk2 hn2c, o9, Lib.hid ?_, Lib.hid (fun y hy => HLS2.out y (by first | exact hy | exact List.mem_of_mem_drop hy | exact List.mem_of_mem_drop (List.mem_of_mem_drop hy) | exact List.mem_of_mem_drop (List.mem_of_mem_drop (List.mem_of_mem_drop hy)))), Lib.hid (by have := HOL.out; rw [List.length_append, List.length_singleton]; omega), Lib.hid (fun y hy => ?_), (HBL.out.next (below_alloc _ _)).grown g9 (Nat.le_trans HLZ.out (below_alloc _ _).size) (fun g e => (HO.out.lt (show BlkR u rows g from List.mem_append.2 (.inl (by simp [e])))).1)⟩
                · have h5 := HMORE.out
                  obtain ⟨e1, e2⟩ := sNew_c HTk.out HD.out (show takeS [62, 32] (((L'.map (·.data.toList)).drop k).drop 0) = (O2, (((L'.map (·.data.toList)).drop k).drop 0).drop k2) by have := HTk2.out; simpa [List.map_drop] using this) f t n' m'
                  rw [e1, e2] at h5
                  simpa [List.map_drop] using h5
                · rcases List.mem_append.1 hy with h5 | h5
                  · exact HOB.out y h5
                  · rw [List.mem_singleton.1 h5]; exact ⟨by have := Hq6.out; dsimp only; omega, by have := Hq8.out; dsimp only; omega⟩
              case measure => simp [slen]; omega
            · have hq0 : decide (0 < n2) = true := by simp; omega
              obtain ⟨n3, Hn3⟩ : ∃ n3, Hid (n2 - 1 = n3) := ⟨_, rfl⟩
              obtain ⟨c3, Hc3⟩ : ∃ c3, Hid (c2 - 1 = c3) := ⟨_, rfl⟩
              obtain ⟨A3, HA3⟩ : ∃ A3, Hid (cutA A2 c2 1 = A3) := ⟨_, rfl⟩
              have hcut3 : ∀ w, (Instr.slice 33 (.slice A2 n2 c2) (some (.int .i64 1)) none none).run Tryz.prog w = .ok (.slice A3 n3 c3) w := fun w => by
                have := cut_one A2 n2 c2 (by omega) hn2c w
                rw [HA3.out, Hn3.out, Hc3.out] at this
                exact this
              have HST3 := Lib.hid (show Strs w1 A3 n3 ((L'.drop k).drop 1) by
                have := HST2.out.drop_ (lo := 1) (by omega) hn2c
                rw [HA3.out, Hn3.out] at this
                exact this)
              have hn3c : n3 ≤ c3 := by have := Hn3.out; have := Hc3.out; omega
              have hn23 : n3 + 1 = n2 := by have := Hn3.out; omega
              go_wp2_with fail
              rw [← HV6.out]
              refine (l5Take_any A3 n3 c3 ((L'.drop k).drop 1) ⟨#[62, 32]⟩ _ (HST3.out.below HBV.out) rfl (by omega) (fun y hy => HLS1.out y (List.mem_of_mem_drop (List.mem_of_mem_drop hy)))).mono ?_
              rintro e w8 ⟨v8, k2, O2, rfl, o8, hk2, hO2, htk2, b8⟩
              obtain ⟨q8, Hq8⟩ : ∃ q, Hid ((O2.map bs).length = q) := ⟨_, rfl⟩
              obtain ⟨v8a, v8c, rfl, hv81, hv82⟩ := o8.form Hq8.out
              have Hq83 : q8 ≤ 3000 := by have := Hq8.out; rw [List.length_map] at this; omega
              have HTk2 := Lib.hid htk2
              clear htk2
              have HPL := Lib.hid (HPV.out.keep b8)
              have HOL6 := Lib.hid (HOV.out.below b8)
              have O6 := Lib.hid (OV6.out.below b8)
              have O8 := Lib.hid o8
              have B8 := Lib.hid b8
              have HAP := Lib.hid (show ∀ g, (Value.slice v6a q6 v6c).ownBlock = some g → g < V6.heap.size from fun g e => (OV6.out.lt e).2)
              clear o8 b8
              have HOKX := Lib.hid (show SpOk (⟨(f : Int), (t : Int), O.map bs, (n' : Int), (m' : Int), O2.map bs⟩ : Sp) from ⟨⟨by dsimp only; omega, by dsimp only; omega⟩, ⟨by dsimp only; omega, by dsimp only; omega⟩, ⟨by dsimp only; omega, by dsimp only; omega⟩, ⟨by dsimp only; omega, by dsimp only; omega⟩, (O6.out).small, (O8.out).small⟩)
              have hcutL := cut_lo_strs A3 n3 c3 k2 hk2 hn3c
              have p0 := HPL.out.c0; have p1 := HPL.out.c1; have p2 := HPL.out.c2; have p3 := HPL.out.c3; have p4 := HPL.out.c4; have p5 := HPL.out.c5
              have pz := HPL.out.free
              obtain ⟨wL, HWL⟩ : ∃ wL, Hid (wL = w8.setCell ⟨w3.heap.size, 5, none⟩ (.slice v8a q8 v8c)) := ⟨_, rfl⟩
              have hsL : Wrote (fun i => i = w3.heap.size) w8 wL := by rw [HWL.out]; exact wset _ _ _ _
              have HSL := Lib.hid hsL
              have HSZL := Lib.hid (show w8.heap.size = wL.heap.size by rw [HWL.out]; simp [World.setCell])
              have OUT := Lib.hid (HOL6.out.wrote hsL (fun g e e2 => by have h5 := (HO.out.lt e).2; have h6 := HZ.out; omega))
              have OX5 := Lib.hid (show OwnV wL w1.heap.size (.slice v6a q6 v6c) (⟨(f : Int), (t : Int), O.map bs, (n' : Int), (m' : Int), O2.map bs⟩ : Sp).old from ((O6.out.wrote HSL.out (fun g e e2 => by have h5 := (O6.out.lt e).1; have h6 := HZ.out; omega)).more (by have h6 := HZ.out; omega)))
              have OX6 := Lib.hid (show OwnV wL w1.heap.size (.slice v8a q8 v8c) (⟨(f : Int), (t : Int), O.map bs, (n' : Int), (m' : Int), O2.map bs⟩ : Sp).new from ((O8.out.wrote HSL.out (fun g e e2 => by have h5 := (O8.out.lt e).1; have h6 := HZ.out; have h7 := HZV.out; omega)).more (by have h6 := HZ.out; have h7 := HZV.out; omega)))
              have HF5 := Lib.hid (show ∀ g, (.slice v6a q6 v6c : Value).ownBlock = some g → ¬ BlkR u rows g from (fun g e e2 => by have h5 := (O6.out.lt e).1; have h6 := (HO.out.lt e2).2; have h7 := HZ.out; omega))
              have HF6 := Lib.hid (show ∀ g, (.slice v8a q8 v8c : Value).ownBlock = some g → ¬ BlkR u rows g from (fun g e e2 => by have h5 := (O8.out.lt e).1; have h6 := (HO.out.lt e2).2; have h7 := HZ.out; have h8 := HZV.out; omega))
              have HNE := Lib.hid (show ∀ g, (.slice v6a q6 v6c : Value).ownBlock = some g → (.slice v8a q8 v8c : Value).ownBlock ≠ some g from (fun g e e2 => by have h5 := HAP.out g e; have h6 := (O8.out.lt e2).1; omega))
              have HBL := Lib.hid (show Below w1.heap.size w1 wL from Wrote.below' (HBV.out.next B8.out) hsL (fun g e => by have h6 := HZ.out; omega))
              have HLZ := Lib.hid HBL.out.size
              clear hsL
              go_wp2_with (first
                | (at_builtin; rw [← HWL.out]; refine wpList_sp (.tmp 72) (.tmp 74) w1.heap.size u out rows (OUT.out.below (below_alloc _ _)) (⟨(f : Int), (t : Int), O.map bs, (n' : Int), (m' : Int), O2.map bs⟩ : Sp) HOKX.out (.slice v6a q6 v6c) (.slice v8a q8 v8c) (OX5.out.below (below_alloc _ _)) (OX6.out.below (below_alloc _ _)) HF5.out HF6.out HNE.out w8.heap.size (by rw [HSZL.out]; simp) (by rw [HSZL.out]; simp) (by rw [HSZL.out]; simp) (by rw [HSZL.out]; simp) (by rw [HSZL.out]; simp) (by rw [HSZL.out]; simp) HOUL.out (Nat.le_trans HLZ.out (below_alloc _ _).size) rfl rfl rfl rfl ?_
                   intro v9 w9 o9 g9 p9)
                | fail)
              go_roundw
              case rel =>
                refine ⟨_, n3 - k2, c3 - k2, ((L'.drop k).drop 1).drop k2, v9, out ++ [(⟨(f : Int), (t : Int), O.map bs, (n' : Int), (m' : Int), O2.map bs⟩ : Sp)], _, rfl, rfl, by omega, HST3.out.drop_ hk2 hn3c, o9, Lib.hid ?_, Lib.hid (fun y hy => HLS2.out y (by first | exact hy | exact List.mem_of_mem_drop hy | exact List.mem_of_mem_drop (List.mem_of_mem_drop hy) | exact List.mem_of_mem_drop (List.mem_of_mem_drop (List.mem_of_mem_drop hy)))), Lib.hid (by have := HOL.out; rw [List.length_append, List.length_singleton]; omega), Lib.hid (fun y hy => ?_), (HBL.out.next (below_alloc _ _)).grown g9 (Nat.le_trans HLZ.out (below_alloc _ _).size) (fun g e => (HO.out.lt (show BlkR u rows g from List.mem_append.2 (.inl (by simp [e])))).1)⟩
                · have h5 := HMORE.out
                  obtain ⟨e1, e2⟩ := sNew_c HTk.out rfl (show takeS [62, 32] (((L'.map (·.data.toList)).drop k).drop 1) = (O2, (((L'.map (·.data.toList)).drop k).drop 1).drop k2) by have := HTk2.out; simpa [List.map_drop] using this) f t n' m'
                  rw [e1, e2] at h5
                  simpa [List.map_drop] using h5
                · rcases List.mem_append.1 hy with h5 | h5
                  · exact HOB.out y h5
                  · rw [List.mem_singleton.1 h5]; exact ⟨by have := Hq6.out; dsimp only; omega, by have := Hq8.out; dsimp only; omega⟩
              case measure => simp [slen]; omega
          · -- d: what goes alone
            subst hcc
            have HH := Lib.hid (HHD.out.trans (headO_some f t 100 n' m' 100 rfl))
            go_wp2_with fail
            refine (l1Plain_any x' _ (by unfold maxLen; omega) (by omega)).mono ?_
            rintro e w2 ⟨rfl, rfl⟩
            go_wp2_with fail
            refine (l5Head_any (plain x') hpl _).mono ?_
            rintro e w3 ⟨rfl, b3⟩
            rw [HH.out]
            obtain ⟨W5, HW5⟩ : ∃ W5, Hid (W5 = w3.alloc (.cells #[.int .i64 (f : Int), .int .i64 (t : Int), .slice none 0 0, .int .i64 (n' : Int), .int .i64 (m' : Int), .slice none 0 0] 69)) := ⟨_, rfl⟩
            have b5 : Below w3.heap.size w3 W5 := by rw [HW5.out]; exact below_alloc w3 _
            have HP5 := Lib.hid (show SpBlk W5 w3.heap.size (.int .i64 (f : Int)) (.int .i64 (t : Int)) (.slice none 0 0) (.int .i64 (n' : Int)) (.int .i64 (m' : Int)) (.slice none 0 0) by rw [HW5.out]; exact heap_alloc_new w3 _)
            have B5 := Lib.hid (b3.next b5)
            have HZ := Lib.hid (show w1.heap.size ≤ wr.heap.size ∧ wr.heap.size ≤ w3.heap.size ∧ w3.heap.size < W5.heap.size from ⟨HBW.out.size, b3.size, HP5.out.lt⟩)
            clear b3 b5
            go_wp2_with fail
            rw [← HW5.out]
            refine (l5Take_any A1 n1 c1 L' ⟨#[60, 32]⟩ _ (HST1.out.below (HBW.out.next B5.out)) rfl (by omega) HLS1.out).mono ?_
            rintro e w6 ⟨v6, k, O, rfl, o6, hk, hO, htk, b6⟩
            obtain ⟨q6, Hq6⟩ : ∃ q, Hid ((O.map bs).length = q) := ⟨_, rfl⟩
            obtain ⟨v6a, v6c, rfl, hv61, hv62⟩ := o6.form Hq6.out
            have Hq63 : q6 ≤ 3000 := by have := Hq6.out; rw [List.length_map] at this; omega
            have HTk := Lib.hid htk
            clear htk
            have HPL := Lib.hid (HP5.out.keep b6)
            have HOL6 := Lib.hid ((HO.out.below B5.out).below b6)
            have O6 := Lib.hid o6
            have B6 := Lib.hid b6
            clear o6 b6
            have HOKX := Lib.hid (show SpOk (⟨(f : Int), (t : Int), O.map bs, (n' : Int), (m' : Int), []⟩ : Sp) from ⟨⟨by dsimp only; omega, by dsimp only; omega⟩, ⟨by dsimp only; omega, by dsimp only; omega⟩, ⟨by dsimp only; omega, by dsimp only; omega⟩, ⟨by dsimp only; omega, by dsimp only; omega⟩, (O6.out).small, ((OwnV.nil_ : OwnV w6 0 (.slice none 0 0) [])).small⟩)
            have hcutL := cut_lo_strs A1 n1 c1 k hk hn1c
            have p0 := HPL.out.c0; have p1 := HPL.out.c1; have p2 := HPL.out.c2; have p3 := HPL.out.c3; have p4 := HPL.out.c4; have p5 := HPL.out.c5
            have pz := HPL.out.free
            obtain ⟨wL, HWL⟩ : ∃ wL, Hid (wL = w6.setCell ⟨w3.heap.size, 2, none⟩ (.slice v6a q6 v6c)) := ⟨_, rfl⟩
            have hsL : Wrote (fun i => i = w3.heap.size) w6 wL := by rw [HWL.out]; exact wset _ _ _ _
            have HSL := Lib.hid hsL
            have HSZL := Lib.hid (show w6.heap.size = wL.heap.size by rw [HWL.out]; simp [World.setCell])
            have OUT := Lib.hid (HOL6.out.wrote hsL (fun g e e2 => by have h5 := (HO.out.lt e).2; have h6 := HZ.out; omega))
            have OX5 := Lib.hid (show OwnV wL w1.heap.size (.slice v6a q6 v6c) (⟨(f : Int), (t : Int), O.map bs, (n' : Int), (m' : Int), []⟩ : Sp).old from ((O6.out.wrote HSL.out (fun g e e2 => by have h5 := (O6.out.lt e).1; have h6 := HZ.out; omega)).more (by have h6 := HZ.out; omega)))
            have OX6 := Lib.hid (show OwnV wL w1.heap.size (.slice none 0 0) (⟨(f : Int), (t : Int), O.map bs, (n' : Int), (m' : Int), []⟩ : Sp).new from OwnV.nil_)
            have HF5 := Lib.hid (show ∀ g, (.slice v6a q6 v6c : Value).ownBlock = some g → ¬ BlkR u rows g from (fun g e e2 => by have h5 := (O6.out.lt e).1; have h6 := (HO.out.lt e2).2; have h7 := HZ.out; omega))
            have HF6 := Lib.hid (show ∀ g, (.slice none 0 0 : Value).ownBlock = some g → ¬ BlkR u rows g from (fun g e => by cases e))
            have HNE := Lib.hid (show ∀ g, (.slice v6a q6 v6c : Value).ownBlock = some g → (.slice none 0 0 : Value).ownBlock ≠ some g from (fun g e e2 => by cases e2))
            have HBL := Lib.hid (show Below w1.heap.size w1 wL from Wrote.below' ((HBW.out.next B5.out).next B6.out) hsL (fun g e => by have h6 := HZ.out; omega))
            have HLZ := Lib.hid HBL.out.size
            clear hsL
            go_wp2_with (first
              | (at_builtin; rw [← HWL.out]; refine wpList_sp (.tmp 72) (.tmp 74) w1.heap.size u out rows (OUT.out.below (below_alloc _ _)) (⟨(f : Int), (t : Int), O.map bs, (n' : Int), (m' : Int), []⟩ : Sp) HOKX.out (.slice v6a q6 v6c) (.slice none 0 0) (OX5.out.below (below_alloc _ _)) (OX6.out.below (below_alloc _ _)) HF5.out HF6.out HNE.out w6.heap.size (by rw [HSZL.out]; simp) (by rw [HSZL.out]; simp) (by rw [HSZL.out]; simp) (by rw [HSZL.out]; simp) (by rw [HSZL.out]; simp) (by rw [HSZL.out]; simp) HOUL.out (Nat.le_trans HLZ.out (below_alloc _ _).size) rfl rfl rfl rfl ?_
                 intro v9 w9 o9 g9 p9)
              | fail)
            go_roundw
            case rel =>
              refine ⟨_, n1 - k, c1 - k, L'.drop k, v9, out ++ [(⟨(f : Int), (t : Int), O.map bs, (n' : Int), (m' : Int), []⟩ : Sp)], _, rfl, rfl, by omega, HST1.out.drop_ hk hn1c, o9, Lib.hid ?_, Lib.hid (fun y hy => HLS2.out y (by first | exact hy | exact List.mem_of_mem_drop hy | exact List.mem_of_mem_drop (List.mem_of_mem_drop hy) | exact List.mem_of_mem_drop (List.mem_of_mem_drop (List.mem_of_mem_drop hy)))), Lib.hid (by have := HOL.out; rw [List.length_append, List.length_singleton]; omega), Lib.hid (fun y hy => ?_), (HBL.out.next (below_alloc _ _)).grown g9 (Nat.le_trans HLZ.out (below_alloc _ _).size) (fun g e => (HO.out.lt (show BlkR u rows g from List.mem_append.2 (.inl (by simp [e])))).1)⟩
              · have h5 := HMORE.out
                obtain ⟨e1, e2⟩ := sNew_d HTk.out f t n' m'
                rw [e1, e2] at h5
                simpa [List.map_drop] using h5
              · rcases List.mem_append.1 hy with h5 | h5
                · exact HOB.out y h5
                · rw [List.mem_singleton.1 h5]; exact ⟨by have := Hq6.out; dsimp only; omega, by simp⟩
            case measure => simp [slen]; omega

end Go.Proofs.YtnimaadjmejmpaaGreatDoor
