/-
  The hunks of groups, groups done to lines and turned round: mathematics.
-/
import Derived.Test.YtkamenidgkjodaaGreatDoorQbGMem
import Derived.Test.YtkamenidgkjodaaGreatDoorQbGSpans
import Derived.Test.YtkamenidgkjodaaGreatDoorQbHBases
set_option linter.unusedSimpArgs false
set_option linter.unusedVariables false
namespace Go.Proofs.YtkamenidgkjodaaGreatDoor.M
open Go

def openH (a : Int) (cur : Option Hk) : Hk := cur.getD ⟨a, 0, []⟩
def runsF (a : Int) (cur : Option Hk) : List Rw → List Hk
  | [] => cur.toList
  | x :: l => if x.kind = 1 then cur.toList ++ runsF (a + 1) none l
    else if x.kind = 2 then runsF (a + 1) (some ⟨(openH a cur).at_, (openH a cur).gone + 1, (openH a cur).new⟩) l
    else runsF a (some ⟨(openH a cur).at_, (openH a cur).gone, (openH a cur).new ++ [x.line]⟩) l
def gpHunks (x : Gp) : List Hk := runsF x.at_ none x.rows
def hunksF (g : List Gp) : List Hk := g.flatMap gpHunks
theorem hunksF_snoc (g : List Gp) (x : Gp) : hunksF (g ++ [x]) = hunksF g ++ gpHunks x := by simp [hunksF]
theorem hunksF_cons (g : List Gp) (x : Gp) : hunksF (x :: g) = gpHunks x ++ hunksF g := by simp [hunksF]
def kindOk3 (q : List Rw) : Prop := ∀ y ∈ q, 1 ≤ y.kind ∧ y.kind ≤ 3
theorem kindOk3.tail {x : Rw} {l : List Rw} (h : kindOk3 (x :: l)) : kindOk3 l := fun y hy => h y (by simp [hy])
theorem group_kinds {x : Gp} (h : groupB x = true) : kindOk3 x.rows := by
  unfold groupB rowsB at h
  simp only [Bool.and_eq_true] at h
  exact kindsB_mem h.1.1.2

def keptF (a t : Nat) : List Rw → List (Nat × Nat)
  | [] => []
  | x :: l => if x.kind = 1 then (a, t) :: keptF (a + 1) (t + 1) l else if x.kind = 2 then keptF (a + 1) t l else if x.kind = 3 then keptF a (t + 1) l else keptF a t l
theorem seg_succ {l : List ByteArray} {p q : Nat} {s : ByteArray} (hp : p ≤ q) (h : l[q]? = some s) : seg l p (q + 1) = seg l p q ++ [s] := by
  unfold seg
  have hq := (List.getElem?_eq_some_iff.1 h).1
  rw [take_at h, List.drop_append_of_le_length (by simp; omega)]
theorem drop_cons_at {l : List ByteArray} {t : Nat} {s : ByteArray} {r : List ByteArray} (h : l.drop t = s :: r) : l[t]? = some s ∧ l.drop (t + 1) = r := by
  have h1 : (l.drop t)[0]? = some s := by rw [h]; rfl
  rw [List.getElem?_drop] at h1
  refine ⟨by simpa using h1, ?_⟩
  have : l.drop (t + 1) = (l.drop t).drop 1 := by rw [List.drop_drop]
  rw [this, h]; rfl
theorem join_runs {last : List ByteArray} : ∀ (rows : List Rw) (p q a t : Nat), kindOk3 rows → p ≤ a → q ≤ t → last.drop t = lw 2 rows →
    joinFrom last p q (keptF a t rows ++ [(a + (lw 3 rows).length, t + (lw 2 rows).length)]) = runsF a (if p < a ∨ q < t then some ⟨p, (a : Int) - p, seg last q t⟩ else none) rows
  | [], p, q, a, t, _, hp, hq, _ => by
    simp only [keptF, lw, List.nil_append, List.length_nil, Nat.add_zero, joinFrom, runsF]
    split
    · rfl
    · rfl
  | x :: l, p, q, a, t, hk, hp, hq, hl => by
    obtain ⟨k1, k3⟩ := hk x (by simp)
    by_cases e1 : x.kind = 1
    · have c3 : lw 3 (x :: l) = x.line :: lw 3 l := by simp [lw, e1]
      have c2 : lw 2 (x :: l) = x.line :: lw 2 l := by simp [lw, e1]
      rw [c2] at hl
      have ih := join_runs l (a + 1) (t + 1) (a + 1) (t + 1) hk.tail (Nat.le_refl _) (Nat.le_refl _) (drop_cons_at hl).2
      rw [if_neg (by omega)] at ih
      rw [c3, c2, keptF, if_pos e1, runsF, if_pos e1, List.cons_append, joinFrom]
      rw [List.length_cons, List.length_cons, show a + ((lw 3 l).length + 1) = a + 1 + (lw 3 l).length by omega, show t + ((lw 2 l).length + 1) = t + 1 + (lw 2 l).length by omega]
      dsimp only
      rw [ih]
      split
      · rfl
      · rfl
    · by_cases e2 : x.kind = 2
      · have c3 : lw 3 (x :: l) = x.line :: lw 3 l := by simp [lw, e2]
        have c2 : lw 2 (x :: l) = lw 2 l := by simp [lw, e2]
        rw [c2] at hl
        have ih := join_runs l p q (a + 1) t hk.tail (by omega) hq hl
        rw [if_pos (by omega)] at ih
        rw [c3, c2, keptF, if_neg e1, if_pos e2, runsF, if_neg e1, if_pos e2]
        rw [List.length_cons, show a + ((lw 3 l).length + 1) = a + 1 + (lw 3 l).length by omega, ih]
        congr 2
        split
        · unfold openH; exact Hk.ext_ rfl (by dsimp only [Option.getD]; omega) rfl
        · obtain rfl : p = a := by omega
          obtain rfl : q = t := by omega
          unfold openH; exact Hk.ext_ rfl (by dsimp only [Option.getD]; omega) (seg_self _ _)
      · have c3 : lw 3 (x :: l) = lw 3 l := by
          have e3 : x.kind = 3 := by omega
          simp [lw, e3]
        have c2 : lw 2 (x :: l) = x.line :: lw 2 l := by simp [lw, e2]
        rw [c2] at hl
        have hd := drop_cons_at hl
        have ih := join_runs l p q a (t + 1) hk.tail hp (by omega) hd.2
        rw [if_pos (by omega)] at ih
        rw [c3, c2, keptF, if_neg e1, if_neg e2, if_pos (by omega), runsF, if_neg e1, if_neg e2]
        rw [List.length_cons, show t + ((lw 2 l).length + 1) = t + 1 + (lw 2 l).length by omega, ih, seg_succ hq hd.1]
        congr 2
        split
        · rfl
        · obtain rfl : p = a := by omega
          obtain rfl : q = t := by omega
          unfold openH; exact Hk.ext_ rfl (by dsimp only [Option.getD]; omega) (by rw [seg_self]; rfl)
theorem kept_le : ∀ (rows : List Rw) (a t : Nat), ∀ s ∈ keptF a t rows, s.1 < a + (lw 3 rows).length ∧ s.2 < t + (lw 2 rows).length ∧ a ≤ s.1 ∧ t ≤ s.2
  | [], a, t => fun s h => by simp [keptF] at h
  | x :: l, a, t => fun s h => by
    by_cases e1 : x.kind = 1
    · have c3 : (lw 3 (x :: l)).length = (lw 3 l).length + 1 := by simp [lw, e1]
      have c2 : (lw 2 (x :: l)).length = (lw 2 l).length + 1 := by simp [lw, e1]
      rw [keptF, if_pos e1] at h
      rcases List.mem_cons.1 h with rfl | h
      · dsimp only; omega
      · have := kept_le l (a + 1) (t + 1) s h; omega
    · by_cases e2 : x.kind = 2
      · have c3 : (lw 3 (x :: l)).length = (lw 3 l).length + 1 := by simp [lw, e2]
        have c2 : (lw 2 (x :: l)).length = (lw 2 l).length := by simp [lw, e2]
        rw [keptF, if_neg e1, if_pos e2] at h
        have := kept_le l (a + 1) t s h; omega
      · by_cases e3 : x.kind = 3
        · have c3 : (lw 3 (x :: l)).length = (lw 3 l).length := by simp [lw, e3]
          have c2 : (lw 2 (x :: l)).length = (lw 2 l).length + 1 := by simp [lw, e3]
          rw [keptF, if_neg e1, if_neg e2, if_pos e3] at h
          have := kept_le l a (t + 1) s h; omega
        · have c3 : (lw 3 (x :: l)).length = (lw 3 l).length + 1 := by simp [lw, e3]
          have c2 : (lw 2 (x :: l)).length = (lw 2 l).length + 1 := by simp [lw, e2]
          rw [keptF, if_neg e1, if_neg e2, if_neg e3] at h
          have := kept_le l a t s h; omega
theorem kept_len : ∀ (rows : List Rw) (a t : Nat), (keptF a t rows).length ≤ (lw 3 rows).length
  | [], a, t => by simp [keptF]
  | x :: l, a, t => by
    by_cases e1 : x.kind = 1
    · have c3 : (lw 3 (x :: l)).length = (lw 3 l).length + 1 := by simp [lw, e1]
      rw [keptF, if_pos e1]
      have := kept_len l (a + 1) (t + 1); simp; omega
    · by_cases e2 : x.kind = 2
      · have c3 : (lw 3 (x :: l)).length = (lw 3 l).length + 1 := by simp [lw, e2]
        rw [keptF, if_neg e1, if_pos e2]
        have := kept_len l (a + 1) t; omega
      · by_cases e3 : x.kind = 3
        · have c3 : (lw 3 (x :: l)).length = (lw 3 l).length := by simp [lw, e3]
          rw [keptF, if_neg e1, if_neg e2, if_pos e3]
          have := kept_len l a (t + 1); omega
        · have c3 : (lw 3 (x :: l)).length = (lw 3 l).length + 1 := by simp [lw, e3]
          rw [keptF, if_neg e1, if_neg e2, if_neg e3]
          have := kept_len l a t; omega
theorem rises_mono {i j i' j' : Nat} (h1 : i' ≤ i) (h2 : j' ≤ j) : ∀ {L : List (Nat × Nat)}, rises i j L → rises i' j' L
  | [], _ => trivial
  | s :: L, h => ⟨by have := h.1; omega, by have := h.2.1; omega, h.2.2⟩
theorem kept_rise : ∀ (rows : List Rw) (a t : Nat), rises a t (keptF a t rows ++ [(a + (lw 3 rows).length, t + (lw 2 rows).length)])
  | [], a, t => by simp [keptF, rises, lw]
  | x :: l, a, t => by
    by_cases e1 : x.kind = 1
    · have c3 : (lw 3 (x :: l)).length = (lw 3 l).length + 1 := by simp [lw, e1]
      have c2 : (lw 2 (x :: l)).length = (lw 2 l).length + 1 := by simp [lw, e1]
      rw [keptF, if_pos e1, c3, c2]
      have := kept_rise l (a + 1) (t + 1)
      rw [show a + ((lw 3 l).length + 1) = a + 1 + (lw 3 l).length by omega, show t + ((lw 2 l).length + 1) = t + 1 + (lw 2 l).length by omega]
      exact ⟨Nat.le_refl _, Nat.le_refl _, this⟩
    · by_cases e2 : x.kind = 2
      · have c3 : (lw 3 (x :: l)).length = (lw 3 l).length + 1 := by simp [lw, e2]
        have c2 : (lw 2 (x :: l)).length = (lw 2 l).length := by simp [lw, e2]
        rw [keptF, if_neg e1, if_pos e2, c3, c2, show a + ((lw 3 l).length + 1) = a + 1 + (lw 3 l).length by omega]
        exact rises_mono (by omega) (Nat.le_refl _) (kept_rise l (a + 1) t)
      · by_cases e3 : x.kind = 3
        · have c3 : (lw 3 (x :: l)).length = (lw 3 l).length := by simp [lw, e3]
          have c2 : (lw 2 (x :: l)).length = (lw 2 l).length + 1 := by simp [lw, e3]
          rw [keptF, if_neg e1, if_neg e2, if_pos e3, c3, c2, show t + ((lw 2 l).length + 1) = t + 1 + (lw 2 l).length by omega]
          exact rises_mono (Nat.le_refl _) (by omega) (kept_rise l a (t + 1))
        · have c3 : (lw 3 (x :: l)).length = (lw 3 l).length + 1 := by simp [lw, e3]
          have c2 : (lw 2 (x :: l)).length = (lw 2 l).length + 1 := by simp [lw, e2]
          rw [keptF, if_neg e1, if_neg e2, if_neg e3, c3, c2]
          refine rises_snoc ?_ (fun s hs => ?_) (by omega) (by omega)
          · have h := kept_rise l a t
            have : ∀ {L : List (Nat × Nat)} {i j : Nat} {s : Nat × Nat}, rises i j (L ++ [s]) → rises i j L := by
              intro L
              induction L with
              | nil => intros; trivial
              | cons u L ih => intro i j s h; exact ⟨h.1, h.2.1, ih h.2.2⟩
            exact this h
          · have := kept_le l a t s hs; dsimp only; omega
def bareH (rows : List Rw) : List Hk := runsF 0 none rows
theorem bare_join {rows : List Rw} (hk : kindOk3 rows) : joinFrom (lw 2 rows) 0 0 (keptF 0 0 rows ++ [((lw 3 rows).length, (lw 2 rows).length)]) = bareH rows := by
  have := join_runs (last := lw 2 rows) rows 0 0 0 0 hk (Nat.le_refl _) (Nat.le_refl _) rfl
  rw [if_neg (by omega), Nat.zero_add, Nat.zero_add] at this
  exact this
def shiftH (d : Int) (x : Hk) : Hk := ⟨x.at_ + d, x.gone, x.new⟩
theorem runs_shift (d : Int) : ∀ (rows : List Rw) (a : Int) (cur : Option Hk), runsF (a + d) (cur.map (shiftH d)) rows = (runsF a cur rows).map (shiftH d)
  | [], a, cur => by cases cur <;> rfl
  | x :: l, a, cur => by
    have ho : openH (a + d) (cur.map (shiftH d)) = shiftH d (openH a cur) := by cases cur <;> rfl
    simp only [runsF]
    split
    · rw [List.map_append, show a + d + 1 = a + 1 + d by omega]
      have := runs_shift d l (a + 1) none
      rw [Option.map_none] at this
      rw [this]
      congr 1
      cases cur <;> rfl
    · split
      · rw [show a + d + 1 = a + 1 + d by omega, ← runs_shift d l (a + 1)]
        rw [ho]; rfl
      · rw [← runs_shift d l a]
        rw [ho]; rfl
theorem gpHunks_bare (x : Gp) : gpHunks x = (bareH x.rows).map (shiftH x.at_) := by
  have := runs_shift x.at_ x.rows 0 none
  rw [Option.map_none, Int.zero_add] at this
  exact this
theorem runs_rise {many : Int} : ∀ (rows : List Rw) (a e : Int) (cur : Option Hk), kindOk3 rows → 0 ≤ a → a + (lw 3 rows).length ≤ many →
    (match cur with | none => e < a ∧ linesB (lw 2 rows) = true | some h => e < h.at_ ∧ 0 ≤ h.at_ ∧ h.at_ + h.gone = a ∧ 0 ≤ h.gone ∧ (1 ≤ h.gone ∨ 1 ≤ h.new.length) ∧ linesB (h.new ++ lw 2 rows) = true) → riseB many e (runsF a cur rows) = true
  | [], a, e, none, _, _, _, _ => rfl
  | [], a, e, some h, _, ha, hm, hc => by
    obtain ⟨c1, c0, c2, c3, c4, c5⟩ := hc
    simp only [lw, List.append_nil, List.length_nil] at c5 hm
    simp only [runsF, Option.toList, riseB, Bool.and_eq_true, Bool.and_true, decide_eq_true_eq, hunkB, Bool.not_eq_true']
    refine ⟨⟨⟨⟨⟨by omega, by omega⟩, by omega⟩, ?_⟩, c5⟩, c1⟩
    simp only [nothing, Bool.and_eq_false_iff, decide_eq_false_iff_not]; omega
  | x :: l, a, e, cur, hk, ha, hm, hc => by
    obtain ⟨k1, k3⟩ := hk x (by simp)
    by_cases e1 : x.kind = 1
    · have c3 : (lw 3 (x :: l)).length = (lw 3 l).length + 1 := by simp [lw, e1]
      have c2 : lw 2 (x :: l) = x.line :: lw 2 l := by simp [lw, e1]
      rw [c3] at hm
      rw [runsF, if_pos e1]
      have hll : ∀ {p : List ByteArray}, linesB (p ++ lw 2 (x :: l)) = true → linesB (lw 2 l) = true := fun {p} h => by
        rw [c2] at h
        simp only [linesB, Bool.and_eq_true, decide_eq_true_eq, List.all_eq_true, List.length_append, List.length_cons] at h ⊢
        exact ⟨by omega, fun s hs => h.2 s (by simp [hs])⟩
      cases cur with
      | none =>
        exact runs_rise l (a + 1) e none hk.tail (by omega) (by omega) ⟨by have := hc.1; omega, hll (p := []) hc.2⟩
      | some h =>
        obtain ⟨d1, d0, d2, d3, d4, d5⟩ := hc
        have ih := runs_rise (many := many) l (a + 1) (h.at_ + h.gone) none hk.tail (by omega) (by omega) ⟨by omega, hll d5⟩
        simp only [Option.toList, List.singleton_append, riseB, Bool.and_eq_true, decide_eq_true_eq, hunkB, Bool.not_eq_true']
        refine ⟨⟨⟨⟨⟨⟨by omega, by omega⟩, by omega⟩, ?_⟩, ?_⟩, d1⟩, ih⟩
        · simp only [nothing, Bool.and_eq_false_iff, decide_eq_false_iff_not]; omega
        · simp only [linesB, Bool.and_eq_true, decide_eq_true_eq, List.all_eq_true, List.length_append] at d5 ⊢
          exact ⟨by omega, fun s hs => d5.2 s (by simp [hs])⟩
    · by_cases e2 : x.kind = 2
      · have c3 : (lw 3 (x :: l)).length = (lw 3 l).length + 1 := by simp [lw, e2]
        have c2 : lw 2 (x :: l) = lw 2 l := by simp [lw, e2]
        rw [c3] at hm
        rw [runsF, if_neg e1, if_pos e2]
        refine runs_rise l (a + 1) e _ hk.tail (by omega) (by omega) ?_
        cases cur with
        | none => exact ⟨hc.1, ha, by dsimp only [openH, Option.getD]; omega, by dsimp only [openH, Option.getD]; omega, .inl (by dsimp only [openH, Option.getD]; omega), by rw [← c2]; exact hc.2⟩
        | some h =>
          obtain ⟨d1, d0, d2, d3, d4, d5⟩ := hc
          exact ⟨d1, d0, by dsimp only [openH, Option.getD]; omega, by dsimp only [openH, Option.getD]; omega, .inl (by dsimp only [openH, Option.getD]; omega), by rw [← c2]; exact d5⟩
      · have c3 : (lw 3 (x :: l)).length = (lw 3 l).length := by
          have e3 : x.kind = 3 := by omega
          simp [lw, e3]
        have c2 : lw 2 (x :: l) = x.line :: lw 2 l := by simp [lw, e2]
        rw [c3] at hm
        rw [runsF, if_neg e1, if_neg e2]
        refine runs_rise l a e _ hk.tail ha hm ?_
        cases cur with
        | none => exact ⟨hc.1, ha, by dsimp only [openH, Option.getD]; omega, by dsimp only [openH, Option.getD]; omega, .inr (by simp [openH]), by dsimp only [openH, Option.getD]; rw [List.nil_append, List.singleton_append, ← c2]; exact hc.2⟩
        | some h =>
          obtain ⟨d1, d0, d2, d3, d4, d5⟩ := hc
          exact ⟨d1, d0, d2, d3, .inr (by simp [openH]), by dsimp only [openH, Option.getD]; rw [List.append_assoc, List.singleton_append, ← c2]; exact d5⟩
theorem bare_rise {rows : List Rw} (hk : kindOk3 rows) (hl : linesB (lw 2 rows) = true) : riseB (lw 3 rows).length (-1) (bareH rows) = true :=
  runs_rise rows 0 (-1) none hk (by omega) (by omega) ⟨by omega, hl⟩
theorem runs_len : ∀ (rows : List Rw) (a : Int) (cur : Option Hk), (runsF a cur rows).length ≤ rows.length + cur.toList.length
  | [], a, cur => by simp [runsF]
  | x :: l, a, cur => by
    rw [runsF]
    split
    · have := runs_len l (a + 1) none; simp at *; omega
    · split
      · have := runs_len l (a + 1) (some ⟨(openH a cur).at_, (openH a cur).gone + 1, (openH a cur).new⟩)
        simp at *; omega
      · have := runs_len l a (some ⟨(openH a cur).at_, (openH a cur).gone, (openH a cur).new ++ [x.line]⟩)
        simp at *; omega

def farB (l : List ByteArray) (g : List Gp) : Bool := g.any fun x => decide ((l.length : Int) < x.at_ + (lw 3 x.rows).length)
def standsF (l : List ByteArray) (more : Int) : List Gp → Bool
  | [] => true
  | x :: g => (decide (x.to_ = x.at_ + more) && decide (lw 3 x.rows = seg l x.at_.toNat (x.at_.toNat + (lw 3 x.rows).length))) && standsF l (more + ((lw 2 x.rows).length - (lw 3 x.rows).length)) g
def codeG (l : List ByteArray) (g : List Gp) : Int := if farB l g = true then 3 else if standsF l 0 g = true then 0 else 2
def applyG (l : List ByteArray) (g : List Gp) : List ByteArray × Int × Bool :=
  if goodB l = true ∧ goodG g = true then (if codeG l g = 0 then (if patchOk l (hunksF g) = true then (patchH l (hunksF g), 0, true) else ([], 2, true)) else ([], codeG l g, true)) else ([], 0, false)
theorem patchH_len {l : List ByteArray} {hs : List Hk} (h : patchOk l hs = true) : (patchH l hs).length ≤ 40 ∧ total (patchH l hs) ≤ 1200 := by
  obtain ⟨_, _, h3⟩ := patchOk_parts h
  exact ⟨goodB_len h3, linesB_total (goodB_lines h3)⟩
theorem applyG_len (l : List ByteArray) (g : List Gp) : (applyG l g).1.length ≤ 40 := by
  unfold applyG
  repeat' split
  · rename_i h; exact (patchH_len h).1
  · simp
  · simp
  · simp

def backRF (fresh : List Rw) : List Rw → List Rw
  | [] => fresh
  | x :: l => if x.kind = 2 then backRF (fresh ++ [⟨3, x.line⟩]) l else if x.kind = 3 then ⟨2, x.line⟩ :: backRF fresh l else fresh ++ x :: backRF [] l
def backGp (x : Gp) : Gp := ⟨x.to_, x.at_, backRF [] x.rows⟩
def backG (g : List Gp) : List Gp × Bool := if goodG g = true then (g.map backGp, true) else ([], false)
def swapK (k : Int) : Int := if k = 2 then 3 else if k = 3 then 2 else k
def turnR (l : List Rw) : List Rw := l.map fun x => ⟨swapK x.kind, x.line⟩
def normR (fresh : List Rw) : List Rw → List Rw
  | [] => fresh
  | x :: l => if x.kind = 2 then x :: normR fresh l else if x.kind = 3 then normR (fresh ++ [x]) l else fresh ++ x :: normR [] l
theorem norm_turn : ∀ (l : List Rw) (fresh : List Rw), kindOk3 l → normR fresh (turnR l) = backRF fresh l
  | [], _, _ => rfl
  | x :: l, fresh, hk => by
    obtain ⟨k1, k3⟩ := hk x (by simp)
    obtain ⟨k, s⟩ := x
    dsimp only at k1 k3
    have ih := fun f => norm_turn l f hk.tail
    rcases (by omega : k = 1 ∨ k = 2 ∨ k = 3) with rfl | rfl | rfl
    · simp [turnR, normR, backRF, swapK] at ih ⊢; exact ih []
    · simp [turnR, normR, backRF, swapK] at ih ⊢; exact ih _
    · simp [turnR, normR, backRF, swapK] at ih ⊢; exact ih _
theorem turn_kinds {l : List Rw} (hk : kindOk3 l) : kindOk3 (turnR l) := by
  intro y hy
  simp only [turnR, List.mem_map] at hy
  obtain ⟨x, hx, rfl⟩ := hy
  have := hk x hx
  dsimp only
  unfold swapK
  split
  · omega
  · split <;> omega
theorem turn_lw3 : ∀ {l : List Rw}, kindOk3 l → lw 3 (turnR l) = lw 2 l
  | [], _ => rfl
  | x :: l, hk => by
    obtain ⟨k1, k3⟩ := hk x (by simp)
    have ih := turn_lw3 hk.tail
    obtain ⟨k, s⟩ := x
    dsimp only at k1 k3
    rcases (by omega : k = 1 ∨ k = 2 ∨ k = 3) with rfl | rfl | rfl <;> (simp [turnR, lw, swapK] at ih ⊢; exact ih)
theorem turn_lw2 : ∀ {l : List Rw}, kindOk3 l → lw 2 (turnR l) = lw 3 l
  | [], _ => rfl
  | x :: l, hk => by
    obtain ⟨k1, k3⟩ := hk x (by simp)
    have ih := turn_lw2 hk.tail
    obtain ⟨k, s⟩ := x
    dsimp only at k1 k3
    rcases (by omega : k = 1 ∨ k = 2 ∨ k = 3) with rfl | rfl | rfl <;> (simp [turnR, lw, swapK] at ih ⊢; exact ih)
theorem kR_append (k : Int) (a b : List ByteArray) : kR k (a ++ b) = kR k a ++ kR k b := by simp [kR]
theorem kR_one (k : Int) (s : ByteArray) : kR k [s] = [⟨k, s⟩] := rfl
theorem rows_norm {L : List ByteArray} : ∀ (rows : List Rw) (a p : Nat) (cur : Option Hk), kindOk3 rows → L.drop a = lw 3 rows → a ≤ L.length → p ≤ a →
    (∀ h, cur = some h → ∃ b : Nat, h.at_ = b ∧ h.gone = (a : Int) - b ∧ p ≤ b ∧ b ≤ a) →
    rowsI L p (runsF a cur rows) = match cur with | none => kR 1 (seg L p a) ++ normR [] rows | some h => kR 1 (seg L p h.at_.toNat) ++ kR 2 (seg L h.at_.toNat a) ++ normR (kR 3 h.new) rows
  | [], a, p, cur, _, hd, ha, hp, hc => by
    have hL : L.length ≤ a := by simpa [lw] using hd
    have hseg : ∀ q, seg L q a = L.drop q := fun q => by unfold seg; rw [List.take_of_length_le hL]
    cases cur with
    | none => simp [runsF, rowsI, normR, hseg]
    | some h =>
      obtain ⟨b, e1, e2, _, _⟩ := hc h rfl
      have e3 : (h.at_ + h.gone).toNat = a := by omega
      simp only [runsF, Option.toList, rowsI, normR, e3]
      rw [show L.drop a = [] from List.drop_eq_nil_of_le hL]
      simp [kR]
  | x :: l, a, p, cur, hk, hd, ha, hp, hc => by
    obtain ⟨k1, k3⟩ := hk x (by simp)
    have ih := fun a' p' c => rows_norm (L := L) l a' p' c hk.tail
    by_cases e1 : x.kind = 1
    · have hx : x = ⟨1, x.line⟩ := Rw.ext_ e1 rfl
      have c3 : lw 3 (x :: l) = x.line :: lw 3 l := by simp [lw, e1]
      rw [c3] at hd
      obtain ⟨d1, d2⟩ := drop_cons_at hd
      have hal := (List.getElem?_eq_some_iff.1 d1).1
      have hn : ∀ f, normR f (x :: l) = f ++ x :: normR [] l := fun f => by rw [normR, if_neg (by omega), if_neg (by omega)]
      rw [runsF, if_pos e1]
      cases cur with
      | none =>
        have := ih (a + 1) p none d2 (by omega) (by omega) (fun h e => by cases e)
        simp only [Option.toList, List.nil_append]
        rw [show ((a : Int) + 1) = ((a + 1 : Nat) : Int) by omega, this]
        dsimp only
        rw [hn, seg_succ hp d1, kR_append, kR_one, ← hx]
        simp
      | some h =>
        obtain ⟨b, f1, f2, f3, f4⟩ := hc h rfl
        have e3 : (h.at_ + h.gone).toNat = a := by omega
        have := ih (a + 1) a none d2 (by omega) (by omega) (fun h e => by cases e)
        simp only [Option.toList, List.singleton_append, rowsI, e3]
        rw [show ((a : Int) + 1) = ((a + 1 : Nat) : Int) by omega, this]
        dsimp only
        rw [hn, seg_succ (Nat.le_refl _) d1, seg_self, List.nil_append, kR_one, ← hx]
        simp
    · by_cases e2 : x.kind = 2
      · have hx : x = ⟨2, x.line⟩ := Rw.ext_ e2 rfl
        have c3 : lw 3 (x :: l) = x.line :: lw 3 l := by simp [lw, e2]
        rw [c3] at hd
        obtain ⟨d1, d2⟩ := drop_cons_at hd
        have hal := (List.getElem?_eq_some_iff.1 d1).1
        have hn : ∀ f, normR f (x :: l) = x :: normR f l := fun f => by rw [normR, if_pos e2]
        rw [runsF, if_neg e1, if_pos e2, show ((a : Int) + 1) = ((a + 1 : Nat) : Int) by omega]
        cases cur with
        | none =>
          have := ih (a + 1) p (some ⟨(a : Int), 0 + 1, []⟩) d2 (by omega) (by omega) (fun h e => by injection e with e; subst e; exact ⟨a, rfl, by dsimp only; omega, hp, by omega⟩)
          dsimp only [openH, Option.getD]
          rw [this]
          dsimp only
          rw [hn, Int.toNat_natCast, seg_succ (Nat.le_refl _) d1, seg_self, List.nil_append, kR_one, ← hx]
          simp [kR]
        | some h =>
          obtain ⟨b, f1, f2, f3, f4⟩ := hc h rfl
          have := ih (a + 1) p (some ⟨h.at_, h.gone + 1, h.new⟩) d2 (by omega) (by omega) (fun h' e => by injection e with e; subst e; exact ⟨b, f1, by dsimp only; omega, f3, by omega⟩)
          dsimp only [openH, Option.getD]
          rw [this]
          dsimp only
          rw [hn, seg_succ (by omega) d1, kR_append, kR_one, ← hx]
          simp
      · have e3 : x.kind = 3 := by omega
        have hx : x = ⟨3, x.line⟩ := Rw.ext_ e3 rfl
        have c3 : lw 3 (x :: l) = lw 3 l := by
          have e3 : x.kind = 3 := by omega
          simp [lw, e3]
        rw [c3] at hd
        have hn : ∀ f, normR f (x :: l) = normR (f ++ [x]) l := fun f => by rw [normR, if_neg e2, if_pos e3]
        rw [runsF, if_neg e1, if_neg e2]
        cases cur with
        | none =>
          have := ih a p (some ⟨(a : Int), 0, [x.line]⟩) hd ha hp (fun h e => by injection e with e; subst e; exact ⟨a, rfl, by dsimp only; omega, hp, by omega⟩)
          dsimp only [openH, Option.getD]
          rw [List.nil_append, this]
          dsimp only
          rw [hn, Int.toNat_natCast, seg_self, kR_one, ← hx]
          simp [kR]
        | some h =>
          obtain ⟨b, f1, f2, f3, f4⟩ := hc h rfl
          have := ih a p (some ⟨h.at_, h.gone, h.new ++ [x.line]⟩) hd ha hp (fun h' e => by injection e with e; subst e; exact ⟨b, f1, f2, f3, f4⟩)
          dsimp only [openH, Option.getD]
          rw [this]
          dsimp only
          rw [hn, kR_append, kR_one, ← hx]
theorem turned_rows {rows : List Rw} (hk : kindOk3 rows) : rowsI (lw 3 (turnR rows)) 0 (bareH (turnR rows)) = backRF [] rows := by
  have h := rows_norm (L := lw 3 (turnR rows)) (turnR rows) 0 0 none (turn_kinds hk) rfl (Nat.zero_le _) (Nat.le_refl _) (fun h e => by cases e)
  unfold bareH
  rw [show (0 : Int) = ((0 : Nat) : Int) from rfl, h]
  dsimp only
  rw [seg_self, norm_turn _ _ hk]
  rfl
theorem backRF_len : ∀ (l fresh : List Rw), (backRF fresh l).length = fresh.length + l.length
  | [], fresh => by simp [backRF]
  | x :: l, fresh => by
    rw [backRF]
    split
    · rw [backRF_len l]; simp; omega
    · split
      · simp [backRF_len l]; omega
      · simp [backRF_len l]

end Go.Proofs.YtkamenidgkjodaaGreatDoor.M
