/-
  Plain facts on the text of steps, piece by piece: no Go, no program.
-/
import Derived.Test.YtnnaigoomipklaaDoorOkSMath
set_option linter.unusedSimpArgs false
set_option linter.unusedVariables false
namespace Go.Proofs.YtnnaigoomipklaaDoor.M
open Go

def showT (sign s : List UInt8) : List UInt8 := (shownL sign s).flatten
def sideT (sign : List UInt8) (l : List ByteArray) : List UInt8 := (sideL sign l).flatten
def midT (x : Sp) : List UInt8 := if wordL x = 99 then ruleL else []
def spT (x : Sp) : List UInt8 := headL x ++ [10] ++ sideT [60, 32] x.old ++ midT x ++ sideT [62, 32] x.new
theorem showT_eq (sign s : List UInt8) : showT sign s = if endsL s then sign ++ s else sign ++ s ++ [10] ++ noneL := by
  unfold showT shownL
  split <;> simp
theorem sideT_nil (sign : List UInt8) : sideT sign [] = [] := rfl
theorem sideT_snoc (sign : List UInt8) (l : List ByteArray) (s : ByteArray) : sideT sign (l ++ [s]) = sideT sign l ++ showT sign s.data.toList := by
  unfold sideT sideL showT
  rw [List.flatMap_append, List.flatten_append]
  simp
theorem stepL_flat (x : Sp) : (stepL x).flatten = spT x := by
  unfold stepL spT midT sideT
  rw [List.flatten_cons, List.flatten_append, List.flatten_append]
  split <;> simp
theorem stepsT_snoc (p : List Sp) (x : Sp) : stepsT (p ++ [x]) = stepsT p ++ spT x := by
  unfold stepsT stepsL
  rw [List.flatMap_append, List.flatten_append, ← stepL_flat]
  simp

theorem showT_len {sign : List UInt8} (h2 : sign.length = 2) {s : ByteArray} (h : s.size ≤ 30) : (showT sign s.data.toList).length ≤ 40 := by
  rw [showT_eq]
  have : s.data.toList.length = s.size := by simp
  split
  · simp; omega
  · simp [noneL]; omega
theorem sideT_len {sign : List UInt8} (h2 : sign.length = 2) : ∀ {l : List ByteArray}, (∀ s ∈ l, s.size ≤ 30) → (sideT sign l).length ≤ 40 * l.length
  | [], _ => by simp [sideT, sideL]
  | s :: l, h => by
    have ih := sideT_len h2 (l := l) (fun t ht => h t (by simp [ht]))
    have h1 := showT_len h2 (h s (by simp))
    have e : sideT sign (s :: l) = showT sign s.data.toList ++ sideT sign l := by
      unfold sideT sideL showT
      rw [List.flatMap_cons, List.flatten_append]
    rw [e, List.length_append, List.length_cons]
    omega
theorem sideT_take {sign : List UInt8} (h2 : sign.length = 2) {l : List ByteArray} (h : goodB l = true) (j : Nat) : (sideT sign (l.take j)).length ≤ 1600 := by
  have h1 := sideT_len h2 (l := l.take j) (fun s hs => (lineB_size (good_lines h s (List.mem_of_mem_take hs))).2)
  have h3 := goodB_len h
  have h4 : (l.take j).length ≤ l.length := by simp; omega
  omega
theorem numsL_len {a b : Nat} (ha : a ≤ 1000) (hb : b ≤ 1000) : (numsL a b).length ≤ 11 := by
  have h1 := dec_len 4 a (by simp; omega)
  have h2 := dec_len 4 b (by simp; omega)
  unfold numsL
  split
  · omega
  · simp; omega
theorem headL_len {x : Sp} (h : stepB x = true) : (headL x).length ≤ 23 := by
  obtain ⟨h1, h2, _⟩ := stepB_parts h
  obtain ⟨A, B, e1, e2, q1, q2, _⟩ := side_le h1
  obtain ⟨C, E, e3, e4, q3, q4, _⟩ := side_le h2
  have h5 := numsL_len (a := A) (b := B) (by omega) (by omega)
  have h6 := numsL_len (a := C) (b := E) (by omega) (by omega)
  unfold headL
  rw [e1, e2, e3, e4]
  simp only [Int.toNat_natCast, List.length_append, List.length_cons]
  omega
theorem spT_len {x : Sp} (h : stepB x = true) : (spT x).length ≤ 3300 := by
  obtain ⟨h1, h2, _⟩ := stepB_parts h
  obtain ⟨_, _, _, _, _, _, g1, _⟩ := side_le h1
  obtain ⟨_, _, _, _, _, _, g2, _⟩ := side_le h2
  have q1 := sideT_take (sign := [60, 32]) rfl g1 x.old.length
  have q2 := sideT_take (sign := [62, 32]) rfl g2 x.new.length
  rw [List.take_length] at q1 q2
  have q3 := headL_len h
  have q4 : (midT x).length ≤ 4 := by unfold midT ruleL; split <;> simp
  unfold spT
  simp only [List.length_append, List.length_cons, List.length_nil]
  omega
theorem stepsT_len : ∀ {p : List Sp}, p.all stepB = true → (stepsT p).length ≤ 3300 * p.length
  | [], _ => by simp [stepsT, stepsL]
  | x :: p, h => by
    rw [List.all_cons, Bool.and_eq_true] at h
    have h1 := spT_len h.1
    have h2 := stepsT_len h.2
    have e : stepsT (x :: p) = spT x ++ stepsT p := by
      unfold stepsT stepsL
      rw [List.flatMap_cons, List.flatten_append, stepL_flat]
    rw [e, List.length_append, List.length_cons]
    omega
theorem stepsT_take {p : List Sp} (h : stepsB p = true) (j : Nat) : (stepsT (p.take j)).length ≤ 66000 := by
  unfold stepsB at h
  simp only [Bool.and_eq_true, decide_eq_true_eq] at h
  have h1 := stepsT_len (p := p.take j) (by rw [List.all_eq_true]; intro x hx; exact List.all_eq_true.1 h.1 x (List.mem_of_mem_take hx))
  have h2 : (p.take j).length ≤ p.length := by simp; omega
  omega

end Go.Proofs.YtnnaigoomipklaaDoor.M
