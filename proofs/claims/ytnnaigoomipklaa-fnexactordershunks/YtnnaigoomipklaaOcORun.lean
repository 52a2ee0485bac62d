/-
  Plain facts on orders that are done, and on orders made of hunks: no Go, no program.
-/
import Derived.Test.YtnnaigoomipklaaOcOMath
set_option linter.unusedSimpArgs false
set_option linter.unusedVariables false
namespace Go.Proofs.Ytnnaigoomipklaa.M
open Go

/-- Where what an order brings comes, and where what stays goes on. -/
def fromO (x : Od) : Nat := if x.kd = 1 then x.fr.toNat else (x.fr - 1).toNat
def behindO (x : Od) : Nat := if x.kd = 2 then (x.fr - 1).toNat else x.to_.toNat
/-- A line that loses its first dot. -/
def fixS (s : ByteArray) : Option ByteArray := if s.data.toList.head? = some 46 ∧ s ≠ dotA then some (s.extract 1 s.size) else none
/-- One order done: the lines, and a code. -/
def doO (l : List ByteArray) (x : Od) : List ByteArray × Int :=
  if (l.length : Int) < x.to_ then ([], 3)
  else if x.kd = 5 then
    match (l[(x.fr - 1).toNat]?).bind fixS with
    | some t => (l.take (x.fr - 1).toNat ++ t :: l.drop x.to_.toNat, 0)
    | none => ([], 2)
  else (l.take (fromO x) ++ (x.new ++ l.drop (behindO x)), 0)
def nlA : ByteArray := ⟨#[10]⟩
/-- The last line gets its end. -/
def startO (l : List ByteArray) : List ByteArray := if wholeB l = true then l else l.dropLast ++ [(l.getLast?).getD nlA ++ nlA]
def runsO : List ByteArray → List Od → List ByteArray × Int
  | l, [] => (l, 0)
  | l, x :: p => if (doO l x).2 = 0 then runsO (doO l x).1 p else ([], (doO l x).2)
def runO (l : List ByteArray) (p : List Od) : List ByteArray × Int :=
  if (runsO (startO l) p).2 = 0 then (if goodB (runsO (startO l) p).1 = true then ((runsO (startO l) p).1, 0) else ([], 2)) else ([], (runsO (startO l) p).2)
/-- RunOrders' three answers. -/
def runOrders (l : List ByteArray) (p : List Od) : List ByteArray × Int × Bool := if goodB l = true ∧ ordersB p = true then ((runO l p).1, (runO l p).2, true) else ([], 0, false)
/-- OrdersHunks' three answers. -/
def ordersHunks (diff : List ByteArray → List ByteArray → List Hk) (l : List ByteArray) (p : List Od) : List Hk × Int × Bool :=
  if goodB l = true ∧ wholeB l = true ∧ ordersB p = true then
    (if (runO l p).2 = 0 then (diff l (runO l p).1, 0, true) else ([], (runO l p).2, true))
  else ([], 0, false)

theorem runsO_append : ∀ (p q : List Od) (l : List ByteArray), runsO l (p ++ q) = if (runsO l p).2 = 0 then runsO (runsO l p).1 q else ([], (runsO l p).2)
  | [], q, l => by simp [runsO]
  | x :: p, q, l => by
    rw [List.cons_append, runsO, runsO]
    by_cases h : (doO l x).2 = 0
    · rw [if_pos h, if_pos h, runsO_append p q]
    · rw [if_neg h, if_neg h]; simp [h]
theorem runsO_take_succ {p : List Od} {k : Nat} {x : Od} (h : p[k]? = some x) (l : List ByteArray) (h0 : (runsO l (p.take k)).2 = 0) : runsO l (p.take (k + 1)) = if (doO (runsO l (p.take k)).1 x).2 = 0 then ((doO (runsO l (p.take k)).1 x).1, 0) else ([], (doO (runsO l (p.take k)).1 x).2) := by
  rw [take_snoc h, runsO_append, if_pos h0, runsO]
  rfl
theorem runsO_bad {p : List Od} {k : Nat} {x : Od} (h : p[k]? = some x) (l : List ByteArray) (h0 : (runsO l (p.take k)).2 = 0) (h1 : (doO (runsO l (p.take k)).1 x).2 ≠ 0) : runsO l p = ([], (doO (runsO l (p.take k)).1 x).2) := by
  have e : p = p.take (k + 1) ++ p.drop (k + 1) := (List.take_append_drop _ _).symm
  have h2 := runsO_take_succ h l h0
  rw [if_neg h1] at h2
  refine (congrArg (runsO l) e).trans ?_
  rw [runsO_append, h2]
  simp only []
  rw [if_neg h1]

/-! Every line keeps its end; how many there are. -/

theorem fixS_ends {s t : ByteArray} (h : fixS s = some t) (he : endsB s = true) : endsB t = true ∧ t.size ≤ s.size := by
  unfold fixS at h
  split at h
  · rename_i hc
    injection h with h
    subst h
    have hs : s.data.toList = 46 :: s.data.toList.tail := by
      cases e : s.data.toList with
      | nil => rw [e] at hc; simp at hc
      | cons c r => rw [e] at hc; simp at hc; rw [hc.1]; rfl
    have ht : (s.extract 1 s.size).data.toList = s.data.toList.tail := by
      rw [ByteArray.data_extract, Array.toList_extract]
      have : s.size = s.data.toList.length := by simp
      rw [this]
      exact List.take_of_length_le (by simp) |>.trans (by simp)
    refine ⟨?_, by simp⟩
    unfold endsB at he ⊢
    rw [ht]
    rw [hs] at he
    cases hq : s.data.toList.tail with
    | nil =>
      rw [hq] at he
      simp at he
    | cons d r =>
      rw [hq] at he
      simpa using he
  · cases h
theorem doO_ends {l : List ByteArray} {x : Od} (hx : orderB x = true) (hl : ∀ s ∈ l, endsB s = true) : ∀ s ∈ (doO l x).1, endsB s = true := by
  have hn := order_lines hx
  unfold doO
  split
  · simp
  · split
    · cases hq : (l[(x.fr - 1).toNat]?).bind fixS with
      | none => simp
      | some t =>
        simp only []
        intro s hs
        obtain ⟨u, hu, hut⟩ := Option.bind_eq_some_iff.1 hq
        rcases List.mem_append.1 hs with h | h
        · exact hl s (List.mem_of_mem_take h)
        · rcases List.mem_cons.1 h with rfl | h
          · exact (fixS_ends hut (hl u (List.mem_of_getElem? hu))).1
          · exact hl s (List.mem_of_mem_drop h)
    · intro s hs
      rcases List.mem_append.1 hs with h | h
      · exact hl s (List.mem_of_mem_take h)
      · rcases List.mem_append.1 h with h | h
        · exact (hn.1 s h).2.1
        · exact hl s (List.mem_of_mem_drop h)
theorem doO_sizes {l : List ByteArray} {x : Od} {b : Nat} (hb : 30 ≤ b) (hx : orderB x = true) (hl : ∀ s ∈ l, s.size ≤ b) : ∀ s ∈ (doO l x).1, s.size ≤ b := by
  have hn := order_lines hx
  unfold doO
  split
  · simp
  · split
    · cases hq : (l[(x.fr - 1).toNat]?).bind fixS with
      | none => simp
      | some t =>
        simp only []
        intro s hs
        obtain ⟨u, hu, hut⟩ := Option.bind_eq_some_iff.1 hq
        rcases List.mem_append.1 hs with h | h
        · exact hl s (List.mem_of_mem_take h)
        · rcases List.mem_cons.1 h with rfl | h
          · have := hl u (List.mem_of_getElem? hu)
            unfold fixS at hut
            split at hut
            · injection hut with hut; rw [← hut]; simp; omega
            · cases hut
          · exact hl s (List.mem_of_mem_drop h)
    · intro s hs
      rcases List.mem_append.1 hs with h | h
      · exact hl s (List.mem_of_mem_take h)
      · rcases List.mem_append.1 h with h | h
        · exact Nat.le_trans (lineB_size (hn.1 s h).1).2 hb
        · exact hl s (List.mem_of_mem_drop h)
theorem doO_len {l : List ByteArray} {x : Od} (hx : orderB x = true) : (doO l x).1.length ≤ l.length + 40 := by
  have hn := (order_lines hx).2
  unfold doO
  split
  · simp
  · rename_i hlt
    split
    · cases hq : (l[(x.fr - 1).toNat]?).bind fixS with
      | none => simp
      | some t =>
        simp only [List.length_append, List.length_cons, List.length_take, List.length_drop]
        obtain ⟨u, hu, _⟩ := Option.bind_eq_some_iff.1 hq
        have := (List.getElem?_eq_some_iff.1 hu).1
        obtain ⟨a, b, e1, e2, h1, _, _⟩ := order_cases hx
        omega
    · simp only [List.length_append, List.length_take, List.length_drop]
      have : fromO x ≤ behindO x := by
        obtain ⟨a, b, e1, e2, h1, _, h5⟩ := order_cases hx
        unfold fromO behindO
        split
        · split
          · omega
          · omega
        · split
          · omega
          · omega
      omega
theorem startO_ends {l : List ByteArray} (hg : goodB l = true) : (∀ s ∈ startO l, endsB s = true) ∧ (∀ s ∈ startO l, s.size ≤ 31) ∧ (startO l).length = l.length := by
  have hgood : ∀ j s, l[j]? = some s → lineB s = true ∧ (l.length ≤ j + 1 ∨ endsB s = true) := fun j s hj => by
    obtain ⟨h1, h2⟩ := goodB_at hg hj
    exact ⟨h1, (Nat.lt_or_ge (j + 1) l.length).elim (fun h => .inr (h2 h)) .inl⟩
  have hnl : ∀ t : ByteArray, endsB (t ++ nlA) = true := fun t => by
    unfold endsB nlA
    rw [ByteArray.data_append, Array.toList_append]
    simp
  have hsz : ∀ t : ByteArray, (t ++ nlA).size = t.size + 1 := fun t => by simp [nlA, ByteArray.size_append]; rfl
  unfold startO
  split
  · rename_i hw
    refine ⟨fun s hs => ?_, fun s hs => ?_, rfl⟩
    · obtain ⟨j, hj⟩ := List.mem_iff_getElem?.1 hs
      rcases (hgood j s hj).2 with h | h
      · have hlt := (List.getElem?_eq_some_iff.1 hj).1
        unfold wholeB at hw
        rw [List.getLast?_eq_getElem?, show l.length - 1 = j by omega, hj] at hw
        exact hw
      · exact h
    · obtain ⟨j, hj⟩ := List.mem_iff_getElem?.1 hs
      exact Nat.le_trans (lineB_size (hgood j s hj).1).2 (by omega)
  · rename_i hw
    cases hq : l.getLast? with
    | none =>
      exfalso
      apply hw
      unfold wholeB
      rw [hq]
    | some t =>
      have hne : l ≠ [] := fun e => by rw [e] at hq; simp at hq
      have hpos : 0 < l.length := List.length_pos_iff.2 hne
      have hlast : l[l.length - 1]? = some t := by rw [← List.getLast?_eq_getElem?]; exact hq
      have hdrop : ∀ s ∈ l.dropLast, ∃ j, l[j]? = some s ∧ j + 1 < l.length := by
        intro s hs
        obtain ⟨j, hj⟩ := List.mem_iff_getElem?.1 hs
        have hlt := (List.getElem?_eq_some_iff.1 hj).1
        rw [List.length_dropLast] at hlt
        rw [List.getElem?_dropLast, if_pos (by omega)] at hj
        exact ⟨j, hj, by omega⟩
      refine ⟨fun s hs => ?_, fun s hs => ?_, ?_⟩
      · rcases List.mem_append.1 hs with h | h
        · obtain ⟨j, hj, hlt⟩ := hdrop s h
          rcases (hgood j s hj).2 with h | h
          · omega
          · exact h
        · simp at h
          subst h
          exact hnl _
      · rcases List.mem_append.1 hs with h | h
        · obtain ⟨j, hj, hlt⟩ := hdrop s h
          exact Nat.le_trans (lineB_size (hgood j s hj).1).2 (by omega)
        · simp at h
          subst h
          have := (lineB_size (hgood _ t hlast).1).2
          rw [hsz]
          omega
      · simp; omega
theorem startO_whole {l : List ByteArray} (h : wholeB l = true) : startO l = l := if_pos h
theorem startO_set {l : List ByteArray} {n : Nat} {s : ByteArray} (hn : l.length = n) (h0 : 0 < n) (hs : l[n - 1]? = some s) (he : endsB s = false) : startO l = l.set (n - 1) (s ++ nlA) := by
  have hw : wholeB l = false := by rw [wholeB_last hn h0 hs, he]
  unfold startO
  rw [if_neg (by rw [hw]; simp), List.getLast?_eq_getElem?, hn, hs]
  have hl : l = l.dropLast ++ [s] := by
    have hne : l ≠ [] := fun e => by rw [e] at hn; simp at hn; omega
    have h1 := List.dropLast_concat_getLast hne
    have h2 : l.getLast hne = s := by
      have := List.getLast?_eq_some_getLast hne
      rw [List.getLast?_eq_getElem?, hn, hs] at this
      exact (Option.some.inj this).symm
    rw [h2] at h1
    exact h1.symm
  have hd : l.dropLast.length = n - 1 := by rw [List.length_dropLast, hn]
  conv => rhs; rw [hl]
  rw [List.set_append, if_neg (by omega), hd, Nat.sub_self, List.set_cons_zero]
  rfl

/-! Orders made of hunks. -/

end Go.Proofs.Ytnnaigoomipklaa.M
