/-
  Plain facts on orders that are done, and on orders made of hunks: no Go, no program.
-/
import Derived.Test.YtnnaigoomipklaaGreatDoorOiOMath
set_option linter.unusedSimpArgs false
set_option linter.unusedVariables false
namespace Go.Proofs.YtnnaigoomipklaaGreatDoor.M
open Go

/-- Where what an order brings comes, and where what stays goes on. -/
def fromO (x : Od) : Nat := if x.kd = 1 then x.fr.toNat else (x.fr - 1).toNat
def behindO (x : Od) : Nat := if x.kd = 2 then (x.fr - 1).toNat else x.to_.toNat
/-- A line that loses its first dot. -/
def fixS (s : ByteArray) : Option ByteArray := if s.data.toList.head? = some 46 ∧ s ≠ dotA then some (s.extract 1 s.size) else none
/-- One order done: the lines, and a code. -/
def doO (l : List ByteArray) (x : Od) : List ByteArray × Int :=
  if (l.length : Int) < x.to_ then ([], 3)
  else if x.kd = 5 then
    match (l[(x.fr - 1).toNat]?).bind fixS with
    | some t => (l.take (x.fr - 1).toNat ++ t :: l.drop x.to_.toNat, 0)
    | none => ([], 2)
  else (l.take (fromO x) ++ (x.new ++ l.drop (behindO x)), 0)
def nlA : ByteArray := ⟨#[10]⟩
/-- The last line gets its end. -/
def startO (l : List ByteArray) : List ByteArray := if wholeB l = true then l else l.dropLast ++ [(l.getLast?).getD nlA ++ nlA]
def runsO : List ByteArray → List Od → List ByteArray × Int
  | l, [] => (l, 0)
  | l, x :: p => if (doO l x).2 = 0 then runsO (doO l x).1 p else ([], (doO l x).2)
def runO (l : List ByteArray) (p : List Od) : List ByteArray × Int :=
  if (runsO (startO l) p).2 = 0 then (if goodB (runsO (startO l) p).1 = true then ((runsO (startO l) p).1, 0) else ([], 2)) else ([], (runsO (startO l) p).2)
/-- RunOrders' three answers. -/
def runOrders (l : List ByteArray) (p : List Od) : List ByteArray × Int × Bool := if goodB l = true ∧ ordersB p = true then ((runO l p).1, (runO l p).2, true) else ([], 0, false)
/-- OrdersHunks' three answers. -/
def ordersHunks (diff : List ByteArray → List ByteArray → List Hk) (l : List ByteArray) (p : List Od) : List Hk × Int × Bool :=
  if goodB l = true ∧ wholeB l = true ∧ ordersB p = true then
    (if (runO l p).2 = 0 then (diff l (runO l p).1, 0, true) else ([], (runO l p).2, true))
  else ([], 0, false)

theorem runsO_append : ∀ (p q : List Od) (l : List ByteArray), runsO l (p ++ q) = if (runsO l p).2 = 0 then runsO (runsO l p).1 q else ([], (runsO l p).2)
  | [], q, l => by simp [runsO]
  | x :: p, q, l => by
    rw [List.cons_append, runsO, runsO]
    by_cases h : (doO l x).2 = 0
    · rw [if_pos h, if_pos h, runsO_append p q]
    · rw [if_neg h, if_neg h]; simp [h]
theorem runsO_take_succ {p : List Od} {k : Nat} {x : Od} (h : p[k]? = some x) (l : List ByteArray) (h0 : (runsO l (p.take k)).2 = 0) : runsO l (p.take (k + 1)) = if (doO (runsO l (p.take k)).1 x).2 = 0 then ((doO (runsO l (p.take k)).1 x).1, 0) else ([], (doO (runsO l (p.take k)).1 x).2) := by
  rw [take_snoc h, runsO_append, if_pos h0, runsO]
  rfl
theorem runsO_bad {p : List Od} {k : Nat} {x : Od} (h : p[k]? = some x) (l : List ByteArray) (h0 : (runsO l (p.take k)).2 = 0) (h1 : (doO (runsO l (p.take k)).1 x).2 ≠ 0) : runsO l p = ([], (doO (runsO l (p.take k)).1 x).2) := by
  have e : p = p.take (k + 1) ++ p.drop (k + 1) := (List.take_append_drop _ _).symm
  have h2 := runsO_take_succ h l h0
  rw [if_neg h1] at h2
  refine (congrArg (runsO l) e).trans ?_
  rw [runsO_append, h2]
  simp only []
  rw [if_neg h1]

/-! Every line keeps its end; how many there are. -/

theorem fixS_ends {s t : ByteArray} (h : fixS s = some t) (he : endsB s = true) : endsB t = true ∧ t.size ≤ s.size := by
  unfold fixS at h
  split at h
  · rename_i hc
    injection h with h
    subst h
    have hs : s.data.toList = 46 :: s.data.toList.tail := by
      cases e : s.data.toList with
      | nil => rw [e] at hc; simp at hc
      | cons c r => rw [e] at hc; simp at hc; rw [hc.1]; rfl
    have ht : (s.extract 1 s.size).data.toList = s.data.toList.tail := by
      rw [ByteArray.data_extract, Array.toList_extract]
      have : s.size = s.data.toList.length := by simp
      rw [this]
      exact List.take_of_length_le (by simp) |>.trans (by simp)
    refine ⟨?_, by simp⟩
    unfold endsB at he ⊢
    rw [ht]
    rw [hs] at he
    cases hq : s.data.toList.tail with
    | nil =>
      rw [hq] at he
      simp at he
    | cons d r =>
      rw [hq] at he
      simpa using he
  · cases h
theorem doO_ends {l : List ByteArray} {x : Od} (hx : orderB x = true) (hl : ∀ s ∈ l, endsB s = true) : ∀ s ∈ (doO l x).1, endsB s = true := by
  have hn := order_lines hx
  unfold doO
  split
  · simp
  · split
    · cases hq : (l[(x.fr - 1).toNat]?).bind fixS with
      | none => simp
      | some t =>
        simp only []
        intro s hs
        obtain ⟨u, hu, hut⟩ := Option.bind_eq_some_iff.1 hq
        rcases List.mem_append.1 hs with h | h
        · exact hl s (List.mem_of_mem_take h)
        · rcases List.mem_cons.1 h with rfl | h
          · exact (fixS_ends hut (hl u (List.mem_of_getElem? hu))).1
          · exact hl s (List.mem_of_mem_drop h)
    · intro s hs
      rcases List.mem_append.1 hs with h | h
      · exact hl s (List.mem_of_mem_take h)
      · rcases List.mem_append.1 h with h | h
        · exact (hn.1 s h).2.1
        · exact hl s (List.mem_of_mem_drop h)
theorem doO_sizes {l : List ByteArray} {x : Od} {b : Nat} (hb : 30 ≤ b) (hx : orderB x = true) (hl : ∀ s ∈ l, s.size ≤ b) : ∀ s ∈ (doO l x).1, s.size ≤ b := by
  have hn := order_lines hx
  unfold doO
  split
  · simp
  · split
    · cases hq : (l[(x.fr - 1).toNat]?).bind fixS with
      | none => simp
      | some t =>
        simp only []
        intro s hs
        obtain ⟨u, hu, hut⟩ := Option.bind_eq_some_iff.1 hq
        rcases List.mem_append.1 hs with h | h
        · exact hl s (List.mem_of_mem_take h)
        · rcases List.mem_cons.1 h with rfl | h
          · have := hl u (List.mem_of_getElem? hu)
            unfold fixS at hut
            split at hut
            · injection hut with hut; rw [← hut]; simp; omega
            · cases hut
          · exact hl s (List.mem_of_mem_drop h)
    · intro s hs
      rcases List.mem_append.1 hs with h | h
      · exact hl s (List.mem_of_mem_take h)
      · rcases List.mem_append.1 h with h | h
        · exact Nat.le_trans (lineB_size (hn.1 s h).1).2 hb
        · exact hl s (List.mem_of_mem_drop h)
theorem doO_len {l : List ByteArray} {x : Od} (hx : orderB x = true) : (doO l x).1.length ≤ l.length + 40 := by
  have hn := (order_lines hx).2
  unfold doO
  split
  · simp
  · rename_i hlt
    split
    · cases hq : (l[(x.fr - 1).toNat]?).bind fixS with
      | none => simp
      | some t =>
        simp only [List.length_append, List.length_cons, List.length_take, List.length_drop]
        obtain ⟨u, hu, _⟩ := Option.bind_eq_some_iff.1 hq
        have := (List.getElem?_eq_some_iff.1 hu).1
        obtain ⟨a, b, e1, e2, h1, _, _⟩ := order_cases hx
        omega
    · simp only [List.length_append, List.length_take, List.length_drop]
      have : fromO x ≤ behindO x := by
        obtain ⟨a, b, e1, e2, h1, _, h5⟩ := order_cases hx
        unfold fromO behindO
        split
        · split
          · omega
          · omega
        · split
          · omega
          · omega
      omega
theorem startO_ends {l : List ByteArray} (hg : goodB l = true) : (∀ s ∈ startO l, endsB s = true) ∧ (∀ s ∈ startO l, s.size ≤ 31) ∧ (startO l).length = l.length := by
  have hgood : ∀ j s, l[j]? = some s → lineB s = true ∧ (l.length ≤ j + 1 ∨ endsB s = true) := fun j s hj => by
    obtain ⟨h1, h2⟩ := goodB_at hg hj
    exact ⟨h1, (Nat.lt_or_ge (j + 1) l.length).elim (fun h => .inr (h2 h)) .inl⟩
  have hnl : ∀ t : ByteArray, endsB (t ++ nlA) = true := fun t => by
    unfold endsB nlA
    rw [ByteArray.data_append, Array.toList_append]
    simp
  have hsz : ∀ t : ByteArray, (t ++ nlA).size = t.size + 1 := fun t => by simp [nlA, ByteArray.size_append]; rfl
  unfold startO
  split
  · rename_i hw
    refine ⟨fun s hs => ?_, fun s hs => ?_, rfl⟩
    · obtain ⟨j, hj⟩ := List.mem_iff_getElem?.1 hs
      rcases (hgood j s hj).2 with h | h
      · have hlt := (List.getElem?_eq_some_iff.1 hj).1
        unfold wholeB at hw
        rw [List.getLast?_eq_getElem?, show l.length - 1 = j by omega, hj] at hw
        exact hw
      · exact h
    · obtain ⟨j, hj⟩ := List.mem_iff_getElem?.1 hs
      exact Nat.le_trans (lineB_size (hgood j s hj).1).2 (by omega)
  · rename_i hw
    cases hq : l.getLast? with
    | none =>
      exfalso
      apply hw
      unfold wholeB
      rw [hq]
    | some t =>
      have hne : l ≠ [] := fun e => by rw [e] at hq; simp at hq
      have hpos : 0 < l.length := List.length_pos_iff.2 hne
      have hlast : l[l.length - 1]? = some t := by rw [← List.getLast?_eq_getElem?]; exact hq
      have hdrop : ∀ s ∈ l.dropLast, ∃ j, l[j]? = some s ∧ j + 1 < l.length := by
        intro s hs
        obtain ⟨j, hj⟩ := List.mem_iff_getElem?.1 hs
        have hlt := (List.getElem?_eq_some_iff.1 hj).1
        rw [List.length_dropLast] at hlt
        rw [List.getElem?_dropLast, if_pos (by omega)] at hj
        exact ⟨j, hj, by omega⟩
      refine ⟨fun s hs => ?_, fun s hs => ?_, ?_⟩
      · rcases List.mem_append.1 hs with h | h
        · obtain ⟨j, hj, hlt⟩ := hdrop s h
          rcases (hgood j s hj).2 with h | h
          · omega
          · exact h
        · simp at h
          subst h
          exact hnl _
      · rcases List.mem_append.1 hs with h | h
        · obtain ⟨j, hj, hlt⟩ := hdrop s h
          exact Nat.le_trans (lineB_size (hgood j s hj).1).2 (by omega)
        · simp at h
          subst h
          have := (lineB_size (hgood _ t hlast).1).2
          rw [hsz]
          omega
      · simp; omega
theorem startO_whole {l : List ByteArray} (h : wholeB l = true) : startO l = l := if_pos h
theorem startO_set {l : List ByteArray} {n : Nat} {s : ByteArray} (hn : l.length = n) (h0 : 0 < n) (hs : l[n - 1]? = some s) (he : endsB s = false) : startO l = l.set (n - 1) (s ++ nlA) := by
  have hw : wholeB l = false := by rw [wholeB_last hn h0 hs, he]
  unfold startO
  rw [if_neg (by rw [hw]; simp), List.getLast?_eq_getElem?, hn, hs]
  have hl : l = l.dropLast ++ [s] := by
    have hne : l ≠ [] := fun e => by rw [e] at hn; simp at hn; omega
    have h1 := List.dropLast_concat_getLast hne
    have h2 : l.getLast hne = s := by
      have := List.getLast?_eq_some_getLast hne
      rw [List.getLast?_eq_getElem?, hn, hs] at this
      exact (Option.some.inj this).symm
    rw [h2] at h1
    exact h1.symm
  have hd : l.dropLast.length = n - 1 := by rw [List.length_dropLast, hn]
  conv => rhs; rw [hl]
  rw [List.set_append, if_neg (by omega), hd, Nat.sub_self, List.set_cons_zero]
  rfl

/-! Orders made of hunks. -/

def dotD : ByteArray := ⟨#[46, 46, 10]⟩
/-- A dot alone comes as two. -/
def dots (s : ByteArray) : ByteArray := if s = dotA then dotD else s
def fixO : Nat → List ByteArray → List Od
  | _, [] => []
  | a, s :: r => if s = dotA then ⟨5, (a : Int) + 1, (a : Int) + 1, []⟩ :: fixO (a + 1) r else fixO (a + 1) r
def mainK (x : Hk) : Int := if x.gone = 0 then 1 else if x.new.length = 0 then 4 else 3
def mainO (x : Hk) : Od := ⟨mainK x, if x.gone = 0 then x.at_ else x.at_ + 1, x.at_ + x.gone, x.new.map dots⟩
def edOne (x : Hk) : List Od := mainO x :: fixO x.at_.toNat x.new
/-- From the last hunk to the first. -/
def edO : List Hk → List Od
  | [] => []
  | x :: hs => edO hs ++ edOne x
def edOrders (l : List ByteArray) (hs : List Hk) : List Od × Bool :=
  if (patchOf l hs).2 = true ∧ wholeB l = true ∧ wholeB (patchOf l hs).1 = true then (edO hs, true) else ([], false)
def edText (l : List ByteArray) (hs : List Hk) : ByteArray × Bool := if (edOrders l hs).2 = true then ordersO (edOrders l hs).1 else (⟨#[]⟩, false)

theorem fixO_snoc : ∀ (l : List ByteArray) (s : ByteArray) (a : Nat), fixO a (l ++ [s]) = fixO a l ++ (if s = dotA then [⟨5, ((a + l.length : Nat) : Int) + 1, ((a + l.length : Nat) : Int) + 1, []⟩] else [])
  | [], s, a => by simp [fixO]
  | t :: l, s, a => by
    rw [List.cons_append, fixO, fixO, fixO_snoc l s (a + 1)]
    have e : a + 1 + l.length = a + (t :: l).length := by simp; omega
    rw [e]
    split <;> simp
theorem fixO_len : ∀ (l : List ByteArray) (a : Nat), (fixO a l).length ≤ l.length
  | [], _ => by simp [fixO]
  | s :: l, a => by
    have := fixO_len l (a + 1)
    unfold fixO
    split <;> simp <;> omega
theorem edO_step {hs : List Hk} {k : Nat} {x : Hk} (h : hs[k]? = some x) : edO (hs.drop k) = edO (hs.drop (k + 1)) ++ edOne x := by
  have hk : k < hs.length := (List.getElem?_eq_some_iff.1 h).1
  rw [List.getElem?_eq_getElem hk] at h
  injection h with h
  rw [List.drop_eq_getElem_cons hk, h]
  rfl

theorem dot_fix : fixS dotD = some dotA := by
  have h : dotD ≠ dotA := by decide
  unfold fixS
  rw [if_pos ⟨by decide, h⟩]
  rfl
/-- The dots are mended one behind the other. -/
theorem fix_run : ∀ (r : List ByteArray) (A R : List ByteArray), runsO (A ++ (r.map dots ++ R)) (fixO A.length r) = (A ++ (r ++ R), 0)
  | [], A, R => by simp [fixO, runsO]
  | s :: r, A, R => by
    have ih := fix_run r (A ++ [s]) R
    rw [List.length_append, List.length_singleton, List.append_assoc, List.singleton_append, List.append_assoc, List.singleton_append] at ih
    rw [fixO, List.map_cons, List.cons_append]
    by_cases hs : s = dotA
    · rw [if_pos hs]
      have hd : dots s = dotD := if_pos hs
      rw [hd, runsO]
      have hdo : doO (A ++ dotD :: (r.map dots ++ R)) ⟨5, (A.length : Int) + 1, (A.length : Int) + 1, []⟩ = (A ++ s :: (r.map dots ++ R), 0) := by
        unfold doO
        simp only []
        rw [if_neg (by simp; omega), if_pos trivial]
        have e1 : ((A.length : Int) + 1 - 1).toNat = A.length := by omega
        have e2 : ((A.length : Int) + 1).toNat = A.length + 1 := by omega
        rw [e1, e2, List.getElem?_append_right (Nat.le_refl _), Nat.sub_self, List.getElem?_cons_zero, Option.bind_some, dot_fix]
        simp only []
        rw [List.take_left, List.drop_append, hs]
        simp
      rw [hdo]
      simp only [if_true]
      exact ih
    · rw [if_neg hs]
      have hd : dots s = s := if_neg hs
      rw [hd]
      exact ih
/-- One hunk's orders do what it does. -/
theorem ed_one {x : Hk} (h0 : 0 ≤ x.at_) (h1 : 0 ≤ x.gone) {l R : List ByteArray} (hq : x.at_ + x.gone ≤ (l.length : Int)) : runsO (l.take (x.at_ + x.gone).toNat ++ R) (edOne x) = (l.take x.at_.toNat ++ (x.new ++ R), 0) := by
  have hlen : (l.take (x.at_ + x.gone).toNat).length = (x.at_ + x.gone).toNat := by rw [List.length_take]; omega
  have htk : (l.take (x.at_ + x.gone).toNat).take x.at_.toNat = l.take x.at_.toNat := by rw [List.take_take]; congr 1; omega
  have hta : (l.take x.at_.toNat).length = x.at_.toNat := by rw [List.length_take]; omega
  have hdo : doO (l.take (x.at_ + x.gone).toNat ++ R) (mainO x) = (l.take x.at_.toNat ++ (x.new.map dots ++ R), 0) := by
    unfold doO mainO
    simp only []
    rw [if_neg (by simp; omega)]
    have hk5 : mainK x ≠ 5 := by unfold mainK; split <;> (try split) <;> decide
    have hk2 : mainK x ≠ 2 := by unfold mainK; split <;> (try split) <;> decide
    rw [if_neg hk5]
    have e1 : fromO ⟨mainK x, if x.gone = 0 then x.at_ else x.at_ + 1, x.at_ + x.gone, x.new.map dots⟩ = x.at_.toNat := by
      unfold fromO
      simp only []
      by_cases hz : x.gone = 0
      · rw [if_pos (by unfold mainK; rw [if_pos hz]), if_pos hz]
      · rw [if_neg (by unfold mainK; rw [if_neg hz]; split <;> decide), if_neg hz]
        congr 1
        omega
    have e2 : behindO ⟨mainK x, if x.gone = 0 then x.at_ else x.at_ + 1, x.at_ + x.gone, x.new.map dots⟩ = (x.at_ + x.gone).toNat := by
      unfold behindO
      simp only []
      rw [if_neg hk2]
    rw [e1, e2, List.take_append_of_le_length (by omega), htk, List.drop_append_of_le_length (by omega), List.drop_of_length_le (by omega), List.nil_append]
  unfold edOne
  rw [runsO, hdo]
  simp only [if_true]
  have := fix_run x.new (l.take x.at_.toNat) R
  rw [hta] at this
  exact this
/-- Orders made of hunks do what the hunks do. -/
theorem ed_run {l : List ByteArray} : ∀ {hs : List Hk} {e : Int} {q : Nat}, riseB l.length e hs = true → (q : Int) ≤ e + 1 → -1 ≤ e → runsO l (edO hs) = (l.take q ++ patchFrom l q hs, 0)
  | [], e, q, _, _, _ => by simp [edO, runsO, patchFrom]
  | x :: hs, e, q, h, hq, he => by
    unfold riseB at h
    simp only [Bool.and_eq_true, decide_eq_true_eq] at h
    have hx := hunkB_parts h.1.1
    have ih := ed_run (hs := hs) (q := (x.at_ + x.gone).toNat) h.2 (by omega) (by omega)
    rw [edO, runsO_append, ih]
    simp only [if_true]
    rw [ed_one hx.1 hx.2.1 hx.2.2.1, patchFrom]
    have hs : seg l q x.at_.toNat = (l.take x.at_.toNat).drop q := rfl
    rw [hs]
    have : l.take x.at_.toNat = l.take q ++ (l.take x.at_.toNat).drop q := by
      have h3 := List.take_append_drop q (l.take x.at_.toNat)
      rw [List.take_take, show min q x.at_.toNat = q by omega] at h3
      exact h3.symm
    conv => lhs; rw [this]
    simp only [List.append_assoc]
/-- Run, such orders tell what Patch tells. -/
theorem ed_patch {l : List ByteArray} {hs : List Hk} (h : (edOrders l hs).2 = true) : runO l (edOrders l hs).1 = ((patchOf l hs).1, 0) ∧ (patchOf l hs).2 = true ∧ goodB l = true := by
  unfold edOrders at h ⊢
  split at h
  · rename_i hc
    rw [if_pos hc]
    simp only []
    have hp := hc.1
    unfold patchOf at hp
    split at hp
    · rename_i hok
      have hok' := hok
      unfold patchOk at hok'
      simp only [Bool.and_eq_true] at hok'
      obtain ⟨_, _, _, hr⟩ := goodH_parts hok'.1.2
      have he := ed_run (q := 0) hr (by omega) (by omega)
      have hpat : (patchOf l hs).1 = patchH l hs := by unfold patchOf; rw [if_pos hok]
      have hrun : runsO (startO l) (edO hs) = (patchH l hs, 0) := by rw [startO_whole hc.2.1, he]; simp [patchH]
      refine ⟨?_, hc.1, hok'.1.1⟩
      unfold runO
      rw [hrun]
      simp only [if_true]
      rw [if_pos hok'.2, hpat]
    · cases hp
  · cases h

end Go.Proofs.YtnnaigoomipklaaGreatDoor.M
