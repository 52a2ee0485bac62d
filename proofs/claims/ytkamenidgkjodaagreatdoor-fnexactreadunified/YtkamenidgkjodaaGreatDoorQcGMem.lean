/-
  Rows and groups (chapter 6): mathematics of lists of them, and words for memory: a slice of rows, of groups, that reads as a list; one of the call's own.
-/
import Derived.Test.YtkamenidgkjodaaGreatDoorQcURows
import Derived.Test.YtkamenidgkjodaaGreatDoorQcHMems
import Derived.Test.YtkamenidgkjodaaGreatDoorQcBase
import Derived.Test.YtkamenidgkjodaaGreatDoorQcHApp
set_option linter.unusedSimpArgs false
set_option linter.unusedVariables false
namespace Go.Proofs.YtkamenidgkjodaaGreatDoor.M
open Go

/-- A row. -/
structure Rw where
  kind : Int
  line : ByteArray
/-- A group. -/
structure Gp where
  at_ : Int
  to_ : Int
  rows : List Rw
theorem Rw.ext_ {x y : Rw} (h1 : x.kind = y.kind) (h2 : x.line = y.line) : x = y := by
  cases x; cases y; simp_all
theorem Gp.ext_ {x y : Gp} (h1 : x.at_ = y.at_) (h2 : x.to_ = y.to_) (h3 : x.rows = y.rows) : x = y := by
  cases x; cases y; simp_all
def eqRw (x y : Rw) : Bool := decide (x.kind = y.kind) && decide (x.line = y.line)
theorem eqRw_iff (x y : Rw) : eqRw x y = true ↔ x = y := by
  unfold eqRw
  simp only [Bool.and_eq_true, decide_eq_true_eq]
  exact ⟨fun h => Rw.ext_ h.1 h.2, fun h => by rw [h]; exact ⟨rfl, rfl⟩⟩
/-- Lists held against one another, one by one. -/
def eqL {α : Type} (f : α → α → Bool) : List α → List α → Bool
  | [], [] => true
  | x :: l, y :: r => f x y && eqL f l r
  | _, _ => false
theorem eqL_iff {α : Type} {f : α → α → Bool} (hf : ∀ x y, f x y = true ↔ x = y) : ∀ l r : List α, eqL f l r = true ↔ l = r
  | [], [] => by simp [eqL]
  | [], _ :: _ => by simp [eqL]
  | _ :: _, [] => by simp [eqL]
  | x :: l, y :: r => by simp [eqL, hf, eqL_iff hf l r]
theorem eqL_refl {α : Type} {f : α → α → Bool} (hf : ∀ x y, f x y = true ↔ x = y) (l : List α) : eqL f l l = true := (eqL_iff hf l l).2 rfl
theorem eqL_len {α : Type} {f : α → α → Bool} (hf : ∀ x y, f x y = true ↔ x = y) {l r : List α} (h : l.length ≠ r.length) : eqL f l r = false := by
  rw [Bool.eq_false_iff]; intro e; exact h (by rw [(eqL_iff hf l r).1 e])
theorem eqL_at {α : Type} {f : α → α → Bool} (hf : ∀ x y, f x y = true ↔ x = y) {l r : List α} {k : Nat} {s t : α} (hs : l[k]? = some s) (ht : r[k]? = some t) (h : f s t = false) : eqL f l r = false := by
  rw [Bool.eq_false_iff]; intro e
  rw [(eqL_iff hf l r).1 e, ht] at hs
  injection hs with hs
  rw [hs, (hf s s).2 rfl] at h
  cases h
theorem eqL_all {α : Type} {f : α → α → Bool} (hf : ∀ x y, f x y = true ↔ x = y) {l r : List α} (h : ∀ (j : Nat) s t, l[j]? = some s → r[j]? = some t → f s t = true) (hl : l.length = r.length) : eqL f l r = true := by
  rw [eqL_iff hf]
  apply List.ext_getElem hl
  intro k h1 h2
  exact (hf _ _).1 (h k _ _ (List.getElem?_eq_getElem h1) (List.getElem?_eq_getElem h2))
theorem eqL_step {α : Type} {f : α → α → Bool} {l r : List α} {k : Nat} {s t : α} (H : ∀ (j : Nat) s t, j < k → l[j]? = some s → r[j]? = some t → f s t = true) (hs : l[k]? = some s) (ht : r[k]? = some t) (h : f s t = true) :
    ∀ (j : Nat) s t, j < k + 1 → l[j]? = some s → r[j]? = some t → f s t = true := by
  intro j s' t' hj h1 h2
  by_cases e : j = k
  · subst e
    rw [hs] at h1; rw [ht] at h2
    injection h1 with h1; injection h2 with h2
    rw [← h1, ← h2]; exact h
  · exact H j s' t' (by omega) h1 h2
def eqRS : List Rw → List Rw → Bool := eqL eqRw
def eqGp (x y : Gp) : Bool := decide (x.at_ = y.at_) && decide (x.to_ = y.to_) && eqRS x.rows y.rows
theorem eqRS_iff (l r : List Rw) : eqRS l r = true ↔ l = r := eqL_iff eqRw_iff l r
theorem eqGp_iff (x y : Gp) : eqGp x y = true ↔ x = y := by
  unfold eqGp
  simp only [Bool.and_eq_true, decide_eq_true_eq, eqRS_iff]
  exact ⟨fun h => Gp.ext_ h.1.1 h.1.2 h.2, fun h => by rw [h]; exact ⟨⟨rfl, rfl⟩, rfl⟩⟩
def eqGS : List Gp → List Gp → Bool := eqL eqGp

/-! How much they hold. -/
def totalR : List Rw → Nat
  | [] => 0
  | x :: l => x.line.size + totalR l
def bulkG (x : Gp) : Nat := x.rows.length + totalR x.rows
def totalG : List Gp → Nat
  | [] => 0
  | x :: l => bulkG x + totalG l
theorem totalG_append (a b : List Gp) : totalG (a ++ b) = totalG a + totalG b := by
  induction a with
  | nil => simp [totalG]
  | cons x a ih => simp [totalG, ih]; omega
theorem take_at {α : Type} {l : List α} {k : Nat} {x : α} (e : l[k]? = some x) : l.take (k + 1) = l.take k ++ [x] := by
  obtain ⟨h, e⟩ := List.getElem?_eq_some_iff.1 e
  rw [List.take_succ_eq_append_getElem h, e]
theorem totalG_take_le (l : List Gp) (k : Nat) : totalG (l.take k) ≤ totalG l := by
  have := totalG_append (l.take k) (l.drop k)
  rw [List.take_append_drop] at this; omega
theorem totalG_mem {l : List Gp} {x : Gp} (e : x ∈ l) : bulkG x ≤ totalG l := by
  obtain ⟨a, b, rfl⟩ := List.append_of_mem e
  rw [totalG_append]; simp [totalG]; omega

/-! Marks. -/
def blankGp : Gp := ⟨0, 0, []⟩
def markRw (k : Nat) : Rw := ⟨k, markT (k + 1)⟩
def marksR (k n : Nat) : List Rw := (List.range n).map fun i => markRw (k + 2 * i)
theorem marksR_len (k n : Nat) : (marksR k n).length = n := by simp [marksR]
theorem marksR_get (k n i : Nat) (h : i < n) : (marksR k n)[i]? = some (markRw (k + 2 * i)) := by simp [marksR, h]
def markGp (k : Nat) (x : Gp) : Gp := ⟨k, (k : Int) + 1, marksR (k + 2) x.rows.length⟩
def nextGp (k : Nat) (x : Gp) : Nat := k + 2 + 2 * x.rows.length
def marksGp (k : Nat) : List Gp → List Gp
  | [] => []
  | x :: l => markGp k x :: marksGp (nextGp k x) l
def endG (k : Nat) : List Gp → Nat
  | [] => k
  | x :: l => endG (nextGp k x) l
theorem marksGp_snoc (x : Gp) : ∀ (l : List Gp) (k : Nat), marksGp k (l ++ [x]) = marksGp k l ++ [markGp (endG k l) x]
  | [], k => rfl
  | y :: l, k => by simp [marksGp, endG, marksGp_snoc x l]
theorem endG_snoc (x : Gp) : ∀ (l : List Gp) (k : Nat), endG k (l ++ [x]) = nextGp (endG k l) x
  | [], k => rfl
  | y :: l, k => by simp [endG, endG_snoc x l]
theorem marksGp_len : ∀ (l : List Gp) (k : Nat), (marksGp k l).length = l.length
  | [], _ => rfl
  | x :: l, k => by simp [marksGp, marksGp_len l]
theorem endG_le : ∀ (l : List Gp) (k : Nat), endG k l ≤ k + 2 * l.length + 2 * totalG l
  | [], k => by simp [endG, totalG]
  | x :: l, k => by
    have := endG_le l (nextGp k x)
    simp only [endG, totalG, List.length_cons]
    unfold nextGp bulkG at *
    omega
theorem endG_take_le (l : List Gp) (i k : Nat) : endG k (l.take i) ≤ k + 2 * l.length + 2 * totalG l := by
  have h1 := endG_le (l.take i) k
  have h2 := totalG_take_le l i
  have h3 : (l.take i).length ≤ l.length := by simp; omega
  omega
/-- The first i are marked. -/
def mkToR (l : List Rw) (k i : Nat) : List Rw := marksR k i ++ l.drop i
theorem mkToR_zero (l : List Rw) (k : Nat) : mkToR l k 0 = l := by simp [mkToR, marksR]
theorem mkToR_all (l : List Rw) (k : Nat) {i : Nat} (h : l.length ≤ i) (h2 : i ≤ l.length) : mkToR l k i = marksR k l.length := by
  obtain rfl : i = l.length := by omega
  simp [mkToR]
theorem mkToR_len (l : List Rw) (k i : Nat) (h : i ≤ l.length) : (mkToR l k i).length = l.length := by simp [mkToR, marksR_len]; omega
theorem marksR_succ (k i : Nat) : marksR k (i + 1) = marksR k i ++ [markRw (k + 2 * i)] := by simp [marksR, List.range_succ]
theorem mkToR_get {l : List Rw} (k : Nat) {i : Nat} {x : Rw} (h : l[i]? = some x) : (mkToR l k i)[i]? = some x := by
  unfold mkToR
  rw [List.getElem?_append_right (by rw [marksR_len]; exact Nat.le_refl _), marksR_len, Nat.sub_self, List.getElem?_drop]
  simpa using h
theorem mkToR_set {l : List Rw} (k : Nat) {i : Nat} {x : Rw} (h : l[i]? = some x) : (mkToR l k i).set i (markRw (k + 2 * i)) = mkToR l k (i + 1) := by
  unfold mkToR
  obtain ⟨hi, e⟩ := List.getElem?_eq_some_iff.1 h
  rw [List.set_append_right _ _ (by rw [marksR_len]; exact Nat.le_refl _), marksR_len, Nat.sub_self, List.drop_eq_getElem_cons hi, List.set_cons_zero, marksR_succ, List.append_assoc, List.singleton_append]
def mkToG (l : List Gp) (k i : Nat) : List Gp := marksGp k (l.take i) ++ l.drop i
theorem mkToG_zero (l : List Gp) (k : Nat) : mkToG l k 0 = l := by simp [mkToG, marksGp]
theorem mkToG_all (l : List Gp) (k : Nat) {i : Nat} (h : l.length ≤ i) : mkToG l k i = marksGp k l := by simp [mkToG, List.take_of_length_le h, List.drop_eq_nil_of_le h]
theorem mkToG_len (l : List Gp) (k i : Nat) : (mkToG l k i).length = l.length := by simp [mkToG, marksGp_len]; omega
theorem mkToG_get {l : List Gp} (k : Nat) {i : Nat} {x : Gp} (h : l[i]? = some x) : (mkToG l k i)[i]? = some x := by
  obtain ⟨hi, e⟩ := List.getElem?_eq_some_iff.1 h
  unfold mkToG
  have hl : (marksGp k (l.take i)).length = i := by rw [marksGp_len, List.length_take]; omega
  rw [List.getElem?_append_right (by omega), hl, Nat.sub_self, List.getElem?_drop]
  simpa using h
theorem mkToG_set {l : List Gp} (k : Nat) {i : Nat} {x : Gp} (h : l[i]? = some x) : (mkToG l k i).set i (markGp (endG k (l.take i)) x) = mkToG l k (i + 1) := by
  obtain ⟨hi, e⟩ := List.getElem?_eq_some_iff.1 h
  unfold mkToG
  have hl : (marksGp k (l.take i)).length = i := by rw [marksGp_len, List.length_take]; omega
  rw [List.set_append_right _ _ (by omega), hl, Nat.sub_self, List.drop_eq_getElem_cons hi, List.set_cons_zero, take_at h, marksGp_snoc, List.append_assoc, List.singleton_append]
theorem marksGp_get {l : List Gp} (k : Nat) {i : Nat} {x : Gp} (h : l[i]? = some x) : (marksGp k l)[i]? = some (markGp (endG k (l.take i)) x) := by
  have h1 := mkToG_set k h
  have h2 : (mkToG l k (i + 1))[i]? = some (markGp (endG k (l.take i)) x) := by
    rw [← h1]
    have : i < (mkToG l k i).length := by rw [mkToG_len]; exact (List.getElem?_eq_some_iff.1 h).1
    simp [this]
  unfold mkToG at h2
  have hlt : i < (marksGp k (l.take (i + 1))).length := by
    rw [marksGp_len, List.length_take]
    have := (List.getElem?_eq_some_iff.1 h).1
    omega
  rw [List.getElem?_append_left hlt] at h2
  have e : ∀ (a b : List Gp) (k : Nat), marksGp k (a ++ b) = marksGp k a ++ marksGp (endG k a) b := by
    intro a
    induction a with
    | nil => intro b k; rfl
    | cons x a ih => intro b k; simp [marksGp, endG, ih]
  have e2 : marksGp k l = marksGp k (l.take (i + 1)) ++ marksGp (endG k (l.take (i + 1))) (l.drop (i + 1)) := by
    rw [← e, List.take_append_drop]
  rw [e2, List.getElem?_append_left hlt]
  exact h2

end Go.Proofs.YtkamenidgkjodaaGreatDoor.M

namespace Go.Proofs.YtkamenidgkjodaaGreatDoor
open Go.RowKit Go.ChangeShapes Go.WideShapes M

/-- Numbers and texts of a row that Go can hold. -/
structure RwOk (x : Rw) : Prop where
  kind : i64ok x.kind
  line : x.line.size ≤ maxLen

/-- A slice of rows that reads as a list. -/
structure Rws (w : World) (a : Option Addr) (n : Nat) (l : List Rw) : Prop where
  len : l.length = n
  lim : n ≤ maxLen
  ok : ∀ x ∈ l, RwOk x
  cell : ∀ k x, l[k]? = some x → ∃ b off, a = some ⟨b, off, none⟩ ∧ w.cell? ⟨b, off + k * 2, none⟩ = some (.int .i64 x.kind) ∧ w.cell? ⟨b, off + k * 2 + 1, none⟩ = some (.string x.line)
section
variable {w w' : World} {a : Option Addr} {n k : Nat} {l : List Rw}
theorem Rws.at_ (h : Rws w a n l) (hk : k < n) : ∃ b off x, a = some ⟨b, off, none⟩ ∧ l[k]? = some x ∧ w.cell? ⟨b, off + k * 2, none⟩ = some (.int .i64 x.kind) ∧ w.cell? ⟨b, off + k * 2 + 1, none⟩ = some (.string x.line) ∧ RwOk x := by
  have hl : k < l.length := by rw [h.len]; exact hk
  obtain ⟨b, off, e, r1, r2⟩ := h.cell k _ (List.getElem?_eq_getElem hl)
  exact ⟨b, off, _, e, List.getElem?_eq_getElem hl, r1, r2, h.ok _ (List.getElem_mem hl)⟩
theorem Rws.below (h : Rws w a n l) (hb : Below w.heap.size w w') : Rws w' a n l :=
  ⟨h.len, h.lim, h.ok, fun k x hx => by obtain ⟨b, off, e, r1, r2⟩ := h.cell k x hx; exact ⟨b, off, e, cell_keep hb r1, cell_keep hb r2⟩⟩
end

/-- The cells of a row. -/
def rwRow (x : Rw) : List D := [.lit (.int .i64 x.kind), .lit (.string x.line)]
theorem rwRow_blocks (l : List Rw) : D.blocksL (l.map rwRow).flatten = [] := by
  induction l with
  | nil => rfl
  | cons x l ih => rw [List.map_cons, List.flatten_cons, D.blocksL_append, ih]; rfl
theorem rwRow_wide (l : List Rw) : ∀ r ∈ l.map rwRow, r.length = 2 := fun r hr => by
  obtain ⟨x, _, rfl⟩ := List.mem_map.1 hr
  rfl
/-- A slice of rows, as a datum. -/
def rowsD (v : Value) (l : List Rw) : D := .sl v 62 2 l.length (l.map rwRow).flatten
theorem rowsD_blocks (v : Value) (l : List Rw) : (rowsD v l).blocks = v.ownBlock.toList := by
  simp [rowsD, D.blocks, rwRow_blocks]

/-- A slice of rows of the call's own. -/
structure OwnRw (w : World) (base : Nat) (v : Value) (l : List Rw) : Prop where
  own : OwnR w base v 62 2 (l.map rwRow)
  ok : ∀ x ∈ l, RwOk x
section
variable {S : Nat → Prop} {w w' : World} {base n cap g k : Nat} {v u : Value} {A : Option Addr} {l : List Rw}
theorem OwnRw.blk (h : v.ownBlock = some g) : BlkR v (l.map rwRow) g := List.mem_append.2 (.inl (by simp [h]))
theorem OwnRw.only (h : BlkR v (l.map rwRow) g) : v.ownBlock = some g := by
  unfold BlkR at h
  rw [rwRow_blocks, List.append_nil] at h
  simpa using h
theorem OwnRw.lt (h : OwnRw w base v l) (hg : v.ownBlock = some g) : base ≤ g ∧ g < w.heap.size := h.own.lt (OwnRw.blk hg)
theorem OwnRw.form (h : OwnRw w base v l) (hn : l.length = n) : ∃ A cap, v = .slice A n cap ∧ n ≤ cap ∧ cap ≤ maxLen := h.own.form (by rw [List.length_map]; exact hn)
theorem OwnRw.wrote (h : OwnRw w base v l) (hw : Wrote S w w') (hne : ∀ g, v.ownBlock = some g → ¬ S g) : OwnRw w' base v l := ⟨h.own.wrote hw (fun g hg => hne g (OwnRw.only hg)), h.ok⟩
theorem OwnRw.below (h : OwnRw w base v l) (hb : Below w.heap.size w w') : OwnRw w' base v l := ⟨h.own.below hb, h.ok⟩
theorem OwnRw.more {b2 : Nat} (h : OwnRw w base v l) (hb : b2 ≤ base) : OwnRw w b2 v l := ⟨h.own.more hb, h.ok⟩
theorem OwnRw.nil_ : OwnRw w base (.slice none 0 0) [] := ⟨OwnR.nil_, fun x e => by simp at e⟩
theorem OwnRw.datum (h : OwnRw w base v l) : Owns w base (rowsD v l) := by
  have := h.own.own
  rw [List.length_map] at this
  exact this
theorem D.own_rows (h : (rowsD v l).own w base) (hs : ∀ x ∈ l, RwOk x) : OwnRw w base v l := by
  refine ⟨⟨⟨?_, ?_⟩, rwRow_wide l⟩, hs⟩
  · rw [List.length_map]; exact h
  · rw [List.length_map]
    have : (D.sl v 62 2 l.length (l.map rwRow).flatten).blocks = v.ownBlock.toList := rowsD_blocks v l
    rw [this]
    cases v.ownBlock <;> simp
theorem OwnRw.at_ (h : OwnRw w base (.slice A n cap) l) (hk : k < n) : ∃ g x, A = some ⟨g, 0, none⟩ ∧ base ≤ g ∧ g < w.heap.size ∧ l[k]? = some x ∧ w.cell? ⟨g, k * 2, none⟩ = some (.int .i64 x.kind) ∧ w.cell? ⟨g, k * 2 + 1, none⟩ = some (.string x.line) ∧ RwOk x ∧ (∀ j, w.frozen? ⟨g, j, none⟩ = false) := by
  obtain ⟨g, r, rfl, hb, hg, hr⟩ := h.own.addr hk
  have hl := h.own.len
  rw [List.length_map] at hl
  have hx : l[k]? = some (l[k]'(by omega)) := List.getElem?_eq_getElem (by omega)
  have hr2 : (l.map rwRow)[k]? = some (rwRow (l[k]'(by omega))) := by rw [List.getElem?_map, hx]; rfl
  exact ⟨g, _, rfl, hb, hg, hx, h.own.cell hr2 (j := 0) rfl, h.own.cell hr2 (j := 1) rfl, h.ok _ (List.mem_of_getElem? hx), h.own.free⟩
theorem OwnRw.len_ (h : OwnRw w base (.slice A n cap) l) : l.length = n := by have := h.own.len; rwa [List.length_map] at this
theorem OwnRw.rws (h : OwnRw w base (.slice A n cap) l) : Rws w A n l := by
  obtain ⟨A', cap', e, h1, h2⟩ := h.form h.len_
  have hl := h.len_
  refine ⟨hl, by omega, h.ok, fun k x hx => ?_⟩
  have hk : k < n := by rw [← hl]; exact (List.getElem?_eq_some_iff.1 hx).1
  obtain ⟨g, y, rfl, _, _, hy, q0, q1, _, _⟩ := h.at_ hk
  rw [hx] at hy
  injection hy with hy
  subst hy
  exact ⟨g, 0, rfl, by rw [Nat.zero_add]; exact q0, by rw [Nat.zero_add]; exact q1⟩
end

/-! Groups. -/

/-- Numbers of a group that Go can hold, and its rows. -/
structure GpOk (x : Gp) : Prop where
  at_ : i64ok x.at_
  to_ : i64ok x.to_
  rows : ∀ r ∈ x.rows, RwOk r

/-- A slice of groups that reads as a list. -/
structure Gps (w : World) (a : Option Addr) (n : Nat) (l : List Gp) : Prop where
  len : l.length = n
  lim : n ≤ maxLen
  cell : ∀ k x, l[k]? = some x → ∃ b off A m c, a = some ⟨b, off, none⟩ ∧ w.cell? ⟨b, off + k * 3, none⟩ = some (.int .i64 x.at_) ∧ w.cell? ⟨b, off + k * 3 + 1, none⟩ = some (.int .i64 x.to_) ∧ w.cell? ⟨b, off + k * 3 + 2, none⟩ = some (.slice A m c) ∧ Rws w A m x.rows ∧ m ≤ c ∧ GpOk x
section
variable {w w' : World} {a : Option Addr} {n k : Nat} {l : List Gp}
theorem Gps.at_ (h : Gps w a n l) (hk : k < n) : ∃ b off A m c x, a = some ⟨b, off, none⟩ ∧ l[k]? = some x ∧ w.cell? ⟨b, off + k * 3, none⟩ = some (.int .i64 x.at_) ∧ w.cell? ⟨b, off + k * 3 + 1, none⟩ = some (.int .i64 x.to_) ∧ w.cell? ⟨b, off + k * 3 + 2, none⟩ = some (.slice A m c) ∧ Rws w A m x.rows ∧ m ≤ c ∧ GpOk x := by
  have hl : k < l.length := by rw [h.len]; exact hk
  obtain ⟨b, off, A, m, c, e, r⟩ := h.cell k _ (List.getElem?_eq_getElem hl)
  exact ⟨b, off, A, m, c, _, e, List.getElem?_eq_getElem hl, r⟩
theorem Gps.below (h : Gps w a n l) (hb : Below w.heap.size w w') : Gps w' a n l :=
  ⟨h.len, h.lim, fun k x hx => by
    obtain ⟨b, off, A, m, c, e, r0, r1, r2, r3, r4⟩ := h.cell k x hx
    exact ⟨b, off, A, m, c, e, cell_keep hb r0, cell_keep hb r1, cell_keep hb r2, r3.below hb, r4⟩⟩
end

/-- The cells of a group. -/
def gpRow (x : Gp) (u : Value) : List D := [.lit (.int .i64 x.at_), .lit (.int .i64 x.to_), rowsD u x.rows]

/-- A slice of groups of the call's own: the array and each Rows in blocks of their own. -/
structure OwnGp (w : World) (base : Nat) (v : Value) (l : List Gp) (rows : List (List D)) : Prop where
  len : rows.length = l.length
  own : OwnR w base v 60 3 rows
  row : ∀ (k : Nat) r x, rows[k]? = some r → l[k]? = some x → ∃ u, r = gpRow x u
  ok : ∀ x ∈ l, GpOk x
section
variable {S : Nat → Prop} {w w' : World} {base n cap g k : Nat} {v u : Value} {A : Option Addr} {l : List Gp} {rows : List (List D)}
theorem OwnGp.lt (h : OwnGp w base v l rows) (hg : BlkR v rows g) : base ≤ g ∧ g < w.heap.size := h.own.lt hg
theorem OwnGp.form (h : OwnGp w base v l rows) (hn : l.length = n) : ∃ A cap, v = .slice A n cap ∧ n ≤ cap ∧ cap ≤ maxLen := h.own.form (h.len.trans hn)
theorem OwnGp.wrote (h : OwnGp w base v l rows) (hw : Wrote S w w') (hne : ∀ g, BlkR v rows g → ¬ S g) : OwnGp w' base v l rows := ⟨h.len, h.own.wrote hw hne, h.row, h.ok⟩
theorem OwnGp.below (h : OwnGp w base v l rows) (hb : Below w.heap.size w w') : OwnGp w' base v l rows := ⟨h.len, h.own.below hb, h.row, h.ok⟩
theorem OwnGp.more {b2 : Nat} (h : OwnGp w base v l rows) (hb : b2 ≤ base) : OwnGp w b2 v l rows := ⟨h.len, h.own.more hb, h.row, h.ok⟩
theorem OwnGp.nil_ : OwnGp w base (.slice none 0 0) [] [] := ⟨rfl, OwnR.nil_, fun k r x e => by simp at e, fun x e => by simp at e⟩
theorem OwnGp.len_ (h : OwnGp w base (.slice A n cap) l rows) : l.length = n := by rw [← h.len]; exact h.own.len
theorem OwnGp.at_ (h : OwnGp w base (.slice A n cap) l rows) (hk : k < n) : ∃ g x a1 m1 c1, A = some ⟨g, 0, none⟩ ∧ base ≤ g ∧ g < w.heap.size ∧ l[k]? = some x ∧ rows[k]? = some (gpRow x (.slice a1 m1 c1)) ∧
    w.cell? ⟨g, k * 3, none⟩ = some (.int .i64 x.at_) ∧ w.cell? ⟨g, k * 3 + 1, none⟩ = some (.int .i64 x.to_) ∧ w.cell? ⟨g, k * 3 + 2, none⟩ = some (.slice a1 m1 c1) ∧ OwnRw w base (.slice a1 m1 c1) x.rows ∧ m1 ≤ c1 ∧ GpOk x ∧ (∀ j, w.frozen? ⟨g, j, none⟩ = false) := by
  obtain ⟨g, r, rfl, hb, hg, hr⟩ := h.own.addr hk
  have hl := h.own.len
  have hkp : k < l.length := by rw [← h.len, hl]; exact hk
  have hx : l[k]? = some l[k] := List.getElem?_eq_getElem hkp
  have hok := h.ok _ (List.mem_of_getElem? hx)
  obtain ⟨u, rfl⟩ := h.row k r _ hr hx
  have o1 := D.own_rows (h.own.datum hr (j := 2) rfl) hok.rows
  obtain ⟨a1, c1, rfl, hm1, _⟩ := o1.form rfl
  exact ⟨g, _, a1, _, c1, rfl, hb, hg, hx, hr, h.own.cell hr (j := 0) rfl, h.own.cell hr (j := 1) rfl, h.own.cell hr (j := 2) rfl, o1, hm1, hok, h.own.free⟩
theorem OwnGp.gps (h : OwnGp w base (.slice A n cap) l rows) : Gps w A n l := by
  obtain ⟨A', cap', e, h1, h2⟩ := h.own.form rfl
  injection e with e1 e2 e3
  have hl := h.len_
  have hn := h.own.len
  refine ⟨hl, by omega, fun k x hx => ?_⟩
  have hk : k < n := by rw [← hl]; exact (List.getElem?_eq_some_iff.1 hx).1
  obtain ⟨g, y, a1, m1, c1, rfl, _, _, hy, _, q0, q1, q2, o1, hm1, hok, _⟩ := h.at_ hk
  rw [hx] at hy
  injection hy with hy
  subst hy
  exact ⟨g, 0, a1, m1, c1, rfl, by rw [Nat.zero_add]; exact q0, by rw [Nat.zero_add]; exact q1, by rw [Nat.zero_add]; exact q2, o1.rws, hm1, hok⟩
/-- One group is appended. -/
theorem OwnGp.snoc {v' : Value} {x : Gp} (h : OwnGp w base v l rows) (hx : GpOk x) (ho : OwnR w' base v' 60 3 (rows ++ [gpRow x u])) : OwnGp w' base v' (l ++ [x]) (rows ++ [gpRow x u]) := by
  refine ⟨by simp [h.len], ho, fun k r y hr hy => ?_, fun y hy => ?_⟩
  · rcases list_snoc_get hr with ⟨hk, hr⟩ | ⟨hk, rfl⟩
    · rcases list_snoc_get hy with ⟨_, hy⟩ | ⟨hk2, _⟩
      · exact h.row k r y hr hy
      · rw [h.len] at hk; omega
    · rcases list_snoc_get hy with ⟨hk2, _⟩ | ⟨_, rfl⟩
      · rw [h.len] at hk; omega
      · exact ⟨u, rfl⟩
  · rcases List.mem_append.1 hy with h5 | h5
    · exact h.ok y h5
    · simp at h5; rw [h5]; exact hx
end

end Go.Proofs.YtkamenidgkjodaaGreatDoor
