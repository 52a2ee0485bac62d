/-
  Rows and groups (chapter 6): mathematics of lists of them, and words for memory: a slice of rows, of groups, that reads as a list; one of the call's own.
-/
import Derived.Test.YtkamenidgkjodaaGreatDoorQaURows
import Derived.Test.YtkamenidgkjodaaGreatDoorQaHMems
import Derived.Test.YtkamenidgkjodaaGreatDoorQaBase
import Derived.Test.YtkamenidgkjodaaGreatDoorQaHApp
set_option linter.unusedSimpArgs false
set_option linter.unusedVariables false
namespace Go.Proofs.YtkamenidgkjodaaGreatDoor.M
open Go

/-- A row. -/
structure Rw where
  kind : Int
  line : ByteArray
/-- A group. -/
structure Gp where
  at_ : Int
  to_ : Int
  rows : List Rw
theorem Gp.ext_ {x y : Gp} (h1 : x.at_ = y.at_) (h2 : x.to_ = y.to_) (h3 : x.rows = y.rows) : x = y := by
  cases x; cases y; simp_all

/-! How much they hold. -/
def totalR : List Rw → Nat
  | [] => 0
  | x :: l => x.line.size + totalR l
def bulkG (x : Gp) : Nat := x.rows.length + totalR x.rows
def totalG : List Gp → Nat
  | [] => 0
  | x :: l => bulkG x + totalG l
theorem totalR_append (a b : List Rw) : totalR (a ++ b) = totalR a + totalR b := by
  induction a with
  | nil => simp [totalR]
  | cons x a ih => simp [totalR, ih]; omega
theorem totalG_append (a b : List Gp) : totalG (a ++ b) = totalG a + totalG b := by
  induction a with
  | nil => simp [totalG]
  | cons x a ih => simp [totalG, ih]; omega
theorem take_at {α : Type} {l : List α} {k : Nat} {x : α} (e : l[k]? = some x) : l.take (k + 1) = l.take k ++ [x] := by
  obtain ⟨h, e⟩ := List.getElem?_eq_some_iff.1 e
  rw [List.take_succ_eq_append_getElem h, e]
theorem totalG_mem {l : List Gp} {x : Gp} (e : x ∈ l) : bulkG x ≤ totalG l := by
  obtain ⟨a, b, rfl⟩ := List.append_of_mem e
  rw [totalG_append]; simp [totalG]; omega

/-! Marks. -/
def blankGp : Gp := ⟨0, 0, []⟩

end Go.Proofs.YtkamenidgkjodaaGreatDoor.M

namespace Go.Proofs.YtkamenidgkjodaaGreatDoor
open Go.RowKit Go.ChangeShapes Go.WideShapes M

/-- Numbers and texts of a row that Go can hold. -/
structure RwOk (x : Rw) : Prop where
  kind : i64ok x.kind
  line : x.line.size ≤ maxLen

/-- A slice of rows that reads as a list. -/
structure Rws (w : World) (a : Option Addr) (n : Nat) (l : List Rw) : Prop where
  len : l.length = n
  lim : n ≤ maxLen
  ok : ∀ x ∈ l, RwOk x
  cell : ∀ k x, l[k]? = some x → ∃ b off, a = some ⟨b, off, none⟩ ∧ w.cell? ⟨b, off + k * 2, none⟩ = some (.int .i64 x.kind) ∧ w.cell? ⟨b, off + k * 2 + 1, none⟩ = some (.string x.line)
section
variable {w w' : World} {a : Option Addr} {n k : Nat} {l : List Rw}
theorem Rws.at_ (h : Rws w a n l) (hk : k < n) : ∃ b off x, a = some ⟨b, off, none⟩ ∧ l[k]? = some x ∧ w.cell? ⟨b, off + k * 2, none⟩ = some (.int .i64 x.kind) ∧ w.cell? ⟨b, off + k * 2 + 1, none⟩ = some (.string x.line) ∧ RwOk x := by
  have hl : k < l.length := by rw [h.len]; exact hk
  obtain ⟨b, off, e, r1, r2⟩ := h.cell k _ (List.getElem?_eq_getElem hl)
  exact ⟨b, off, _, e, List.getElem?_eq_getElem hl, r1, r2, h.ok _ (List.getElem_mem hl)⟩
theorem Rws.below (h : Rws w a n l) (hb : Below w.heap.size w w') : Rws w' a n l :=
  ⟨h.len, h.lim, h.ok, fun k x hx => by obtain ⟨b, off, e, r1, r2⟩ := h.cell k x hx; exact ⟨b, off, e, cell_keep hb r1, cell_keep hb r2⟩⟩
end

/-- The cells of a row. -/
def rwRow (x : Rw) : List D := [.lit (.int .i64 x.kind), .lit (.string x.line)]
theorem rwRow_blocks (l : List Rw) : D.blocksL (l.map rwRow).flatten = [] := by
  induction l with
  | nil => rfl
  | cons x l ih => rw [List.map_cons, List.flatten_cons, D.blocksL_append, ih]; rfl
theorem rwRow_ownL (w : World) (base : Nat) (l : List Rw) : D.ownL w base (l.map rwRow).flatten := by
  induction l with
  | nil => trivial
  | cons x l ih => rw [List.map_cons, List.flatten_cons, D.ownL_append]; exact ⟨⟨rfl, rfl, trivial⟩, ih⟩
theorem rwRow_wide (l : List Rw) : ∀ r ∈ l.map rwRow, r.length = 2 := fun r hr => by
  obtain ⟨x, _, rfl⟩ := List.mem_map.1 hr
  rfl
/-- A slice of rows, as a datum. -/
def rowsD (v : Value) (l : List Rw) : D := .sl v 62 2 l.length (l.map rwRow).flatten
theorem rowsD_blocks (v : Value) (l : List Rw) : (rowsD v l).blocks = v.ownBlock.toList := by
  simp [rowsD, D.blocks, rwRow_blocks]

/-- A slice of rows of the call's own. -/
structure OwnRw (w : World) (base : Nat) (v : Value) (l : List Rw) : Prop where
  own : OwnR w base v 62 2 (l.map rwRow)
  ok : ∀ x ∈ l, RwOk x
section
variable {S : Nat → Prop} {w w' : World} {base n cap g k : Nat} {v u : Value} {A : Option Addr} {l : List Rw}
theorem OwnRw.blk (h : v.ownBlock = some g) : BlkR v (l.map rwRow) g := List.mem_append.2 (.inl (by simp [h]))
theorem OwnRw.only (h : BlkR v (l.map rwRow) g) : v.ownBlock = some g := by
  unfold BlkR at h
  rw [rwRow_blocks, List.append_nil] at h
  simpa using h
theorem OwnRw.lt (h : OwnRw w base v l) (hg : v.ownBlock = some g) : base ≤ g ∧ g < w.heap.size := h.own.lt (OwnRw.blk hg)
theorem OwnRw.form (h : OwnRw w base v l) (hn : l.length = n) : ∃ A cap, v = .slice A n cap ∧ n ≤ cap ∧ cap ≤ maxLen := h.own.form (by rw [List.length_map]; exact hn)
theorem OwnRw.wrote (h : OwnRw w base v l) (hw : Wrote S w w') (hne : ∀ g, v.ownBlock = some g → ¬ S g) : OwnRw w' base v l := ⟨h.own.wrote hw (fun g hg => hne g (OwnRw.only hg)), h.ok⟩
theorem OwnRw.below (h : OwnRw w base v l) (hb : Below w.heap.size w w') : OwnRw w' base v l := ⟨h.own.below hb, h.ok⟩
theorem OwnRw.more {b2 : Nat} (h : OwnRw w base v l) (hb : b2 ≤ base) : OwnRw w b2 v l := ⟨h.own.more hb, h.ok⟩
theorem OwnRw.nil_ : OwnRw w base (.slice none 0 0) [] := ⟨OwnR.nil_, fun x e => by simp at e⟩
theorem OwnRw.datum (h : OwnRw w base v l) : Owns w base (rowsD v l) := by
  have := h.own.own
  rw [List.length_map] at this
  exact this
theorem D.own_rows (h : (rowsD v l).own w base) (hs : ∀ x ∈ l, RwOk x) : OwnRw w base v l := by
  refine ⟨⟨⟨?_, ?_⟩, rwRow_wide l⟩, hs⟩
  · rw [List.length_map]; exact h
  · rw [List.length_map]
    have : (D.sl v 62 2 l.length (l.map rwRow).flatten).blocks = v.ownBlock.toList := rowsD_blocks v l
    rw [this]
    cases v.ownBlock <;> simp
theorem OwnRw.at_ (h : OwnRw w base (.slice A n cap) l) (hk : k < n) : ∃ g x, A = some ⟨g, 0, none⟩ ∧ base ≤ g ∧ g < w.heap.size ∧ l[k]? = some x ∧ w.cell? ⟨g, k * 2, none⟩ = some (.int .i64 x.kind) ∧ w.cell? ⟨g, k * 2 + 1, none⟩ = some (.string x.line) ∧ RwOk x ∧ (∀ j, w.frozen? ⟨g, j, none⟩ = false) := by
  obtain ⟨g, r, rfl, hb, hg, hr⟩ := h.own.addr hk
  have hl := h.own.len
  rw [List.length_map] at hl
  have hx : l[k]? = some (l[k]'(by omega)) := List.getElem?_eq_getElem (by omega)
  have hr2 : (l.map rwRow)[k]? = some (rwRow (l[k]'(by omega))) := by rw [List.getElem?_map, hx]; rfl
  exact ⟨g, _, rfl, hb, hg, hx, h.own.cell hr2 (j := 0) rfl, h.own.cell hr2 (j := 1) rfl, h.ok _ (List.mem_of_getElem? hx), h.own.free⟩
theorem OwnRw.len_ (h : OwnRw w base (.slice A n cap) l) : l.length = n := by have := h.own.len; rwa [List.length_map] at this
theorem OwnRw.rws (h : OwnRw w base (.slice A n cap) l) : Rws w A n l := by
  obtain ⟨A', cap', e, h1, h2⟩ := h.form h.len_
  have hl := h.len_
  refine ⟨hl, by omega, h.ok, fun k x hx => ?_⟩
  have hk : k < n := by rw [← hl]; exact (List.getElem?_eq_some_iff.1 hx).1
  obtain ⟨g, y, rfl, _, _, hy, q0, q1, _, _⟩ := h.at_ hk
  rw [hx] at hy
  injection hy with hy
  subst hy
  exact ⟨g, 0, rfl, by rw [Nat.zero_add]; exact q0, by rw [Nat.zero_add]; exact q1⟩
end

/-! Groups. -/

/-- Numbers of a group that Go can hold, and its rows. -/
structure GpOk (x : Gp) : Prop where
  at_ : i64ok x.at_
  to_ : i64ok x.to_
  rows : ∀ r ∈ x.rows, RwOk r

/-- A slice of groups that reads as a list. -/
structure Gps (w : World) (a : Option Addr) (n : Nat) (l : List Gp) : Prop where
  len : l.length = n
  lim : n ≤ maxLen
  cell : ∀ k x, l[k]? = some x → ∃ b off A m c, a = some ⟨b, off, none⟩ ∧ w.cell? ⟨b, off + k * 3, none⟩ = some (.int .i64 x.at_) ∧ w.cell? ⟨b, off + k * 3 + 1, none⟩ = some (.int .i64 x.to_) ∧ w.cell? ⟨b, off + k * 3 + 2, none⟩ = some (.slice A m c) ∧ Rws w A m x.rows ∧ m ≤ c ∧ GpOk x
section
variable {w w' : World} {a : Option Addr} {n k : Nat} {l : List Gp}
theorem Gps.at_ (h : Gps w a n l) (hk : k < n) : ∃ b off A m c x, a = some ⟨b, off, none⟩ ∧ l[k]? = some x ∧ w.cell? ⟨b, off + k * 3, none⟩ = some (.int .i64 x.at_) ∧ w.cell? ⟨b, off + k * 3 + 1, none⟩ = some (.int .i64 x.to_) ∧ w.cell? ⟨b, off + k * 3 + 2, none⟩ = some (.slice A m c) ∧ Rws w A m x.rows ∧ m ≤ c ∧ GpOk x := by
  have hl : k < l.length := by rw [h.len]; exact hk
  obtain ⟨b, off, A, m, c, e, r⟩ := h.cell k _ (List.getElem?_eq_getElem hl)
  exact ⟨b, off, A, m, c, _, e, List.getElem?_eq_getElem hl, r⟩
theorem Gps.below (h : Gps w a n l) (hb : Below w.heap.size w w') : Gps w' a n l :=
  ⟨h.len, h.lim, fun k x hx => by
    obtain ⟨b, off, A, m, c, e, r0, r1, r2, r3, r4⟩ := h.cell k x hx
    exact ⟨b, off, A, m, c, e, cell_keep hb r0, cell_keep hb r1, cell_keep hb r2, r3.below hb, r4⟩⟩
end

/-- The cells of a group. -/
def gpRow (x : Gp) (u : Value) : List D := [.lit (.int .i64 x.at_), .lit (.int .i64 x.to_), rowsD u x.rows]

/-- A slice of groups of the call's own: the array and each Rows in blocks of their own. -/
structure OwnGp (w : World) (base : Nat) (v : Value) (l : List Gp) (rows : List (List D)) : Prop where
  len : rows.length = l.length
  own : OwnR w base v 60 3 rows
  row : ∀ (k : Nat) r x, rows[k]? = some r → l[k]? = some x → ∃ u, r = gpRow x u
  ok : ∀ x ∈ l, GpOk x
section
variable {S : Nat → Prop} {w w' : World} {base n cap g k : Nat} {v u : Value} {A : Option Addr} {l : List Gp} {rows : List (List D)}
theorem OwnGp.lt (h : OwnGp w base v l rows) (hg : BlkR v rows g) : base ≤ g ∧ g < w.heap.size := h.own.lt hg
theorem OwnGp.form (h : OwnGp w base v l rows) (hn : l.length = n) : ∃ A cap, v = .slice A n cap ∧ n ≤ cap ∧ cap ≤ maxLen := h.own.form (h.len.trans hn)
theorem OwnGp.wrote (h : OwnGp w base v l rows) (hw : Wrote S w w') (hne : ∀ g, BlkR v rows g → ¬ S g) : OwnGp w' base v l rows := ⟨h.len, h.own.wrote hw hne, h.row, h.ok⟩
theorem OwnGp.below (h : OwnGp w base v l rows) (hb : Below w.heap.size w w') : OwnGp w' base v l rows := ⟨h.len, h.own.below hb, h.row, h.ok⟩
theorem OwnGp.more {b2 : Nat} (h : OwnGp w base v l rows) (hb : b2 ≤ base) : OwnGp w b2 v l rows := ⟨h.len, h.own.more hb, h.row, h.ok⟩
theorem OwnGp.nil_ : OwnGp w base (.slice none 0 0) [] [] := ⟨rfl, OwnR.nil_, fun k r x e => by simp at e, fun x e => by simp at e⟩
theorem OwnGp.len_ (h : OwnGp w base (.slice A n cap) l rows) : l.length = n := by rw [← h.len]; exact h.own.len
theorem OwnGp.at_ (h : OwnGp w base (.slice A n cap) l rows) (hk : k < n) : ∃ g x a1 m1 c1, A = some ⟨g, 0, none⟩ ∧ base ≤ g ∧ g < w.heap.size ∧ l[k]? = some x ∧ rows[k]? = some (gpRow x (.slice a1 m1 c1)) ∧
    w.cell? ⟨g, k * 3, none⟩ = some (.int .i64 x.at_) ∧ w.cell? ⟨g, k * 3 + 1, none⟩ = some (.int .i64 x.to_) ∧ w.cell? ⟨g, k * 3 + 2, none⟩ = some (.slice a1 m1 c1) ∧ OwnRw w base (.slice a1 m1 c1) x.rows ∧ m1 ≤ c1 ∧ GpOk x ∧ (∀ j, w.frozen? ⟨g, j, none⟩ = false) := by
  obtain ⟨g, r, rfl, hb, hg, hr⟩ := h.own.addr hk
  have hl := h.own.len
  have hkp : k < l.length := by rw [← h.len, hl]; exact hk
  have hx : l[k]? = some l[k] := List.getElem?_eq_getElem hkp
  have hok := h.ok _ (List.mem_of_getElem? hx)
  obtain ⟨u, rfl⟩ := h.row k r _ hr hx
  have o1 := D.own_rows (h.own.datum hr (j := 2) rfl) hok.rows
  obtain ⟨a1, c1, rfl, hm1, _⟩ := o1.form rfl
  exact ⟨g, _, a1, _, c1, rfl, hb, hg, hx, hr, h.own.cell hr (j := 0) rfl, h.own.cell hr (j := 1) rfl, h.own.cell hr (j := 2) rfl, o1, hm1, hok, h.own.free⟩
theorem OwnGp.gps (h : OwnGp w base (.slice A n cap) l rows) : Gps w A n l := by
  obtain ⟨A', cap', e, h1, h2⟩ := h.own.form rfl
  injection e with e1 e2 e3
  have hl := h.len_
  have hn := h.own.len
  refine ⟨hl, by omega, fun k x hx => ?_⟩
  have hk : k < n := by rw [← hl]; exact (List.getElem?_eq_some_iff.1 hx).1
  obtain ⟨g, y, a1, m1, c1, rfl, _, _, hy, _, q0, q1, q2, o1, hm1, hok, _⟩ := h.at_ hk
  rw [hx] at hy
  injection hy with hy
  subst hy
  exact ⟨g, 0, a1, m1, c1, rfl, by rw [Nat.zero_add]; exact q0, by rw [Nat.zero_add]; exact q1, by rw [Nat.zero_add]; exact q2, o1.rws, hm1, hok⟩
/-- One group is appended. -/
theorem OwnGp.snoc {v' : Value} {x : Gp} (h : OwnGp w base v l rows) (hx : GpOk x) (ho : OwnR w' base v' 60 3 (rows ++ [gpRow x u])) : OwnGp w' base v' (l ++ [x]) (rows ++ [gpRow x u]) := by
  refine ⟨by simp [h.len], ho, fun k r y hr hy => ?_, fun y hy => ?_⟩
  · rcases list_snoc_get hr with ⟨hk, hr⟩ | ⟨hk, rfl⟩
    · rcases list_snoc_get hy with ⟨_, hy⟩ | ⟨hk2, _⟩
      · exact h.row k r y hr hy
      · rw [h.len] at hk; omega
    · rcases list_snoc_get hy with ⟨hk2, _⟩ | ⟨_, rfl⟩
      · rw [h.len] at hk; omega
      · exact ⟨u, rfl⟩
  · rcases List.mem_append.1 hy with h5 | h5
    · exact h.ok y h5
    · simp at h5; rw [h5]; exact hx
end

end Go.Proofs.YtkamenidgkjodaaGreatDoor
