/-
  Rows and groups (chapter 6): mathematics of lists of them, and words for memory: a slice of rows, of groups, that reads as a list; one of the call's own.
  The laws' own small functions on rows: counted, copied, compared, marked, held.
  The laws' own small functions on groups: counted, copied, compared, marked, held.
  The laws' own small functions on groups: marked, held.
  Groups (chapter 6): mathematics of good groups.
-/
import Derived.Test.YtkamenidgkjodaaGreatDoorQbURows
import Derived.Test.YtkamenidgkjodaaGreatDoorQbHMems
import Derived.Test.YtkamenidgkjodaaGreatDoorQbBase
import Derived.Test.YtkamenidgkjodaaGreatDoorQbHGoods
import Derived.Test.YtkamenidgkjodaaGreatDoorQbMemT
set_option linter.unusedSimpArgs false
set_option linter.unusedVariables false
namespace Go.Proofs.YtkamenidgkjodaaGreatDoor.M
open Go

structure Rw where
  kind : Int
  line : ByteArray
structure Gp where
  at_ : Int
  to_ : Int
  rows : List Rw
theorem Rw.ext_ {x y : Rw} (h1 : x.kind = y.kind) (h2 : x.line = y.line) : x = y := by
  cases x; cases y; simp_all
theorem Gp.ext_ {x y : Gp} (h1 : x.at_ = y.at_) (h2 : x.to_ = y.to_) (h3 : x.rows = y.rows) : x = y := by
  cases x; cases y; simp_all

def totalR : List Rw → Nat
  | [] => 0
  | x :: l => x.line.size + totalR l
def bulkG (x : Gp) : Nat := x.rows.length + totalR x.rows
def totalG : List Gp → Nat
  | [] => 0
  | x :: l => bulkG x + totalG l
theorem totalR_append (a b : List Rw) : totalR (a ++ b) = totalR a + totalR b := by
  induction a with
  | nil => simp [totalR]
  | cons x a ih => simp [totalR, ih]; omega
theorem totalG_append (a b : List Gp) : totalG (a ++ b) = totalG a + totalG b := by
  induction a with
  | nil => simp [totalG]
  | cons x a ih => simp [totalG, ih]; omega
theorem take_at {α : Type} {l : List α} {k : Nat} {x : α} (e : l[k]? = some x) : l.take (k + 1) = l.take k ++ [x] := by
  obtain ⟨h, e⟩ := List.getElem?_eq_some_iff.1 e
  rw [List.take_succ_eq_append_getElem h, e]
theorem totalG_mem {l : List Gp} {x : Gp} (e : x ∈ l) : bulkG x ≤ totalG l := by
  obtain ⟨a, b, rfl⟩ := List.append_of_mem e
  rw [totalG_append]; simp [totalG]; omega

def blankGp : Gp := ⟨0, 0, []⟩

end Go.Proofs.YtkamenidgkjodaaGreatDoor.M

namespace Go.Proofs.YtkamenidgkjodaaGreatDoor
open Go.RowKit Go.ChangeShapes Go.WideShapes M

structure RwOk (x : Rw) : Prop where
  kind : i64ok x.kind
  line : x.line.size ≤ maxLen

structure Rws (w : World) (a : Option Addr) (n : Nat) (l : List Rw) : Prop where
  len : l.length = n
  lim : n ≤ maxLen
  ok : ∀ x ∈ l, RwOk x
  cell : ∀ k x, l[k]? = some x → ∃ b off, a = some ⟨b, off, none⟩ ∧ w.cell? ⟨b, off + k * 2, none⟩ = some (.int .i64 x.kind) ∧ w.cell? ⟨b, off + k * 2 + 1, none⟩ = some (.string x.line)
section
variable {w w' : World} {a : Option Addr} {n k : Nat} {l : List Rw}
theorem Rws.at_ (h : Rws w a n l) (hk : k < n) : ∃ b off x, a = some ⟨b, off, none⟩ ∧ l[k]? = some x ∧ w.cell? ⟨b, off + k * 2, none⟩ = some (.int .i64 x.kind) ∧ w.cell? ⟨b, off + k * 2 + 1, none⟩ = some (.string x.line) ∧ RwOk x := by
  have hl : k < l.length := by rw [h.len]; exact hk
  obtain ⟨b, off, e, r1, r2⟩ := h.cell k _ (List.getElem?_eq_getElem hl)
  exact ⟨b, off, _, e, List.getElem?_eq_getElem hl, r1, r2, h.ok _ (List.getElem_mem hl)⟩
theorem Rws.below (h : Rws w a n l) (hb : Below w.heap.size w w') : Rws w' a n l :=
  ⟨h.len, h.lim, h.ok, fun k x hx => by obtain ⟨b, off, e, r1, r2⟩ := h.cell k x hx; exact ⟨b, off, e, cell_keep hb r1, cell_keep hb r2⟩⟩
end

def rwRow (x : Rw) : List D := [.lit (.int .i64 x.kind), .lit (.string x.line)]
theorem rwRow_blocks (l : List Rw) : D.blocksL (l.map rwRow).flatten = [] := by
  induction l with
  | nil => rfl
  | cons x l ih => rw [List.map_cons, List.flatten_cons, D.blocksL_append, ih]; rfl
theorem rwRow_ownL (w : World) (base : Nat) (l : List Rw) : D.ownL w base (l.map rwRow).flatten := by
  induction l with
  | nil => trivial
  | cons x l ih => rw [List.map_cons, List.flatten_cons, D.ownL_append]; exact ⟨⟨rfl, rfl, trivial⟩, ih⟩
theorem rwRow_wide (l : List Rw) : ∀ r ∈ l.map rwRow, r.length = 2 := fun r hr => by
  obtain ⟨x, _, rfl⟩ := List.mem_map.1 hr
  rfl
def rowsD (v : Value) (l : List Rw) : D := .sl v 62 2 l.length (l.map rwRow).flatten
theorem rowsD_blocks (v : Value) (l : List Rw) : (rowsD v l).blocks = v.ownBlock.toList := by
  simp [rowsD, D.blocks, rwRow_blocks]

structure OwnRw (w : World) (base : Nat) (v : Value) (l : List Rw) : Prop where
  own : OwnR w base v 62 2 (l.map rwRow)
  ok : ∀ x ∈ l, RwOk x
section
variable {S : Nat → Prop} {w w' : World} {base n cap g k : Nat} {v u : Value} {A : Option Addr} {l : List Rw}
theorem OwnRw.blk (h : v.ownBlock = some g) : BlkR v (l.map rwRow) g := List.mem_append.2 (.inl (by simp [h]))
theorem OwnRw.only (h : BlkR v (l.map rwRow) g) : v.ownBlock = some g := by
  unfold BlkR at h
  rw [rwRow_blocks, List.append_nil] at h
  simpa using h
theorem OwnRw.lt (h : OwnRw w base v l) (hg : v.ownBlock = some g) : base ≤ g ∧ g < w.heap.size := h.own.lt (OwnRw.blk hg)
theorem OwnRw.form (h : OwnRw w base v l) (hn : l.length = n) : ∃ A cap, v = .slice A n cap ∧ n ≤ cap ∧ cap ≤ maxLen := h.own.form (by rw [List.length_map]; exact hn)
theorem OwnRw.wrote (h : OwnRw w base v l) (hw : Wrote S w w') (hne : ∀ g, v.ownBlock = some g → ¬ S g) : OwnRw w' base v l := ⟨h.own.wrote hw (fun g hg => hne g (OwnRw.only hg)), h.ok⟩
theorem OwnRw.below (h : OwnRw w base v l) (hb : Below w.heap.size w w') : OwnRw w' base v l := ⟨h.own.below hb, h.ok⟩
theorem OwnRw.more {b2 : Nat} (h : OwnRw w base v l) (hb : b2 ≤ base) : OwnRw w b2 v l := ⟨h.own.more hb, h.ok⟩
theorem OwnRw.nil_ : OwnRw w base (.slice none 0 0) [] := ⟨OwnR.nil_, fun x e => by simp at e⟩
theorem OwnRw.datum (h : OwnRw w base v l) : Owns w base (rowsD v l) := by
  have := h.own.own
  rw [List.length_map] at this
  exact this
theorem D.own_rows (h : (rowsD v l).own w base) (hs : ∀ x ∈ l, RwOk x) : OwnRw w base v l := by
  refine ⟨⟨⟨?_, ?_⟩, rwRow_wide l⟩, hs⟩
  · rw [List.length_map]; exact h
  · rw [List.length_map]
    have : (D.sl v 62 2 l.length (l.map rwRow).flatten).blocks = v.ownBlock.toList := rowsD_blocks v l
    rw [this]
    cases v.ownBlock <;> simp
theorem OwnRw.at_ (h : OwnRw w base (.slice A n cap) l) (hk : k < n) : ∃ g x, A = some ⟨g, 0, none⟩ ∧ base ≤ g ∧ g < w.heap.size ∧ l[k]? = some x ∧ w.cell? ⟨g, k * 2, none⟩ = some (.int .i64 x.kind) ∧ w.cell? ⟨g, k * 2 + 1, none⟩ = some (.string x.line) ∧ RwOk x ∧ (∀ j, w.frozen? ⟨g, j, none⟩ = false) := by
  obtain ⟨g, r, rfl, hb, hg, hr⟩ := h.own.addr hk
  have hl := h.own.len
  rw [List.length_map] at hl
  have hx : l[k]? = some (l[k]'(by omega)) := List.getElem?_eq_getElem (by omega)
  have hr2 : (l.map rwRow)[k]? = some (rwRow (l[k]'(by omega))) := by rw [List.getElem?_map, hx]; rfl
  exact ⟨g, _, rfl, hb, hg, hx, h.own.cell hr2 (j := 0) rfl, h.own.cell hr2 (j := 1) rfl, h.ok _ (List.mem_of_getElem? hx), h.own.free⟩
theorem OwnRw.len_ (h : OwnRw w base (.slice A n cap) l) : l.length = n := by have := h.own.len; rwa [List.length_map] at this
theorem OwnRw.rws (h : OwnRw w base (.slice A n cap) l) : Rws w A n l := by
  obtain ⟨A', cap', e, h1, h2⟩ := h.form h.len_
  have hl := h.len_
  refine ⟨hl, by omega, h.ok, fun k x hx => ?_⟩
  have hk : k < n := by rw [← hl]; exact (List.getElem?_eq_some_iff.1 hx).1
  obtain ⟨g, y, rfl, _, _, hy, q0, q1, _, _⟩ := h.at_ hk
  rw [hx] at hy
  injection hy with hy
  subst hy
  exact ⟨g, 0, rfl, by rw [Nat.zero_add]; exact q0, by rw [Nat.zero_add]; exact q1⟩
end


structure GpOk (x : Gp) : Prop where
  at_ : i64ok x.at_
  to_ : i64ok x.to_
  rows : ∀ r ∈ x.rows, RwOk r

structure Gps (w : World) (a : Option Addr) (n : Nat) (l : List Gp) : Prop where
  len : l.length = n
  lim : n ≤ maxLen
  cell : ∀ k x, l[k]? = some x → ∃ b off A m c, a = some ⟨b, off, none⟩ ∧ w.cell? ⟨b, off + k * 3, none⟩ = some (.int .i64 x.at_) ∧ w.cell? ⟨b, off + k * 3 + 1, none⟩ = some (.int .i64 x.to_) ∧ w.cell? ⟨b, off + k * 3 + 2, none⟩ = some (.slice A m c) ∧ Rws w A m x.rows ∧ m ≤ c ∧ GpOk x
section
variable {w w' : World} {a : Option Addr} {n k : Nat} {l : List Gp}
theorem Gps.at_ (h : Gps w a n l) (hk : k < n) : ∃ b off A m c x, a = some ⟨b, off, none⟩ ∧ l[k]? = some x ∧ w.cell? ⟨b, off + k * 3, none⟩ = some (.int .i64 x.at_) ∧ w.cell? ⟨b, off + k * 3 + 1, none⟩ = some (.int .i64 x.to_) ∧ w.cell? ⟨b, off + k * 3 + 2, none⟩ = some (.slice A m c) ∧ Rws w A m x.rows ∧ m ≤ c ∧ GpOk x := by
  have hl : k < l.length := by rw [h.len]; exact hk
  obtain ⟨b, off, A, m, c, e, r⟩ := h.cell k _ (List.getElem?_eq_getElem hl)
  exact ⟨b, off, A, m, c, _, e, List.getElem?_eq_getElem hl, r⟩
theorem Gps.below (h : Gps w a n l) (hb : Below w.heap.size w w') : Gps w' a n l :=
  ⟨h.len, h.lim, fun k x hx => by
    obtain ⟨b, off, A, m, c, e, r0, r1, r2, r3, r4⟩ := h.cell k x hx
    exact ⟨b, off, A, m, c, e, cell_keep hb r0, cell_keep hb r1, cell_keep hb r2, r3.below hb, r4⟩⟩
end

def gpRow (x : Gp) (u : Value) : List D := [.lit (.int .i64 x.at_), .lit (.int .i64 x.to_), rowsD u x.rows]

structure OwnGp (w : World) (base : Nat) (v : Value) (l : List Gp) (rows : List (List D)) : Prop where
  len : rows.length = l.length
  own : OwnR w base v 60 3 rows
  row : ∀ (k : Nat) r x, rows[k]? = some r → l[k]? = some x → ∃ u, r = gpRow x u
  ok : ∀ x ∈ l, GpOk x
section
variable {S : Nat → Prop} {w w' : World} {base n cap g k : Nat} {v u : Value} {A : Option Addr} {l : List Gp} {rows : List (List D)}
theorem OwnGp.lt (h : OwnGp w base v l rows) (hg : BlkR v rows g) : base ≤ g ∧ g < w.heap.size := h.own.lt hg
theorem OwnGp.form (h : OwnGp w base v l rows) (hn : l.length = n) : ∃ A cap, v = .slice A n cap ∧ n ≤ cap ∧ cap ≤ maxLen := h.own.form (h.len.trans hn)
theorem OwnGp.wrote (h : OwnGp w base v l rows) (hw : Wrote S w w') (hne : ∀ g, BlkR v rows g → ¬ S g) : OwnGp w' base v l rows := ⟨h.len, h.own.wrote hw hne, h.row, h.ok⟩
theorem OwnGp.below (h : OwnGp w base v l rows) (hb : Below w.heap.size w w') : OwnGp w' base v l rows := ⟨h.len, h.own.below hb, h.row, h.ok⟩
theorem OwnGp.more {b2 : Nat} (h : OwnGp w base v l rows) (hb : b2 ≤ base) : OwnGp w b2 v l rows := ⟨h.len, h.own.more hb, h.row, h.ok⟩
theorem OwnGp.nil_ : OwnGp w base (.slice none 0 0) [] [] := ⟨rfl, OwnR.nil_, fun k r x e => by simp at e, fun x e => by simp at e⟩
theorem OwnGp.len_ (h : OwnGp w base (.slice A n cap) l rows) : l.length = n := by rw [← h.len]; exact h.own.len
theorem OwnGp.at_ (h : OwnGp w base (.slice A n cap) l rows) (hk : k < n) : ∃ g x a1 m1 c1, A = some ⟨g, 0, none⟩ ∧ base ≤ g ∧ g < w.heap.size ∧ l[k]? = some x ∧ rows[k]? = some (gpRow x (.slice a1 m1 c1)) ∧
    w.cell? ⟨g, k * 3, none⟩ = some (.int .i64 x.at_) ∧ w.cell? ⟨g, k * 3 + 1, none⟩ = some (.int .i64 x.to_) ∧ w.cell? ⟨g, k * 3 + 2, none⟩ = some (.slice a1 m1 c1) ∧ OwnRw w base (.slice a1 m1 c1) x.rows ∧ m1 ≤ c1 ∧ GpOk x ∧ (∀ j, w.frozen? ⟨g, j, none⟩ = false) := by
  obtain ⟨g, r, rfl, hb, hg, hr⟩ := h.own.addr hk
  have hl := h.own.len
  have hkp : k < l.length := by rw [← h.len, hl]; exact hk
  have hx : l[k]? = some l[k] := List.getElem?_eq_getElem hkp
  have hok := h.ok _ (List.mem_of_getElem? hx)
  obtain ⟨u, rfl⟩ := h.row k r _ hr hx
  have o1 := D.own_rows (h.own.datum hr (j := 2) rfl) hok.rows
  obtain ⟨a1, c1, rfl, hm1, _⟩ := o1.form rfl
  exact ⟨g, _, a1, _, c1, rfl, hb, hg, hx, hr, h.own.cell hr (j := 0) rfl, h.own.cell hr (j := 1) rfl, h.own.cell hr (j := 2) rfl, o1, hm1, hok, h.own.free⟩
theorem OwnGp.gps (h : OwnGp w base (.slice A n cap) l rows) : Gps w A n l := by
  obtain ⟨A', cap', e, h1, h2⟩ := h.own.form rfl
  injection e with e1 e2 e3
  have hl := h.len_
  have hn := h.own.len
  refine ⟨hl, by omega, fun k x hx => ?_⟩
  have hk : k < n := by rw [← hl]; exact (List.getElem?_eq_some_iff.1 hx).1
  obtain ⟨g, y, a1, m1, c1, rfl, _, _, hy, _, q0, q1, q2, o1, hm1, hok, _⟩ := h.at_ hk
  rw [hx] at hy
  injection hy with hy
  subst hy
  exact ⟨g, 0, a1, m1, c1, rfl, by rw [Nat.zero_add]; exact q0, by rw [Nat.zero_add]; exact q1, by rw [Nat.zero_add]; exact q2, o1.rws, hm1, hok⟩
theorem OwnGp.snoc {v' : Value} {x : Gp} (h : OwnGp w base v l rows) (hx : GpOk x) (ho : OwnR w' base v' 60 3 (rows ++ [gpRow x u])) : OwnGp w' base v' (l ++ [x]) (rows ++ [gpRow x u]) := by
  refine ⟨by simp [h.len], ho, fun k r y hr hy => ?_, fun y hy => ?_⟩
  · rcases list_snoc_get hr with ⟨hk, hr⟩ | ⟨hk, rfl⟩
    · rcases list_snoc_get hy with ⟨_, hy⟩ | ⟨hk2, _⟩
      · exact h.row k r y hr hy
      · rw [h.len] at hk; omega
    · rcases list_snoc_get hy with ⟨hk2, _⟩ | ⟨_, rfl⟩
      · rw [h.len] at hk; omega
      · exact ⟨u, rfl⟩
  · rcases List.mem_append.1 hy with h5 | h5
    · exact h.ok y h5
    · simp at h5; rw [h5]; exact hx
end

end Go.Proofs.YtkamenidgkjodaaGreatDoor

namespace Go.Proofs.YtkamenidgkjodaaGreatDoor
open Go.RowKit Go.ChangeShapes Go.WideShapes M

theorem rw_info : (Tryz.prog.info? 62).map (fun i => (i.zero, i.size, i.bytes)) = some (some (.agg #[.int .i64 0, .string ByteArray.empty]), 2, 24) := by kernel_rfl

end Go.Proofs.YtkamenidgkjodaaGreatDoor

namespace Go.Proofs.YtkamenidgkjodaaGreatDoor
open Go.RowKit Go.ChangeShapes Go.WideShapes M

section
variable {w w' : World} {base g n cap k : Nat} {l : List Rw} {x : Rw}
theorem OwnRw.setKind (h : OwnRw w base (.slice (some ⟨g, 0, none⟩) n cap) l) (hx : l[k]? = some x) (i : Int) (hi : i64ok i) :
    OwnRw (w.setCell ⟨g, k * 2, none⟩ (.int .i64 i)) base (.slice (some ⟨g, 0, none⟩) n cap) (l.set k ⟨i, x.line⟩) := by
  have hok := h.ok x (List.mem_of_getElem? hx)
  have hr : (l.map rwRow)[k]? = some (rwRow x) := by rw [List.getElem?_map, hx]; rfl
  have s0 := h.own.set (u := .int .i64 i) hr (j := 0) rfl rfl
  refine ⟨?_, fun y hy => ?_⟩
  · have e : (l.set k ⟨i, x.line⟩).map rwRow = (l.map rwRow).set k (rwRow ⟨i, x.line⟩) := by rw [List.map_set]
    rw [e]
    exact s0
  · rcases List.mem_or_eq_of_mem_set hy with h5 | h5
    · exact h.ok y h5
    · rw [h5]; exact ⟨hi, hok.line⟩
theorem OwnRw.setLine (h : OwnRw w base (.slice (some ⟨g, 0, none⟩) n cap) l) (hx : l[k]? = some x) (s : ByteArray) (hs : s.size ≤ maxLen) :
    OwnRw (w.setCell ⟨g, k * 2 + 1, none⟩ (.string s)) base (.slice (some ⟨g, 0, none⟩) n cap) (l.set k ⟨x.kind, s⟩) := by
  have hok := h.ok x (List.mem_of_getElem? hx)
  have hr : (l.map rwRow)[k]? = some (rwRow x) := by rw [List.getElem?_map, hx]; rfl
  have s0 := h.own.set (u := .string s) hr (j := 1) rfl rfl
  refine ⟨?_, fun y hy => ?_⟩
  · have e : (l.set k ⟨x.kind, s⟩).map rwRow = (l.map rwRow).set k (rwRow ⟨x.kind, s⟩) := by rw [List.map_set]
    rw [e]
    exact s0
  · rcases List.mem_or_eq_of_mem_set hy with h5 | h5
    · exact h.ok y h5
    · rw [h5]; exact ⟨hok.kind, hs⟩
end

end Go.Proofs.YtkamenidgkjodaaGreatDoor

namespace Go.Proofs.YtkamenidgkjodaaGreatDoor
open Go.RowKit Go.ChangeShapes Go.WideShapes M

theorem OwnRw.setBelow {w : World} {base : Nat} {v : Value} {l : List Rw} {a : Addr} (h : OwnRw w base v l) (hlt : a.block < base) (u : Value) : OwnRw (w.setCell a u) base v l :=
  h.wrote (Wrote.set (fun i => i = a.block) w a u rfl) (fun g e e2 => by have := (h.lt e).1; omega)

theorem gp_info : (Tryz.prog.info? 60).map (fun i => (i.zero, i.size, i.bytes)) = some (some (.agg #[.int .i64 0, .int .i64 0, .slice none 0 0]), 3, 40) := by kernel_rfl

end Go.Proofs.YtkamenidgkjodaaGreatDoor

namespace Go.Proofs.YtkamenidgkjodaaGreatDoor
open Go.RowKit Go.ChangeShapes Go.WideShapes M

section
variable {w w' : World} {base g n cap k : Nat} {p : List Gp} {rows : List (List D)} {x : Gp} {u : Value}
theorem OwnGp.reset (h : OwnGp w base (.slice (some ⟨g, 0, none⟩) n cap) p rows) (hx : p[k]? = some x) {r' : List D} (ho : OwnR w' base (.slice (some ⟨g, 0, none⟩) n cap) 60 3 (rows.set k r')) (y : Gp) (hr : ∃ u, r' = gpRow y u) (hy : GpOk y) :
    OwnGp w' base (.slice (some ⟨g, 0, none⟩) n cap) (p.set k y) (rows.set k r') := by
  refine ⟨by simp [h.len], ho, fun j q z hq hz => ?_, fun z hz => ?_⟩
  · rcases set_get hq with ⟨rfl, rfl⟩ | ⟨hne, hq⟩
    · rcases set_get hz with ⟨_, rfl⟩ | ⟨hne, _⟩
      · exact hr
      · exact absurd rfl hne
    · rcases set_get hz with ⟨e, _⟩ | ⟨_, hz⟩
      · exact absurd e hne
      · exact h.row j q z hq hz
  · rcases List.mem_or_eq_of_mem_set hz with h5 | h5
    · exact h.ok z h5
    · rw [h5]; exact hy
theorem OwnGp.setAt (h : OwnGp w base (.slice (some ⟨g, 0, none⟩) n cap) p rows) (hx : p[k]? = some x) (hr : rows[k]? = some (gpRow x u)) (i : Int) (hi : i64ok i) :
    OwnGp (w.setCell ⟨g, k * 3, none⟩ (.int .i64 i)) base (.slice (some ⟨g, 0, none⟩) n cap) (p.set k { x with at_ := i }) (rows.set k (gpRow { x with at_ := i } u)) := by
  have hok := h.ok x (List.mem_of_getElem? hx)
  exact h.reset hx (h.own.set hr (j := 0) rfl (u := .int .i64 i) rfl) _ ⟨u, rfl⟩ ⟨hi, hok.to_, hok.rows⟩
theorem OwnGp.setTo (h : OwnGp w base (.slice (some ⟨g, 0, none⟩) n cap) p rows) (hx : p[k]? = some x) (hr : rows[k]? = some (gpRow x u)) (i : Int) (hi : i64ok i) :
    OwnGp (w.setCell ⟨g, k * 3 + 1, none⟩ (.int .i64 i)) base (.slice (some ⟨g, 0, none⟩) n cap) (p.set k { x with to_ := i }) (rows.set k (gpRow { x with to_ := i } u)) := by
  have hok := h.ok x (List.mem_of_getElem? hx)
  exact h.reset hx (h.own.set hr (j := 1) rfl (u := .int .i64 i) rfl) _ ⟨u, rfl⟩ ⟨hok.at_, hi, hok.rows⟩
theorem OwnGp.renewRows (h : OwnGp w base (.slice (some ⟨g, 0, none⟩) n cap) p rows) (hx : p[k]? = some x) (hr : rows[k]? = some (gpRow x u)) (hw : Wrote (fun i => u.ownBlock = some i) w w') {r : List Rw} (ho : OwnRw w' base u r) :
    OwnGp w' base (.slice (some ⟨g, 0, none⟩) n cap) (p.set k { x with rows := r }) (rows.set k (gpRow { x with rows := r } u)) := by
  have hok := h.ok x (List.mem_of_getElem? hx)
  refine h.reset hx (h.own.renew hr (j := 2) (d := rowsD u x.rows) (d' := rowsD u r) rfl (hw.mono (fun i _ e => by rw [rowsD_blocks]; simp [e])) ho.datum.own (by rw [rowsD_blocks, rowsD_blocks]) rfl) _ ⟨u, rfl⟩ ⟨hok.at_, hok.to_, ho.ok⟩
theorem OwnGp.rowsAt (h : OwnGp w base (.slice (some ⟨g, 0, none⟩) n cap) p rows) (hx : p[k]? = some x) (hr : rows[k]? = some (gpRow x u)) : OwnRw w base u x.rows := D.own_rows (h.own.datum hr (j := 2) rfl) (h.ok x (List.mem_of_getElem? hx)).rows
end

end Go.Proofs.YtkamenidgkjodaaGreatDoor

namespace Go.Proofs.YtkamenidgkjodaaGreatDoor.M
open Go

def lw (k : Int) : List Rw → List ByteArray
  | [] => []
  | x :: l => if x.kind = k then lw k l else x.line :: lw k l
theorem lw_append (k : Int) (a b : List Rw) : lw k (a ++ b) = lw k a ++ lw k b := by
  induction a with
  | nil => rfl
  | cons x a ih => simp only [List.cons_append, lw, ih]; split <;> rfl
theorem lw_step_out {k : Int} {l : List Rw} {j : Nat} {x : Rw} (h : l[j]? = some x) (hk : x.kind = k) : lw k (l.take (j + 1)) = lw k (l.take j) := by
  rw [take_at h, lw_append]; simp [lw, hk]
theorem lw_step_in {k : Int} {l : List Rw} {j : Nat} {x : Rw} (h : l[j]? = some x) (hk : x.kind ≠ k) : lw k (l.take (j + 1)) = lw k (l.take j) ++ [x.line] := by
  rw [take_at h, lw_append]; simp [lw, hk]
theorem lw_len (k : Int) : ∀ l : List Rw, (lw k l).length ≤ l.length
  | [] => by simp [lw]
  | x :: l => by have := lw_len k l; simp only [lw]; split <;> simp <;> omega
theorem lw_mem {k : Int} {l : List Rw} {x : Rw} (hx : x ∈ l) (h : x.kind ≠ k) : x.line ∈ lw k l := by
  induction l with
  | nil => cases hx
  | cons y l ih =>
    simp only [lw]
    rcases List.mem_cons.1 hx with e | e
    · subst e; simp [h]
    · split
      · exact ih e
      · exact List.mem_cons_of_mem _ (ih e)

def kindsB (a : Int) : List Rw → Bool
  | [] => true
  | x :: l => (decide (1 ≤ x.kind) && decide (x.kind ≤ 3)) && !(decide (a = 3) && decide (x.kind = 2)) && kindsB x.kind l
def someB (l : List Rw) : Bool := l.any fun x => decide (x.kind ≠ 1)
def rowsB (l : List Rw) : Bool := decide (l.length ≤ 80) && someB l && kindsB 1 l
def standB (p : Int) (l : List ByteArray) : Bool := goodB l && (decide (0 ≤ p) && decide (p ≤ 999)) && decide (p + l.length ≤ 1000)
def groupB (x : Gp) : Bool := rowsB x.rows && standB x.at_ (lw 3 x.rows) && standB x.to_ (lw 2 x.rows)
def rowsS (a : Int) : List Rw → Bool
  | [] => true
  | x :: l => (decide (1 ≤ x.kind) && decide (x.kind ≤ 3)) && lineB x.line && !(decide (a = 3) && decide (x.kind = 2)) && rowsS x.kind l
theorem rowsS_eq : ∀ (a : Int) (l : List Rw), rowsS a l = (kindsB a l && l.all fun x => lineB x.line)
  | _, [] => rfl
  | a, x :: l => by
    simp only [rowsS, kindsB, List.all_cons, rowsS_eq x.kind l]
    cases (decide (1 ≤ x.kind) && decide (x.kind ≤ 3)) <;> cases lineB x.line <;> cases (!(decide (a = 3) && decide (x.kind = 2))) <;> cases kindsB x.kind l <;> simp
theorem kindsB_mem : ∀ {a : Int} {l : List Rw}, kindsB a l = true → ∀ x ∈ l, 1 ≤ x.kind ∧ x.kind ≤ 3
  | _, [], _ => fun x h => by cases h
  | a, y :: l, h => fun x hx => by
    simp only [kindsB, Bool.and_eq_true, decide_eq_true_eq] at h
    rcases List.mem_cons.1 hx with e | e
    · subst e; exact ⟨h.1.1.1, h.1.1.2⟩
    · exact kindsB_mem h.2 x e
theorem goodB_mem {l : List ByteArray} (h : goodB l = true) {s : ByteArray} (hs : s ∈ l) : lineB s = true := by
  obtain ⟨j, hj⟩ := List.mem_iff_getElem?.1 hs
  exact (goodB_at h hj).1
def groupS (x : Gp) : Bool := rowsS 1 x.rows && (someB x.rows && (decide (0 ≤ x.at_) && decide (x.at_ ≤ 999)) && (decide (0 ≤ x.to_) && decide (x.to_ ≤ 999)) && decide (x.at_ + (lw 3 x.rows).length ≤ 1000) && decide (x.to_ + (lw 2 x.rows).length ≤ 1000) && decide (x.rows.length ≤ 80) && goodB (lw 3 x.rows) && goodB (lw 2 x.rows))
theorem groupS_eq (x : Gp) : groupS x = groupB x := by
  unfold groupS groupB rowsB standB
  rw [rowsS_eq]
  cases hg1 : goodB (lw 3 x.rows)
  · simp
  cases hg2 : goodB (lw 2 x.rows)
  · simp
  cases hk : kindsB 1 x.rows
  · simp
  have ha : (x.rows.all fun y => lineB y.line) = true := by
    rw [List.all_eq_true]
    intro y hy
    have h1 := kindsB_mem hk y hy
    by_cases e : y.kind = 3
    · exact goodB_mem hg2 (lw_mem hy (by omega))
    · exact goodB_mem hg1 (lw_mem hy e)
  rw [ha]
  rw [Bool.eq_iff_iff]
  simp only [Bool.and_eq_true, Bool.true_and, Bool.and_true, decide_eq_true_eq]
  constructor
  · rintro ⟨⟨⟨⟨⟨h1, h2⟩, h3⟩, h4⟩, h5⟩, h6⟩; exact ⟨⟨⟨h6, h1⟩, h2, h4⟩, h3, h5⟩
  · rintro ⟨⟨⟨h6, h1⟩, h2, h4⟩, h3, h5⟩; exact ⟨⟨⟨⟨⟨h1, h2⟩, h3⟩, h4⟩, h5⟩, h6⟩
theorem groupB_len {x : Gp} (h : groupB x = true) : x.rows.length ≤ 80 ∧ 0 ≤ x.at_ ∧ x.at_ ≤ 999 ∧ 0 ≤ x.to_ ∧ x.to_ ≤ 999 ∧ (lw 3 x.rows).length ≤ 40 ∧ (lw 2 x.rows).length ≤ 40 := by
  unfold groupB rowsB standB at h
  simp only [Bool.and_eq_true, decide_eq_true_eq] at h
  exact ⟨h.1.1.1.1, h.1.2.1.2.1, h.1.2.1.2.2, h.2.1.2.1, h.2.1.2.2, goodB_len h.1.2.1.1, goodB_len h.2.1.1⟩

def goodGF (a t : Int) : List Gp → Bool
  | [] => true
  | x :: l => groupB x && (decide (a ≤ x.at_) && decide (t ≤ x.to_)) && goodGF (x.at_ + (lw 3 x.rows).length) (x.to_ + (lw 2 x.rows).length) l
def goodG (l : List Gp) : Bool := decide (l.length ≤ 20) && goodGF 0 0 l
theorem goodGF_mem : ∀ {a t : Int} {l : List Gp}, goodGF a t l = true → ∀ x ∈ l, groupB x = true
  | _, _, [], _ => fun x h => by cases h
  | a, t, y :: l, h => fun x hx => by
    simp only [goodGF, Bool.and_eq_true] at h
    rcases List.mem_cons.1 hx with e | e
    · subst e; exact h.1.1
    · exact goodGF_mem h.2 x e

end Go.Proofs.YtkamenidgkjodaaGreatDoor.M
