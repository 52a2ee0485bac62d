/-
  Words for memory: a slice of steps that reads as a list; one of the call's own.
-/
import Derived.Test.YtnnaigoomipklaaDoorOkSMath
import Derived.Test.YtnnaigoomipklaaDoorOkURows
import Derived.Test.YtnnaigoomipklaaDoorOkHMems
set_option linter.unusedSimpArgs false
set_option linter.unusedVariables false
namespace Go.Proofs.YtnnaigoomipklaaDoor
open Go.RowKit Go.ChangeShapes Go.WideShapes M

/-- Numbers and texts of a step that Go can hold. -/
structure SpOk (x : Sp) : Prop where
  fr : i64ok x.fr
  to_ : i64ok x.to_
  at_ : i64ok x.at_
  en : i64ok x.en
  old : ∀ s ∈ x.old, s.size ≤ maxLen
  new : ∀ s ∈ x.new, s.size ≤ maxLen

/-- The address and the length of a slice of steps, in a world, and the steps. -/
structure Sps (w : World) (a : Option Addr) (n : Nat) (p : List Sp) : Prop where
  len : p.length = n
  lim : n ≤ maxLen
  cell : ∀ k x, p[k]? = some x → ∃ b off A m c B m2 c2, a = some ⟨b, off, none⟩ ∧ w.cell? ⟨b, off + k * 6, none⟩ = some (.int .i64 x.fr) ∧ w.cell? ⟨b, off + k * 6 + 1, none⟩ = some (.int .i64 x.to_) ∧
    w.cell? ⟨b, off + k * 6 + 2, none⟩ = some (.slice A m c) ∧ w.cell? ⟨b, off + k * 6 + 3, none⟩ = some (.int .i64 x.at_) ∧ w.cell? ⟨b, off + k * 6 + 4, none⟩ = some (.int .i64 x.en) ∧ w.cell? ⟨b, off + k * 6 + 5, none⟩ = some (.slice B m2 c2) ∧
    Strs w A m x.old ∧ m ≤ c ∧ Strs w B m2 x.new ∧ m2 ≤ c2 ∧ SpOk x

section
variable {w w' : World} {a : Option Addr} {n k : Nat} {p : List Sp}
theorem Sps.at_ (h : Sps w a n p) (hk : k < n) : ∃ b off A m c B m2 c2 x, a = some ⟨b, off, none⟩ ∧ p[k]? = some x ∧ w.cell? ⟨b, off + k * 6, none⟩ = some (.int .i64 x.fr) ∧ w.cell? ⟨b, off + k * 6 + 1, none⟩ = some (.int .i64 x.to_) ∧
    w.cell? ⟨b, off + k * 6 + 2, none⟩ = some (.slice A m c) ∧ w.cell? ⟨b, off + k * 6 + 3, none⟩ = some (.int .i64 x.at_) ∧ w.cell? ⟨b, off + k * 6 + 4, none⟩ = some (.int .i64 x.en) ∧ w.cell? ⟨b, off + k * 6 + 5, none⟩ = some (.slice B m2 c2) ∧
    Strs w A m x.old ∧ m ≤ c ∧ Strs w B m2 x.new ∧ m2 ≤ c2 ∧ SpOk x := by
  have hl : k < p.length := by rw [h.len]; exact hk
  obtain ⟨b, off, A, m, c, B, m2, c2, e, r⟩ := h.cell k _ (List.getElem?_eq_getElem hl)
  exact ⟨b, off, A, m, c, B, m2, c2, _, e, List.getElem?_eq_getElem hl, r⟩
theorem Sps.below (h : Sps w a n p) (hb : Below w.heap.size w w') : Sps w' a n p :=
  ⟨h.len, h.lim, fun k s hs => by
    obtain ⟨b, off, A, m, c, B, m2, c2, e, h0, h1, h2, h3, h4, h5, h6, h7, h8, h9⟩ := h.cell k s hs
    exact ⟨b, off, A, m, c, B, m2, c2, e, cell_keep hb h0, cell_keep hb h1, cell_keep hb h2, cell_keep hb h3, cell_keep hb h4, cell_keep hb h5, h6.below hb, h7, h8.below hb, h9⟩⟩
end

/-- The cells of a step. -/
def spRow (x : Sp) (u v : Value) : List D := [.lit (.int .i64 x.fr), .lit (.int .i64 x.to_), textsD u x.old, .lit (.int .i64 x.at_), .lit (.int .i64 x.en), textsD v x.new]

/-- A slice of steps of the call's own: the array, each Old and each New in blocks of their own. -/
structure OwnSt (w : World) (base : Nat) (v : Value) (p : List Sp) (rows : List (List D)) : Prop where
  len : rows.length = p.length
  own : OwnR w base v 83 6 rows
  row : ∀ (k : Nat) r x, rows[k]? = some r → p[k]? = some x → ∃ u u2, r = spRow x u u2
  ok : ∀ x ∈ p, SpOk x

section
variable {S : Nat → Prop} {w w' : World} {base n cap g k : Nat} {v u : Value} {A : Option Addr} {p : List Sp} {rows : List (List D)}
theorem OwnSt.lt (h : OwnSt w base v p rows) (hg : BlkR v rows g) : base ≤ g ∧ g < w.heap.size := h.own.lt hg
theorem OwnSt.form (h : OwnSt w base v p rows) (hn : p.length = n) : ∃ A cap, v = .slice A n cap ∧ n ≤ cap ∧ cap ≤ maxLen := h.own.form (h.len.trans hn)
theorem OwnSt.wrote (h : OwnSt w base v p rows) (hw : Wrote S w w') (hne : ∀ g, BlkR v rows g → ¬ S g) : OwnSt w' base v p rows := ⟨h.len, h.own.wrote hw hne, h.row, h.ok⟩
theorem OwnSt.below (h : OwnSt w base v p rows) (hb : Below w.heap.size w w') : OwnSt w' base v p rows := ⟨h.len, h.own.below hb, h.row, h.ok⟩
theorem OwnSt.more {b2 : Nat} (h : OwnSt w base v p rows) (hb : b2 ≤ base) : OwnSt w b2 v p rows := ⟨h.len, h.own.more hb, h.row, h.ok⟩
theorem OwnSt.nil_ : OwnSt w base (.slice none 0 0) [] [] := ⟨rfl, OwnR.nil_, fun k r x e => by simp at e, fun x e => by simp at e⟩
theorem OwnSt.at_ (h : OwnSt w base (.slice A n cap) p rows) (hk : k < n) : ∃ g x a1 m1 c1 a2 m2 c2, A = some ⟨g, 0, none⟩ ∧ base ≤ g ∧ g < w.heap.size ∧ p[k]? = some x ∧ rows[k]? = some (spRow x (.slice a1 m1 c1) (.slice a2 m2 c2)) ∧
    w.cell? ⟨g, k * 6, none⟩ = some (.int .i64 x.fr) ∧ w.cell? ⟨g, k * 6 + 1, none⟩ = some (.int .i64 x.to_) ∧ w.cell? ⟨g, k * 6 + 2, none⟩ = some (.slice a1 m1 c1) ∧ w.cell? ⟨g, k * 6 + 3, none⟩ = some (.int .i64 x.at_) ∧ w.cell? ⟨g, k * 6 + 4, none⟩ = some (.int .i64 x.en) ∧ w.cell? ⟨g, k * 6 + 5, none⟩ = some (.slice a2 m2 c2) ∧
    OwnV w base (.slice a1 m1 c1) x.old ∧ m1 ≤ c1 ∧ OwnV w base (.slice a2 m2 c2) x.new ∧ m2 ≤ c2 ∧ SpOk x ∧ (∀ j, w.frozen? ⟨g, j, none⟩ = false) := by
  obtain ⟨g, r, rfl, hb, hg, hr⟩ := h.own.addr hk
  have hl := h.own.len
  have hkp : k < p.length := by rw [← h.len, hl]; exact hk
  have hx : p[k]? = some p[k] := List.getElem?_eq_getElem hkp
  have hok := h.ok _ (List.mem_of_getElem? hx)
  obtain ⟨u, u2, rfl⟩ := h.row k r _ hr hx
  have o1 := D.own_texts (h.own.datum hr (j := 2) rfl) hok.old
  have o2 := D.own_texts (h.own.datum hr (j := 5) rfl) hok.new
  obtain ⟨a1, c1, rfl, hm1, _⟩ := o1.form rfl
  obtain ⟨a2, c2, rfl, hm2, _⟩ := o2.form rfl
  exact ⟨g, _, a1, _, c1, a2, _, c2, rfl, hb, hg, hx, hr, h.own.cell hr (j := 0) rfl, h.own.cell hr (j := 1) rfl, h.own.cell hr (j := 2) rfl, h.own.cell hr (j := 3) rfl, h.own.cell hr (j := 4) rfl, h.own.cell hr (j := 5) rfl, o1, hm1, o2, hm2, hok, h.own.free⟩
theorem OwnSt.sps (h : OwnSt w base (.slice A n cap) p rows) : Sps w A n p := by
  obtain ⟨A', cap', e, h1, h2⟩ := h.own.form rfl
  injection e with e1 e2 e3
  have hl : p.length = n := by rw [← h.len]; exact h.own.len
  refine ⟨hl, by omega, fun k x hx => ?_⟩
  have hk : k < n := by rw [← hl]; exact (List.getElem?_eq_some_iff.1 hx).1
  obtain ⟨g, y, a1, m1, c1, a2, m2, c2, rfl, _, _, hy, _, q0, q1, q2, q3, q4, q5, o1, hm1, o2, hm2, hok, _⟩ := h.at_ hk
  rw [hx] at hy
  injection hy with hy
  subst hy
  exact ⟨g, 0, a1, m1, c1, a2, m2, c2, rfl, by rw [Nat.zero_add]; exact q0, by rw [Nat.zero_add]; exact q1, by rw [Nat.zero_add]; exact q2, by rw [Nat.zero_add]; exact q3, by rw [Nat.zero_add]; exact q4, by rw [Nat.zero_add]; exact q5, o1.strs, hm1, o2.strs, hm2, hok⟩
end

/-! Where the four numbers and both lists of one step are written anew. -/

end Go.Proofs.YtnnaigoomipklaaDoor
