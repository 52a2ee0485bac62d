/-
  Words for memory: a slice of hunks that reads as a list; what the laws count of it.
  The laws' own small functions on hunks: copied, compared, marked.
-/
import Derived.Test.YtnnaigoomipklaaGreatDoorOiMemT
import Derived.Test.YtnnaigoomipklaaGreatDoorOiHBases
set_option linter.unusedSimpArgs false
set_option linter.unusedVariables false
namespace Go.Proofs.YtnnaigoomipklaaGreatDoor
open Go.RowKit Go.ChangeShapes Go.WideShapes M

/-- The address and the length of a slice of hunks, in a world, and the hunks. -/
structure Hks (w : World) (a : Option Addr) (n : Nat) (l : List Hk) : Prop where
  len : l.length = n
  lim : n ≤ maxLen
  cell : ∀ k h, l[k]? = some h → ∃ b off A m c, a = some ⟨b, off, none⟩ ∧ w.cell? ⟨b, off + k * 3, none⟩ = some (.int .i64 h.at_) ∧ w.cell? ⟨b, off + k * 3 + 1, none⟩ = some (.int .i64 h.gone) ∧
    w.cell? ⟨b, off + k * 3 + 2, none⟩ = some (.slice A m c) ∧ Strs w A m h.new ∧ m ≤ c ∧ i64ok h.at_ ∧ i64ok h.gone

section
variable {w w' : World} {a : Option Addr} {n k : Nat} {l : List Hk}
theorem Hks.at_ (h : Hks w a n l) (hk : k < n) : ∃ b off A m c x, a = some ⟨b, off, none⟩ ∧ l[k]? = some x ∧ w.cell? ⟨b, off + k * 3, none⟩ = some (.int .i64 x.at_) ∧ w.cell? ⟨b, off + k * 3 + 1, none⟩ = some (.int .i64 x.gone) ∧
    w.cell? ⟨b, off + k * 3 + 2, none⟩ = some (.slice A m c) ∧ Strs w A m x.new ∧ m ≤ c ∧ i64ok x.at_ ∧ i64ok x.gone := by
  have hl : k < l.length := by rw [h.len]; exact hk
  obtain ⟨b, off, A, m, c, e, r⟩ := h.cell k _ (List.getElem?_eq_getElem hl)
  exact ⟨b, off, A, m, c, _, e, List.getElem?_eq_getElem hl, r⟩
theorem Hks.keep {B : Nat} (h : Hks w a n l) (hb : Below B w w') (hB : w.heap.size ≤ B) : Hks w' a n l :=
  ⟨h.len, h.lim, fun k s hs => by
    obtain ⟨b, off, A, m, c, e, h1, h2, h3, h4, h5⟩ := h.cell k s hs
    have hb := hb.mono hB
    exact ⟨b, off, A, m, c, e, cell_keep hb h1, cell_keep hb h2, cell_keep hb h3, h4.below hb, h5⟩⟩
theorem Hks.below (h : Hks w a n l) (hb : Below w.heap.size w w') : Hks w' a n l := h.keep hb (Nat.le_refl _)
end

/-- A slice of hunks of the call's own, from block 'base' on: the array and each New lie in blocks of their own. -/
structure OwnH (w : World) (base : Nat) (v : Value) (l : List Hk) (vs : List Value) : Prop where
  len : vs.length = l.length
  row : ∃ xs, w.ownsRow base 105 3 v l.length xs ∧ ∀ (k : Nat) (h : Hk) (u : Value), l[k]? = some h → vs[k]? = some u → xs[k * 3]? = some (.int .i64 h.at_) ∧ xs[k * 3 + 1]? = some (.int .i64 h.gone) ∧ xs[k * 3 + 2]? = some u
  news : ∀ (k : Nat) (h : Hk) (u : Value), l[k]? = some h → vs[k]? = some u → OwnV w base u h.new
  apart : ∀ (k : Nat) (u : Value) (g : Nat), vs[k]? = some u → u.ownBlock = some g → v.ownBlock ≠ some g
  apart2 : ∀ (i j : Nat) (u u' : Value) (g : Nat), vs[i]? = some u → vs[j]? = some u' → u.ownBlock = some g → u'.ownBlock = some g → i = j
  ints : ∀ h ∈ l, i64ok h.at_ ∧ i64ok h.gone
/-- The blocks of such a slice. -/
def Blk (v : Value) (vs : List Value) (g : Nat) : Prop := v.ownBlock = some g ∨ ∃ k : Nat, ∃ u, vs[k]? = some u ∧ u.ownBlock = some g

section
variable {S : Nat → Prop} {w w' : World} {base n cap g k : Nat} {v u : Value} {A : Option Addr} {l : List Hk} {vs : List Value}
theorem OwnH.get_ (h : OwnH w base v l vs) (hk : k < l.length) : ∃ x u, l[k]? = some x ∧ vs[k]? = some u := ⟨_, _, List.getElem?_eq_getElem hk, List.getElem?_eq_getElem (show k < vs.length by rw [h.len]; exact hk)⟩
theorem OwnH.lt (h : OwnH w base v l vs) (hg : Blk v vs g) : base ≤ g ∧ g < w.heap.size := by
  rcases hg with e | ⟨k, u, hu, e⟩
  · obtain ⟨xs, h1, _⟩ := h.row
    exact h1.lt g e
  · have hk : k < l.length := by rw [← h.len]; exact (List.getElem?_eq_some_iff.1 hu).1
    exact (h.news k _ u (List.getElem?_eq_getElem hk) hu).lt e
theorem OwnH.form (h : OwnH w base v l vs) (hn : l.length = n) : ∃ A cap, v = .slice A n cap ∧ n ≤ cap ∧ cap ≤ maxLen := by
  subst hn
  obtain ⟨xs, h1, _⟩ := h.row
  rcases h1.2 with ⟨hv, h0⟩ | ⟨g, cap, cur, hv, _, _, h1, h2, _⟩
  · exact ⟨none, 0, by rw [hv, h0], by omega, by omega⟩
  · exact ⟨_, cap, hv, h1, h2⟩
theorem OwnH.wrote (h : OwnH w base v l vs) (hw : Wrote S w w') (hne : ∀ g, Blk v vs g → ¬ S g) : OwnH w' base v l vs := by
  refine ⟨h.len, ?_, fun k x u hx hu => (h.news k x u hx hu).wrote hw (fun g e => hne g (.inr ⟨k, u, hu, e⟩)), h.apart, h.apart2, h.ints⟩
  obtain ⟨xs, h1, h2⟩ := h.row
  exact ⟨xs, ownsRow_wrote h1 hw (fun g e => hne g (.inl e)), h2⟩
theorem OwnH.below (h : OwnH w base v l vs) (hb : Below w.heap.size w w') : OwnH w' base v l vs := h.wrote (S := fun _ => False) (Wrote.of_below hb) (fun _ _ e => e)
theorem OwnH.nil_ : OwnH w base (.slice none 0 0) [] [] :=
  ⟨rfl, ⟨[], w.ownsRow_nil base _ _, fun k h u e => by simp at e⟩, fun k h u e => by simp at e, fun k u g e => by simp at e, fun i j u u' g e => by simp at e, fun h e => by simp at e⟩
/-- Within: the cells of one hunk, and that they may be written. -/
theorem OwnH.at_ (h : OwnH w base (.slice A n cap) l vs) (hk : k < n) : ∃ g x a2 m c, A = some ⟨g, 0, none⟩ ∧ base ≤ g ∧ g < w.heap.size ∧ l[k]? = some x ∧ vs[k]? = some (.slice a2 m c) ∧ m ≤ c ∧
    w.cell? ⟨g, k * 3, none⟩ = some (.int .i64 x.at_) ∧ w.cell? ⟨g, k * 3 + 1, none⟩ = some (.int .i64 x.gone) ∧ w.cell? ⟨g, k * 3 + 2, none⟩ = some (.slice a2 m c) ∧ OwnV w base (.slice a2 m c) x.new ∧ i64ok x.at_ ∧ i64ok x.gone ∧
    (∀ j, w.frozen? ⟨g, j, none⟩ = false) := by
  obtain ⟨xs, h1, h2⟩ := h.row
  have hn : l.length = n := by
    rcases h1.2 with ⟨hv, h0⟩ | ⟨g, cap', cur, hv, _⟩
    · injection hv with e1 e2 e3; omega
    · injection hv with e1 e2 e3; omega
  obtain ⟨x, u, hx, hu⟩ := h.get_ (show k < l.length by omega)
  obtain ⟨g, cap', hv, hb, hlt⟩ := h1.form (by omega)
  injection hv with e1 e2 e3
  subst e1 e3
  rw [hn] at h1
  have ho := h.news k x u hx hu
  obtain ⟨a2, c, rfl, hmc, _⟩ := ho.form rfl
  obtain ⟨q0, q1, q2⟩ := h2 k x _ hx hu
  exact ⟨g, x, a2, _, c, rfl, hb, hlt, hx, hu, hmc, by rw [h1.cellAt _ (by omega)]; exact q0, by rw [h1.cellAt _ (by omega)]; exact q1, by rw [h1.cellAt _ (by omega)]; exact q2, ho, (h.ints x (List.mem_of_getElem? hx)).1, (h.ints x (List.mem_of_getElem? hx)).2, fun j => h1.frozenAt j⟩
theorem OwnH.hks (h : OwnH w base (.slice A n cap) l vs) : Hks w A n l := by
  obtain ⟨xs, h1, h2⟩ := h.row
  have hn : l.length = n ∧ n ≤ maxLen := by
    rcases h1.2 with ⟨hv, h0⟩ | ⟨g, cap', cur, hv, _, _, h3, h4, _⟩
    · injection hv with e1 e2 e3; unfold maxLen; omega
    · injection hv with e1 e2 e3; omega
  refine ⟨hn.1, hn.2, fun k x hx => ?_⟩
  have hk : k < n := by rw [← hn.1]; exact (List.getElem?_eq_some_iff.1 hx).1
  obtain ⟨g, x', a2, m, c, rfl, _, _, hx', hu, hmc, c0, c1, c2, ho, i0, i1, _⟩ := h.at_ hk
  rw [hx] at hx'
  injection hx' with hx'
  subst hx'
  exact ⟨g, 0, a2, m, c, rfl, by rw [Nat.zero_add]; exact c0, by rw [Nat.zero_add]; exact c1, by rw [Nat.zero_add]; exact c2, ho.strs, hmc, i0, i1⟩
end

theorem heap_at {w : World} {o : Obj} {k : Nat} (h : k = w.heap.size) : (w.alloc o).heap[k]? = some o := by subst h; exact heap_alloc_new w o

section
variable {S : Nat → Prop} {w w' : World} {base n cap g k : Nat} {v u : Value} {A : Option Addr} {l : List Hk} {vs : List Value} {x : Hk}
theorem set_get {α : Type} {l : List α} {k j : Nat} {a b : α} (h : (l.set k a)[j]? = some b) : (k = j ∧ b = a) ∨ (k ≠ j ∧ l[j]? = some b) := by
  rw [List.getElem?_set] at h
  split at h
  · split at h
    · injection h with h; exact .inl ⟨by assumption, h.symm⟩
    · cases h
  · exact .inr ⟨by assumption, h⟩
theorem set_ne {α : Type} {l : List α} {k j : Nat} {a b : α} (h : l[j]? = some b) (hn : k ≠ j) : (l.set k a)[j]? = some b := by rw [List.getElem?_set, if_neg hn, h]
theorem set_eq {α : Type} {l : List α} {k : Nat} {a : α} (h : k < l.length) : (l.set k a)[k]? = some a := by rw [List.getElem?_set, if_pos rfl, if_pos h]
/-- The place of one hunk is written. -/
theorem OwnH.setAt (h : OwnH w base (.slice (some ⟨g, 0, none⟩) n cap) l vs) (hx : l[k]? = some x) (i : Int) (hi : i64ok i) : OwnH (w.setCell ⟨g, k * 3, none⟩ (.int .i64 i)) base (.slice (some ⟨g, 0, none⟩) n cap) (l.set k ⟨i, x.gone, x.new⟩) vs := by
  have hn : l.length = n := h.hks.len
  have hk : k < n := by rw [← hn]; exact (List.getElem?_eq_some_iff.1 hx).1
  obtain ⟨xs, h1, h2⟩ := h.row
  have hxl := h1.1
  rw [hn] at h1
  have hw : Wrote (fun i => i = g) w (w.setCell ⟨g, k * 3, none⟩ (.int .i64 i)) := Wrote.set _ w _ _ rfl
  refine ⟨by simp [h.len], ⟨_, by rw [List.length_set, hn]; exact (h1.stored (k * 3) (.int .i64 i)).1, fun j y t hy ht => ?_⟩, fun j y t hy ht => ?_, h.apart, h.apart2, fun y hy => ?_⟩
  · rcases set_get hy with ⟨rfl, rfl⟩ | ⟨hne, hy⟩
    · obtain ⟨q0, q1, q2⟩ := h2 k x t hx ht
      exact ⟨set_eq (by omega), set_ne q1 (by omega), set_ne q2 (by omega)⟩
    · obtain ⟨q0, q1, q2⟩ := h2 j y t hy ht
      exact ⟨set_ne q0 (by omega), set_ne q1 (by omega), set_ne q2 (by omega)⟩
  · have hq : OwnV w base t y.new := by
      rcases set_get hy with ⟨rfl, rfl⟩ | ⟨hne, hy⟩
      · exact h.news k x t hx ht
      · exact h.news j y t hy ht
    exact hq.wrote hw (fun g' e e2 => h.apart j t g' ht e (by rw [e2]; rfl))
  · rcases List.mem_or_eq_of_mem_set hy with h5 | h5
    · exact h.ints y h5
    · rw [h5]; exact ⟨hi, (h.ints x (List.mem_of_getElem? hx)).2⟩
theorem OwnH.setGone (h : OwnH w base (.slice (some ⟨g, 0, none⟩) n cap) l vs) (hx : l[k]? = some x) (i : Int) (hi : i64ok i) : OwnH (w.setCell ⟨g, k * 3 + 1, none⟩ (.int .i64 i)) base (.slice (some ⟨g, 0, none⟩) n cap) (l.set k ⟨x.at_, i, x.new⟩) vs := by
  have hn : l.length = n := h.hks.len
  have hk : k < n := by rw [← hn]; exact (List.getElem?_eq_some_iff.1 hx).1
  obtain ⟨xs, h1, h2⟩ := h.row
  have hxl := h1.1
  rw [hn] at h1
  have hw : Wrote (fun i => i = g) w (w.setCell ⟨g, k * 3 + 1, none⟩ (.int .i64 i)) := Wrote.set _ w _ _ rfl
  refine ⟨by simp [h.len], ⟨_, by rw [List.length_set, hn]; exact (h1.stored (k * 3 + 1) (.int .i64 i)).1, fun j y t hy ht => ?_⟩, fun j y t hy ht => ?_, h.apart, h.apart2, fun y hy => ?_⟩
  · rcases set_get hy with ⟨rfl, rfl⟩ | ⟨hne, hy⟩
    · obtain ⟨q0, q1, q2⟩ := h2 k x t hx ht
      exact ⟨set_ne q0 (by omega), set_eq (by omega), set_ne q2 (by omega)⟩
    · obtain ⟨q0, q1, q2⟩ := h2 j y t hy ht
      exact ⟨set_ne q0 (by omega), set_ne q1 (by omega), set_ne q2 (by omega)⟩
  · have hq : OwnV w base t y.new := by
      rcases set_get hy with ⟨rfl, rfl⟩ | ⟨hne, hy⟩
      · exact h.news k x t hx ht
      · exact h.news j y t hy ht
    exact hq.wrote hw (fun g' e e2 => h.apart j t g' ht e (by rw [e2]; rfl))
  · rcases List.mem_or_eq_of_mem_set hy with h5 | h5
    · exact h.ints y h5
    · rw [h5]; exact ⟨(h.ints x (List.mem_of_getElem? hx)).1, hi⟩
end

end Go.Proofs.YtnnaigoomipklaaGreatDoor

namespace Go.Proofs.YtnnaigoomipklaaGreatDoor
open Go.RowKit Go.ChangeShapes Go.WideShapes M

theorem hk_info : (Tryz.prog.info? 105).map (fun i => (i.zero, i.size, i.bytes)) = some (some (.agg #[.int .i64 0, .int .i64 0, .slice none 0 0]), 3, 40) := by kernel_rfl

theorem eqH_step {l r : List Hk} {k : Nat} {s t : Hk} (H : ∀ j s t, j < k → l[j]? = some s → r[j]? = some t → eqH s t = true) (hs : l[k]? = some s) (ht : r[k]? = some t) (h : eqH s t = true) :
    ∀ j s t, j < k + 1 → l[j]? = some s → r[j]? = some t → eqH s t = true := by
  intro j s' t' hj hs' ht'
  by_cases e : j = k
  · subst e; rw [hs] at hs'; rw [ht] at ht'; injection hs' with hs'; injection ht' with ht'; rw [← hs', ← ht', h]
  · exact H j s' t' (by omega) hs' ht'

theorem Wrote.below' {S : Nat → Prop} {w w' a : World} (hb : Below a.heap.size a w) (h : Wrote S w w') (hs : ∀ k, S k → a.heap.size ≤ k) : Below a.heap.size a w' := Wrote.below hb h hb.size hs

end Go.Proofs.YtnnaigoomipklaaGreatDoor
