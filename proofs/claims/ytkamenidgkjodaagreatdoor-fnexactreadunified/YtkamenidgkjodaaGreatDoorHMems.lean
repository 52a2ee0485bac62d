/-
  Words for memory: a slice of hunks that reads as a list; what the laws count of it.
  The laws' own small functions on hunks: copied, compared, marked.
-/
import Derived.Test.YtkamenidgkjodaaGreatDoorMemT
import Derived.Test.YtkamenidgkjodaaGreatDoorHBases
set_option linter.unusedSimpArgs false
set_option linter.unusedVariables false
namespace Go.Proofs.YtkamenidgkjodaaGreatDoor
open Go.RowKit Go.ChangeShapes Go.WideShapes M

/-- The address and the length of a slice of hunks, in a world, and the hunks. -/
structure Hks (w : World) (a : Option Addr) (n : Nat) (l : List Hk) : Prop where
  len : l.length = n
  lim : n ≤ maxLen
  cell : ∀ k h, l[k]? = some h → ∃ b off A m c, a = some ⟨b, off, none⟩ ∧ w.cell? ⟨b, off + k * 3, none⟩ = some (.int .i64 h.at_) ∧ w.cell? ⟨b, off + k * 3 + 1, none⟩ = some (.int .i64 h.gone) ∧
    w.cell? ⟨b, off + k * 3 + 2, none⟩ = some (.slice A m c) ∧ Strs w A m h.new ∧ m ≤ c ∧ i64ok h.at_ ∧ i64ok h.gone

section
variable {w w' : World} {a : Option Addr} {n k : Nat} {l : List Hk}
theorem Hks.at_ (h : Hks w a n l) (hk : k < n) : ∃ b off A m c x, a = some ⟨b, off, none⟩ ∧ l[k]? = some x ∧ w.cell? ⟨b, off + k * 3, none⟩ = some (.int .i64 x.at_) ∧ w.cell? ⟨b, off + k * 3 + 1, none⟩ = some (.int .i64 x.gone) ∧
    w.cell? ⟨b, off + k * 3 + 2, none⟩ = some (.slice A m c) ∧ Strs w A m x.new ∧ m ≤ c ∧ i64ok x.at_ ∧ i64ok x.gone := by
  have hl : k < l.length := by rw [h.len]; exact hk
  obtain ⟨b, off, A, m, c, e, r⟩ := h.cell k _ (List.getElem?_eq_getElem hl)
  exact ⟨b, off, A, m, c, _, e, List.getElem?_eq_getElem hl, r⟩
theorem Hks.keep {B : Nat} (h : Hks w a n l) (hb : Below B w w') (hB : w.heap.size ≤ B) : Hks w' a n l :=
  ⟨h.len, h.lim, fun k s hs => by
    obtain ⟨b, off, A, m, c, e, h1, h2, h3, h4, h5⟩ := h.cell k s hs
    have hb := hb.mono hB
    exact ⟨b, off, A, m, c, e, cell_keep hb h1, cell_keep hb h2, cell_keep hb h3, h4.below hb, h5⟩⟩
theorem Hks.below (h : Hks w a n l) (hb : Below w.heap.size w w') : Hks w' a n l := h.keep hb (Nat.le_refl _)
theorem Hks.nil_ : Hks w a 0 [] := ⟨rfl, Nat.zero_le _, fun k s h => by simp at h⟩
end

/-- A slice of hunks of the call's own, from block 'base' on: the array and each New lie in blocks of their own. -/
structure OwnH (w : World) (base : Nat) (v : Value) (l : List Hk) (vs : List Value) : Prop where
  len : vs.length = l.length
  row : ∃ xs, w.ownsRow base 95 3 v l.length xs ∧ ∀ (k : Nat) (h : Hk) (u : Value), l[k]? = some h → vs[k]? = some u → xs[k * 3]? = some (.int .i64 h.at_) ∧ xs[k * 3 + 1]? = some (.int .i64 h.gone) ∧ xs[k * 3 + 2]? = some u
  news : ∀ (k : Nat) (h : Hk) (u : Value), l[k]? = some h → vs[k]? = some u → OwnV w base u h.new
  apart : ∀ (k : Nat) (u : Value) (g : Nat), vs[k]? = some u → u.ownBlock = some g → v.ownBlock ≠ some g
  apart2 : ∀ (i j : Nat) (u u' : Value) (g : Nat), vs[i]? = some u → vs[j]? = some u' → u.ownBlock = some g → u'.ownBlock = some g → i = j
  ints : ∀ h ∈ l, i64ok h.at_ ∧ i64ok h.gone
/-- The blocks of such a slice. -/
def Blk (v : Value) (vs : List Value) (g : Nat) : Prop := v.ownBlock = some g ∨ ∃ k : Nat, ∃ u, vs[k]? = some u ∧ u.ownBlock = some g

section
variable {S : Nat → Prop} {w w' : World} {base n cap g k : Nat} {v u : Value} {A : Option Addr} {l : List Hk} {vs : List Value}
theorem OwnH.get_ (h : OwnH w base v l vs) (hk : k < l.length) : ∃ x u, l[k]? = some x ∧ vs[k]? = some u := ⟨_, _, List.getElem?_eq_getElem hk, List.getElem?_eq_getElem (show k < vs.length by rw [h.len]; exact hk)⟩
theorem OwnH.lt (h : OwnH w base v l vs) (hg : Blk v vs g) : base ≤ g ∧ g < w.heap.size := by
  rcases hg with e | ⟨k, u, hu, e⟩
  · obtain ⟨xs, h1, _⟩ := h.row
    exact h1.lt g e
  · have hk : k < l.length := by rw [← h.len]; exact (List.getElem?_eq_some_iff.1 hu).1
    exact (h.news k _ u (List.getElem?_eq_getElem hk) hu).lt e
theorem OwnH.form (h : OwnH w base v l vs) (hn : l.length = n) : ∃ A cap, v = .slice A n cap ∧ n ≤ cap ∧ cap ≤ maxLen := by
  subst hn
  obtain ⟨xs, h1, _⟩ := h.row
  rcases h1.2 with ⟨hv, h0⟩ | ⟨g, cap, cur, hv, _, _, h1, h2, _⟩
  · exact ⟨none, 0, by rw [hv, h0], by omega, by omega⟩
  · exact ⟨_, cap, hv, h1, h2⟩
theorem OwnH.wrote (h : OwnH w base v l vs) (hw : Wrote S w w') (hne : ∀ g, Blk v vs g → ¬ S g) : OwnH w' base v l vs := by
  refine ⟨h.len, ?_, fun k x u hx hu => (h.news k x u hx hu).wrote hw (fun g e => hne g (.inr ⟨k, u, hu, e⟩)), h.apart, h.apart2, h.ints⟩
  obtain ⟨xs, h1, h2⟩ := h.row
  exact ⟨xs, ownsRow_wrote h1 hw (fun g e => hne g (.inl e)), h2⟩
theorem OwnH.below (h : OwnH w base v l vs) (hb : Below w.heap.size w w') : OwnH w' base v l vs := h.wrote (S := fun _ => False) (Wrote.of_below hb) (fun _ _ e => e)
theorem OwnH.nil_ : OwnH w base (.slice none 0 0) [] [] :=
  ⟨rfl, ⟨[], w.ownsRow_nil base _ _, fun k h u e => by simp at e⟩, fun k h u e => by simp at e, fun k u g e => by simp at e, fun i j u u' g e => by simp at e, fun h e => by simp at e⟩
/-- Within: the cells of one hunk, and that they may be written. -/
theorem OwnH.at_ (h : OwnH w base (.slice A n cap) l vs) (hk : k < n) : ∃ g x a2 m c, A = some ⟨g, 0, none⟩ ∧ base ≤ g ∧ g < w.heap.size ∧ l[k]? = some x ∧ vs[k]? = some (.slice a2 m c) ∧ m ≤ c ∧
    w.cell? ⟨g, k * 3, none⟩ = some (.int .i64 x.at_) ∧ w.cell? ⟨g, k * 3 + 1, none⟩ = some (.int .i64 x.gone) ∧ w.cell? ⟨g, k * 3 + 2, none⟩ = some (.slice a2 m c) ∧ OwnV w base (.slice a2 m c) x.new ∧ i64ok x.at_ ∧ i64ok x.gone ∧
    (∀ j, w.frozen? ⟨g, j, none⟩ = false) := by
  obtain ⟨xs, h1, h2⟩ := h.row
  have hn : l.length = n := by
    rcases h1.2 with ⟨hv, h0⟩ | ⟨g, cap', cur, hv, _⟩
    · injection hv with e1 e2 e3; omega
    · injection hv with e1 e2 e3; omega
  obtain ⟨x, u, hx, hu⟩ := h.get_ (show k < l.length by omega)
  obtain ⟨g, cap', hv, hb, hlt⟩ := h1.form (by omega)
  injection hv with e1 e2 e3
  subst e1 e3
  rw [hn] at h1
  have ho := h.news k x u hx hu
  obtain ⟨a2, c, rfl, hmc, _⟩ := ho.form rfl
  obtain ⟨q0, q1, q2⟩ := h2 k x _ hx hu
  exact ⟨g, x, a2, _, c, rfl, hb, hlt, hx, hu, hmc, by rw [h1.cellAt _ (by omega)]; exact q0, by rw [h1.cellAt _ (by omega)]; exact q1, by rw [h1.cellAt _ (by omega)]; exact q2, ho, (h.ints x (List.mem_of_getElem? hx)).1, (h.ints x (List.mem_of_getElem? hx)).2, fun j => h1.frozenAt j⟩
theorem OwnH.hks (h : OwnH w base (.slice A n cap) l vs) : Hks w A n l := by
  obtain ⟨xs, h1, h2⟩ := h.row
  have hn : l.length = n ∧ n ≤ maxLen := by
    rcases h1.2 with ⟨hv, h0⟩ | ⟨g, cap', cur, hv, _, _, h3, h4, _⟩
    · injection hv with e1 e2 e3; unfold maxLen; omega
    · injection hv with e1 e2 e3; omega
  refine ⟨hn.1, hn.2, fun k x hx => ?_⟩
  have hk : k < n := by rw [← hn.1]; exact (List.getElem?_eq_some_iff.1 hx).1
  obtain ⟨g, x', a2, m, c, rfl, _, _, hx', hu, hmc, c0, c1, c2, ho, i0, i1, _⟩ := h.at_ hk
  rw [hx] at hx'
  injection hx' with hx'
  subst hx'
  exact ⟨g, 0, a2, m, c, rfl, by rw [Nat.zero_add]; exact c0, by rw [Nat.zero_add]; exact c1, by rw [Nat.zero_add]; exact c2, ho.strs, hmc, i0, i1⟩
end

theorem OwnV.setBelow {w : World} {base : Nat} {v : Value} {a : Addr} {l : List ByteArray} (h : OwnV w base v l) (ha : a.block < base) (u : Value) : OwnV (w.setCell a u) base v l :=
  h.wrote (Wrote.set (fun g => g = a.block) w a u rfl) (fun g e e2 => by have := (h.lt e).1; omega)
theorem heap_at {w : World} {o : Obj} {k : Nat} (h : k = w.heap.size) : (w.alloc o).heap[k]? = some o := by subst h; exact heap_alloc_new w o

section
variable {S : Nat → Prop} {w w' : World} {base n cap g k : Nat} {v u : Value} {A : Option Addr} {l : List Hk} {vs : List Value} {x : Hk}
theorem set_get {α : Type} {l : List α} {k j : Nat} {a b : α} (h : (l.set k a)[j]? = some b) : (k = j ∧ b = a) ∨ (k ≠ j ∧ l[j]? = some b) := by
  rw [List.getElem?_set] at h
  split at h
  · split at h
    · injection h with h; exact .inl ⟨by assumption, h.symm⟩
    · cases h
  · exact .inr ⟨by assumption, h⟩
theorem set_ne {α : Type} {l : List α} {k j : Nat} {a b : α} (h : l[j]? = some b) (hn : k ≠ j) : (l.set k a)[j]? = some b := by rw [List.getElem?_set, if_neg hn, h]
theorem set_eq {α : Type} {l : List α} {k : Nat} {a : α} (h : k < l.length) : (l.set k a)[k]? = some a := by rw [List.getElem?_set, if_pos rfl, if_pos h]
/-- All three cells of one hunk are written. -/
theorem OwnH.put (h : OwnH w base (.slice (some ⟨g, 0, none⟩) n cap) l vs) (hk : k < n) (x : Hk) (hx : i64ok x.at_ ∧ i64ok x.gone) (hu : OwnV w base u x.new) (hf : ∀ g', u.ownBlock = some g' → ¬ Blk (.slice (some ⟨g, 0, none⟩) n cap) vs g') :
    OwnH (((w.setCell ⟨g, k * 3, none⟩ (.int .i64 x.at_)).setCell ⟨g, k * 3 + 1, none⟩ (.int .i64 x.gone)).setCell ⟨g, k * 3 + 2, none⟩ u) base (.slice (some ⟨g, 0, none⟩) n cap) (l.set k x) (vs.set k u) := by
  have hn : l.length = n := h.hks.len
  obtain ⟨xs, h1, h2⟩ := h.row
  have hlen := h.len
  have hxl := h1.1
  rw [hn] at h1
  have s1 := (h1.stored (k * 3) (.int .i64 x.at_)).1
  have s2 := (s1.stored (k * 3 + 1) (.int .i64 x.gone)).1
  have s3 := (s2.stored (k * 3 + 2) u).1
  have hw : Wrote (fun i => i = g) w (((w.setCell ⟨g, k * 3, none⟩ (.int .i64 x.at_)).setCell ⟨g, k * 3 + 1, none⟩ (.int .i64 x.gone)).setCell ⟨g, k * 3 + 2, none⟩ u) :=
    ((Wrote.set (fun i => i = g) w _ _ rfl).trans (Wrote.set (fun i => i = g) _ _ _ rfl) (fun _ _ e => e)).trans (Wrote.set (fun i => i = g) _ _ _ rfl) (fun _ _ e => e)
  refine ⟨by simp [hlen], ⟨_, by rw [List.length_set, hn]; exact s3, fun j y t hy ht => ?_⟩, fun j y t hy ht => ?_, fun j t g' ht e => ?_, fun i j t t' g' ht ht' e e' => ?_, fun y hy => ?_⟩
  · rcases set_get hy with ⟨rfl, rfl⟩ | ⟨hne, hy⟩
    · rcases set_get ht with ⟨_, rfl⟩ | ⟨hne, ht⟩
      · exact ⟨set_ne (set_ne (set_eq (by omega)) (by omega)) (by omega), set_ne (set_eq (by rw [List.length_set]; omega)) (by omega), set_eq (by rw [List.length_set, List.length_set]; omega)⟩
      · exact absurd rfl hne
    · rcases set_get ht with ⟨e, rfl⟩ | ⟨hne, ht⟩
      · exact absurd e hne
      · obtain ⟨q0, q1, q2⟩ := h2 j y t hy ht
        exact ⟨set_ne (set_ne (set_ne q0 (by omega)) (by omega)) (by omega), set_ne (set_ne (set_ne q1 (by omega)) (by omega)) (by omega), set_ne (set_ne (set_ne q2 (by omega)) (by omega)) (by omega)⟩
  · rcases set_get hy with ⟨rfl, rfl⟩ | ⟨hne, hy⟩
    · rcases set_get ht with ⟨_, rfl⟩ | ⟨hne, ht⟩
      · exact hu.wrote hw (fun g' e e2 => hf g' e (.inl (by rw [e2]; rfl)))
      · exact absurd rfl hne
    · rcases set_get ht with ⟨e, rfl⟩ | ⟨hne, ht⟩
      · exact absurd e hne
      · exact (h.news j y t hy ht).wrote hw (fun g' e e2 => h.apart j t g' ht e (by rw [e2]; rfl))
  · rcases set_get ht with ⟨_, rfl⟩ | ⟨hne, ht⟩
    · exact fun e2 => hf g' e (.inl e2)
    · exact h.apart j t g' ht e
  · rcases set_get ht with ⟨rfl, rfl⟩ | ⟨hne, h3⟩
    · rcases set_get ht' with ⟨rfl, rfl⟩ | ⟨hne', h4⟩
      · rfl
      · exact absurd (.inr ⟨j, t', h4, e'⟩) (hf g' e)
    · rcases set_get ht' with ⟨rfl, rfl⟩ | ⟨hne', h4⟩
      · exact absurd (.inr ⟨i, t, h3, e⟩) (hf g' e')
      · exact h.apart2 i j t t' g' h3 h4 e e'
  · rcases List.mem_or_eq_of_mem_set hy with h5 | h5
    · exact h.ints y h5
    · rw [h5]; exact hx
/-- The place of one hunk is written. -/
theorem OwnH.setAt (h : OwnH w base (.slice (some ⟨g, 0, none⟩) n cap) l vs) (hx : l[k]? = some x) (i : Int) (hi : i64ok i) : OwnH (w.setCell ⟨g, k * 3, none⟩ (.int .i64 i)) base (.slice (some ⟨g, 0, none⟩) n cap) (l.set k ⟨i, x.gone, x.new⟩) vs := by
  have hn : l.length = n := h.hks.len
  have hk : k < n := by rw [← hn]; exact (List.getElem?_eq_some_iff.1 hx).1
  obtain ⟨xs, h1, h2⟩ := h.row
  have hxl := h1.1
  rw [hn] at h1
  have hw : Wrote (fun i => i = g) w (w.setCell ⟨g, k * 3, none⟩ (.int .i64 i)) := Wrote.set _ w _ _ rfl
  refine ⟨by simp [h.len], ⟨_, by rw [List.length_set, hn]; exact (h1.stored (k * 3) (.int .i64 i)).1, fun j y t hy ht => ?_⟩, fun j y t hy ht => ?_, h.apart, h.apart2, fun y hy => ?_⟩
  · rcases set_get hy with ⟨rfl, rfl⟩ | ⟨hne, hy⟩
    · obtain ⟨q0, q1, q2⟩ := h2 k x t hx ht
      exact ⟨set_eq (by omega), set_ne q1 (by omega), set_ne q2 (by omega)⟩
    · obtain ⟨q0, q1, q2⟩ := h2 j y t hy ht
      exact ⟨set_ne q0 (by omega), set_ne q1 (by omega), set_ne q2 (by omega)⟩
  · have hq : OwnV w base t y.new := by
      rcases set_get hy with ⟨rfl, rfl⟩ | ⟨hne, hy⟩
      · exact h.news k x t hx ht
      · exact h.news j y t hy ht
    exact hq.wrote hw (fun g' e e2 => h.apart j t g' ht e (by rw [e2]; rfl))
  · rcases List.mem_or_eq_of_mem_set hy with h5 | h5
    · exact h.ints y h5
    · rw [h5]; exact ⟨hi, (h.ints x (List.mem_of_getElem? hx)).2⟩
theorem OwnH.setGone (h : OwnH w base (.slice (some ⟨g, 0, none⟩) n cap) l vs) (hx : l[k]? = some x) (i : Int) (hi : i64ok i) : OwnH (w.setCell ⟨g, k * 3 + 1, none⟩ (.int .i64 i)) base (.slice (some ⟨g, 0, none⟩) n cap) (l.set k ⟨x.at_, i, x.new⟩) vs := by
  have hn : l.length = n := h.hks.len
  have hk : k < n := by rw [← hn]; exact (List.getElem?_eq_some_iff.1 hx).1
  obtain ⟨xs, h1, h2⟩ := h.row
  have hxl := h1.1
  rw [hn] at h1
  have hw : Wrote (fun i => i = g) w (w.setCell ⟨g, k * 3 + 1, none⟩ (.int .i64 i)) := Wrote.set _ w _ _ rfl
  refine ⟨by simp [h.len], ⟨_, by rw [List.length_set, hn]; exact (h1.stored (k * 3 + 1) (.int .i64 i)).1, fun j y t hy ht => ?_⟩, fun j y t hy ht => ?_, h.apart, h.apart2, fun y hy => ?_⟩
  · rcases set_get hy with ⟨rfl, rfl⟩ | ⟨hne, hy⟩
    · obtain ⟨q0, q1, q2⟩ := h2 k x t hx ht
      exact ⟨set_ne q0 (by omega), set_eq (by omega), set_ne q2 (by omega)⟩
    · obtain ⟨q0, q1, q2⟩ := h2 j y t hy ht
      exact ⟨set_ne q0 (by omega), set_ne q1 (by omega), set_ne q2 (by omega)⟩
  · have hq : OwnV w base t y.new := by
      rcases set_get hy with ⟨rfl, rfl⟩ | ⟨hne, hy⟩
      · exact h.news k x t hx ht
      · exact h.news j y t hy ht
    exact hq.wrote hw (fun g' e e2 => h.apart j t g' ht e (by rw [e2]; rfl))
  · rcases List.mem_or_eq_of_mem_set hy with h5 | h5
    · exact h.ints y h5
    · rw [h5]; exact ⟨(h.ints x (List.mem_of_getElem? hx)).1, hi⟩
/-- The lines of one hunk's New are written, in the block that it has. -/
theorem OwnH.renew (h : OwnH w base v l vs) (hx : l[k]? = some x) (hu : vs[k]? = some u) (hw : w.grownBy w' u.ownBlock) {r : List ByteArray} (ho : OwnV w' base u r) : OwnH w' base v (l.set k ⟨x.at_, x.gone, r⟩) vs := by
  have hw2 : Wrote (fun i => u.ownBlock = some i) w w' := Wrote.of_grown hw (fun _ e => e)
  obtain ⟨xs, h1, h2⟩ := h.row
  refine ⟨by simp [h.len], ⟨xs, by rw [List.length_set]; exact ownsRow_wrote h1 hw2 (fun g e e2 => h.apart k u g hu e2 e), fun j y t hy ht => ?_⟩, fun j y t hy ht => ?_, h.apart, h.apart2, fun y hy => ?_⟩
  · rcases set_get hy with ⟨rfl, rfl⟩ | ⟨hne, hy⟩
    · exact h2 k x t hx ht
    · exact h2 j y t hy ht
  · rcases set_get hy with ⟨rfl, rfl⟩ | ⟨hne, hy⟩
    · rw [hu] at ht; injection ht with ht; subst ht; exact ho
    · exact (h.news j y t hy ht).wrote hw2 (fun g' e e2 => hne (h.apart2 k j u t g' hu ht e2 e))
  · rcases List.mem_or_eq_of_mem_set hy with h5 | h5
    · exact h.ints y h5
    · rw [h5]; exact h.ints x (List.mem_of_getElem? hx)
end

end Go.Proofs.YtkamenidgkjodaaGreatDoor

namespace Go.Proofs.YtkamenidgkjodaaGreatDoor
open Go.RowKit Go.ChangeShapes Go.WideShapes M

theorem hk_info : (Tryz.prog.info? 95).map (fun i => (i.zero, i.size, i.bytes)) = some (some (.agg #[.int .i64 0, .int .i64 0, .slice none 0 0]), 3, 40) := by kernel_rfl
def blankCells (n : Nat) : Array Value := madeCells #[.int .i64 0, .int .i64 0, .slice none 0 0] (n * 3)
theorem make_hks (n : Nat) (hn : n ≤ 1048576) (w : World) :
    (Instr.makeSlice 34 (.int .i64 (n : Int)) (.int .i64 (n : Int))).run Tryz.prog w = .ok (.slice (some ⟨w.heap.size, 0, none⟩) n n) (w.alloc (.cells (blankCells n) 95)) := by
  obtain ⟨i, h1, h2, h3, h4⟩ := info_parts hk_info
  have hr := run_make (P := Tryz.prog) w 34 95 i _ Tryz.underlying34 h1 h2 .i64 .i64 n n (by omega) (by omega) (by rw [h4]; omega) (by omega)
  rw [h3] at hr
  simpa [blankCells, Value.cells] using hr
theorem blank_get (n k : Nat) (hk : k < n) : (blankCells n).toList[k * 3]? = some (.int .i64 0) ∧ (blankCells n).toList[k * 3 + 1]? = some (.int .i64 0) ∧ (blankCells n).toList[k * 3 + 2]? = some (.slice none 0 0) := by
  have hs : (blankCells n).size = n * 3 := by simp [blankCells, madeCells]
  have hg : ∀ (j r : Nat), j < n * 3 → j % 3 = r → (blankCells n).toList[j]? = some ((#[.int .i64 0, .int .i64 0, .slice none 0 0] : Array Value)[r]!) := by
    intro j r hj hr
    rw [← hr, blankCells, madeCells, Array.toList_map, Array.toList_range, List.getElem?_map, List.getElem?_range hj]
    rfl
  exact ⟨hg _ 0 (by omega) (by omega), hg _ 1 (by omega) (by omega), hg _ 2 (by omega) (by omega)⟩
theorem OwnH.made (w : World) (n : Nat) (hn : n ≤ 1048576) : OwnH (w.alloc (.cells (blankCells n) 95)) w.heap.size (.slice (some ⟨w.heap.size, 0, none⟩) n n) (List.replicate n blankH) (List.replicate n (.slice none 0 0)) := by
  have hs : (blankCells n).size = n * 3 := by simp [blankCells, madeCells]
  have hg : ∀ {α : Type} {k : Nat} {a b : α}, (List.replicate n a)[k]? = some b → k < n ∧ b = a := by
    intro α k a b h
    rw [List.getElem?_replicate] at h
    split at h
    · injection h with h; exact ⟨by assumption, h.symm⟩
    · cases h
  refine ⟨by simp, ⟨(blankCells n).toList, ⟨by simp [hs], .inr ⟨w.heap.size, n, blankCells n, by simp, Nat.le_refl _, heap_alloc_new w _, by simp, by unfold maxLen; omega, hs, by rw [List.length_replicate]; exact List.take_of_length_le (by simp [hs])⟩⟩, fun k h u hh hu => ?_⟩, fun k h u hh hu => ?_, fun k u g hu e => ?_, fun i j u u' g hu hu' e e' => ?_, fun h hh => ?_⟩
  · obtain ⟨hk, rfl⟩ := hg hh
    obtain ⟨_, rfl⟩ := hg hu
    exact blank_get n k hk
  · obtain ⟨hk, rfl⟩ := hg hh
    obtain ⟨_, rfl⟩ := hg hu
    exact OwnV.nil_
  · obtain ⟨_, rfl⟩ := hg hu
    cases e
  · obtain ⟨_, rfl⟩ := hg hu
    cases e
  · rw [List.eq_of_mem_replicate hh]
    exact ⟨⟨by decide, by decide⟩, ⟨by decide, by decide⟩⟩

theorem eqH_step {l r : List Hk} {k : Nat} {s t : Hk} (H : ∀ j s t, j < k → l[j]? = some s → r[j]? = some t → eqH s t = true) (hs : l[k]? = some s) (ht : r[k]? = some t) (h : eqH s t = true) :
    ∀ j s t, j < k + 1 → l[j]? = some s → r[j]? = some t → eqH s t = true := by
  intro j s' t' hj hs' ht'
  by_cases e : j = k
  · subst e; rw [hs] at hs'; rw [ht] at ht'; injection hs' with hs'; injection ht' with ht'; rw [← hs', ← ht', h]
  · exact H j s' t' (by omega) hs' ht'

theorem nat_ok {k : Nat} (h : k ≤ 33554432) : i64ok (k : Int) := ⟨by omega, by omega⟩
theorem markHk_new (k : Nat) (x : Hk) : (markHk k x).new = marks (k + 2) x.new.length := rfl

theorem Wrote.below' {S : Nat → Prop} {w w' a : World} (hb : Below a.heap.size a w) (h : Wrote S w w') (hs : ∀ k, S k → a.heap.size ≤ k) : Below a.heap.size a w' := Wrote.below hb h hb.size hs

end Go.Proofs.YtkamenidgkjodaaGreatDoor
