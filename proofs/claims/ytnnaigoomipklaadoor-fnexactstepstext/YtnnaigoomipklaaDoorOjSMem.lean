/-
  Words for memory: a slice of steps that reads as a list; one of the call's own.
-/
import Derived.Test.YtnnaigoomipklaaDoorOjSMath
import Derived.Test.YtnnaigoomipklaaDoorOjURows
import Derived.Test.YtnnaigoomipklaaDoorOjHMems
set_option linter.unusedSimpArgs false
set_option linter.unusedVariables false
namespace Go.Proofs.YtnnaigoomipklaaDoor
open Go.RowKit Go.ChangeShapes Go.WideShapes M

/-- Numbers and texts of a step that Go can hold. -/
structure SpOk (x : Sp) : Prop where
  fr : i64ok x.fr
  to_ : i64ok x.to_
  at_ : i64ok x.at_
  en : i64ok x.en
  old : ∀ s ∈ x.old, s.size ≤ maxLen
  new : ∀ s ∈ x.new, s.size ≤ maxLen

/-- The address and the length of a slice of steps, in a world, and the steps. -/
structure Sps (w : World) (a : Option Addr) (n : Nat) (p : List Sp) : Prop where
  len : p.length = n
  lim : n ≤ maxLen
  cell : ∀ k x, p[k]? = some x → ∃ b off A m c B m2 c2, a = some ⟨b, off, none⟩ ∧ w.cell? ⟨b, off + k * 6, none⟩ = some (.int .i64 x.fr) ∧ w.cell? ⟨b, off + k * 6 + 1, none⟩ = some (.int .i64 x.to_) ∧
    w.cell? ⟨b, off + k * 6 + 2, none⟩ = some (.slice A m c) ∧ w.cell? ⟨b, off + k * 6 + 3, none⟩ = some (.int .i64 x.at_) ∧ w.cell? ⟨b, off + k * 6 + 4, none⟩ = some (.int .i64 x.en) ∧ w.cell? ⟨b, off + k * 6 + 5, none⟩ = some (.slice B m2 c2) ∧
    Strs w A m x.old ∧ m ≤ c ∧ Strs w B m2 x.new ∧ m2 ≤ c2 ∧ SpOk x

section
variable {w w' : World} {a : Option Addr} {n k : Nat} {p : List Sp}
theorem Sps.at_ (h : Sps w a n p) (hk : k < n) : ∃ b off A m c B m2 c2 x, a = some ⟨b, off, none⟩ ∧ p[k]? = some x ∧ w.cell? ⟨b, off + k * 6, none⟩ = some (.int .i64 x.fr) ∧ w.cell? ⟨b, off + k * 6 + 1, none⟩ = some (.int .i64 x.to_) ∧
    w.cell? ⟨b, off + k * 6 + 2, none⟩ = some (.slice A m c) ∧ w.cell? ⟨b, off + k * 6 + 3, none⟩ = some (.int .i64 x.at_) ∧ w.cell? ⟨b, off + k * 6 + 4, none⟩ = some (.int .i64 x.en) ∧ w.cell? ⟨b, off + k * 6 + 5, none⟩ = some (.slice B m2 c2) ∧
    Strs w A m x.old ∧ m ≤ c ∧ Strs w B m2 x.new ∧ m2 ≤ c2 ∧ SpOk x := by
  have hl : k < p.length := by rw [h.len]; exact hk
  obtain ⟨b, off, A, m, c, B, m2, c2, e, r⟩ := h.cell k _ (List.getElem?_eq_getElem hl)
  exact ⟨b, off, A, m, c, B, m2, c2, _, e, List.getElem?_eq_getElem hl, r⟩
theorem Sps.below (h : Sps w a n p) (hb : Below w.heap.size w w') : Sps w' a n p :=
  ⟨h.len, h.lim, fun k s hs => by
    obtain ⟨b, off, A, m, c, B, m2, c2, e, h0, h1, h2, h3, h4, h5, h6, h7, h8, h9⟩ := h.cell k s hs
    exact ⟨b, off, A, m, c, B, m2, c2, e, cell_keep hb h0, cell_keep hb h1, cell_keep hb h2, cell_keep hb h3, cell_keep hb h4, cell_keep hb h5, h6.below hb, h7, h8.below hb, h9⟩⟩
end

/-- The cells of a step. -/
def spRow (x : Sp) (u v : Value) : List D := [.lit (.int .i64 x.fr), .lit (.int .i64 x.to_), textsD u x.old, .lit (.int .i64 x.at_), .lit (.int .i64 x.en), textsD v x.new]

/-- A slice of steps of the call's own: the array, each Old and each New in blocks of their own. -/
structure OwnSt (w : World) (base : Nat) (v : Value) (p : List Sp) (rows : List (List D)) : Prop where
  len : rows.length = p.length
  own : OwnR w base v 83 6 rows
  row : ∀ (k : Nat) r x, rows[k]? = some r → p[k]? = some x → ∃ u u2, r = spRow x u u2
  ok : ∀ x ∈ p, SpOk x

section
variable {S : Nat → Prop} {w w' : World} {base n cap g k : Nat} {v u : Value} {A : Option Addr} {p : List Sp} {rows : List (List D)}
theorem OwnSt.lt (h : OwnSt w base v p rows) (hg : BlkR v rows g) : base ≤ g ∧ g < w.heap.size := h.own.lt hg
theorem OwnSt.below (h : OwnSt w base v p rows) (hb : Below w.heap.size w w') : OwnSt w' base v p rows := ⟨h.len, h.own.below hb, h.row, h.ok⟩
theorem OwnSt.at_ (h : OwnSt w base (.slice A n cap) p rows) (hk : k < n) : ∃ g x a1 m1 c1 a2 m2 c2, A = some ⟨g, 0, none⟩ ∧ base ≤ g ∧ g < w.heap.size ∧ p[k]? = some x ∧ rows[k]? = some (spRow x (.slice a1 m1 c1) (.slice a2 m2 c2)) ∧
    w.cell? ⟨g, k * 6, none⟩ = some (.int .i64 x.fr) ∧ w.cell? ⟨g, k * 6 + 1, none⟩ = some (.int .i64 x.to_) ∧ w.cell? ⟨g, k * 6 + 2, none⟩ = some (.slice a1 m1 c1) ∧ w.cell? ⟨g, k * 6 + 3, none⟩ = some (.int .i64 x.at_) ∧ w.cell? ⟨g, k * 6 + 4, none⟩ = some (.int .i64 x.en) ∧ w.cell? ⟨g, k * 6 + 5, none⟩ = some (.slice a2 m2 c2) ∧
    OwnV w base (.slice a1 m1 c1) x.old ∧ m1 ≤ c1 ∧ OwnV w base (.slice a2 m2 c2) x.new ∧ m2 ≤ c2 ∧ SpOk x ∧ (∀ j, w.frozen? ⟨g, j, none⟩ = false) := by
  obtain ⟨g, r, rfl, hb, hg, hr⟩ := h.own.addr hk
  have hl := h.own.len
  have hkp : k < p.length := by rw [← h.len, hl]; exact hk
  have hx : p[k]? = some p[k] := List.getElem?_eq_getElem hkp
  have hok := h.ok _ (List.mem_of_getElem? hx)
  obtain ⟨u, u2, rfl⟩ := h.row k r _ hr hx
  have o1 := D.own_texts (h.own.datum hr (j := 2) rfl) hok.old
  have o2 := D.own_texts (h.own.datum hr (j := 5) rfl) hok.new
  obtain ⟨a1, c1, rfl, hm1, _⟩ := o1.form rfl
  obtain ⟨a2, c2, rfl, hm2, _⟩ := o2.form rfl
  exact ⟨g, _, a1, _, c1, a2, _, c2, rfl, hb, hg, hx, hr, h.own.cell hr (j := 0) rfl, h.own.cell hr (j := 1) rfl, h.own.cell hr (j := 2) rfl, h.own.cell hr (j := 3) rfl, h.own.cell hr (j := 4) rfl, h.own.cell hr (j := 5) rfl, o1, hm1, o2, hm2, hok, h.own.free⟩
theorem OwnSt.sps (h : OwnSt w base (.slice A n cap) p rows) : Sps w A n p := by
  obtain ⟨A', cap', e, h1, h2⟩ := h.own.form rfl
  injection e with e1 e2 e3
  have hl : p.length = n := by rw [← h.len]; exact h.own.len
  refine ⟨hl, by omega, fun k x hx => ?_⟩
  have hk : k < n := by rw [← hl]; exact (List.getElem?_eq_some_iff.1 hx).1
  obtain ⟨g, y, a1, m1, c1, a2, m2, c2, rfl, _, _, hy, _, q0, q1, q2, q3, q4, q5, o1, hm1, o2, hm2, hok, _⟩ := h.at_ hk
  rw [hx] at hy
  injection hy with hy
  subst hy
  exact ⟨g, 0, a1, m1, c1, a2, m2, c2, rfl, by rw [Nat.zero_add]; exact q0, by rw [Nat.zero_add]; exact q1, by rw [Nat.zero_add]; exact q2, by rw [Nat.zero_add]; exact q3, by rw [Nat.zero_add]; exact q4, by rw [Nat.zero_add]; exact q5, o1.strs, hm1, o2.strs, hm2, hok⟩
end

/-! Where the four numbers and both lists of one step are written anew. -/

theorem list6 {α : Type} {r : List α} (h : r.length = 6) (a b c d e f : α) : (((((r.set 0 a).set 1 b).set 2 c).set 3 d).set 4 e).set 5 f = [a, b, c, d, e, f] := by
  match r, h with
  | [_, _, _, _, _, _], _ => rfl

theorem OwnSt.len_ {w : World} {base n cap : Nat} {A : Option Addr} {p : List Sp} {rows : List (List D)} (h : OwnSt w base (.slice A n cap) p rows) : p.length = n := by rw [← h.len]; exact h.own.len

/-- A step is laid into a place of such a slice, cell by cell. -/
theorem OwnSt.put {w : World} {base g n cap k : Nat} {p : List Sp} {rows : List (List D)} (h : OwnSt w base (.slice (some ⟨g, 0, none⟩) n cap) p rows) (hk : k < n) (x : Sp) (hx : SpOk x) (u u2 : Value) (hu : OwnV w base u x.old) (hu2 : OwnV w base u2 x.new)
    (hf : ∀ i, u.ownBlock = some i → ¬ BlkR (.slice (some ⟨g, 0, none⟩) n cap) rows i) (hf2 : ∀ i, u2.ownBlock = some i → ¬ BlkR (.slice (some ⟨g, 0, none⟩) n cap) rows i) (hne : ∀ i, u.ownBlock = some i → u2.ownBlock ≠ some i) :
    OwnSt ((((((w.setCell ⟨g, k * 6, none⟩ (.int .i64 x.fr)).setCell ⟨g, k * 6 + 1, none⟩ (.int .i64 x.to_)).setCell ⟨g, k * 6 + 2, none⟩ u).setCell ⟨g, k * 6 + 3, none⟩ (.int .i64 x.at_)).setCell ⟨g, k * 6 + 4, none⟩ (.int .i64 x.en)).setCell ⟨g, k * 6 + 5, none⟩ u2) base
      (.slice (some ⟨g, 0, none⟩) n cap) (p.set k x) (rows.set k (spRow x u u2)) := by
  have hl := h.own.len
  have hkr : k < rows.length := by omega
  obtain ⟨r, hr⟩ : ∃ r, rows[k]? = some r := ⟨_, List.getElem?_eq_getElem hkr⟩
  have hw := h.own.wide
  have hr6 := hw r (List.mem_of_getElem? hr)
  have gB : ∀ q : List (List D), BlkR (.slice (some ⟨g, 0, none⟩) n cap) q g := fun q => BlkR.of_self
  have hug : ∀ i, u.ownBlock = some i → i ≠ g := fun i e e2 => hf i e (e2 ▸ gB _)
  have hu2g : ∀ i, u2.ownBlock = some i → i ≠ g := fun i e e2 => hf2 i e (e2 ▸ gB _)
  have stay : ∀ (ww : World) (j : Nat) (y : Value), OwnV ww base u x.old → OwnV (ww.setCell ⟨g, j, none⟩ y) base u x.old := fun ww j y ho => ho.wrote (Wrote.set (fun i => i = g) ww _ _ rfl) (fun i e e2 => hug i e e2)
  have stay2 : ∀ (ww : World) (j : Nat) (y : Value), OwnV ww base u2 x.new → OwnV (ww.setCell ⟨g, j, none⟩ y) base u2 x.new := fun ww j y ho => ho.wrote (Wrote.set (fun i => i = g) ww _ _ rfl) (fun i e e2 => hu2g i e e2)
  have lt_ : ∀ {rows' : List (List D)}, rows'.length = rows.length → ∀ (r' : List D), (rows'.set k r')[k]? = some r' := fun e r' => set_eq (by rw [e]; exact hkr)
  have s0 := h.own.put hr (j := 0) (by omega) (d' := .lit (.int .i64 x.fr)) (Owns.lit rfl) (fun i hi => by simp [D.blocks] at hi)
  have b0 : ∀ i, BlkR (.slice (some ⟨g, 0, none⟩) n cap) (rows.set k (r.set 0 (.lit (.int .i64 x.fr)))) i → BlkR (.slice (some ⟨g, 0, none⟩) n cap) rows i := fun i hi => by
    rcases blk_set hw hr (by omega) hi with e | e
    · exact e
    · simp [D.blocks] at e
  have s1 := s0.put (lt_ rfl _) (j := 1) (by omega) (d' := .lit (.int .i64 x.to_)) (Owns.lit rfl) (fun i hi => by simp [D.blocks] at hi)
  rw [List.set_set] at s1
  have b1 : ∀ i, BlkR (.slice (some ⟨g, 0, none⟩) n cap) (rows.set k ((r.set 0 (.lit (.int .i64 x.fr))).set 1 (.lit (.int .i64 x.to_)))) i → BlkR (.slice (some ⟨g, 0, none⟩) n cap) rows i := fun i hi => by
    have e0 : rows.set k ((r.set 0 (.lit (.int .i64 x.fr))).set 1 (.lit (.int .i64 x.to_))) = (rows.set k (r.set 0 (.lit (.int .i64 x.fr)))).set k ((r.set 0 (.lit (.int .i64 x.fr))).set 1 (.lit (.int .i64 x.to_))) := by rw [List.set_set]
    rw [e0] at hi
    rcases blk_set s0.wide (lt_ rfl _) (by omega) hi with e | e
    · exact b0 i e
    · simp [D.blocks] at e
  have s2 := s1.put (lt_ rfl _) (j := 2) (by omega) (d' := textsD u x.old) (stay _ _ _ (stay _ _ _ hu)).datum (fun i hi e => by
    rw [textsD_blocks] at hi
    exact hf i (by simpa using hi) (b1 i e))
  have b2 : ∀ i, BlkR (.slice (some ⟨g, 0, none⟩) n cap) ((rows.set k ((r.set 0 (.lit (.int .i64 x.fr))).set 1 (.lit (.int .i64 x.to_)))).set k (((r.set 0 (.lit (.int .i64 x.fr))).set 1 (.lit (.int .i64 x.to_))).set 2 (textsD u x.old))) i → BlkR (.slice (some ⟨g, 0, none⟩) n cap) rows i ∨ u.ownBlock = some i := fun i hi => by
    rcases blk_set s1.wide (lt_ rfl _) (by omega) hi with e | e
    · exact .inl (b1 i e)
    · rw [textsD_blocks] at e; exact .inr (by simpa using e)
  have s3 := s2.put (lt_ (by simp) _) (j := 3) (by omega) (d' := .lit (.int .i64 x.at_)) (Owns.lit rfl) (fun i hi => by simp [D.blocks] at hi)
  have b3 := fun i hi => blk_set s2.wide (lt_ (rows' := rows.set k ((r.set 0 (.lit (.int .i64 x.fr))).set 1 (.lit (.int .i64 x.to_)))) (by simp) _) (j := 3) (by omega) (d' := .lit (.int .i64 x.at_)) (v := .slice (some ⟨g, 0, none⟩) n cap) (g := i) hi
  have s4 := s3.put (lt_ (by simp) _) (j := 4) (by omega) (d' := .lit (.int .i64 x.en)) (Owns.lit rfl) (fun i hi => by simp [D.blocks] at hi)
  have b4 := fun i hi => blk_set s3.wide (lt_ (rows' := (rows.set k ((r.set 0 (.lit (.int .i64 x.fr))).set 1 (.lit (.int .i64 x.to_)))).set k _) (by simp) _) (j := 4) (by omega) (d' := .lit (.int .i64 x.en)) (v := .slice (some ⟨g, 0, none⟩) n cap) (g := i) hi
  have s5 := s4.put (lt_ (by simp) _) (j := 5) (by omega) (d' := textsD u2 x.new) (stay2 _ _ _ (stay2 _ _ _ (stay2 _ _ _ (stay2 _ _ _ (stay2 _ _ _ hu2))))).datum (fun i hi e => by
    rw [textsD_blocks] at hi
    have hi : u2.ownBlock = some i := by simpa using hi
    rcases b4 i e with e | e
    · rcases b3 i e with e | e
      · rcases b2 i e with e | e
        · exact hf2 i hi e
        · exact hne i e hi
      · simp [D.blocks] at e
    · simp [D.blocks] at e)
  simp only [List.set_set] at s5
  rw [list6 hr6] at s5
  have hl2 := h.len_
  refine ⟨by simp [h.len], s5, fun j q y hq hy => ?_, fun y hy => ?_⟩
  · rcases set_get hq with ⟨rfl, rfl⟩ | ⟨hne, hq⟩
    · rcases set_get hy with ⟨_, rfl⟩ | ⟨hne, _⟩
      · exact ⟨u, u2, rfl⟩
      · exact absurd rfl hne
    · rcases set_get hy with ⟨e, _⟩ | ⟨_, hy⟩
      · exact absurd e hne
      · exact h.row j q y hq hy
  · rcases List.mem_or_eq_of_mem_set hy with h5 | h5
    · exact h.ok y h5
    · rw [h5]; exact hx

end Go.Proofs.YtnnaigoomipklaaDoor
