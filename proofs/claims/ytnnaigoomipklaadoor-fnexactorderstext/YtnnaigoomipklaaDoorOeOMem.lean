/-
  Words for memory: a slice of orders that reads as a list; one of the call's own.
-/
import Derived.Test.YtnnaigoomipklaaDoorOeOBase
import Derived.Test.YtnnaigoomipklaaDoorOeURows
import Derived.Test.YtnnaigoomipklaaDoorOeHMems
set_option linter.unusedSimpArgs false
set_option linter.unusedVariables false
namespace Go.Proofs.YtnnaigoomipklaaDoor
open Go.RowKit Go.ChangeShapes Go.WideShapes M

/-- Numbers and texts of an order that Go can hold. -/
structure OdOk (x : Od) : Prop where
  kd : i64ok x.kd
  fr : i64ok x.fr
  to_ : i64ok x.to_
  new : ∀ s ∈ x.new, s.size ≤ maxLen

/-- The address and the length of a slice of orders, in a world, and the orders. -/
structure Ods (w : World) (a : Option Addr) (n : Nat) (p : List Od) : Prop where
  len : p.length = n
  lim : n ≤ maxLen
  cell : ∀ k x, p[k]? = some x → ∃ b off A m c, a = some ⟨b, off, none⟩ ∧ w.cell? ⟨b, off + k * 4, none⟩ = some (.int .i64 x.kd) ∧ w.cell? ⟨b, off + k * 4 + 1, none⟩ = some (.int .i64 x.fr) ∧
    w.cell? ⟨b, off + k * 4 + 2, none⟩ = some (.int .i64 x.to_) ∧ w.cell? ⟨b, off + k * 4 + 3, none⟩ = some (.slice A m c) ∧ Strs w A m x.new ∧ m ≤ c ∧ OdOk x

section
variable {w w' : World} {a : Option Addr} {n k : Nat} {p : List Od}
theorem Ods.at_ (h : Ods w a n p) (hk : k < n) : ∃ b off A m c x, a = some ⟨b, off, none⟩ ∧ p[k]? = some x ∧ w.cell? ⟨b, off + k * 4, none⟩ = some (.int .i64 x.kd) ∧ w.cell? ⟨b, off + k * 4 + 1, none⟩ = some (.int .i64 x.fr) ∧
    w.cell? ⟨b, off + k * 4 + 2, none⟩ = some (.int .i64 x.to_) ∧ w.cell? ⟨b, off + k * 4 + 3, none⟩ = some (.slice A m c) ∧ Strs w A m x.new ∧ m ≤ c ∧ OdOk x := by
  have hl : k < p.length := by rw [h.len]; exact hk
  obtain ⟨b, off, A, m, c, e, r⟩ := h.cell k _ (List.getElem?_eq_getElem hl)
  exact ⟨b, off, A, m, c, _, e, List.getElem?_eq_getElem hl, r⟩
theorem Ods.below (h : Ods w a n p) (hb : Below w.heap.size w w') : Ods w' a n p :=
  ⟨h.len, h.lim, fun k s hs => by
    obtain ⟨b, off, A, m, c, e, h0, h1, h2, h3, h4, h5, h6⟩ := h.cell k s hs
    exact ⟨b, off, A, m, c, e, cell_keep hb h0, cell_keep hb h1, cell_keep hb h2, cell_keep hb h3, h4.below hb, h5, h6⟩⟩
end

/-- The cells of an order. -/
def odRow (x : Od) (u : Value) : List D := [.lit (.int .i64 x.kd), .lit (.int .i64 x.fr), .lit (.int .i64 x.to_), textsD u x.new]

/-- A slice of orders of the call's own: the array, each New in a block of its own. -/
structure OwnOd (w : World) (base : Nat) (v : Value) (p : List Od) (rows : List (List D)) : Prop where
  len : rows.length = p.length
  own : OwnR w base v 53 4 rows
  row : ∀ (k : Nat) r x, rows[k]? = some r → p[k]? = some x → ∃ u, r = odRow x u
  ok : ∀ x ∈ p, OdOk x

section
variable {S : Nat → Prop} {w w' : World} {base n cap g k : Nat} {v u : Value} {A : Option Addr} {p : List Od} {rows : List (List D)}
theorem OwnOd.lt (h : OwnOd w base v p rows) (hg : BlkR v rows g) : base ≤ g ∧ g < w.heap.size := h.own.lt hg
theorem OwnOd.below (h : OwnOd w base v p rows) (hb : Below w.heap.size w w') : OwnOd w' base v p rows := ⟨h.len, h.own.below hb, h.row, h.ok⟩
theorem OwnOd.at_ (h : OwnOd w base (.slice A n cap) p rows) (hk : k < n) : ∃ g x a1 m1 c1, A = some ⟨g, 0, none⟩ ∧ base ≤ g ∧ g < w.heap.size ∧ p[k]? = some x ∧ rows[k]? = some (odRow x (.slice a1 m1 c1)) ∧
    w.cell? ⟨g, k * 4, none⟩ = some (.int .i64 x.kd) ∧ w.cell? ⟨g, k * 4 + 1, none⟩ = some (.int .i64 x.fr) ∧ w.cell? ⟨g, k * 4 + 2, none⟩ = some (.int .i64 x.to_) ∧ w.cell? ⟨g, k * 4 + 3, none⟩ = some (.slice a1 m1 c1) ∧
    OwnV w base (.slice a1 m1 c1) x.new ∧ m1 ≤ c1 ∧ OdOk x ∧ (∀ j, w.frozen? ⟨g, j, none⟩ = false) := by
  obtain ⟨g, r, rfl, hb, hg, hr⟩ := h.own.addr hk
  have hl := h.own.len
  have hkp : k < p.length := by rw [← h.len, hl]; exact hk
  have hx : p[k]? = some p[k] := List.getElem?_eq_getElem hkp
  have hok := h.ok _ (List.mem_of_getElem? hx)
  obtain ⟨u, rfl⟩ := h.row k r _ hr hx
  have o1 := D.own_texts (h.own.datum hr (j := 3) rfl) hok.new
  obtain ⟨a1, c1, rfl, hm1, _⟩ := o1.form rfl
  exact ⟨g, _, a1, _, c1, rfl, hb, hg, hx, hr, h.own.cell hr (j := 0) rfl, h.own.cell hr (j := 1) rfl, h.own.cell hr (j := 2) rfl, h.own.cell hr (j := 3) rfl, o1, hm1, hok, h.own.free⟩
theorem OwnOd.ods (h : OwnOd w base (.slice A n cap) p rows) : Ods w A n p := by
  obtain ⟨A', cap', e, h1, h2⟩ := h.own.form rfl
  injection e with e1 e2 e3
  have hl : p.length = n := by rw [← h.len]; exact h.own.len
  refine ⟨hl, by omega, fun k x hx => ?_⟩
  have hk : k < n := by rw [← hl]; exact (List.getElem?_eq_some_iff.1 hx).1
  obtain ⟨g, y, a1, m1, c1, rfl, _, _, hy, _, q0, q1, q2, q3, o1, hm1, hok, _⟩ := h.at_ hk
  rw [hx] at hy
  injection hy with hy
  subst hy
  exact ⟨g, 0, a1, m1, c1, rfl, by rw [Nat.zero_add]; exact q0, by rw [Nat.zero_add]; exact q1, by rw [Nat.zero_add]; exact q2, by rw [Nat.zero_add]; exact q3, o1.strs, hm1, hok⟩
end

theorem list4 {α : Type} {r : List α} (h : r.length = 4) (a b c d : α) : (((r.set 0 a).set 1 b).set 2 c).set 3 d = [a, b, c, d] := by
  match r, h with
  | [_, _, _, _], _ => rfl

theorem OwnOd.len_ {w : World} {base n cap : Nat} {A : Option Addr} {p : List Od} {rows : List (List D)} (h : OwnOd w base (.slice A n cap) p rows) : p.length = n := by rw [← h.len]; exact h.own.len

/-- An order is laid into a place of such a slice, cell by cell. -/
theorem OwnOd.put {w : World} {base g n cap k : Nat} {p : List Od} {rows : List (List D)} (h : OwnOd w base (.slice (some ⟨g, 0, none⟩) n cap) p rows) (hk : k < n) (x : Od) (hx : OdOk x) (u : Value) (hu : OwnV w base u x.new)
    (hf : ∀ i, u.ownBlock = some i → ¬ BlkR (.slice (some ⟨g, 0, none⟩) n cap) rows i) :
    OwnOd ((((w.setCell ⟨g, k * 4, none⟩ (.int .i64 x.kd)).setCell ⟨g, k * 4 + 1, none⟩ (.int .i64 x.fr)).setCell ⟨g, k * 4 + 2, none⟩ (.int .i64 x.to_)).setCell ⟨g, k * 4 + 3, none⟩ u) base
      (.slice (some ⟨g, 0, none⟩) n cap) (p.set k x) (rows.set k (odRow x u)) := by
  have hl := h.own.len
  have hkr : k < rows.length := by omega
  obtain ⟨r, hr⟩ : ∃ r, rows[k]? = some r := ⟨_, List.getElem?_eq_getElem hkr⟩
  have hw := h.own.wide
  have hr4 := hw r (List.mem_of_getElem? hr)
  have gB : ∀ q : List (List D), BlkR (.slice (some ⟨g, 0, none⟩) n cap) q g := fun q => BlkR.of_self
  have hug : ∀ i, u.ownBlock = some i → i ≠ g := fun i e e2 => hf i e (e2 ▸ gB _)
  have stay : ∀ (ww : World) (j : Nat) (y : Value), OwnV ww base u x.new → OwnV (ww.setCell ⟨g, j, none⟩ y) base u x.new := fun ww j y ho => ho.wrote (Wrote.set (fun i => i = g) ww _ _ rfl) (fun i e e2 => hug i e e2)
  have lt_ : ∀ {rows' : List (List D)}, rows'.length = rows.length → ∀ (r' : List D), (rows'.set k r')[k]? = some r' := fun e r' => set_eq (by rw [e]; exact hkr)
  have s0 := h.own.put hr (j := 0) (by omega) (d' := .lit (.int .i64 x.kd)) (Owns.lit rfl) (fun i hi => by simp [D.blocks] at hi)
  have b0 : ∀ i, BlkR (.slice (some ⟨g, 0, none⟩) n cap) (rows.set k (r.set 0 (.lit (.int .i64 x.kd)))) i → BlkR (.slice (some ⟨g, 0, none⟩) n cap) rows i := fun i hi => by
    rcases blk_set hw hr (by omega) hi with e | e
    · exact e
    · simp [D.blocks] at e
  have s1 := s0.put (lt_ rfl _) (j := 1) (by omega) (d' := .lit (.int .i64 x.fr)) (Owns.lit rfl) (fun i hi => by simp [D.blocks] at hi)
  rw [List.set_set] at s1
  have b1 : ∀ i, BlkR (.slice (some ⟨g, 0, none⟩) n cap) (rows.set k ((r.set 0 (.lit (.int .i64 x.kd))).set 1 (.lit (.int .i64 x.fr)))) i → BlkR (.slice (some ⟨g, 0, none⟩) n cap) rows i := fun i hi => by
    have e0 : rows.set k ((r.set 0 (.lit (.int .i64 x.kd))).set 1 (.lit (.int .i64 x.fr))) = (rows.set k (r.set 0 (.lit (.int .i64 x.kd)))).set k ((r.set 0 (.lit (.int .i64 x.kd))).set 1 (.lit (.int .i64 x.fr))) := by rw [List.set_set]
    rw [e0] at hi
    rcases blk_set s0.wide (lt_ rfl _) (by omega) hi with e | e
    · exact b0 i e
    · simp [D.blocks] at e
  have s2 := s1.put (lt_ rfl _) (j := 2) (by omega) (d' := .lit (.int .i64 x.to_)) (Owns.lit rfl) (fun i hi => by simp [D.blocks] at hi)
  have b2 := fun i hi => blk_set s1.wide (lt_ (rows' := rows) rfl _) (j := 2) (by omega) (d' := .lit (.int .i64 x.to_)) (v := .slice (some ⟨g, 0, none⟩) n cap) (g := i) hi
  have s3 := s2.put (lt_ (by simp) _) (j := 3) (by omega) (d' := textsD u x.new) (stay _ _ _ (stay _ _ _ (stay _ _ _ hu))).datum (fun i hi e => by
    rw [textsD_blocks] at hi
    have hi : u.ownBlock = some i := by simpa using hi
    rcases b2 i e with e | e
    · exact hf i hi (b1 i e)
    · simp [D.blocks] at e)
  simp only [List.set_set] at s3
  rw [list4 hr4] at s3
  have hl2 := h.len_
  refine ⟨by simp [h.len], s3, fun j q y hq hy => ?_, fun y hy => ?_⟩
  · rcases set_get hq with ⟨rfl, rfl⟩ | ⟨hne, hq⟩
    · rcases set_get hy with ⟨_, rfl⟩ | ⟨hne, _⟩
      · exact ⟨u, rfl⟩
      · exact absurd rfl hne
    · rcases set_get hy with ⟨e, _⟩ | ⟨_, hy⟩
      · exact absurd e hne
      · exact h.row j q y hq hy
  · rcases List.mem_or_eq_of_mem_set hy with h5 | h5
    · exact h.ok y h5
    · rw [h5]; exact hx

theorem od_info : (Tryd.prog.info? 53).map (fun i => (i.zero, i.size, i.bytes)) = some (some (.agg #[.int .i64 0, .int .i64 0, .int .i64 0, .slice none 0 0]), 4, 48) := by kernel_rfl

end Go.Proofs.YtnnaigoomipklaaDoor
