/-
  Words for memory of any shape: a datum of cells and slices of cells, how it lies in a world, and what keeps it.
  A slice of structs as a list of rows of data: what is written into it, and what stays.
  An argument of any shape of ints, texts, bools and slices of structs of these reads as a datum.
-/
import Derived.Test.YtnnaigoomipklaaDoorProg
import Derived.Test.YtnnaigoomipklaaDoorOjBase
import Derived.Test.YtnnaigoomipklaaDoorOjMemT
import Derived.Deep.Onto
import Derived.Deep.Slices
import Derived.ChangeArms
set_option linter.unusedSimpArgs false
set_option linter.unusedVariables false
namespace Go.Proofs.YtnnaigoomipklaaDoor
open Go.RowKit Go.ChangeShapes Go.WideShapes M

/-- One cell that points nowhere; or a slice (its value, the type and the cells of an element, how many elements, all cells in a row). -/
inductive D where
  | lit (v : Value)
  | sl (v : Value) (t : TypeId) (sz n : Nat) (cs : List D)

def D.val : D → Value
  | .lit v => v
  | .sl v _ _ _ _ => v

mutual
def D.blocks : D → List Nat
  | .lit _ => []
  | .sl v _ _ _ cs => v.ownBlock.toList ++ D.blocksL cs
def D.blocksL : List D → List Nat
  | [] => []
  | d :: r => d.blocks ++ D.blocksL r
end

mutual
/-- All blocks are of the call's own, from 'base' on. -/
def D.own (w : World) (base : Nat) : D → Prop
  | .lit v => v.oneCell' = true
  | .sl v t sz n cs => w.ownsRow base t sz v n (cs.map D.val) ∧ D.ownL w base cs
def D.ownL (w : World) (base : Nat) : List D → Prop
  | [] => True
  | d :: r => d.own w base ∧ D.ownL w base r
end

mutual
/-- It may be read, wherever it lies. -/
def D.rd (w : World) : D → Prop
  | .lit v => v.oneCell' = true
  | .sl v t sz n cs => (∃ A cap, v = .slice A n cap ∧ n ≤ cap ∧ n ≤ maxLen ∧ cs.length = n * sz ∧ ∀ j d, cs[j]? = some d → ∃ b off, A = some ⟨b, off, none⟩ ∧ w.cell? ⟨b, off + j, none⟩ = some d.val) ∧ D.rdL w cs
def D.rdL (w : World) : List D → Prop
  | [] => True
  | d :: r => d.rd w ∧ D.rdL w r
end

theorem D.blocksL_append (a b : List D) : D.blocksL (a ++ b) = D.blocksL a ++ D.blocksL b := by
  induction a with
  | nil => rfl
  | cons d a ih => rw [List.cons_append, D.blocksL, D.blocksL, ih, List.append_assoc]
theorem D.ownL_append {w : World} {base : Nat} (a b : List D) : D.ownL w base (a ++ b) ↔ D.ownL w base a ∧ D.ownL w base b := by
  induction a with
  | nil => simp [D.ownL]
  | cons d a ih => rw [List.cons_append, D.ownL, D.ownL, ih, and_assoc]
theorem D.ownL_at {w : World} {base : Nat} : ∀ {cs : List D} {j : Nat} {d : D}, D.ownL w base cs → cs[j]? = some d → d.own w base
  | [], j, d, _, h => by simp at h
  | c :: r, 0, d, h, e => by simp at e; subst e; exact h.1
  | c :: r, j + 1, d, h, e => D.ownL_at h.2 (by simpa using e)
theorem D.rdL_at {w : World} : ∀ {cs : List D} {j : Nat} {d : D}, D.rdL w cs → cs[j]? = some d → d.rd w
  | [], j, d, _, h => by simp at h
  | c :: r, 0, d, h, e => by simp at e; subst e; exact h.1
  | c :: r, j + 1, d, h, e => D.rdL_at h.2 (by simpa using e)

mutual
theorem D.own_lt {w : World} {base : Nat} : ∀ {d : D} {g : Nat}, d.own w base → g ∈ d.blocks → base ≤ g ∧ g < w.heap.size
  | .lit v, g, _, hg => by simp [D.blocks] at hg
  | .sl v t sz n cs, g, h, hg => by
    rw [D.blocks] at hg
    rcases List.mem_append.1 hg with e | e
    · exact h.1.lt g (by simpa using e)
    · exact D.ownL_lt h.2 e
theorem D.ownL_lt {w : World} {base : Nat} : ∀ {cs : List D} {g : Nat}, D.ownL w base cs → g ∈ D.blocksL cs → base ≤ g ∧ g < w.heap.size
  | [], g, _, hg => by simp [D.blocksL] at hg
  | d :: r, g, h, hg => by
    rw [D.blocksL] at hg
    rcases List.mem_append.1 hg with e | e
    · exact D.own_lt h.1 e
    · exact D.ownL_lt h.2 e
end

mutual
/-- What is written is none of its blocks. -/
theorem D.own_wrote {S : Nat → Prop} {w w' : World} {base : Nat} : ∀ {d : D}, d.own w base → Wrote S w w' → (∀ g ∈ d.blocks, ¬ S g) → d.own w' base
  | .lit v, h, _, _ => h
  | .sl v t sz n cs, h, hw, hn => ⟨ownsRow_wrote h.1 hw (fun g e => hn g (by rw [D.blocks]; simp [e])), D.ownL_wrote h.2 hw (fun g hg => hn g (by rw [D.blocks]; simp [hg]))⟩
theorem D.ownL_wrote {S : Nat → Prop} {w w' : World} {base : Nat} : ∀ {cs : List D}, D.ownL w base cs → Wrote S w w' → (∀ g ∈ D.blocksL cs, ¬ S g) → D.ownL w' base cs
  | [], _, _, _ => trivial
  | d :: r, h, hw, hn => ⟨D.own_wrote h.1 hw (fun g hg => hn g (by rw [D.blocksL]; simp [hg])), D.ownL_wrote h.2 hw (fun g hg => hn g (by rw [D.blocksL]; simp [hg]))⟩
end

/-- A datum of the call's own, no block of it twice. -/
structure Owns (w : World) (base : Nat) (d : D) : Prop where
  own : d.own w base
  nodup : d.blocks.Nodup

section
variable {S : Nat → Prop} {w w' : World} {base : Nat} {d : D}
theorem Owns.wrote (h : Owns w base d) (hw : Wrote S w w') (hn : ∀ g ∈ d.blocks, ¬ S g) : Owns w' base d := ⟨D.own_wrote h.own hw hn, h.nodup⟩
theorem Owns.below (h : Owns w base d) (hb : Below w.heap.size w w') : Owns w' base d := h.wrote (S := fun _ => False) (Wrote.of_below hb) (fun _ _ e => e)
theorem Owns.form {v : Value} {t : TypeId} {sz n : Nat} {cs : List D} (h : Owns w base (.sl v t sz n cs)) : ∃ A cap, v = .slice A n cap ∧ n ≤ cap ∧ cap ≤ maxLen := by
  rcases h.own.1.2 with ⟨e, h0⟩ | ⟨g, cap, cur, e, _, _, h1, h2, _⟩
  · exact ⟨none, 0, by rw [e, h0], by omega, by unfold maxLen; omega⟩
  · exact ⟨_, cap, e, h1, h2⟩
end

section
variable {w : World} {base g n cap sz j : Nat} {t : TypeId} {cs : List D} {d : D}
theorem Owns.cell (h : Owns w base (.sl (.slice (some ⟨g, 0, none⟩) n cap) t sz n cs)) (hj : cs[j]? = some d) : w.cell? ⟨g, j, none⟩ = some d.val := by
  have hl : cs.length = n * sz := by have := h.own.1.1; simpa using this
  rw [h.own.1.cellAt j (by rw [← hl]; exact (List.getElem?_eq_some_iff.1 hj).1)]
  simp [hj]
theorem Owns.free (h : Owns w base (.sl (.slice (some ⟨g, 0, none⟩) n cap) t sz n cs)) (j : Nat) : w.frozen? ⟨g, j, none⟩ = false := h.own.1.frozenAt j
theorem Owns.at_ {v : Value} (h : Owns w base (.sl v t sz n cs)) (hj : cs[j]? = some d) : d.own w base := D.ownL_at h.own.2 hj
end

/-- A slice of texts, as a datum. -/
def textsD (v : Value) (l : List ByteArray) : D := .sl v 9 1 l.length (l.map fun s => .lit (.string s))
theorem textsD_blocksL (l : List ByteArray) : D.blocksL (l.map fun s => D.lit (.string s)) = [] := by
  induction l with
  | nil => rfl
  | cons s l ih => rw [List.map_cons, D.blocksL, ih]; rfl
theorem textsD_blocks (v : Value) (l : List ByteArray) : (textsD v l).blocks = v.ownBlock.toList := by
  rw [textsD, D.blocks, textsD_blocksL, List.append_nil]
theorem textsD_ownL (w : World) (base : Nat) (l : List ByteArray) : D.ownL w base (l.map fun s => D.lit (.string s)) := by
  induction l with
  | nil => trivial
  | cons s l ih => exact ⟨rfl, ih⟩
theorem OwnV.datum {w : World} {base : Nat} {v : Value} {l : List ByteArray} (h : OwnV w base v l) : Owns w base (textsD v l) := by
  refine ⟨⟨?_, textsD_ownL w base l⟩, by rw [textsD_blocks]; cases v.ownBlock <;> simp⟩
  have := h.row
  rw [List.map_map]
  exact this
theorem D.own_texts {w : World} {base : Nat} {v : Value} {l : List ByteArray} (h : (textsD v l).own w base) (hs : ∀ s ∈ l, s.size ≤ maxLen) : OwnV w base v l := by
  refine ⟨?_, hs⟩
  have := h.1
  rw [List.map_map] at this
  exact this

end Go.Proofs.YtnnaigoomipklaaDoor

namespace Go.Proofs.YtnnaigoomipklaaDoor
open Go.RowKit Go.ChangeShapes Go.WideShapes M

section
variable {α : Type} {sz : Nat}
theorem flat_len : ∀ {rows : List (List α)}, (∀ r ∈ rows, r.length = sz) → rows.flatten.length = rows.length * sz
  | [], _ => by simp
  | r :: rows, h => by
    have h1 := h r (by simp)
    have h2 := flat_len (rows := rows) (fun q hq => h q (by simp [hq]))
    rw [List.flatten_cons, List.length_append, h1, h2, List.length_cons, Nat.add_mul, Nat.one_mul, Nat.add_comm]
theorem flat_get : ∀ {rows : List (List α)} {k j : Nat} {r : List α}, (∀ r ∈ rows, r.length = sz) → rows[k]? = some r → j < sz → rows.flatten[k * sz + j]? = r[j]?
  | [], k, j, r, _, hk, _ => by simp at hk
  | q :: rows, 0, j, r, h, hk, hj => by
    simp at hk
    subst hk
    rw [List.flatten_cons, Nat.zero_mul, Nat.zero_add, List.getElem?_append_left (by rw [h q (by simp)]; exact hj)]
  | q :: rows, k + 1, j, r, h, hk, hj => by
    have h1 := h q (by simp)
    rw [List.flatten_cons, List.getElem?_append_right (by rw [h1, Nat.add_mul]; omega), h1, show (k + 1) * sz + j - sz = k * sz + j by rw [Nat.add_mul]; omega]
    exact flat_get (fun q hq => h q (by simp [hq])) (by simpa using hk) hj
theorem flat_set : ∀ {rows : List (List α)} {k j : Nat} {r : List α} {d : α}, (∀ r ∈ rows, r.length = sz) → rows[k]? = some r → j < sz → rows.flatten.set (k * sz + j) d = (rows.set k (r.set j d)).flatten
  | [], k, j, r, d, _, hk, _ => by simp at hk
  | q :: rows, 0, j, r, d, h, hk, hj => by
    simp at hk
    subst hk
    rw [List.flatten_cons, Nat.zero_mul, Nat.zero_add, List.set_append, if_pos (by rw [h q (by simp)]; exact hj), List.set_cons_zero, List.flatten_cons]
  | q :: rows, k + 1, j, r, d, h, hk, hj => by
    have h1 := h q (by simp)
    rw [List.flatten_cons, List.set_append, if_neg (by rw [h1, Nat.add_mul]; omega), h1, show (k + 1) * sz + j - sz = k * sz + j by rw [Nat.add_mul]; omega, List.set_cons_succ, List.flatten_cons, flat_set (fun q hq => h q (by simp [hq])) (by simpa using hk) hj]
end

theorem D.blocksL_put_mem {g : Nat} {d' : D} : ∀ {cs : List D} {p : Nat}, g ∈ D.blocksL (cs.set p d') → g ∈ d'.blocks ∨ g ∈ D.blocksL cs
  | [], p, h => by simp [D.blocksL] at h
  | c :: r, 0, h => by
    rw [List.set_cons_zero, D.blocksL] at h
    rcases List.mem_append.1 h with h | h
    · exact .inl h
    · exact .inr (by rw [D.blocksL]; simp [h])
  | c :: r, p + 1, h => by
    rw [List.set_cons_succ, D.blocksL] at h
    rcases List.mem_append.1 h with h | h
    · exact .inr (by rw [D.blocksL]; simp [h])
    · rcases D.blocksL_put_mem h with h | h
      · exact .inl h
      · exact .inr (by rw [D.blocksL]; simp [h])
theorem D.blocksL_put {d' : D} (hd : d'.blocks.Nodup) : ∀ {cs : List D} {p : Nat}, (D.blocksL cs).Nodup → (∀ g ∈ d'.blocks, g ∉ D.blocksL cs) → (D.blocksL (cs.set p d')).Nodup
  | [], p, h, _ => by simpa using h
  | c :: r, 0, h, hf => by
    rw [D.blocksL, List.nodup_append] at h
    rw [List.set_cons_zero, D.blocksL, List.nodup_append]
    exact ⟨hd, h.2.1, fun a ha b hb e => hf a ha (by rw [D.blocksL, e]; simp [hb])⟩
  | c :: r, p + 1, h, hf => by
    rw [D.blocksL, List.nodup_append] at h
    rw [List.set_cons_succ, D.blocksL, List.nodup_append]
    refine ⟨h.1, D.blocksL_put hd h.2.1 (fun g hg e => hf g hg (by rw [D.blocksL]; simp [e])), fun a ha b hb e => ?_⟩
    rcases D.blocksL_put_mem hb with hb | hb
    · exact hf b hb (by rw [D.blocksL, ← e]; simp [ha])
    · exact h.2.2 a ha b hb e
theorem D.ownL_put {w : World} {base : Nat} {d' : D} (hd : d'.own w base) : ∀ {cs : List D} {p : Nat}, D.ownL w base cs → D.ownL w base (cs.set p d')
  | [], p, h => by simpa using h
  | c :: r, 0, h => ⟨hd, h.2⟩
  | c :: r, p + 1, h => ⟨h.1, D.ownL_put hd h.2⟩
/-- One cell is written with a datum whose blocks are of the call's own and apart from all others. -/
theorem Owns.put {w : World} {base g n cap sz p : Nat} {t : TypeId} {cs : List D} {d' : D} (h : Owns w base (.sl (.slice (some ⟨g, 0, none⟩) n cap) t sz n cs)) (hd : Owns w base d') (hf : ∀ i ∈ d'.blocks, i ∉ (D.sl (.slice (some ⟨g, 0, none⟩) n cap) t sz n cs).blocks) :
    Owns (w.setCell ⟨g, p, none⟩ d'.val) base (.sl (.slice (some ⟨g, 0, none⟩) n cap) t sz n (cs.set p d')) := by
  have hn := h.nodup
  rw [D.blocks, List.nodup_append] at hn
  have hw : Wrote (fun i => i = g) w (w.setCell ⟨g, p, none⟩ d'.val) := Wrote.set _ w _ _ rfl
  have hgb : g ∈ (D.sl (.slice (some ⟨g, 0, none⟩) n cap) t sz n cs).blocks := by rw [D.blocks]; simp [Value.ownBlock]
  refine ⟨⟨?_, D.ownL_put (D.own_wrote hd.own hw (fun i hi e => hf i hi (e ▸ hgb))) (D.ownL_wrote h.own.2 hw (fun i hi e => hn.2.2 i (by rw [e]; simp [Value.ownBlock]) i hi rfl))⟩, ?_⟩
  · rw [List.map_set]; exact (h.own.1.stored p d'.val).1
  · rw [D.blocks, List.nodup_append]
    refine ⟨hn.1, D.blocksL_put hd.nodup hn.2.1 (fun i hi e => hf i hi (by rw [D.blocks]; simp [e])), fun a ha b hb e => ?_⟩
    have ha2 : a = g := by simpa [Value.ownBlock, eq_comm] using ha
    rcases D.blocksL_put_mem hb with hb | hb
    · exact hf b hb (by rw [← e, ha2]; exact hgb)
    · exact hn.2.2 a ha b hb e
theorem Owns.lit {w : World} {base : Nat} {v : Value} (h : v.oneCell' = true) : Owns w base (.lit v) := ⟨h, by simp [D.blocks]⟩

/-- A slice of structs of the call's own, as rows. -/
structure OwnR (w : World) (base : Nat) (v : Value) (t : TypeId) (sz : Nat) (rows : List (List D)) : Prop where
  own : Owns w base (.sl v t sz rows.length rows.flatten)
  wide : ∀ r ∈ rows, r.length = sz
/-- Its blocks. -/
def BlkR (v : Value) (rows : List (List D)) (g : Nat) : Prop := g ∈ v.ownBlock.toList ++ D.blocksL rows.flatten

section
variable {S : Nat → Prop} {w w' : World} {base n cap g k j sz : Nat} {v : Value} {A : Option Addr} {t : TypeId} {rows : List (List D)} {r : List D} {d : D}
theorem OwnR.lt (h : OwnR w base v t sz rows) (hg : BlkR v rows g) : base ≤ g ∧ g < w.heap.size := D.own_lt h.own.own hg
theorem OwnR.below (h : OwnR w base v t sz rows) (hb : Below w.heap.size w w') : OwnR w' base v t sz rows := ⟨h.own.below hb, h.wide⟩
theorem OwnR.form (h : OwnR w base v t sz rows) (hn : rows.length = n) : ∃ A cap, v = .slice A n cap ∧ n ≤ cap ∧ cap ≤ maxLen := by subst hn; exact h.own.form
theorem OwnR.len (h : OwnR w base (.slice A n cap) t sz rows) : rows.length = n := by
  obtain ⟨A', cap', e, _⟩ := h.own.form
  injection e with e1 e2 e3
  exact e2.symm
theorem OwnR.addr (h : OwnR w base (.slice A n cap) t sz rows) (hk : k < n) : ∃ g r, A = some ⟨g, 0, none⟩ ∧ base ≤ g ∧ g < w.heap.size ∧ rows[k]? = some r := by
  have hl := h.len
  rcases h.own.own.1.2 with ⟨e, h0⟩ | ⟨g, cap', cur, e, hb, hg, _⟩
  · injection e with e1 e2 e3; omega
  · injection e with e1 e2 e3
    subst e1
    exact ⟨g, _, rfl, hb, (Array.getElem?_eq_some_iff.1 hg).1, List.getElem?_eq_getElem (show k < rows.length by omega)⟩
theorem OwnR.cell (h : OwnR w base (.slice (some ⟨g, 0, none⟩) n cap) t sz rows) (hk : rows[k]? = some r) (hj : r[j]? = some d) : w.cell? ⟨g, k * sz + j, none⟩ = some d.val := by
  have hl := h.len
  have hj2 : j < sz := by rw [← h.wide r (List.mem_of_getElem? hk)]; exact (List.getElem?_eq_some_iff.1 hj).1
  have ho := h.own
  rw [hl] at ho
  exact ho.cell (by rw [flat_get h.wide hk hj2]; exact hj)
theorem OwnR.datum (h : OwnR w base v t sz rows) (hk : rows[k]? = some r) (hj : r[j]? = some d) : d.own w base := by
  have hj2 : j < sz := by rw [← h.wide r (List.mem_of_getElem? hk)]; exact (List.getElem?_eq_some_iff.1 hj).1
  exact h.own.at_ (j := k * sz + j) (by rw [flat_get h.wide hk hj2]; exact hj)
theorem OwnR.free (h : OwnR w base (.slice (some ⟨g, 0, none⟩) n cap) t sz rows) (j : Nat) : w.frozen? ⟨g, j, none⟩ = false := by
  have hl := h.len
  have ho := h.own
  rw [hl] at ho
  exact ho.free j
theorem wide_set (h : ∀ r ∈ rows, r.length = sz) {r' : List D} (hr : r'.length = sz) : ∀ q ∈ rows.set k r', q.length = sz := by
  intro q hq
  rcases List.mem_or_eq_of_mem_set hq with h1 | h1
  · exact h q h1
  · rw [h1, hr]
/-- One cell is written with a datum of the call's own. -/
theorem OwnR.put {d' : D} (h : OwnR w base (.slice (some ⟨g, 0, none⟩) n cap) t sz rows) (hk : rows[k]? = some r) (hj : j < sz) (hd : Owns w base d') (hf : ∀ i ∈ d'.blocks, ¬ BlkR (.slice (some ⟨g, 0, none⟩) n cap) rows i) :
    OwnR (w.setCell ⟨g, k * sz + j, none⟩ d'.val) base (.slice (some ⟨g, 0, none⟩) n cap) t sz (rows.set k (r.set j d')) := by
  have hl := h.len
  have hr := h.wide r (List.mem_of_getElem? hk)
  have ho := h.own
  rw [hl] at ho
  refine ⟨?_, wide_set h.wide (by simpa using hr)⟩
  rw [List.length_set, hl, ← flat_set h.wide hk hj]
  exact ho.put hd hf
theorem BlkR.of_self : BlkR (.slice (some ⟨g, 0, none⟩) n cap) rows g := by simp [BlkR, Value.ownBlock]
theorem blk_set {d' : D} {v : Value} (hw : ∀ r ∈ rows, r.length = sz) (hk : rows[k]? = some r) (hj : j < sz) (hg : BlkR v (rows.set k (r.set j d')) g) : BlkR v rows g ∨ g ∈ d'.blocks := by
  rcases List.mem_append.1 hg with h1 | h1
  · exact .inl (List.mem_append.2 (.inl h1))
  · rw [← flat_set hw hk hj] at h1
    rcases D.blocksL_put_mem h1 with h2 | h2
    · exact .inr h2
    · exact .inl (List.mem_append.2 (.inr h2))
end

end Go.Proofs.YtnnaigoomipklaaDoor

namespace Go.Proofs.YtnnaigoomipklaaDoor
open Go.RowKit Go.ChangeShapes Go.WideShapes M

/-- The shape of a value of one cell: a slice tells the shapes of the fields of its elements. -/
inductive Sh where
  | int
  | str
  | bool
  | sl (fs : List Sh)

/-- A type has a shape. -/
inductive Fit (P : Program) : TypeId → Sh → Prop where
  | int {t : TypeId} (h : P.underlying t = some (.int .i64)) : Fit P t .int
  | str {t : TypeId} (h : P.underlying t = some .string) : Fit P t .str
  | bool {t : TypeId} (h : P.underlying t = some .bool) : Fit P t .bool
  | one {t e : TypeId} {s : Sh} (h : P.underlying t = some (.slice e)) (hc : P.cellsOf e = 1) (hs : Fit P e s) : Fit P t (.sl [s])
  | rows {t e : TypeId} {fs : Array Field} {shs : List Sh} (h : P.underlying t = some (.slice e)) (hu : P.underlying e = some (.struct fs)) (hc : P.cellsOf e = shs.length) (hn : fs.size = shs.length)
      (ho : ∀ (i : Nat) (f : Field), fs[i]? = some f → f.offset = i ∧ P.cellsOf f.type = 1) (hf : ∀ (i : Nat) (f : Field) (s : Sh), fs[i]? = some f → shs[i]? = some s → Fit P f.type s) : Fit P t (.sl shs)

/-- A datum has a shape. -/
inductive Has : Sh → D → Prop where
  | int {x : Int} (h : i64ok x) : Has .int (.lit (.int .i64 x))
  | str {s : ByteArray} (h : s.size ≤ maxLen) : Has .str (.lit (.string s))
  | bool {b : Bool} : Has .bool (.lit (.bool b))
  | sl {shs : List Sh} {v : Value} {t : TypeId} {n : Nat} {cs : List D} (hl : cs.length = n * shs.length) (h : ∀ (p : Nat) (d : D) (s : Sh), cs[p]? = some d → shs[p % shs.length]? = some s → Has s d) : Has (.sl shs) (.sl v t shs.length n cs)

theorem D.rdL_all {w : World} : ∀ {cs : List D}, (∀ d ∈ cs, d.rd w) → D.rdL w cs
  | [], _ => trivial
  | c :: r, h => ⟨h c (by simp), D.rdL_all (fun d hd => h d (by simp [hd]))⟩

theorem add_at {b off : Nat} (j : Nat) : (⟨b, off, none⟩ : Addr).add j = ⟨b, off + j, none⟩ := by unfold Addr.add; by_cases h0 : j = 0 <;> simp [h0]

/-- Cells in a row that read as data make a slice that does. -/
theorem slice_datum {w : World} {b off n sz cap : Nat} {t : TypeId} {shs : List Sh} (hs : shs.length = sz) (h1 : n ≤ cap) (h2 : n ≤ maxLen)
    (h : ∀ p, p < n * sz → ∃ d : D, w.cell? ⟨b, off + p, none⟩ = some d.val ∧ d.rd w ∧ ∀ s, shs[p % sz]? = some s → Has s d) :
    ∃ d : D, (.slice (some ⟨b, off, none⟩) n cap) = d.val ∧ d.rd w ∧ Has (.sl shs) d := by
  have hone : ∀ p, ∃ d : D, p < n * sz → w.cell? ⟨b, off + p, none⟩ = some d.val ∧ d.rd w ∧ ∀ s, shs[p % sz]? = some s → Has s d := by
    intro p
    by_cases hp : p < n * sz
    · obtain ⟨d, hd⟩ := h p hp
      exact ⟨d, fun _ => hd⟩
    · exact ⟨.lit (.bool false), fun e => absurd e hp⟩
  let g : Nat → D := fun p => Classical.choose (hone p)
  have hg : ∀ p, p < n * sz → w.cell? ⟨b, off + p, none⟩ = some (g p).val ∧ (g p).rd w ∧ ∀ s, shs[p % sz]? = some s → Has s (g p) := fun p hp => Classical.choose_spec (hone p) hp
  have hget : ∀ p d, ((List.range (n * sz)).map g)[p]? = some d → p < n * sz ∧ d = g p := by
    intro p d hd
    rw [List.getElem?_map] at hd
    rcases Nat.lt_or_ge p (n * sz) with h5 | h5
    · rw [List.getElem?_range h5] at hd
      injection hd with hd
      exact ⟨h5, hd.symm⟩
    · rw [List.getElem?_eq_none (by simpa using h5)] at hd; cases hd
  subst hs
  refine ⟨.sl (.slice (some ⟨b, off, none⟩) n cap) t shs.length n ((List.range (n * shs.length)).map g), rfl, ⟨⟨_, cap, rfl, h1, h2, by simp, fun j d hj => ?_⟩, D.rdL_all (fun d hd => ?_)⟩, .sl (by simp) (fun p d s hd hs => ?_)⟩
  · obtain ⟨hp, rfl⟩ := hget j d hj
    exact ⟨b, off, rfl, (hg j hp).1⟩
  · obtain ⟨p, hp⟩ := List.mem_iff_getElem?.1 hd
    obtain ⟨hp2, rfl⟩ := hget p d hp
    exact (hg p hp2).2.1
  · obtain ⟨hp, rfl⟩ := hget p d hd
    exact (hg p hp).2.2 s hs

theorem nil_datum (w : World) (t : TypeId) (shs : List Sh) : ∃ d : D, (.slice none 0 0) = d.val ∧ d.rd w ∧ Has (.sl shs) d :=
  ⟨.sl (.slice none 0 0) t shs.length 0 [], rfl, ⟨⟨none, 0, rfl, Nat.le_refl _, Nat.zero_le _, by simp, fun j d hj => by simp at hj⟩, trivial⟩, .sl (by simp) (fun p d s hd _ => by simp at hd)⟩

theorem rd_of_trod {H : Type} {enc : TypeId × Value → H} {P : Program} {w : World} {base : Nat} {spare : Nat → Bool} {held : Bool} {t : TypeId} {sh : Sh} (hf : Fit P t sh) :
    ∀ {fuel : Nat} {cells : List Value} {x : DataW H × List MemPlace}, DataW.trod enc P w base spare held fuel t cells = some x → ∃ d : D, cells = [d.val] ∧ d.rd w ∧ Has sh d := by
  induction hf with
  | int h =>
    intro fuel cells x hx
    obtain ⟨n, rfl, _, wf⟩ := DataW.trod_int h hx
    exact ⟨.lit (.int .i64 n), rfl, rfl, .int (int_range wf)⟩
  | str h =>
    intro fuel cells x hx
    obtain ⟨s, rfl, _, hs⟩ := DataW.trod_string h hx
    exact ⟨.lit (.string s), rfl, rfl, .str hs⟩
  | bool h =>
    intro fuel cells x hx
    obtain ⟨b, rfl, _⟩ := DataW.trod_bool h hx
    exact ⟨.lit (.bool b), rfl, rfl, .bool⟩
  | @one t e s h hc hs ih =>
    intro fuel cells x hx
    rcases Go.Deep.open_slice h hx with ⟨rfl, _⟩ | ⟨a, n, cap, m, nn, _, _, rfl, _, hl, hm, hmm, _, hi⟩
    · obtain ⟨d, e1, e2, e3⟩ := nil_datum w e [s]
      exact ⟨d, by rw [e1], e2, e3⟩
    · have hnm : n ≤ m := by rw [hmm]; split <;> omega
      obtain ⟨b, off, spot⟩ := a
      by_cases hn0 : n = 0
      · subst hn0
        exact ⟨.sl (.slice (some ⟨b, off, spot⟩) 0 cap) e 1 0 [], rfl, ⟨⟨_, cap, rfl, by omega, by omega, rfl, fun j d hj => by simp at hj⟩, trivial⟩, .sl (shs := [s]) rfl (fun p d s hd _ => by simp at hd)⟩
      · rw [hc] at hi
        have hsp : spot = none := by
          obtain ⟨cs', hcell, _⟩ := hi 0 (by omega)
          obtain ⟨_, hlen, hat⟩ := World.cells?_some hcell
          have h5 := hat 0 (by omega)
          rw [List.getElem?_eq_getElem (by omega)] at h5
          simpa [Addr.add] using World.cell?_spot h5
        subst hsp
        obtain ⟨d, e1, e2, e3⟩ := slice_datum (w := w) (b := b) (off := off) (n := n) (sz := 1) (cap := cap) (t := e) (shs := [s]) rfl hl (by omega) (fun p hp => by
          obtain ⟨cs', hcell, htr⟩ := hi p (by omega)
          obtain ⟨_, hlen, hat⟩ := World.cells?_some hcell
          obtain ⟨d, rfl, d2, d3⟩ := ih htr
          have h5 := hat 0 (by omega)
          rw [add_at, add_at] at h5
          refine ⟨d, by simpa using h5, d2, fun s' hs' => ?_⟩
          rw [Nat.mod_one] at hs'
          simp at hs'
          subst hs'
          exact d3)
        exact ⟨d, by rw [e1], e2, e3⟩
  | @rows t e fs shs h hu hc hn ho hf ih =>
    intro fuel cells x hx
    rcases Go.Deep.open_slice h hx with ⟨rfl, _⟩ | ⟨a, n, cap, m, nn, _, _, rfl, _, hl, hm, hmm, _, hi⟩
    · obtain ⟨d, e1, e2, e3⟩ := nil_datum w e shs
      exact ⟨d, by rw [e1], e2, e3⟩
    · have hnm : n ≤ m := by rw [hmm]; split <;> omega
      obtain ⟨b, off, spot⟩ := a
      by_cases hn0 : n * shs.length = 0
      · exact ⟨.sl (.slice (some ⟨b, off, spot⟩) n cap) e shs.length n [], rfl, ⟨⟨_, cap, rfl, hl, by omega, by simpa using hn0.symm, fun j d hj => by simp at hj⟩, trivial⟩, .sl (by simpa using hn0.symm) (fun p d s hd _ => by simp at hd)⟩
      · have hs0 : 0 < shs.length := Nat.pos_of_ne_zero (fun e => hn0 (by rw [e, Nat.mul_zero]))
        have hnn : 0 < n := Nat.pos_of_ne_zero (fun e => hn0 (by rw [e, Nat.zero_mul]))
        rw [hc] at hi
        have hsp : spot = none := by
          obtain ⟨cs', hcell, _⟩ := hi 0 (by omega)
          obtain ⟨_, hlen, hat⟩ := World.cells?_some hcell
          have h5 := hat 0 (by omega)
          rw [List.getElem?_eq_getElem (by omega)] at h5
          simpa [Addr.add] using World.cell?_spot h5
        subst hsp
        obtain ⟨d, e1, e2, e3⟩ := slice_datum (w := w) (b := b) (off := off) (n := n) (sz := shs.length) (cap := cap) (t := e) (shs := shs) rfl hl (by omega) (fun p hp => by
          have hdm := Nat.div_add_mod p shs.length
          have hj : p % shs.length < shs.length := Nat.mod_lt _ hs0
          have hpi : p / shs.length < n := Nat.div_lt_of_lt_mul (by rw [Nat.mul_comm]; exact hp)
          obtain ⟨cs', hcell, htr⟩ := hi (p / shs.length) (by omega)
          obtain ⟨_, hlen, hat⟩ := World.cells?_some hcell
          obtain ⟨xs, nf, _, _, _, hxl, hfld⟩ := DataW.trod_struct hu htr
          have hjf : p % shs.length < fs.size := by omega
          have hff : fs[p % shs.length]? = some fs[p % shs.length] := Array.getElem?_eq_getElem hjf
          have hss : shs[p % shs.length]? = some shs[p % shs.length] := List.getElem?_eq_getElem hj
          obtain ⟨o1, o2⟩ := ho _ _ hff
          have ht := hfld _ _ hff
          rw [o1, o2, List.getElem?_eq_getElem (show p % shs.length < xs.length by omega)] at ht
          obtain ⟨d, d1, d2, d3⟩ := ih _ _ _ hff hss ht
          have h5 := hat (p % shs.length) hj
          rw [add_at, add_at] at h5
          have hc5 : cs'[p % shs.length]? = some d.val := by
            have h6 := congrArg (fun l : List Value => l[0]?) d1
            simpa [List.getElem?_take, List.getElem?_drop] using h6
          refine ⟨d, ?_, d2, fun s' hs' => ?_⟩
          · rw [← hc5, ← h5]
            congr 2
            rw [Nat.add_assoc, Nat.mul_comm, hdm]
          · rw [hss] at hs'
            injection hs' with hs'
            subst hs'
            exact d3)
        exact ⟨d, by rw [e1], e2, e3⟩

end Go.Proofs.YtnnaigoomipklaaDoor
