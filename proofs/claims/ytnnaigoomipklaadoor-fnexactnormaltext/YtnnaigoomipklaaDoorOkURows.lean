/-
  Words for memory of any shape: a datum of cells and slices of cells, how it lies in a world, and what keeps it.
  A slice of structs as a list of rows of data: what is written into it, and what stays.
  An argument of any shape of ints, texts, bools and slices of structs of these reads as a datum.
-/
import Derived.Test.YtnnaigoomipklaaDoorProg
import Derived.Test.YtnnaigoomipklaaDoorOkBase
import Derived.Test.YtnnaigoomipklaaDoorOkMemT
import Derived.Deep.Onto
import Derived.Deep.Slices
import Derived.ChangeArms
set_option linter.unusedSimpArgs false
set_option linter.unusedVariables false
namespace Go.Proofs.YtnnaigoomipklaaDoor
open Go.RowKit Go.ChangeShapes Go.WideShapes M

/-- One cell that points nowhere; or a slice (its value, the type and the cells of an element, how many elements, all cells in a row). -/
inductive D where
  | lit (v : Value)
  | sl (v : Value) (t : TypeId) (sz n : Nat) (cs : List D)

def D.val : D → Value
  | .lit v => v
  | .sl v _ _ _ _ => v

mutual
def D.blocks : D → List Nat
  | .lit _ => []
  | .sl v _ _ _ cs => v.ownBlock.toList ++ D.blocksL cs
def D.blocksL : List D → List Nat
  | [] => []
  | d :: r => d.blocks ++ D.blocksL r
end

mutual
/-- All blocks are of the call's own, from 'base' on. -/
def D.own (w : World) (base : Nat) : D → Prop
  | .lit v => v.oneCell' = true
  | .sl v t sz n cs => w.ownsRow base t sz v n (cs.map D.val) ∧ D.ownL w base cs
def D.ownL (w : World) (base : Nat) : List D → Prop
  | [] => True
  | d :: r => d.own w base ∧ D.ownL w base r
end

theorem D.blocksL_append (a b : List D) : D.blocksL (a ++ b) = D.blocksL a ++ D.blocksL b := by
  induction a with
  | nil => rfl
  | cons d a ih => rw [List.cons_append, D.blocksL, D.blocksL, ih, List.append_assoc]
theorem D.ownL_append {w : World} {base : Nat} (a b : List D) : D.ownL w base (a ++ b) ↔ D.ownL w base a ∧ D.ownL w base b := by
  induction a with
  | nil => simp [D.ownL]
  | cons d a ih => rw [List.cons_append, D.ownL, D.ownL, ih, and_assoc]
theorem D.ownL_at {w : World} {base : Nat} : ∀ {cs : List D} {j : Nat} {d : D}, D.ownL w base cs → cs[j]? = some d → d.own w base
  | [], j, d, _, h => by simp at h
  | c :: r, 0, d, h, e => by simp at e; subst e; exact h.1
  | c :: r, j + 1, d, h, e => D.ownL_at h.2 (by simpa using e)

theorem D.val_one {w : World} {base : Nat} {d : D} (h : d.own w base) : d.val.oneCell' = true := by
  cases d with
  | lit v => exact h
  | sl v t sz n cs =>
    rcases h.1.2 with ⟨e, _⟩ | ⟨g, cap, cur, e, _⟩
    · simp only [D.val, e]; rfl
    · simp only [D.val, e]; rfl

mutual
theorem D.own_lt {w : World} {base : Nat} : ∀ {d : D} {g : Nat}, d.own w base → g ∈ d.blocks → base ≤ g ∧ g < w.heap.size
  | .lit v, g, _, hg => by simp [D.blocks] at hg
  | .sl v t sz n cs, g, h, hg => by
    rw [D.blocks] at hg
    rcases List.mem_append.1 hg with e | e
    · exact h.1.lt g (by simpa using e)
    · exact D.ownL_lt h.2 e
theorem D.ownL_lt {w : World} {base : Nat} : ∀ {cs : List D} {g : Nat}, D.ownL w base cs → g ∈ D.blocksL cs → base ≤ g ∧ g < w.heap.size
  | [], g, _, hg => by simp [D.blocksL] at hg
  | d :: r, g, h, hg => by
    rw [D.blocksL] at hg
    rcases List.mem_append.1 hg with e | e
    · exact D.own_lt h.1 e
    · exact D.ownL_lt h.2 e
end

mutual
/-- What is written is none of its blocks. -/
theorem D.own_wrote {S : Nat → Prop} {w w' : World} {base : Nat} : ∀ {d : D}, d.own w base → Wrote S w w' → (∀ g ∈ d.blocks, ¬ S g) → d.own w' base
  | .lit v, h, _, _ => h
  | .sl v t sz n cs, h, hw, hn => ⟨ownsRow_wrote h.1 hw (fun g e => hn g (by rw [D.blocks]; simp [e])), D.ownL_wrote h.2 hw (fun g hg => hn g (by rw [D.blocks]; simp [hg]))⟩
theorem D.ownL_wrote {S : Nat → Prop} {w w' : World} {base : Nat} : ∀ {cs : List D}, D.ownL w base cs → Wrote S w w' → (∀ g ∈ D.blocksL cs, ¬ S g) → D.ownL w' base cs
  | [], _, _, _ => trivial
  | d :: r, h, hw, hn => ⟨D.own_wrote h.1 hw (fun g hg => hn g (by rw [D.blocksL]; simp [hg])), D.ownL_wrote h.2 hw (fun g hg => hn g (by rw [D.blocksL]; simp [hg]))⟩
end

mutual
theorem D.own_more {w : World} {base b2 : Nat} (hb : b2 ≤ base) : ∀ {d : D}, d.own w base → d.own w b2
  | .lit v, h => h
  | .sl v t sz n cs, h => ⟨h.1.mono hb, D.ownL_more hb h.2⟩
theorem D.ownL_more {w : World} {base b2 : Nat} (hb : b2 ≤ base) : ∀ {cs : List D}, D.ownL w base cs → D.ownL w b2 cs
  | [], _ => trivial
  | d :: r, h => ⟨D.own_more hb h.1, D.ownL_more hb h.2⟩
end

/-- A datum of the call's own, no block of it twice. -/
structure Owns (w : World) (base : Nat) (d : D) : Prop where
  own : d.own w base
  nodup : d.blocks.Nodup

section
variable {S : Nat → Prop} {w w' : World} {base : Nat} {d : D}
theorem Owns.wrote (h : Owns w base d) (hw : Wrote S w w') (hn : ∀ g ∈ d.blocks, ¬ S g) : Owns w' base d := ⟨D.own_wrote h.own hw hn, h.nodup⟩
theorem Owns.below (h : Owns w base d) (hb : Below w.heap.size w w') : Owns w' base d := h.wrote (S := fun _ => False) (Wrote.of_below hb) (fun _ _ e => e)
theorem Owns.more {b2 : Nat} (h : Owns w base d) (hb : b2 ≤ base) : Owns w b2 d := ⟨D.own_more hb h.own, h.nodup⟩
theorem Owns.nil_ (w : World) (base : Nat) (t : TypeId) (sz : Nat) : Owns w base (.sl (.slice none 0 0) t sz 0 []) := ⟨⟨w.ownsRow_nil base _ _, trivial⟩, by simp [D.blocks, D.blocksL, Value.ownBlock]⟩
theorem Owns.form {v : Value} {t : TypeId} {sz n : Nat} {cs : List D} (h : Owns w base (.sl v t sz n cs)) : ∃ A cap, v = .slice A n cap ∧ n ≤ cap ∧ cap ≤ maxLen := by
  rcases h.own.1.2 with ⟨e, h0⟩ | ⟨g, cap, cur, e, _, _, h1, h2, _⟩
  · exact ⟨none, 0, by rw [e, h0], by omega, by unfold maxLen; omega⟩
  · exact ⟨_, cap, e, h1, h2⟩
end

/-- Elements are appended: their cells lie in a row somewhere. -/
theorem run_app_D {w : World} {st ty t : TypeId} {i : TypeInfo} {z : Value} {sz bytes : Nat} (ht : Tryd.prog.underlying st = some (.slice t)) (hi : Tryd.prog.info? t = some i) (hz : i.zero = some z) (hsize : i.size = sz) (hby : i.bytes = bytes) (hzs : z.cells.size = sz) (hsz : 0 < sz)
    (base : Nat) (v : Value) (n : Nat) (cs : List D) (ho : Owns w base (.sl v t sz n cs)) (es : List D) (m : Nat) (hl : es.length = m * sz) (he : D.ownL w base es) (hnd : (D.blocksL es).Nodup) (hap : ∀ g ∈ D.blocksL es, g ∉ (D.sl v t sz n cs).blocks)
    (a : Addr) (c : Nat) (hc : ∀ j d, es[j]? = some d → w.cell? (a.add j) = some d.val) (h63 : n + m ≤ maxLen) (hbytes : (n + m) * bytes ≤ 140737488355328) (hbase : base ≤ w.heap.size) :
    ∃ v' w', (Builtin.append_ #[st, st] ty #[v, .slice (some a) m c]).run Tryd.prog w = .ok v' w' ∧ Owns w' base (.sl v' t sz (n + m) (cs ++ es)) ∧ w.grownBy w' v.ownBlock ∧ (v'.ownBlock = v.ownBlock ∨ v'.ownBlock = some w.heap.size) := by
  obtain ⟨v', w', hrun, hr, hg, _, hat⟩ := run_append_own_at (P := Tryd.prog) w base st ty t i z sz bytes ht hi hz hsize hby hzs hsz v n (cs.map D.val) ho.own.1 a m c (es.map D.val) (by simpa using hl)
    (fun j u hu => by
      rw [List.getElem?_map] at hu
      obtain ⟨d, hd, rfl⟩ := Option.map_eq_some_iff.1 hu
      exact hc j d hd)
    (fun u hu => by
      obtain ⟨d, hd, rfl⟩ := List.mem_map.1 hu
      obtain ⟨j, hj⟩ := List.mem_iff_getElem?.1 hd
      exact D.val_one (D.ownL_at he hj)) h63 hbytes hbase
  have hw : Wrote (fun k => v.ownBlock = some k) w w' := Wrote.of_grown hg (fun _ e => e)
  have hnd0 := ho.nodup
  rw [D.blocks, List.nodup_append] at hnd0
  have hcs : D.ownL w' base cs := D.ownL_wrote ho.own.2 hw (fun g hg' e => by
    have := hnd0.2.2 g (by simp [e]) g hg'
    exact this rfl)
  have hes : D.ownL w' base es := D.ownL_wrote he hw (fun g hg' e => hap g hg' (by rw [D.blocks]; simp [e]))
  refine ⟨v', w', hrun, ⟨⟨by rw [List.map_append]; exact hr, (D.ownL_append cs es).2 ⟨hcs, hes⟩⟩, ?_⟩, hg, hat⟩
  rw [D.blocks, D.blocksL_append, List.nodup_append]
  refine ⟨by cases v'.ownBlock <;> simp, ?_, ?_⟩
  · rw [List.nodup_append]
    exact ⟨hnd0.2.1, hnd, fun x hx y hy e => hap y hy (by rw [D.blocks, ← e]; simp [hx])⟩
  · intro x hx y hy e
    subst e
    have hx' : v'.ownBlock = some x := by simpa using hx
    rcases hat with h1 | h1
    · rw [h1] at hx'
      rcases List.mem_append.1 hy with hy | hy
      · exact hnd0.2.2 x (by simp [hx']) x hy rfl
      · exact hap x hy (by rw [D.blocks]; simp [hx'])
    · rw [h1] at hx'
      injection hx' with hx'
      rcases List.mem_append.1 hy with hy | hy
      · have := (D.ownL_lt ho.own.2 hy).2; omega
      · have := (D.ownL_lt he hy).2; omega

section
variable {w : World} {base g n cap sz j : Nat} {t : TypeId} {cs : List D} {d : D}
theorem Owns.cell (h : Owns w base (.sl (.slice (some ⟨g, 0, none⟩) n cap) t sz n cs)) (hj : cs[j]? = some d) : w.cell? ⟨g, j, none⟩ = some d.val := by
  have hl : cs.length = n * sz := by have := h.own.1.1; simpa using this
  rw [h.own.1.cellAt j (by rw [← hl]; exact (List.getElem?_eq_some_iff.1 hj).1)]
  simp [hj]
theorem Owns.free (h : Owns w base (.sl (.slice (some ⟨g, 0, none⟩) n cap) t sz n cs)) (j : Nat) : w.frozen? ⟨g, j, none⟩ = false := h.own.1.frozenAt j
theorem Owns.at_ {v : Value} (h : Owns w base (.sl v t sz n cs)) (hj : cs[j]? = some d) : d.own w base := D.ownL_at h.own.2 hj
end

/-- A slice of texts, as a datum. -/
def textsD (v : Value) (l : List ByteArray) : D := .sl v 9 1 l.length (l.map fun s => .lit (.string s))
theorem textsD_blocksL (l : List ByteArray) : D.blocksL (l.map fun s => D.lit (.string s)) = [] := by
  induction l with
  | nil => rfl
  | cons s l ih => rw [List.map_cons, D.blocksL, ih]; rfl
theorem textsD_blocks (v : Value) (l : List ByteArray) : (textsD v l).blocks = v.ownBlock.toList := by
  rw [textsD, D.blocks, textsD_blocksL, List.append_nil]
theorem textsD_ownL (w : World) (base : Nat) (l : List ByteArray) : D.ownL w base (l.map fun s => D.lit (.string s)) := by
  induction l with
  | nil => trivial
  | cons s l ih => exact ⟨rfl, ih⟩
theorem OwnV.datum {w : World} {base : Nat} {v : Value} {l : List ByteArray} (h : OwnV w base v l) : Owns w base (textsD v l) := by
  refine ⟨⟨?_, textsD_ownL w base l⟩, by rw [textsD_blocks]; cases v.ownBlock <;> simp⟩
  have := h.row
  rw [List.map_map]
  exact this
theorem D.own_texts {w : World} {base : Nat} {v : Value} {l : List ByteArray} (h : (textsD v l).own w base) (hs : ∀ s ∈ l, s.size ≤ maxLen) : OwnV w base v l := by
  refine ⟨?_, hs⟩
  have := h.1
  rw [List.map_map] at this
  exact this

end Go.Proofs.YtnnaigoomipklaaDoor

namespace Go.Proofs.YtnnaigoomipklaaDoor
open Go.RowKit Go.ChangeShapes Go.WideShapes M

section
variable {α : Type} {sz : Nat}
theorem flat_get : ∀ {rows : List (List α)} {k j : Nat} {r : List α}, (∀ r ∈ rows, r.length = sz) → rows[k]? = some r → j < sz → rows.flatten[k * sz + j]? = r[j]?
  | [], k, j, r, _, hk, _ => by simp at hk
  | q :: rows, 0, j, r, h, hk, hj => by
    simp at hk
    subst hk
    rw [List.flatten_cons, Nat.zero_mul, Nat.zero_add, List.getElem?_append_left (by rw [h q (by simp)]; exact hj)]
  | q :: rows, k + 1, j, r, h, hk, hj => by
    have h1 := h q (by simp)
    rw [List.flatten_cons, List.getElem?_append_right (by rw [h1, Nat.add_mul]; omega), h1, show (k + 1) * sz + j - sz = k * sz + j by rw [Nat.add_mul]; omega]
    exact flat_get (fun q hq => h q (by simp [hq])) (by simpa using hk) hj
end

/-- A slice of structs of the call's own, as rows. -/
structure OwnR (w : World) (base : Nat) (v : Value) (t : TypeId) (sz : Nat) (rows : List (List D)) : Prop where
  own : Owns w base (.sl v t sz rows.length rows.flatten)
  wide : ∀ r ∈ rows, r.length = sz
/-- Its blocks. -/
def BlkR (v : Value) (rows : List (List D)) (g : Nat) : Prop := g ∈ v.ownBlock.toList ++ D.blocksL rows.flatten

section
variable {S : Nat → Prop} {w w' : World} {base n cap g k j sz : Nat} {v : Value} {A : Option Addr} {t : TypeId} {rows : List (List D)} {r : List D} {d : D}
theorem OwnR.lt (h : OwnR w base v t sz rows) (hg : BlkR v rows g) : base ≤ g ∧ g < w.heap.size := D.own_lt h.own.own hg
theorem OwnR.wrote (h : OwnR w base v t sz rows) (hw : Wrote S w w') (hn : ∀ g, BlkR v rows g → ¬ S g) : OwnR w' base v t sz rows := ⟨h.own.wrote hw (fun g hg => hn g hg), h.wide⟩
theorem OwnR.below (h : OwnR w base v t sz rows) (hb : Below w.heap.size w w') : OwnR w' base v t sz rows := ⟨h.own.below hb, h.wide⟩
theorem OwnR.more {b2 : Nat} (h : OwnR w base v t sz rows) (hb : b2 ≤ base) : OwnR w b2 v t sz rows := ⟨h.own.more hb, h.wide⟩
theorem OwnR.form (h : OwnR w base v t sz rows) (hn : rows.length = n) : ∃ A cap, v = .slice A n cap ∧ n ≤ cap ∧ cap ≤ maxLen := by subst hn; exact h.own.form
theorem OwnR.nil_ : OwnR w base (.slice none 0 0) t sz [] := ⟨Owns.nil_ w base t sz, fun r hr => by simp at hr⟩
theorem OwnR.len (h : OwnR w base (.slice A n cap) t sz rows) : rows.length = n := by
  obtain ⟨A', cap', e, _⟩ := h.own.form
  injection e with e1 e2 e3
  exact e2.symm
theorem OwnR.addr (h : OwnR w base (.slice A n cap) t sz rows) (hk : k < n) : ∃ g r, A = some ⟨g, 0, none⟩ ∧ base ≤ g ∧ g < w.heap.size ∧ rows[k]? = some r := by
  have hl := h.len
  rcases h.own.own.1.2 with ⟨e, h0⟩ | ⟨g, cap', cur, e, hb, hg, _⟩
  · injection e with e1 e2 e3; omega
  · injection e with e1 e2 e3
    subst e1
    exact ⟨g, _, rfl, hb, (Array.getElem?_eq_some_iff.1 hg).1, List.getElem?_eq_getElem (show k < rows.length by omega)⟩
theorem OwnR.cell (h : OwnR w base (.slice (some ⟨g, 0, none⟩) n cap) t sz rows) (hk : rows[k]? = some r) (hj : r[j]? = some d) : w.cell? ⟨g, k * sz + j, none⟩ = some d.val := by
  have hl := h.len
  have hj2 : j < sz := by rw [← h.wide r (List.mem_of_getElem? hk)]; exact (List.getElem?_eq_some_iff.1 hj).1
  have ho := h.own
  rw [hl] at ho
  exact ho.cell (by rw [flat_get h.wide hk hj2]; exact hj)
theorem OwnR.datum (h : OwnR w base v t sz rows) (hk : rows[k]? = some r) (hj : r[j]? = some d) : d.own w base := by
  have hj2 : j < sz := by rw [← h.wide r (List.mem_of_getElem? hk)]; exact (List.getElem?_eq_some_iff.1 hj).1
  exact h.own.at_ (j := k * sz + j) (by rw [flat_get h.wide hk hj2]; exact hj)
theorem OwnR.free (h : OwnR w base (.slice (some ⟨g, 0, none⟩) n cap) t sz rows) (j : Nat) : w.frozen? ⟨g, j, none⟩ = false := by
  have hl := h.len
  have ho := h.own
  rw [hl] at ho
  exact ho.free j
end

/-- One row is appended. -/
theorem run_app_R {w : World} {st ty t : TypeId} {i : TypeInfo} {z : Value} {sz bytes : Nat} (ht : Tryd.prog.underlying st = some (.slice t)) (hi : Tryd.prog.info? t = some i) (hz : i.zero = some z) (hsize : i.size = sz) (hby : i.bytes = bytes) (hzs : z.cells.size = sz) (hsz : 0 < sz)
    (base : Nat) (v : Value) (rows : List (List D)) (ho : OwnR w base v t sz rows) (r : List D) (hl : r.length = sz) (he : D.ownL w base r) (hnd : (D.blocksL r).Nodup) (hap : ∀ g ∈ D.blocksL r, ¬ BlkR v rows g)
    (a : Addr) (c : Nat) (hc : ∀ j d, r[j]? = some d → w.cell? (a.add j) = some d.val) (hbound : rows.length ≤ 1048576) (hbytes : bytes ≤ 4096) (hbase : base ≤ w.heap.size) :
    ∃ v' w', (Builtin.append_ #[st, st] ty #[v, .slice (some a) 1 c]).run Tryd.prog w = .ok v' w' ∧ OwnR w' base v' t sz (rows ++ [r]) ∧ w.grownBy w' v.ownBlock ∧ (v'.ownBlock = v.ownBlock ∨ v'.ownBlock = some w.heap.size) := by
  have hmul : (rows.length + 1) * bytes ≤ 1048577 * 4096 := Nat.mul_le_mul (by omega) hbytes
  obtain ⟨v', w', h1, h2, h3, h4⟩ := run_app_D (ty := ty) ht hi hz hsize hby hzs hsz base v rows.length rows.flatten ho.own r 1 (by omega) he hnd hap a c hc (by unfold maxLen; omega) (by omega) hbase
  refine ⟨v', w', h1, ⟨?_, fun q hq => ?_⟩, h3, h4⟩
  · rw [List.length_append, List.flatten_append]
    simpa using h2
  · rcases List.mem_append.1 hq with hq | hq
    · exact ho.wide q hq
    · simp at hq; rw [hq, hl]
theorem step_app_R {w : World} {st t : TypeId} {i : TypeInfo} {z : Value} {sz bytes : Nat} (ht : Tryd.prog.underlying st = some (.slice t)) (hi : Tryd.prog.info? t = some i) (hz : i.zero = some z) (hsize : i.size = sz) (hby : i.bytes = bytes) (hzs : z.cells.size = sz) (hsz : 0 < sz)
    {ops : Array Oper} {o : Oper} {q : Act} {K : Act → World → Prop} {Q : Exit → Act → World → Prop} {E : Prop} (s x : Operand)
    (base : Nat) (v : Value) (rows : List (List D)) (ho : OwnR w base v t sz rows) (r : List D) (hl : r.length = sz) (he : D.ownL w base r) (hnd : (D.blocksL r).Nodup) (hap : ∀ g ∈ D.blocksL r, ¬ BlkR v rows g)
    (a : Addr) (c : Nat) (hc : ∀ j d, r[j]? = some d → w.cell? (a.add j) = some d.val) (hbound : rows.length ≤ 1048576) (hbytes : bytes ≤ 4096) (hbase : base ≤ w.heap.size)
    (hgd : Region.wanted o (yielded ops q.tmps) = true) (hop : o.op = .call { callee := .builtin .append, args := #[s, x], argTypes := #[st, st] }) (hs : q.eval s = v) (hx : q.eval x = .slice (some a) 1 c)
    (h : ∀ v' w', OwnR w' base v' t sz (rows ++ [r]) → w.grownBy w' v.ownBlock → (v'.ownBlock = v.ownBlock ∨ v'.ownBlock = some w.heap.size) → K (q.put o.dst v') w') : if Region.wanted o (yielded ops q.tmps) = true then Oper.wp Tryd.prog o q w K Q else E := by
  rw [if_pos hgd]
  obtain ⟨v', w', hrun, h1, h2, h3⟩ := run_app_R (ty := o.type) ht hi hz hsize hby hzs hsz base v rows ho r hl he hnd hap a c hc hbound hbytes hbase
  unfold Oper.wp execOp
  simp only [hop, resolve, invoke, builtin, Sem.run_bind, Sem.run_pure, Result.andThen_ok, List.map_toArray, List.map_cons, List.map_nil, hs, hx, hrun]
  exact h v' w' h1 h2 h3
theorem wpList_app_R {w : World} {st t : TypeId} {i : TypeInfo} {z : Value} {sz bytes : Nat} (ht : Tryd.prog.underlying st = some (.slice t)) (hi : Tryd.prog.info? t = some i) (hz : i.zero = some z) (hsize : i.size = sz) (hby : i.bytes = bytes) (hzs : z.cells.size = sz) (hsz : 0 < sz)
    {ops : Array Oper} {rest : List Oper} {o : Oper} {q : Act} {Q : Exit → Act → World → Prop} (s x : Operand)
    (base : Nat) (v : Value) (rows : List (List D)) (ho : OwnR w base v t sz rows) (r : List D) (hl : r.length = sz) (he : D.ownL w base r) (hnd : (D.blocksL r).Nodup) (hap : ∀ g ∈ D.blocksL r, ¬ BlkR v rows g)
    (a : Addr) (c : Nat) (hc : ∀ j d, r[j]? = some d → w.cell? (a.add j) = some d.val) (hbound : rows.length ≤ 1048576) (hbytes : bytes ≤ 4096) (hbase : base ≤ w.heap.size)
    (hgd : Region.wanted o (yielded ops q.tmps) = true) (hop : o.op = .call { callee := .builtin .append, args := #[s, x], argTypes := #[st, st] }) (hs : q.eval s = v) (hx : q.eval x = .slice (some a) 1 c)
    (h : ∀ v' w', OwnR w' base v' t sz (rows ++ [r]) → w.grownBy w' v.ownBlock → (v'.ownBlock = v.ownBlock ∨ v'.ownBlock = some w.heap.size) → wpList Tryd.prog ops Q rest (q.put o.dst v') w') : wpList Tryd.prog ops Q (o :: rest) q w := by
  obtain ⟨v', w', hrun, h1, h2, h3⟩ := run_app_R (ty := o.type) ht hi hz hsize hby hzs hsz base v rows ho r hl he hnd hap a c hc hbound hbytes hbase
  refine wpList_wanted hgd fun K hK => ?_
  unfold Oper.wp execOp
  simp only [hop, resolve, invoke, builtin, Sem.run_bind, Sem.run_pure, Result.andThen_ok, List.map_toArray, List.map_cons, List.map_nil, hs, hx, hrun]
  exact hK _ _ (h v' w' h1 h2 h3)

end Go.Proofs.YtnnaigoomipklaaDoor

