/-
  Words for memory of any shape: a datum of cells and slices of cells, how it lies in a world, and what keeps it.
-/
import Derived.Test.YtnimaadjmejmpaaDoorProg
import Derived.Test.YtnimaadjmejmpaaDoorBase
import Derived.Test.YtnimaadjmejmpaaDoorMem
import Derived.Deep.Onto
set_option linter.unusedSimpArgs false
set_option linter.unusedVariables false
namespace Go.Proofs.YtnimaadjmejmpaaDoor
open Go.RowKit Go.ChangeShapes Go.WideShapes M

/-- One cell that points nowhere; or a slice (its value, the type and the cells of an element, how many elements, all cells in a row). -/
inductive D where
  | lit (v : Value)
  | sl (v : Value) (t : TypeId) (sz n : Nat) (cs : List D)

def D.val : D → Value
  | .lit v => v
  | .sl v _ _ _ _ => v

mutual
def D.blocks : D → List Nat
  | .lit _ => []
  | .sl v _ _ _ cs => v.ownBlock.toList ++ D.blocksL cs
def D.blocksL : List D → List Nat
  | [] => []
  | d :: r => d.blocks ++ D.blocksL r
end

mutual
/-- All blocks are of the call's own, from 'base' on. -/
def D.own (w : World) (base : Nat) : D → Prop
  | .lit v => v.oneCell' = true
  | .sl v t sz n cs => w.ownsRow base t sz v n (cs.map D.val) ∧ D.ownL w base cs
def D.ownL (w : World) (base : Nat) : List D → Prop
  | [] => True
  | d :: r => d.own w base ∧ D.ownL w base r
end

mutual
/-- It may be read, wherever it lies. -/
def D.rd (w : World) : D → Prop
  | .lit v => v.oneCell' = true
  | .sl v t sz n cs => (∃ A cap, v = .slice A n cap ∧ n ≤ cap ∧ n ≤ maxLen ∧ cs.length = n * sz ∧ ∀ j d, cs[j]? = some d → ∃ b off, A = some ⟨b, off, none⟩ ∧ w.cell? ⟨b, off + j, none⟩ = some d.val) ∧ D.rdL w cs
def D.rdL (w : World) : List D → Prop
  | [] => True
  | d :: r => d.rd w ∧ D.rdL w r
end

theorem D.blocksL_append (a b : List D) : D.blocksL (a ++ b) = D.blocksL a ++ D.blocksL b := by
  induction a with
  | nil => rfl
  | cons d a ih => rw [List.cons_append, D.blocksL, D.blocksL, ih, List.append_assoc]
theorem D.ownL_append {w : World} {base : Nat} (a b : List D) : D.ownL w base (a ++ b) ↔ D.ownL w base a ∧ D.ownL w base b := by
  induction a with
  | nil => simp [D.ownL]
  | cons d a ih => rw [List.cons_append, D.ownL, D.ownL, ih, and_assoc]
theorem D.rdL_append {w : World} (a b : List D) : D.rdL w (a ++ b) ↔ D.rdL w a ∧ D.rdL w b := by
  induction a with
  | nil => simp [D.rdL]
  | cons d a ih => rw [List.cons_append, D.rdL, D.rdL, ih, and_assoc]
theorem D.ownL_at {w : World} {base : Nat} : ∀ {cs : List D} {j : Nat} {d : D}, D.ownL w base cs → cs[j]? = some d → d.own w base
  | [], j, d, _, h => by simp at h
  | c :: r, 0, d, h, e => by simp at e; subst e; exact h.1
  | c :: r, j + 1, d, h, e => D.ownL_at h.2 (by simpa using e)
theorem D.rdL_at {w : World} : ∀ {cs : List D} {j : Nat} {d : D}, D.rdL w cs → cs[j]? = some d → d.rd w
  | [], j, d, _, h => by simp at h
  | c :: r, 0, d, h, e => by simp at e; subst e; exact h.1
  | c :: r, j + 1, d, h, e => D.rdL_at h.2 (by simpa using e)

theorem D.val_one {w : World} {base : Nat} {d : D} (h : d.own w base) : d.val.oneCell' = true := by
  cases d with
  | lit v => exact h
  | sl v t sz n cs =>
    rcases h.1.2 with ⟨e, _⟩ | ⟨g, cap, cur, e, _⟩
    · simp only [D.val, e]; rfl
    · simp only [D.val, e]; rfl

mutual
theorem D.own_lt {w : World} {base : Nat} : ∀ {d : D} {g : Nat}, d.own w base → g ∈ d.blocks → base ≤ g ∧ g < w.heap.size
  | .lit v, g, _, hg => by simp [D.blocks] at hg
  | .sl v t sz n cs, g, h, hg => by
    rw [D.blocks] at hg
    rcases List.mem_append.1 hg with e | e
    · exact h.1.lt g (by simpa using e)
    · exact D.ownL_lt h.2 e
theorem D.ownL_lt {w : World} {base : Nat} : ∀ {cs : List D} {g : Nat}, D.ownL w base cs → g ∈ D.blocksL cs → base ≤ g ∧ g < w.heap.size
  | [], g, _, hg => by simp [D.blocksL] at hg
  | d :: r, g, h, hg => by
    rw [D.blocksL] at hg
    rcases List.mem_append.1 hg with e | e
    · exact D.own_lt h.1 e
    · exact D.ownL_lt h.2 e
end

mutual
/-- What is written is none of its blocks. -/
theorem D.own_wrote {S : Nat → Prop} {w w' : World} {base : Nat} : ∀ {d : D}, d.own w base → Wrote S w w' → (∀ g ∈ d.blocks, ¬ S g) → d.own w' base
  | .lit v, h, _, _ => h
  | .sl v t sz n cs, h, hw, hn => ⟨ownsRow_wrote h.1 hw (fun g e => hn g (by rw [D.blocks]; simp [e])), D.ownL_wrote h.2 hw (fun g hg => hn g (by rw [D.blocks]; simp [hg]))⟩
theorem D.ownL_wrote {S : Nat → Prop} {w w' : World} {base : Nat} : ∀ {cs : List D}, D.ownL w base cs → Wrote S w w' → (∀ g ∈ D.blocksL cs, ¬ S g) → D.ownL w' base cs
  | [], _, _, _ => trivial
  | d :: r, h, hw, hn => ⟨D.own_wrote h.1 hw (fun g hg => hn g (by rw [D.blocksL]; simp [hg])), D.ownL_wrote h.2 hw (fun g hg => hn g (by rw [D.blocksL]; simp [hg]))⟩
end

mutual
theorem D.own_more {w : World} {base b2 : Nat} (hb : b2 ≤ base) : ∀ {d : D}, d.own w base → d.own w b2
  | .lit v, h => h
  | .sl v t sz n cs, h => ⟨h.1.mono hb, D.ownL_more hb h.2⟩
theorem D.ownL_more {w : World} {base b2 : Nat} (hb : b2 ≤ base) : ∀ {cs : List D}, D.ownL w base cs → D.ownL w b2 cs
  | [], _ => trivial
  | d :: r, h => ⟨D.own_more hb h.1, D.ownL_more hb h.2⟩
end

mutual
theorem D.own_rd {w : World} {base : Nat} : ∀ {d : D}, d.own w base → d.rd w
  | .lit v, h => h
  | .sl v t sz n cs, h => by
    refine ⟨?_, D.ownL_rd h.2⟩
    have hl : cs.length = n * sz := by have := h.1.1; simpa using this
    rcases h.1.2 with ⟨e, h0⟩ | ⟨g, cap, cur, e, hb, hg, h1, h2, h3, h4⟩
    · refine ⟨none, 0, by rw [e, h0], by omega, by unfold maxLen; omega, hl, fun j d hj => ?_⟩
      rw [h0, Nat.zero_mul] at hl
      rw [List.eq_nil_of_length_eq_zero hl] at hj
      simp at hj
    · refine ⟨some ⟨g, 0, none⟩, cap, e, h1, by omega, hl, fun j d hj => ⟨g, 0, rfl, ?_⟩⟩
      have hr := h.1
      rw [e] at hr
      have hlt : j < n * sz := by rw [← hl]; exact (List.getElem?_eq_some_iff.1 hj).1
      rw [Nat.zero_add, hr.cellAt j hlt]
      simp [hj]
theorem D.ownL_rd {w : World} {base : Nat} : ∀ {cs : List D}, D.ownL w base cs → D.rdL w cs
  | [], _ => trivial
  | d :: r, h => ⟨D.own_rd h.1, D.ownL_rd h.2⟩
end

mutual
theorem D.rd_below {w w' : World} (hb : Below w.heap.size w w') : ∀ {d : D}, d.rd w → d.rd w'
  | .lit v, h => h
  | .sl v t sz n cs, ⟨⟨A, cap, e, h1, h2, h3, h4⟩, hr⟩ => ⟨⟨A, cap, e, h1, h2, h3, fun j d hj => by
      obtain ⟨b, off, e1, e2⟩ := h4 j d hj
      exact ⟨b, off, e1, cell_keep hb e2⟩⟩, D.rdL_below hb hr⟩
theorem D.rdL_below {w w' : World} (hb : Below w.heap.size w w') : ∀ {cs : List D}, D.rdL w cs → D.rdL w' cs
  | [], _ => trivial
  | d :: r, h => ⟨D.rd_below hb h.1, D.rdL_below hb h.2⟩
end

/-- A datum of the call's own, no block of it twice. -/
structure Owns (w : World) (base : Nat) (d : D) : Prop where
  own : d.own w base
  nodup : d.blocks.Nodup

section
variable {S : Nat → Prop} {w w' : World} {base : Nat} {d : D}
theorem Owns.wrote (h : Owns w base d) (hw : Wrote S w w') (hn : ∀ g ∈ d.blocks, ¬ S g) : Owns w' base d := ⟨D.own_wrote h.own hw hn, h.nodup⟩
theorem Owns.below (h : Owns w base d) (hb : Below w.heap.size w w') : Owns w' base d := h.wrote (S := fun _ => False) (Wrote.of_below hb) (fun _ _ e => e)
theorem Owns.more {b2 : Nat} (h : Owns w base d) (hb : b2 ≤ base) : Owns w b2 d := ⟨D.own_more hb h.own, h.nodup⟩
theorem Owns.nil_ (w : World) (base : Nat) (t : TypeId) (sz : Nat) : Owns w base (.sl (.slice none 0 0) t sz 0 []) := ⟨⟨w.ownsRow_nil base _ _, trivial⟩, by simp [D.blocks, D.blocksL, Value.ownBlock]⟩
theorem Owns.form {v : Value} {t : TypeId} {sz n : Nat} {cs : List D} (h : Owns w base (.sl v t sz n cs)) : ∃ A cap, v = .slice A n cap ∧ n ≤ cap ∧ cap ≤ maxLen := by
  rcases h.own.1.2 with ⟨e, h0⟩ | ⟨g, cap, cur, e, _, _, h1, h2, _⟩
  · exact ⟨none, 0, by rw [e, h0], by omega, by unfold maxLen; omega⟩
  · exact ⟨_, cap, e, h1, h2⟩
end

/-- Elements are appended: their cells lie in a row somewhere. -/
theorem run_app_D {w : World} {st ty t : TypeId} {i : TypeInfo} {z : Value} {sz bytes : Nat} (ht : Tryd.prog.underlying st = some (.slice t)) (hi : Tryd.prog.info? t = some i) (hz : i.zero = some z) (hsize : i.size = sz) (hby : i.bytes = bytes) (hzs : z.cells.size = sz) (hsz : 0 < sz)
    (base : Nat) (v : Value) (n : Nat) (cs : List D) (ho : Owns w base (.sl v t sz n cs)) (es : List D) (m : Nat) (hl : es.length = m * sz) (he : D.ownL w base es) (hnd : (D.blocksL es).Nodup) (hap : ∀ g ∈ D.blocksL es, g ∉ (D.sl v t sz n cs).blocks)
    (a : Addr) (c : Nat) (hc : ∀ j d, es[j]? = some d → w.cell? (a.add j) = some d.val) (h63 : n + m ≤ maxLen) (hbytes : (n + m) * bytes ≤ 140737488355328) (hbase : base ≤ w.heap.size) :
    ∃ v' w', (Builtin.append_ #[st, st] ty #[v, .slice (some a) m c]).run Tryd.prog w = .ok v' w' ∧ Owns w' base (.sl v' t sz (n + m) (cs ++ es)) ∧ w.grownBy w' v.ownBlock ∧ (v'.ownBlock = v.ownBlock ∨ v'.ownBlock = some w.heap.size) := by
  obtain ⟨v', w', hrun, hr, hg, _, hat⟩ := run_append_own_at (P := Tryd.prog) w base st ty t i z sz bytes ht hi hz hsize hby hzs hsz v n (cs.map D.val) ho.own.1 a m c (es.map D.val) (by simpa using hl)
    (fun j u hu => by
      rw [List.getElem?_map] at hu
      obtain ⟨d, hd, rfl⟩ := Option.map_eq_some_iff.1 hu
      exact hc j d hd)
    (fun u hu => by
      obtain ⟨d, hd, rfl⟩ := List.mem_map.1 hu
      obtain ⟨j, hj⟩ := List.mem_iff_getElem?.1 hd
      exact D.val_one (D.ownL_at he hj)) h63 hbytes hbase
  have hw : Wrote (fun k => v.ownBlock = some k) w w' := Wrote.of_grown hg (fun _ e => e)
  have hnd0 := ho.nodup
  rw [D.blocks, List.nodup_append] at hnd0
  have hcs : D.ownL w' base cs := D.ownL_wrote ho.own.2 hw (fun g hg' e => by
    have := hnd0.2.2 g (by simp [e]) g hg'
    exact this rfl)
  have hes : D.ownL w' base es := D.ownL_wrote he hw (fun g hg' e => hap g hg' (by rw [D.blocks]; simp [e]))
  refine ⟨v', w', hrun, ⟨⟨by rw [List.map_append]; exact hr, (D.ownL_append cs es).2 ⟨hcs, hes⟩⟩, ?_⟩, hg, hat⟩
  rw [D.blocks, D.blocksL_append, List.nodup_append]
  refine ⟨by cases v'.ownBlock <;> simp, ?_, ?_⟩
  · rw [List.nodup_append]
    exact ⟨hnd0.2.1, hnd, fun x hx y hy e => hap y hy (by rw [D.blocks, ← e]; simp [hx])⟩
  · intro x hx y hy e
    subst e
    have hx' : v'.ownBlock = some x := by simpa using hx
    rcases hat with h1 | h1
    · rw [h1] at hx'
      rcases List.mem_append.1 hy with hy | hy
      · exact hnd0.2.2 x (by simp [hx']) x hy rfl
      · exact hap x hy (by rw [D.blocks]; simp [hx'])
    · rw [h1] at hx'
      injection hx' with hx'
      rcases List.mem_append.1 hy with hy | hy
      · have := (D.ownL_lt ho.own.2 hy).2; omega
      · have := (D.ownL_lt he hy).2; omega

theorem wpList_app_D {w : World} {st t : TypeId} {i : TypeInfo} {z : Value} {sz bytes : Nat} (ht : Tryd.prog.underlying st = some (.slice t)) (hi : Tryd.prog.info? t = some i) (hz : i.zero = some z) (hsize : i.size = sz) (hby : i.bytes = bytes) (hzs : z.cells.size = sz) (hsz : 0 < sz)
    {ops : Array Oper} {rest : List Oper} {o : Oper} {q : Act} {Q : Exit → Act → World → Prop} (s x : Operand)
    (base : Nat) (v : Value) (n : Nat) (cs : List D) (ho : Owns w base (.sl v t sz n cs)) (es : List D) (m : Nat) (hl : es.length = m * sz) (he : D.ownL w base es) (hnd : (D.blocksL es).Nodup) (hap : ∀ g ∈ D.blocksL es, g ∉ (D.sl v t sz n cs).blocks)
    (a : Addr) (c : Nat) (hc : ∀ j d, es[j]? = some d → w.cell? (a.add j) = some d.val) (h63 : n + m ≤ maxLen) (hbytes : (n + m) * bytes ≤ 140737488355328) (hbase : base ≤ w.heap.size)
    (hgd : Region.wanted o (yielded ops q.tmps) = true) (hop : o.op = .call { callee := .builtin .append, args := #[s, x], argTypes := #[st, st] }) (hs : q.eval s = v) (hx : q.eval x = .slice (some a) m c)
    (h : ∀ v' w', Owns w' base (.sl v' t sz (n + m) (cs ++ es)) → w.grownBy w' v.ownBlock → (v'.ownBlock = v.ownBlock ∨ v'.ownBlock = some w.heap.size) → wpList Tryd.prog ops Q rest (q.put o.dst v') w') : wpList Tryd.prog ops Q (o :: rest) q w := by
  obtain ⟨v', w', hrun, h1, h2, h3⟩ := run_app_D (ty := o.type) ht hi hz hsize hby hzs hsz base v n cs ho es m hl he hnd hap a c hc h63 hbytes hbase
  refine wpList_wanted hgd fun K hK => ?_
  unfold Oper.wp execOp
  simp only [hop, resolve, invoke, builtin, Sem.run_bind, Sem.run_pure, Result.andThen_ok, List.map_toArray, List.map_cons, List.map_nil, hs, hx, hrun]
  exact hK _ _ (h v' w' h1 h2 h3)

theorem step_app_D {w : World} {st t : TypeId} {i : TypeInfo} {z : Value} {sz bytes : Nat} (ht : Tryd.prog.underlying st = some (.slice t)) (hi : Tryd.prog.info? t = some i) (hz : i.zero = some z) (hsize : i.size = sz) (hby : i.bytes = bytes) (hzs : z.cells.size = sz) (hsz : 0 < sz)
    {ops : Array Oper} {o : Oper} {q : Act} {K : Act → World → Prop} {Q : Exit → Act → World → Prop} {E : Prop} (s x : Operand)
    (base : Nat) (v : Value) (n : Nat) (cs : List D) (ho : Owns w base (.sl v t sz n cs)) (es : List D) (m : Nat) (hl : es.length = m * sz) (he : D.ownL w base es) (hnd : (D.blocksL es).Nodup) (hap : ∀ g ∈ D.blocksL es, g ∉ (D.sl v t sz n cs).blocks)
    (a : Addr) (c : Nat) (hc : ∀ j d, es[j]? = some d → w.cell? (a.add j) = some d.val) (h63 : n + m ≤ maxLen) (hbytes : (n + m) * bytes ≤ 140737488355328) (hbase : base ≤ w.heap.size)
    (hgd : Region.wanted o (yielded ops q.tmps) = true) (hop : o.op = .call { callee := .builtin .append, args := #[s, x], argTypes := #[st, st] }) (hs : q.eval s = v) (hx : q.eval x = .slice (some a) m c)
    (h : ∀ v' w', Owns w' base (.sl v' t sz (n + m) (cs ++ es)) → w.grownBy w' v.ownBlock → (v'.ownBlock = v.ownBlock ∨ v'.ownBlock = some w.heap.size) → K (q.put o.dst v') w') : if Region.wanted o (yielded ops q.tmps) = true then Oper.wp Tryd.prog o q w K Q else E := by
  rw [if_pos hgd]
  obtain ⟨v', w', hrun, h1, h2, h3⟩ := run_app_D (ty := o.type) ht hi hz hsize hby hzs hsz base v n cs ho es m hl he hnd hap a c hc h63 hbytes hbase
  unfold Oper.wp execOp
  simp only [hop, resolve, invoke, builtin, Sem.run_bind, Sem.run_pure, Result.andThen_ok, List.map_toArray, List.map_cons, List.map_nil, hs, hx, hrun]
  exact h v' w' h1 h2 h3

section
variable {w : World} {base g n cap sz j : Nat} {t : TypeId} {cs : List D} {d : D}
theorem Owns.cell (h : Owns w base (.sl (.slice (some ⟨g, 0, none⟩) n cap) t sz n cs)) (hj : cs[j]? = some d) : w.cell? ⟨g, j, none⟩ = some d.val := by
  have hl : cs.length = n * sz := by have := h.own.1.1; simpa using this
  rw [h.own.1.cellAt j (by rw [← hl]; exact (List.getElem?_eq_some_iff.1 hj).1)]
  simp [hj]
theorem Owns.free (h : Owns w base (.sl (.slice (some ⟨g, 0, none⟩) n cap) t sz n cs)) (j : Nat) : w.frozen? ⟨g, j, none⟩ = false := h.own.1.frozenAt j
theorem Owns.block (h : Owns w base (.sl (.slice (some ⟨g, 0, none⟩) n cap) t sz n cs)) : base ≤ g ∧ g < w.heap.size := h.own.1.lt g rfl
theorem Owns.at_ {v : Value} (h : Owns w base (.sl v t sz n cs)) (hj : cs[j]? = some d) : d.own w base := D.ownL_at h.own.2 hj
theorem D.blocksL_set {x : Value} (u : Value) : ∀ {cs : List D} {j : Nat}, cs[j]? = some (.lit x) → D.blocksL (cs.set j (.lit u)) = D.blocksL cs
  | [], j, h => by simp at h
  | c :: r, 0, h => by simp at h; subst h; rfl
  | c :: r, j + 1, h => by rw [List.set_cons_succ, D.blocksL, D.blocksL, D.blocksL_set u (by simpa using h)]
theorem D.ownL_set {u : Value} (hu : u.oneCell' = true) : ∀ {cs : List D} {j : Nat}, D.ownL w base cs → D.ownL w base (cs.set j (.lit u))
  | [], j, h => by simpa using h
  | c :: r, 0, h => ⟨hu, h.2⟩
  | c :: r, j + 1, h => ⟨h.1, D.ownL_set hu h.2⟩
/-- One cell that points nowhere is written. -/
theorem Owns.set {x u : Value} (h : Owns w base (.sl (.slice (some ⟨g, 0, none⟩) n cap) t sz n cs)) (hj : cs[j]? = some (.lit x)) (hu : u.oneCell' = true) :
    Owns (w.setCell ⟨g, j, none⟩ u) base (.sl (.slice (some ⟨g, 0, none⟩) n cap) t sz n (cs.set j (.lit u))) := by
  have hnd := h.nodup
  rw [D.blocks, List.nodup_append] at hnd
  have hw : Wrote (fun i => i = g) w (w.setCell ⟨g, j, none⟩ u) := Wrote.set _ w _ _ rfl
  refine ⟨⟨?_, D.ownL_set hu (D.ownL_wrote h.own.2 hw (fun i hi e => ?_))⟩, ?_⟩
  · rw [List.map_set]; exact (h.own.1.stored j u).1
  · subst e
    exact hnd.2.2 i (by simp [Value.ownBlock]) i hi rfl
  · rw [D.blocks, D.blocksL_set u hj, ← D.blocks]
    exact h.nodup
end

/-- A slice of texts, as a datum. -/
def textsD (v : Value) (l : List ByteArray) : D := .sl v 9 1 l.length (l.map fun s => .lit (.string s))
theorem textsD_blocksL (l : List ByteArray) : D.blocksL (l.map fun s => D.lit (.string s)) = [] := by
  induction l with
  | nil => rfl
  | cons s l ih => rw [List.map_cons, D.blocksL, ih]; rfl
theorem textsD_blocks (v : Value) (l : List ByteArray) : (textsD v l).blocks = v.ownBlock.toList := by
  rw [textsD, D.blocks, textsD_blocksL, List.append_nil]
theorem textsD_ownL (w : World) (base : Nat) (l : List ByteArray) : D.ownL w base (l.map fun s => D.lit (.string s)) := by
  induction l with
  | nil => trivial
  | cons s l ih => exact ⟨rfl, ih⟩
theorem textsD_rdL (w : World) (l : List ByteArray) : D.rdL w (l.map fun s => D.lit (.string s)) := by
  induction l with
  | nil => trivial
  | cons s l ih => exact ⟨rfl, ih⟩
theorem OwnV.datum {w : World} {base : Nat} {v : Value} {l : List ByteArray} (h : OwnV w base v l) : Owns w base (textsD v l) := by
  refine ⟨⟨?_, textsD_ownL w base l⟩, by rw [textsD_blocks]; cases v.ownBlock <;> simp⟩
  have := h.row
  rw [List.map_map]
  exact this
theorem D.own_texts {w : World} {base : Nat} {v : Value} {l : List ByteArray} (h : (textsD v l).own w base) (hs : ∀ s ∈ l, s.size ≤ maxLen) : OwnV w base v l := by
  refine ⟨?_, hs⟩
  have := h.1
  rw [List.map_map] at this
  exact this
theorem Strs.datum {w : World} {A : Option Addr} {n cap : Nat} {l : List ByteArray} (h : Strs w A n l) (hc : n ≤ cap) : (textsD (.slice A n cap) l).rd w := by
  refine ⟨⟨A, cap, by rw [h.len], by rw [h.len]; exact hc, by rw [h.len]; exact h.lim, by simp, fun j d hj => ?_⟩, textsD_rdL w l⟩
  rw [List.getElem?_map] at hj
  obtain ⟨s, hs, rfl⟩ := Option.map_eq_some_iff.1 hj
  exact h.cell j s hs
theorem D.rd_texts {w : World} {v : Value} {l : List ByteArray} (h : (textsD v l).rd w) (hs : ∀ s ∈ l, s.size ≤ maxLen) : ∃ A cap, v = .slice A l.length cap ∧ l.length ≤ cap ∧ Strs w A l.length l := by
  obtain ⟨⟨A, cap, e, h1, h2, h3, h4⟩, _⟩ := h
  refine ⟨A, cap, e, h1, rfl, h2, hs, fun k s hk => ?_⟩
  exact h4 k (.lit (.string s)) (by simp [hk])

end Go.Proofs.YtnimaadjmejmpaaDoor
