/-
  Rows appended to rows; the state of the model's l6One.
-/
import Derived.Test.YtgohaemmnpifbaaGAdd
import Derived.Test.YtgohaemmnpifbaaGTake
import Derived.Test.YtgohaemmnpifbaaHPatch
set_option linter.unusedSimpArgs false
set_option linter.unusedVariables false
namespace Go.Proofs.Ytgohaemmnpifbaa
open Go.RowKit Go.ChangeShapes Go.WideShapes M

set_option maxRecDepth 100000 in
/-- append of rows to rows of the call's own. -/
theorem run_app_rws {w : World} (ty : TypeId) (base : Nat) (v : Value) (l : List Rw) (hown : OwnRw w base v l) (A : Option Addr) (m c : Nat) (r : List Rw) (hu : OwnRw w base (.slice A m c) r) (hbound : l.length + m ≤ 1048576) (hbase : base ≤ w.heap.size) :
    ∃ v' w', (Builtin.append_ #[49, 49] ty #[v, .slice A m c]).run Try.prog w = .ok v' w' ∧ OwnRw w' base v' (l ++ r) ∧ w.grownBy w' v.ownBlock ∧ (v'.ownBlock = v.ownBlock ∨ v'.ownBlock = some w.heap.size) := by
  obtain ⟨i, q1, q2, q3, q4⟩ := info_parts rw_info
  have hl := hu.len_
  cases A with
  | none =>
    have hm : r = [] := by
      cases r with
      | nil => rfl
      | cons s r => obtain ⟨b, off, e, _⟩ := hu.rws.cell 0 s rfl; cases e
    subst hm
    have hm0 : m = 0 := hl.symm
    subst hm0
    refine ⟨v, w, ?_, by simpa using hown, ⟨rfl, rfl, rfl, Nat.le_refl _, fun _ _ _ => rfl⟩, .inl rfl⟩
    rcases hown.own.own.own.1.2 with ⟨hv, h0⟩ | ⟨g, cap, cur, hv, _, _, hnc, _⟩
    · subst hv
      simp [Builtin.append_, run_underlying Try.underlying49, sizeOf, typeInfo, q1, Builtin.lenOf, Builtin.firstCells]
    · subst hv
      rw [List.length_map] at hnc ⊢
      simp [Builtin.append_, run_underlying Try.underlying49, sizeOf, typeInfo, q1, Builtin.lenOf, Builtin.firstCells, hnc, storeCells]
  | some ad =>
    obtain ⟨⟨A', cap, e, h1, h2, h3, h4⟩, _⟩ := D.own_rd hu.datum.own
    injection e with e1 e2 e3
    have hcells : ∀ j d, ((r.map rwRow).flatten)[j]? = some d → w.cell? (ad.add j) = some d.val := fun j d hd => by
      obtain ⟨b, off, ea, hc⟩ := h4 j d hd
      rw [← e1] at ea
      injection ea with ea
      subst ea
      have e5 : (⟨b, off, none⟩ : Addr).add j = ⟨b, off + j, none⟩ := by unfold Addr.add; by_cases h0 : j = 0 <;> simp [h0]
      rw [e5]
      exact hc
    have ho := hown.own.own
    rw [List.length_map] at ho
    obtain ⟨v', w', hrun, ho', hg, hat⟩ := run_app_D (ty := ty) Try.underlying49 q1 q2 q3 q4 (by simp [Value.cells]) (by omega) base v l.length (l.map rwRow).flatten ho (r.map rwRow).flatten m (by rw [flat_len (rwRow_wide r), List.length_map, hl]) (rwRow_ownL w base r) (by rw [rwRow_blocks]; simp) (fun g hg => by rw [rwRow_blocks] at hg; simp at hg) ad c hcells (by unfold maxLen; omega) (by omega) hbase
    refine ⟨v', w', hrun, ⟨⟨?_, rwRow_wide _⟩, fun x hx => ?_⟩, hg, hat⟩
    · rw [List.length_map, List.length_append, hl, List.map_append, List.flatten_append]
      exact ho'
    · rcases List.mem_append.1 hx with h5 | h5
      · exact hown.ok x h5
      · exact hu.ok x h5
theorem step_rws {w : World} {ops : Array Oper} {o : Oper} {a : Act} {K : Act → World → Prop} {Q : Exit → Act → World → Prop} {E : Prop} (s y : Operand) (base : Nat) (v : Value) (l : List Rw) (hown : OwnRw w base v l) (A : Option Addr) (m c : Nat) (r : List Rw) (hu : OwnRw w base (.slice A m c) r) (hbound : l.length + m ≤ 1048576) (hbase : base ≤ w.heap.size)
    (hgd : Region.wanted o (yielded ops a.tmps) = true) (ho : o.op = .call { callee := .builtin .append, args := #[s, y], argTypes := #[49, 49] }) (hs : a.eval s = v) (hy : a.eval y = .slice A m c)
    (h : ∀ v' w', OwnRw w' base v' (l ++ r) → w.grownBy w' v.ownBlock → (v'.ownBlock = v.ownBlock ∨ v'.ownBlock = some w.heap.size) → K (a.put o.dst v') w') : if Region.wanted o (yielded ops a.tmps) = true then Oper.wp Try.prog o a w K Q else E := by
  rw [if_pos hgd]
  obtain ⟨v', w', hrun, h1, h2, h3⟩ := run_app_rws (o.type) base v l hown A m c r hu hbound hbase
  unfold Oper.wp execOp
  simp only [ho, resolve, invoke, builtin, Sem.run_bind, Sem.run_pure, Result.andThen_ok, List.map_toArray, List.map_cons, List.map_nil, hs, hy, hrun]
  exact h v' w' h1 h2 h3

/-- A group under way: the answer's block, the last hunk's, the group's; its rows are of the call's own, behind these. -/
structure OneSt (w wx : World) (y : Array Value) (F T : Int) (v : Value) (out : List Rw) : Prop where
  res : wx.heap[w.heap.size]? = some (.cells #[.int .i64 0, .int .i64 0, .slice none 0 0] 51 (0, 0))
  lst : wx.heap[w.heap.size + 1]? = some (.cells y 64 (0, 0))
  grp : wx.heap[w.heap.size + 2]? = some (.cells #[.int .i64 F, .int .i64 T, v] 51 (0, 0))
  own : OwnRw wx (w.heap.size + 3) v out
  low : Below w.heap.size w wx
section
variable {w wx w2 w3 : World} {y : Array Value} {F T : Int} {v v3 : Value} {out out' : List Rw}
theorem OneSt.big (h : OneSt w wx y F T v out) : w.heap.size + 3 ≤ wx.heap.size := (Array.getElem?_eq_some_iff.1 h.grp).1
theorem OneSt.below (h : OneSt w wx y F T v out) (hb : Below wx.heap.size wx w2) : OneSt w w2 y F T v out := by
  have hz := h.big
  exact ⟨(hb.block _ (by omega)).trans h.res, (hb.block _ (by omega)).trans h.lst, (hb.block _ (by omega)).trans h.grp, h.own.below hb, h.low.next hb⟩
theorem OneSt.rows (h : OneSt w wx y F T v out) : wx.cell? ⟨w.heap.size + 2, 2, none⟩ = some v ∧ ∀ j, wx.frozen? ⟨w.heap.size + 2, j, none⟩ = false :=
  ⟨by simp [World.cell?, h.grp], fun j => by simp [World.frozen?, h.grp]⟩
/-- Rows are appended; the cell is not yet written. -/
theorem OneSt.grown (h : OneSt w wx y F T v out) (hg : wx.grownBy w2 v.ownBlock) : w2.heap[w.heap.size]? = some (.cells #[.int .i64 0, .int .i64 0, .slice none 0 0] 51 (0, 0)) ∧ w2.heap[w.heap.size + 1]? = some (.cells y 64 (0, 0)) ∧ w2.heap[w.heap.size + 2]? = some (.cells #[.int .i64 F, .int .i64 T, v] 51 (0, 0)) ∧ Below w.heap.size w w2 := by
  have hz := h.big
  have hne : ∀ k, k < w.heap.size + 3 → v.ownBlock ≠ some k := fun k hk e => by have := (h.own.lt e).1; omega
  refine ⟨(hg.block _ (by omega) (fun e => hne _ (by omega) e.symm)).trans h.res, (hg.block _ (by omega) (fun e => hne _ (by omega) e.symm)).trans h.lst, (hg.block _ (by omega) (fun e => hne _ (by omega) e.symm)).trans h.grp, Below.grown h.low hg (by omega) (fun b e => by have := (h.own.lt e).1; omega)⟩
theorem OneSt.stored (h : OneSt w wx y F T v out) (hg : wx.grownBy w2 v.ownBlock) (ho : OwnRw w2 (w.heap.size + 3) v3 out') : OneSt w (w2.setCell ⟨w.heap.size + 2, 2, none⟩ v3) y F T v3 out' := by
  obtain ⟨g1, g2, g3, g4⟩ := h.grown hg
  refine ⟨?_, ?_, ?_, ho.wrote (Wrote.set (fun i => i = w.heap.size + 2) w2 _ _ rfl) (fun i e e2 => by have := (ho.lt e).1; omega), g4.setCell (by simp) _⟩
  · rw [Below.heap_setCell _ _ _ _ (by simp)]; exact g1
  · rw [Below.heap_setCell _ _ _ _ (by simp)]; exact g2
  · simp [World.setCell, Array.getElem?_modify, g3]
end

end Go.Proofs.Ytgohaemmnpifbaa
