/-
  Words for memory: the pairs of a heap, which the call itself has laid, and the box that holds them.
-/
import Derived.Test.YtnnaigoomipklaaOcHMems
import Derived.Test.YtnnaigoomipklaaOcDHeap
import Derived.Test.YtnnaigoomipklaaOcHJoins
set_option linter.unusedSimpArgs false
set_option linter.unusedVariables false
namespace Go.Proofs.Ytnnaigoomipklaa
open Go.RowKit M

def qcells : List Pr → List Value
  | [] => []
  | p :: L => .int .i64 (p.f : Int) :: .int .i64 (p.s : Int) :: .int .i64 (p.b : Int) :: qcells L
theorem qcells_len : ∀ L, (qcells L).length = L.length * 3
  | [] => rfl
  | s :: L => by simp [qcells, qcells_len L]; omega
theorem qcells_append : ∀ (L M : List Pr), qcells (L ++ M) = qcells L ++ qcells M
  | [], M => rfl
  | s :: L, M => by simp [qcells, qcells_append L M]
theorem qcells_get : ∀ {L : List Pr} {k : Nat} {p : Pr}, L[k]? = some p → (qcells L)[k * 3]? = some (.int .i64 (p.f : Int)) ∧ (qcells L)[k * 3 + 1]? = some (.int .i64 (p.s : Int)) ∧ (qcells L)[k * 3 + 2]? = some (.int .i64 (p.b : Int))
  | [], k, s, h => by simp at h
  | t :: L, 0, s, h => by simp at h; subst h; exact ⟨rfl, rfl, rfl⟩
  | t :: L, k + 1, s, h => by
    have h1 := qcells_get (L := L) (k := k) (p := s) (by simpa using h)
    rw [show (k + 1) * 3 = k * 3 + 3 from by omega, show k * 3 + 3 + 1 = k * 3 + 1 + 3 from by omega, show k * 3 + 3 + 2 = k * 3 + 2 + 3 from by omega]
    exact h1
theorem qcells_set : ∀ {L : List Pr} {k : Nat} {p : Pr}, k < L.length → (((qcells L).set (k * 3) (.int .i64 (p.f : Int))).set (k * 3 + 1) (.int .i64 (p.s : Int))).set (k * 3 + 2) (.int .i64 (p.b : Int)) = qcells (L.set k p)
  | [], k, p, h => by simp at h
  | t :: L, 0, p, h => by simp [qcells]
  | t :: L, k + 1, p, h => by
    have h1 := qcells_set (L := L) (k := k) (p := p) (by simpa using h)
    rw [show (k + 1) * 3 = k * 3 + 3 from by omega, show k * 3 + 3 + 1 = k * 3 + 1 + 3 from by omega, show k * 3 + 3 + 2 = k * 3 + 2 + 3 from by omega]
    simp only [qcells, List.set_cons_succ, h1]
theorem trip_info : (Try.prog.info? 132).map (fun i => (i.zero, i.size, i.bytes)) = some (some (.agg #[.int .i64 0, .int .i64 0, .int .i64 0]), 3, 24) := by kernel_rfl
/-- Pairs that the call itself has laid. -/
def OwnPr (w : World) (base : Nat) (v : Value) (L : List Pr) : Prop := w.ownsRow base 132 3 v L.length (qcells L)
theorem OwnPr.form {w : World} {base n : Nat} {v : Value} {L : List Pr} (h : OwnPr w base v L) (hn : L.length = n) : ∃ A cap, v = .slice A n cap ∧ n ≤ cap := by
  subst hn
  rcases h.2 with ⟨hv, h0⟩ | ⟨g, cap, cur, hv, _, _, h1, h2, _⟩
  · exact ⟨none, 0, by rw [hv, h0], by omega⟩
  · exact ⟨_, cap, hv, h1⟩
theorem OwnPr.len {w : World} {base n cap : Nat} {A : Option Addr} {L : List Pr} (h : OwnPr w base (.slice A n cap) L) : L.length = n := by
  rcases h.2 with ⟨hv, h0⟩ | ⟨g, cap', cur, hv, _⟩
  · injection hv with e1 e2 e3; omega
  · injection hv with e1 e2 e3; omega
theorem OwnPr.at_ {w : World} {base k n cap : Nat} {A : Option Addr} {L : List Pr} (h : OwnPr w base (.slice A n cap) L) (hk : k < n) : ∃ g, A = some ⟨g, 0, none⟩ ∧ base ≤ g ∧ g < w.heap.size ∧ w.cell? ⟨g, k * 3, none⟩ = some (.int .i64 ((at_ L k).f : Int)) ∧ w.cell? ⟨g, k * 3 + 1, none⟩ = some (.int .i64 ((at_ L k).s : Int)) ∧ w.cell? ⟨g, k * 3 + 2, none⟩ = some (.int .i64 ((at_ L k).b : Int)) ∧ ∀ j, w.frozen? ⟨g, j, none⟩ = false := by
  have hn := h.len
  unfold OwnPr at h
  obtain ⟨g, cap', hv, hb, hlt⟩ := h.form (by omega)
  injection hv with e1 e2 e3
  subst e1 e3
  rw [hn] at h
  obtain ⟨q0, q1, q2⟩ := qcells_get (at_get (show k < L.length by omega))
  exact ⟨g, rfl, hb, hlt, by rw [h.cellAt _ (by omega)]; exact q0, by rw [h.cellAt _ (by omega)]; exact q1, by rw [h.cellAt _ (by omega)]; exact q2, fun j => h.frozenAt j⟩
/-- One pair is written over. -/
theorem OwnPr.put {w : World} {base k n cap g : Nat} {L : List Pr} (h : OwnPr w base (.slice (some ⟨g, 0, none⟩) n cap) L) (hk : k < n) (p : Pr) :
    OwnPr (((w.setCell ⟨g, k * 3, none⟩ (.int .i64 (p.f : Int))).setCell ⟨g, k * 3 + 1, none⟩ (.int .i64 (p.s : Int))).setCell ⟨g, k * 3 + 2, none⟩ (.int .i64 (p.b : Int))) base (.slice (some ⟨g, 0, none⟩) n cap) (L.set k p) := by
  have hn := h.len
  unfold OwnPr at h ⊢
  rw [hn] at h
  have s3 := (((h.stored (k * 3) (.int .i64 (p.f : Int))).1.stored (k * 3 + 1) (.int .i64 (p.s : Int))).1.stored (k * 3 + 2) (.int .i64 (p.b : Int))).1
  rw [qcells_set (by omega)] at s3
  rw [List.length_set, hn]
  exact s3
theorem wrote3 (w : World) (g k : Nat) (a b c : Value) : Wrote (fun i => i = g) w (((w.setCell ⟨g, k * 3, none⟩ a).setCell ⟨g, k * 3 + 1, none⟩ b).setCell ⟨g, k * 3 + 2, none⟩ c) :=
  ((Wrote.set (fun i => i = g) w _ _ rfl).trans (Wrote.set (fun i => i = g) _ _ _ rfl) (fun _ _ e => e)).trans (Wrote.set (fun i => i = g) _ _ _ rfl) (fun _ _ e => e)
theorem OwnPr.wrote {S : Nat → Prop} {w w' : World} {base : Nat} {v : Value} {L : List Pr} (h : OwnPr w base v L) (hw : Wrote S w w') (hne : ∀ g, v.ownBlock = some g → ¬ S g) : OwnPr w' base v L := ownsRow_wrote h hw hne
theorem OwnPr.below {w w' : World} {base : Nat} {v : Value} {L : List Pr} (h : OwnPr w base v L) (hb : Below w.heap.size w w') : OwnPr w' base v L := h.wrote (S := fun _ => False) (Wrote.of_below hb) (fun _ _ e => e)
theorem OwnPr.more {w : World} {base b2 : Nat} {v : Value} {L : List Pr} (h : OwnPr w base v L) (hb : b2 ≤ base) : OwnPr w b2 v L := by
  refine ⟨h.1, ?_⟩
  rcases h.2 with h1 | ⟨g, cap, cur, h1, h2, h3⟩
  · exact .inl h1
  · exact .inr ⟨g, cap, cur, h1, by omega, h3⟩
theorem OwnPr.nil_ {w : World} {base : Nat} : OwnPr w base (.slice none 0 0) [] := w.ownsRow_nil base _ _
theorem OwnPr.pop {w : World} {base n cap g : Nat} {L : List Pr} (h : OwnPr w base (.slice (some ⟨g, 0, none⟩) (n + 1) cap) L) : OwnPr w base (.slice (some ⟨g, 0, none⟩) n cap) (L.take n) := by
  have hn := h.len
  unfold OwnPr at h ⊢
  rw [hn] at h
  have e : qcells L = qcells (L.take n) ++ qcells (L.drop n) := by rw [← qcells_append, List.take_append_drop]
  rw [e] at h
  have hl : (L.take n).length = n := by simp; omega
  rw [hl]
  exact ownsRow_pop (by rw [qcells_len, hl]) h
theorem run_app_trip {w : World} (ty : TypeId) (base : Nat) (v : Value) (L : List Pr) (hown : OwnPr w base v L) (p : Pr)
    (gb : Nat) (h0 : w.cell? ⟨gb, 0, none⟩ = some (.int .i64 (p.f : Int))) (h1 : w.cell? ⟨gb, 1, none⟩ = some (.int .i64 (p.s : Int))) (h2 : w.cell? ⟨gb, 2, none⟩ = some (.int .i64 (p.b : Int))) (hbound : L.length ≤ 1048576) (hbase : base ≤ w.heap.size) :
    ∃ v' w', (Builtin.append_ #[133, 133] ty #[v, .slice (some ⟨gb, 0, none⟩) 1 1]).run Try.prog w = .ok v' w' ∧ OwnPr w' base v' (L ++ [p]) ∧ w.grownBy w' v.ownBlock ∧ (v'.ownBlock = v.ownBlock ∨ v'.ownBlock = some w.heap.size) := by
  obtain ⟨i, q1, q2, q3, q4⟩ := info_parts trip_info
  have hnews : ∀ j t, [Value.int .i64 (p.f : Int), Value.int .i64 (p.s : Int), Value.int .i64 (p.b : Int)][j]? = some t → w.cell? ((⟨gb, 0, none⟩ : Addr).add j) = some t := by
    intro j t ht
    match j, ht with
    | 0, ht => simp at ht; subst ht; simpa [Addr.add] using h0
    | 1, ht => simp at ht; subst ht; simpa [Addr.add] using h1
    | 2, ht => simp at ht; subst ht; simpa [Addr.add] using h2
  obtain ⟨v', w', hrun, hr, hg, _, hat⟩ := run_append_own_at (P := Try.prog) w base 133 ty 132 i _ 3 24 Try.underlying133 q1 q2 q3 q4 (by simp [Value.cells]) (by omega) v L.length (qcells L) hown ⟨gb, 0, none⟩ 1 1 [.int .i64 (p.f : Int), .int .i64 (p.s : Int), .int .i64 (p.b : Int)] (by simp) hnews (fun t ht => by
    simp at ht
    rcases ht with rfl | rfl | rfl <;> rfl) (by unfold maxLen; omega) (by omega) hbase
  refine ⟨v', w', hrun, ?_, hg, hat⟩
  unfold OwnPr
  rw [qcells_append, List.length_append]
  exact hr
/-- The same append, as one step of a region that draws its order. -/
theorem step_trip {w : World} {ops : Array Oper} {o : Oper} {a : Act} {K : Act → World → Prop} {Q : Exit → Act → World → Prop} {E : Prop} (s y : Operand) (base : Nat) (v : Value) (L : List Pr) (hown : OwnPr w base v L) (p : Pr)
    (gb : Nat) (h0 : w.cell? ⟨gb, 0, none⟩ = some (.int .i64 (p.f : Int))) (h1 : w.cell? ⟨gb, 1, none⟩ = some (.int .i64 (p.s : Int))) (h2 : w.cell? ⟨gb, 2, none⟩ = some (.int .i64 (p.b : Int))) (hbound : L.length ≤ 1048576) (hbase : base ≤ w.heap.size)
    (hgd : Region.wanted o (yielded ops a.tmps) = true) (ho : o.op = .call { callee := .builtin .append, args := #[s, y], argTypes := #[133, 133] }) (hs : a.eval s = v) (hy : a.eval y = .slice (some ⟨gb, 0, none⟩) 1 1)
    (h : ∀ v' w', OwnPr w' base v' (L ++ [p]) → w.grownBy w' v.ownBlock → (v'.ownBlock = v.ownBlock ∨ v'.ownBlock = some w.heap.size) → K (a.put o.dst v') w') : if Region.wanted o (yielded ops a.tmps) = true then Oper.wp Try.prog o a w K Q else E := by
  rw [if_pos hgd]
  obtain ⟨v', w', hrun, k1, k2, k3⟩ := run_app_trip o.type base v L hown p gb h0 h1 h2 hbound hbase
  unfold Oper.wp execOp
  simp only [ho, resolve, invoke, builtin, Sem.run_bind, Sem.run_pure, Result.andThen_ok, List.map_toArray, List.map_cons, List.map_nil, hs, hy, hrun]
  exact h v' w' k1 k2 k3

/-- The heap's box: the slice of its pairs, and the order that was handed to it. -/
structure HeapQ (w : World) (base hb : Nat) (v : Value) (L : List Pr) : Prop where
  box : w.heap[hb]? = some (.cells #[v, .func (.func 90) #[] #[]] 135 (0, 0))
  own : OwnPr w base v L
  lt : hb < base
section
variable {w w' : World} {base hb : Nat} {v : Value} {L : List Pr}
theorem HeapQ.cell0 (h : HeapQ w base hb v L) : w.cell? ⟨hb, 0, none⟩ = some v := by simp [World.cell?, h.box]
theorem HeapQ.cell1 (h : HeapQ w base hb v L) : w.cell? ⟨hb, 1, none⟩ = some (.func (.func 90) #[] #[]) := by simp [World.cell?, h.box]
theorem HeapQ.free (h : HeapQ w base hb v L) (j : Nat) : w.frozen? ⟨hb, j, none⟩ = false := by simp [World.frozen?, h.box]
theorem HeapQ.size (h : HeapQ w base hb v L) : hb < w.heap.size := (Array.getElem?_eq_some_iff.1 h.box).1
theorem HeapQ.wrote {S : Nat → Prop} (h : HeapQ w base hb v L) (hw : Wrote S w w') (h1 : ¬ S hb) (hne : ∀ g, v.ownBlock = some g → ¬ S g) : HeapQ w' base hb v L :=
  ⟨(hw.block hb h.size h1).trans h.box, h.own.wrote hw hne, h.lt⟩
theorem HeapQ.below (h : HeapQ w base hb v L) (hb2 : Below w.heap.size w w') : HeapQ w' base hb v L := h.wrote (S := fun _ => False) (Wrote.of_below hb2) (fun e => e) (fun _ _ e => e)
theorem HeapQ.put {n cap g k : Nat} (h : HeapQ w base hb (.slice (some ⟨g, 0, none⟩) n cap) L) (hk : k < n) (p : Pr) :
    HeapQ (((w.setCell ⟨g, k * 3, none⟩ (.int .i64 (p.f : Int))).setCell ⟨g, k * 3 + 1, none⟩ (.int .i64 (p.s : Int))).setCell ⟨g, k * 3 + 2, none⟩ (.int .i64 (p.b : Int))) base hb (.slice (some ⟨g, 0, none⟩) n cap) (L.set k p) := by
  have hg := (h.own.at_ hk)
  obtain ⟨g', e, hb1, _⟩ := hg
  injection e with e
  injection e with e
  subst e
  have hne : hb ≠ g := by have := h.lt; omega
  exact ⟨((wrote3 w g k _ _ _).block hb h.size hne).trans h.box, h.own.put hk p, h.lt⟩
/-- The box holds another slice. -/
theorem HeapQ.swapIn {v2 : Value} {L2 : List Pr} (hbox : w.heap[hb]? = some (.cells #[v, .func (.func 90) #[] #[]] 135 (0, 0))) (hlt : hb < base) (ho : OwnPr w base v2 L2) : HeapQ (w.setCell ⟨hb, 0, none⟩ v2) base hb v2 L2 := by
  refine ⟨?_, ho.wrote (Wrote.set (fun i => i = hb) w ⟨hb, 0, none⟩ v2 rfl) (fun g e e2 => ?_), hlt⟩
  · have := heap_setCell_same w hb 0 _ _ v2 hbox
    rw [this]
    simp
  · have h1 := (World.ownsRow.lt ho g e).1
    omega
end

end Go.Proofs.Ytnnaigoomipklaa
