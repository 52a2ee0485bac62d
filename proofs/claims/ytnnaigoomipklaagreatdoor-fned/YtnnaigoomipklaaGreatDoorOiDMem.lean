/-
  Words for memory: the pairs of a heap, which the call itself has laid, and the box that holds them.
  The heap's methods: how many, which is less, two changed for one another, one more, one less.
  container/heap over the program's heap: up, down.
-/
import Derived.Test.YtnnaigoomipklaaGreatDoorOiHMems
import Derived.Test.YtnnaigoomipklaaGreatDoorOiDHeap
import Derived.Test.YtnnaigoomipklaaGreatDoorOiHBack
import Derived.Deep.RegionHeld3
import Derived.StillTailTactics
import Derived.BigRegion
set_option linter.unusedSimpArgs false
set_option linter.unusedVariables false
namespace Go.Proofs.YtnnaigoomipklaaGreatDoor
open Go.RowKit M

def qcells : List Pr → List Value
  | [] => []
  | p :: L => .int .i64 (p.f : Int) :: .int .i64 (p.s : Int) :: .int .i64 (p.b : Int) :: qcells L
theorem qcells_len : ∀ L, (qcells L).length = L.length * 3
  | [] => rfl
  | s :: L => by simp [qcells, qcells_len L]; omega
theorem qcells_append : ∀ (L M : List Pr), qcells (L ++ M) = qcells L ++ qcells M
  | [], M => rfl
  | s :: L, M => by simp [qcells, qcells_append L M]
theorem qcells_get : ∀ {L : List Pr} {k : Nat} {p : Pr}, L[k]? = some p → (qcells L)[k * 3]? = some (.int .i64 (p.f : Int)) ∧ (qcells L)[k * 3 + 1]? = some (.int .i64 (p.s : Int)) ∧ (qcells L)[k * 3 + 2]? = some (.int .i64 (p.b : Int))
  | [], k, s, h => by simp at h
  | t :: L, 0, s, h => by simp at h; subst h; exact ⟨rfl, rfl, rfl⟩
  | t :: L, k + 1, s, h => by
    have h1 := qcells_get (L := L) (k := k) (p := s) (by simpa using h)
    rw [show (k + 1) * 3 = k * 3 + 3 from by omega, show k * 3 + 3 + 1 = k * 3 + 1 + 3 from by omega, show k * 3 + 3 + 2 = k * 3 + 2 + 3 from by omega]
    exact h1
theorem qcells_set : ∀ {L : List Pr} {k : Nat} {p : Pr}, k < L.length → (((qcells L).set (k * 3) (.int .i64 (p.f : Int))).set (k * 3 + 1) (.int .i64 (p.s : Int))).set (k * 3 + 2) (.int .i64 (p.b : Int)) = qcells (L.set k p)
  | [], k, p, h => by simp at h
  | t :: L, 0, p, h => by simp [qcells]
  | t :: L, k + 1, p, h => by
    have h1 := qcells_set (L := L) (k := k) (p := p) (by simpa using h)
    rw [show (k + 1) * 3 = k * 3 + 3 from by omega, show k * 3 + 3 + 1 = k * 3 + 1 + 3 from by omega, show k * 3 + 3 + 2 = k * 3 + 2 + 3 from by omega]
    simp only [qcells, List.set_cons_succ, h1]
theorem trip_info : (Tryz.prog.info? 213).map (fun i => (i.zero, i.size, i.bytes)) = some (some (.agg #[.int .i64 0, .int .i64 0, .int .i64 0]), 3, 24) := by kernel_rfl
/-- Pairs that the call itself has laid. -/
def OwnPr (w : World) (base : Nat) (v : Value) (L : List Pr) : Prop := w.ownsRow base 213 3 v L.length (qcells L)
theorem OwnPr.form {w : World} {base n : Nat} {v : Value} {L : List Pr} (h : OwnPr w base v L) (hn : L.length = n) : ∃ A cap, v = .slice A n cap ∧ n ≤ cap := by
  subst hn
  rcases h.2 with ⟨hv, h0⟩ | ⟨g, cap, cur, hv, _, _, h1, h2, _⟩
  · exact ⟨none, 0, by rw [hv, h0], by omega⟩
  · exact ⟨_, cap, hv, h1⟩
theorem OwnPr.len {w : World} {base n cap : Nat} {A : Option Addr} {L : List Pr} (h : OwnPr w base (.slice A n cap) L) : L.length = n := by
  rcases h.2 with ⟨hv, h0⟩ | ⟨g, cap', cur, hv, _⟩
  · injection hv with e1 e2 e3; omega
  · injection hv with e1 e2 e3; omega
theorem OwnPr.at_ {w : World} {base k n cap : Nat} {A : Option Addr} {L : List Pr} (h : OwnPr w base (.slice A n cap) L) (hk : k < n) : ∃ g, A = some ⟨g, 0, none⟩ ∧ base ≤ g ∧ g < w.heap.size ∧ w.cell? ⟨g, k * 3, none⟩ = some (.int .i64 ((at_ L k).f : Int)) ∧ w.cell? ⟨g, k * 3 + 1, none⟩ = some (.int .i64 ((at_ L k).s : Int)) ∧ w.cell? ⟨g, k * 3 + 2, none⟩ = some (.int .i64 ((at_ L k).b : Int)) ∧ ∀ j, w.frozen? ⟨g, j, none⟩ = false := by
  have hn := h.len
  unfold OwnPr at h
  obtain ⟨g, cap', hv, hb, hlt⟩ := h.form (by omega)
  injection hv with e1 e2 e3
  subst e1 e3
  rw [hn] at h
  obtain ⟨q0, q1, q2⟩ := qcells_get (at_get (show k < L.length by omega))
  exact ⟨g, rfl, hb, hlt, by rw [h.cellAt _ (by omega)]; exact q0, by rw [h.cellAt _ (by omega)]; exact q1, by rw [h.cellAt _ (by omega)]; exact q2, fun j => h.frozenAt j⟩
/-- One pair is written over. -/
theorem OwnPr.put {w : World} {base k n cap g : Nat} {L : List Pr} (h : OwnPr w base (.slice (some ⟨g, 0, none⟩) n cap) L) (hk : k < n) (p : Pr) :
    OwnPr (((w.setCell ⟨g, k * 3, none⟩ (.int .i64 (p.f : Int))).setCell ⟨g, k * 3 + 1, none⟩ (.int .i64 (p.s : Int))).setCell ⟨g, k * 3 + 2, none⟩ (.int .i64 (p.b : Int))) base (.slice (some ⟨g, 0, none⟩) n cap) (L.set k p) := by
  have hn := h.len
  unfold OwnPr at h ⊢
  rw [hn] at h
  have s3 := (((h.stored (k * 3) (.int .i64 (p.f : Int))).1.stored (k * 3 + 1) (.int .i64 (p.s : Int))).1.stored (k * 3 + 2) (.int .i64 (p.b : Int))).1
  rw [qcells_set (by omega)] at s3
  rw [List.length_set, hn]
  exact s3
theorem wrote3 (w : World) (g k : Nat) (a b c : Value) : Wrote (fun i => i = g) w (((w.setCell ⟨g, k * 3, none⟩ a).setCell ⟨g, k * 3 + 1, none⟩ b).setCell ⟨g, k * 3 + 2, none⟩ c) :=
  ((Wrote.set (fun i => i = g) w _ _ rfl).trans (Wrote.set (fun i => i = g) _ _ _ rfl) (fun _ _ e => e)).trans (Wrote.set (fun i => i = g) _ _ _ rfl) (fun _ _ e => e)
theorem OwnPr.wrote {S : Nat → Prop} {w w' : World} {base : Nat} {v : Value} {L : List Pr} (h : OwnPr w base v L) (hw : Wrote S w w') (hne : ∀ g, v.ownBlock = some g → ¬ S g) : OwnPr w' base v L := ownsRow_wrote h hw hne
theorem OwnPr.below {w w' : World} {base : Nat} {v : Value} {L : List Pr} (h : OwnPr w base v L) (hb : Below w.heap.size w w') : OwnPr w' base v L := h.wrote (S := fun _ => False) (Wrote.of_below hb) (fun _ _ e => e)
theorem OwnPr.more {w : World} {base b2 : Nat} {v : Value} {L : List Pr} (h : OwnPr w base v L) (hb : b2 ≤ base) : OwnPr w b2 v L := by
  refine ⟨h.1, ?_⟩
  rcases h.2 with h1 | ⟨g, cap, cur, h1, h2, h3⟩
  · exact .inl h1
  · exact .inr ⟨g, cap, cur, h1, by omega, h3⟩
theorem OwnPr.nil_ {w : World} {base : Nat} : OwnPr w base (.slice none 0 0) [] := w.ownsRow_nil base _ _
theorem OwnPr.pop {w : World} {base n cap g : Nat} {L : List Pr} (h : OwnPr w base (.slice (some ⟨g, 0, none⟩) (n + 1) cap) L) : OwnPr w base (.slice (some ⟨g, 0, none⟩) n cap) (L.take n) := by
  have hn := h.len
  unfold OwnPr at h ⊢
  rw [hn] at h
  have e : qcells L = qcells (L.take n) ++ qcells (L.drop n) := by rw [← qcells_append, List.take_append_drop]
  rw [e] at h
  have hl : (L.take n).length = n := by simp; omega
  rw [hl]
  exact ownsRow_pop (by rw [qcells_len, hl]) h
theorem run_app_trip {w : World} (ty : TypeId) (base : Nat) (v : Value) (L : List Pr) (hown : OwnPr w base v L) (p : Pr)
    (gb : Nat) (h0 : w.cell? ⟨gb, 0, none⟩ = some (.int .i64 (p.f : Int))) (h1 : w.cell? ⟨gb, 1, none⟩ = some (.int .i64 (p.s : Int))) (h2 : w.cell? ⟨gb, 2, none⟩ = some (.int .i64 (p.b : Int))) (hbound : L.length ≤ 1048576) (hbase : base ≤ w.heap.size) :
    ∃ v' w', (Builtin.append_ #[214, 214] ty #[v, .slice (some ⟨gb, 0, none⟩) 1 1]).run Tryz.prog w = .ok v' w' ∧ OwnPr w' base v' (L ++ [p]) ∧ w.grownBy w' v.ownBlock ∧ (v'.ownBlock = v.ownBlock ∨ v'.ownBlock = some w.heap.size) := by
  obtain ⟨i, q1, q2, q3, q4⟩ := info_parts trip_info
  have hnews : ∀ j t, [Value.int .i64 (p.f : Int), Value.int .i64 (p.s : Int), Value.int .i64 (p.b : Int)][j]? = some t → w.cell? ((⟨gb, 0, none⟩ : Addr).add j) = some t := by
    intro j t ht
    match j, ht with
    | 0, ht => simp at ht; subst ht; simpa [Addr.add] using h0
    | 1, ht => simp at ht; subst ht; simpa [Addr.add] using h1
    | 2, ht => simp at ht; subst ht; simpa [Addr.add] using h2
  obtain ⟨v', w', hrun, hr, hg, _, hat⟩ := run_append_own_at (P := Tryz.prog) w base 214 ty 213 i _ 3 24 Tryz.underlying214 q1 q2 q3 q4 (by simp [Value.cells]) (by omega) v L.length (qcells L) hown ⟨gb, 0, none⟩ 1 1 [.int .i64 (p.f : Int), .int .i64 (p.s : Int), .int .i64 (p.b : Int)] (by simp) hnews (fun t ht => by
    simp at ht
    rcases ht with rfl | rfl | rfl <;> rfl) (by unfold maxLen; omega) (by omega) hbase
  refine ⟨v', w', hrun, ?_, hg, hat⟩
  unfold OwnPr
  rw [qcells_append, List.length_append]
  exact hr
/-- The same append, as one step of a region that draws its order. -/
theorem step_trip {w : World} {ops : Array Oper} {o : Oper} {a : Act} {K : Act → World → Prop} {Q : Exit → Act → World → Prop} {E : Prop} (s y : Operand) (base : Nat) (v : Value) (L : List Pr) (hown : OwnPr w base v L) (p : Pr)
    (gb : Nat) (h0 : w.cell? ⟨gb, 0, none⟩ = some (.int .i64 (p.f : Int))) (h1 : w.cell? ⟨gb, 1, none⟩ = some (.int .i64 (p.s : Int))) (h2 : w.cell? ⟨gb, 2, none⟩ = some (.int .i64 (p.b : Int))) (hbound : L.length ≤ 1048576) (hbase : base ≤ w.heap.size)
    (hgd : Region.wanted o (yielded ops a.tmps) = true) (ho : o.op = .call { callee := .builtin .append, args := #[s, y], argTypes := #[214, 214] }) (hs : a.eval s = v) (hy : a.eval y = .slice (some ⟨gb, 0, none⟩) 1 1)
    (h : ∀ v' w', OwnPr w' base v' (L ++ [p]) → w.grownBy w' v.ownBlock → (v'.ownBlock = v.ownBlock ∨ v'.ownBlock = some w.heap.size) → K (a.put o.dst v') w') : if Region.wanted o (yielded ops a.tmps) = true then Oper.wp Tryz.prog o a w K Q else E := by
  rw [if_pos hgd]
  obtain ⟨v', w', hrun, k1, k2, k3⟩ := run_app_trip o.type base v L hown p gb h0 h1 h2 hbound hbase
  unfold Oper.wp execOp
  simp only [ho, resolve, invoke, builtin, Sem.run_bind, Sem.run_pure, Result.andThen_ok, List.map_toArray, List.map_cons, List.map_nil, hs, hy, hrun]
  exact h v' w' k1 k2 k3

/-- The heap's box: the slice of its pairs, and the order that was handed to it. -/
structure HeapQ (w : World) (base hb : Nat) (v : Value) (L : List Pr) : Prop where
  box : w.heap[hb]? = some (.cells #[v, .func (.func 193) #[] #[]] 216 (0, 0))
  own : OwnPr w base v L
  lt : hb < base
section
variable {w w' : World} {base hb : Nat} {v : Value} {L : List Pr}
theorem HeapQ.cell0 (h : HeapQ w base hb v L) : w.cell? ⟨hb, 0, none⟩ = some v := by simp [World.cell?, h.box]
theorem HeapQ.cell1 (h : HeapQ w base hb v L) : w.cell? ⟨hb, 1, none⟩ = some (.func (.func 193) #[] #[]) := by simp [World.cell?, h.box]
theorem HeapQ.free (h : HeapQ w base hb v L) (j : Nat) : w.frozen? ⟨hb, j, none⟩ = false := by simp [World.frozen?, h.box]
theorem HeapQ.size (h : HeapQ w base hb v L) : hb < w.heap.size := (Array.getElem?_eq_some_iff.1 h.box).1
theorem HeapQ.wrote {S : Nat → Prop} (h : HeapQ w base hb v L) (hw : Wrote S w w') (h1 : ¬ S hb) (hne : ∀ g, v.ownBlock = some g → ¬ S g) : HeapQ w' base hb v L :=
  ⟨(hw.block hb h.size h1).trans h.box, h.own.wrote hw hne, h.lt⟩
theorem HeapQ.below (h : HeapQ w base hb v L) (hb2 : Below w.heap.size w w') : HeapQ w' base hb v L := h.wrote (S := fun _ => False) (Wrote.of_below hb2) (fun e => e) (fun _ _ e => e)
theorem HeapQ.put {n cap g k : Nat} (h : HeapQ w base hb (.slice (some ⟨g, 0, none⟩) n cap) L) (hk : k < n) (p : Pr) :
    HeapQ (((w.setCell ⟨g, k * 3, none⟩ (.int .i64 (p.f : Int))).setCell ⟨g, k * 3 + 1, none⟩ (.int .i64 (p.s : Int))).setCell ⟨g, k * 3 + 2, none⟩ (.int .i64 (p.b : Int))) base hb (.slice (some ⟨g, 0, none⟩) n cap) (L.set k p) := by
  have hg := (h.own.at_ hk)
  obtain ⟨g', e, hb1, _⟩ := hg
  injection e with e
  injection e with e
  subst e
  have hne : hb ≠ g := by have := h.lt; omega
  exact ⟨((wrote3 w g k _ _ _).block hb h.size hne).trans h.box, h.own.put hk p, h.lt⟩
/-- The box holds another slice. -/
theorem HeapQ.swapIn {v2 : Value} {L2 : List Pr} (hbox : w.heap[hb]? = some (.cells #[v, .func (.func 193) #[] #[]] 216 (0, 0))) (hlt : hb < base) (ho : OwnPr w base v2 L2) : HeapQ (w.setCell ⟨hb, 0, none⟩ v2) base hb v2 L2 := by
  refine ⟨?_, ho.wrote (Wrote.set (fun i => i = hb) w ⟨hb, 0, none⟩ v2 rfl) (fun g e e2 => ?_), hlt⟩
  · have := heap_setCell_same w hb 0 _ _ v2 hbox
    rw [this]
    simp
  · have h1 := (World.ownsRow.lt ho g e).1
    omega
end

end Go.Proofs.YtnnaigoomipklaaGreatDoor

namespace Go.Proofs.YtnnaigoomipklaaGreatDoor
open Go.RowKit M

theorem isLess_any (p q : Pr) (w : World) : Calls Tryz.prog 193 #[.agg #[.int .i64 (p.f : Int), .int .i64 (p.s : Int), .int .i64 (p.b : Int)], .agg #[.int .i64 (q.f : Int), .int .i64 (q.s : Int), .int .i64 (q.b : Int)]] w fun e w' => e = .returned (.bool (ltQ p q)) ∧ Below w.heap.size w w' := by
  obtain ⟨pf, ps, pb⟩ := p
  obtain ⟨qf, qs, qb⟩ := q
  dsimp only
  have hb := Lib.hid ((below_alloc w (.cells #[.int .i64 (pf : Int), .int .i64 (ps : Int), .int .i64 (pb : Int)] 213)).next (below_alloc _ (.cells #[.int .i64 (qf : Int), .int .i64 (qs : Int), .int .i64 (qb : Int)] 213)))
  by_cases h : pf = qf
  · have hr := Lib.hid (show ltQ ⟨pf, ps, pb⟩ ⟨qf, qs, qb⟩ = decide (ps < qs) by unfold ltQ; rw [if_pos h])
    have hd : ((pf : Int) != (qf : Int)) = false := by simp [h]
    clear h
    go_enter Tryz.func193, Tryz.ntmps193
    go_wp2
    go_ret
    exact ⟨ret_bool (by rw [hr.out]), hb.out⟩
  · have hr := Lib.hid (show ltQ ⟨pf, ps, pb⟩ ⟨qf, qs, qb⟩ = decide (pf < qf) by unfold ltQ; rw [if_neg h])
    have hd : ((pf : Int) != (qf : Int)) = true := by simp; omega
    clear h
    go_enter Tryz.func193, Tryz.ntmps193
    go_wp2
    go_ret
    exact ⟨ret_bool (by rw [hr.out]), hb.out⟩

theorem len_any (hb base : Nat) (A : Option Addr) (n cap : Nat) (L : List Pr) (w : World) (h : HeapQ w base hb (.slice A n cap) L) :
    Calls Tryz.prog 196 #[.pointer (some ⟨hb, 0, none⟩)] w fun e w' => e = .returned (.int .i64 (n : Int)) ∧ w = w' := by
  have c0 := h.cell0
  go_enter Tryz.func196, Tryz.ntmps196
  go_wp2
  go_ret
  exact ⟨rfl, rfl⟩

set_option maxHeartbeats 1000000 in
theorem less_any (hb base : Nat) (A : Option Addr) (n cap : Nat) (L : List Pr) (i j : Nat) (w : World) (h : HeapQ w base hb (.slice A n cap) L) (hi : i < n) (hj : j < n) (hn : n ≤ 100000) :
    Calls Tryz.prog 298 #[.pointer (some ⟨hb, 0, none⟩), .int .i64 (i : Int), .int .i64 (j : Int)] w fun e w' => e = .returned (.bool (ltQ (at_ L i) (at_ L j))) ∧ Below w.heap.size w w' := by
  have c0 := h.cell0
  have c1 := h.cell1
  obtain ⟨g, rfl, hg1, hg2, i0, i1, i2, _⟩ := h.own.at_ hi
  obtain ⟨g', e, _, _, j0, j1, j2, _⟩ := h.own.at_ hj
  injection e with e
  injection e with e
  subst e
  obtain ⟨p, Hp⟩ : ∃ p, Hid (at_ L i = p) := ⟨_, rfl⟩
  obtain ⟨q, Hq⟩ : ∃ q, Hid (at_ L j = q) := ⟨_, rfl⟩
  rw [Hp.out] at i0 i1 i2 ⊢
  rw [Hq.out] at j0 j1 j2 ⊢
  clear h Hp Hq
  go_enter Tryz.func298, Tryz.ntmps298
  go_wp2
  go_region_held3 (fun w' => w'.cell? ⟨hb, 0, none⟩ = some (.slice (some ⟨g, 0, none⟩) n cap) ∧ w'.cell? ⟨hb, 1, none⟩ = some (.func (.func 193) #[] #[]) ∧ w'.cell? ⟨g, i * 3, none⟩ = some (.int .i64 (p.f : Int)) ∧ w'.cell? ⟨g, i * 3 + 1, none⟩ = some (.int .i64 (p.s : Int)) ∧ w'.cell? ⟨g, i * 3 + 2, none⟩ = some (.int .i64 (p.b : Int)) ∧ w'.cell? ⟨g, j * 3, none⟩ = some (.int .i64 (q.f : Int)) ∧ w'.cell? ⟨g, j * 3 + 1, none⟩ = some (.int .i64 (q.s : Int)) ∧ w'.cell? ⟨g, j * 3 + 2, none⟩ = some (.int .i64 (q.b : Int)))
    (first | exact ⟨c0, c1, i0, i1, i2, j0, j1, j2⟩ | exact ⟨cell_keep b5 c0, cell_keep b5 c1, cell_keep b5 i0, cell_keep b5 i1, cell_keep b5 i2, cell_keep b5 j0, cell_keep b5 j1, cell_keep b5 j2⟩ | go_keep)
    (first
      | (go_at_call 193; refine (isLess_any p q _).mono ?_; rintro e w5 ⟨rfl, b5⟩)
      | fail)
  go_wp2
  go_ret
  exact ⟨rfl, (Below.refl _ w).drew.next b5⟩

set_option maxHeartbeats 2000000 in
theorem swap_any (hb base : Nat) (A : Option Addr) (n cap : Nat) (L : List Pr) (i j : Nat) (w : World) (h : HeapQ w base hb (.slice A n cap) L) (hi : i < n) (hj : j < n) (hn : n ≤ 100000) :
    Calls Tryz.prog 301 #[.pointer (some ⟨hb, 0, none⟩), .int .i64 (i : Int), .int .i64 (j : Int)] w fun e w' => e = .returned (.tuple #[]) ∧ HeapQ w' base hb (.slice A n cap) (swapL L i j) ∧ Wrote (fun g => (Value.slice A n cap).ownBlock = some g) w w' := by
  have c0 := h.cell0
  obtain ⟨g, rfl, hg1, hg2, i0, i1, i2, hf⟩ := h.own.at_ hi
  obtain ⟨g', e, _, _, j0, j1, j2, _⟩ := h.own.at_ hj
  injection e with e
  injection e with e
  subst e
  have hlt := h.lt
  have hne : hb ≠ g := by omega
  have HF := Lib.hid ((h.put hi (at_ L j)).put hj (at_ L i))
  have hw := Lib.hid ((wrote3 w g i (.int .i64 ((at_ L j).f : Int)) (.int .i64 ((at_ L j).s : Int)) (.int .i64 ((at_ L j).b : Int))).trans (wrote3 _ g j (.int .i64 ((at_ L i).f : Int)) (.int .i64 ((at_ L i).s : Int)) (.int .i64 ((at_ L i).b : Int))) (fun _ _ e => e))
  rw [show (L.set i (at_ L j)).set j (at_ L i) = swapL L i j from rfl] at HF
  obtain ⟨p, Hp⟩ : ∃ p, Hid (at_ L i = p) := ⟨_, rfl⟩
  obtain ⟨q, Hq⟩ : ∃ q, Hid (at_ L j = q) := ⟨_, rfl⟩
  rw [Hp.out] at i0 i1 i2 HF hw
  rw [Hq.out] at j0 j1 j2 HF hw
  clear h
  by_cases hij : i = j
  · subst hij
    obtain rfl : p = q := Hp.out.symm.trans Hq.out
    clear Hp Hq
    go_enter Tryz.func301, Tryz.ntmps301
    go_wp2
    go_region
    go_wp2
    go_end0
    exact ⟨rfl, HF.out.below (Below.refl _ _).drew, (hw.out.next (Below.refl _ _).drew).mono (fun k _ e => by rw [e]; rfl)⟩
  · have hji : j ≠ i := fun e => hij e.symm
    clear Hp Hq
    go_enter Tryz.func301, Tryz.ntmps301
    go_wp2
    go_region
    go_wp2
    go_end0
    exact ⟨rfl, HF.out.below (Below.refl _ _).drew, (hw.out.next (Below.refl _ _).drew).mono (fun k _ e => by rw [e]; rfl)⟩

theorem assert_pair (v : Value) (w : World) : (Instr.typeAssert (.iface 213 v) 20 213 false).run Tryz.prog w = .ok v w := by kernel_rfl
theorem cut_pairs (a : Option Addr) (n c k : Nat) (h : k ≤ c) (w : World) :
    (Instr.slice 214 (.slice a n c) none (some (.int .i64 (k : Int))) none).run Tryz.prog w = .ok (.slice a k c) w := by
  obtain ⟨i, h3, h4, h5, h6⟩ := info_parts trip_info
  have he : Tryz.prog.elem 214 = 213 := by simp [Program.elem, Tryz.underlying214]
  have hr := run_slice_h (P := Tryz.prog) w 214 a n c (by rw [he]; exact Tryz.underlying214) .i64 k (by omega) (by omega)
  rw [hr, he]
  cases a <;> simp [sizeOf, typeInfo, h3, h5, sliced, Addr.add]

set_option maxHeartbeats 1000000 in
theorem push_any (hb base : Nat) (A : Option Addr) (n cap : Nat) (L : List Pr) (p : Pr) (w : World) (h : HeapQ w base hb (.slice A n cap) L) (hn : n ≤ 100000) (hbase : base ≤ w.heap.size) :
    Calls Tryz.prog 300 #[.pointer (some ⟨hb, 0, none⟩), .iface 213 (.agg #[.int .i64 (p.f : Int), .int .i64 (p.s : Int), .int .i64 (p.b : Int)])] w fun e w' => e = .returned (.tuple #[]) ∧ ∃ A' cap', HeapQ w' base hb (.slice A' (n + 1) cap') (L ++ [p]) ∧ Wrote (fun g => g = hb ∨ (Value.slice A n cap).ownBlock = some g) w w' ∧ ∀ g, g < w.heap.size → (Value.slice A' (n + 1) cap').ownBlock = some g → (Value.slice A n cap).ownBlock = some g := by
  have c0 := h.cell0
  have f0 := h.free 0
  have hap := assert_pair
  have hlen := Lib.hid h.own.len
  have HH := Lib.hid h
  have hsz := h.size
  clear h
  go_enter Tryz.func300, Tryz.ntmps300
  go_wp2
  go_region_law (first
    | (refine step_trip (.tmp 8) (.tmp 11) base (.slice A n cap) L ((HH.out.own.below (below_alloc w _)).below (Below.refl _ _).drew) p w.heap.size (by simp) (by simp) (by simp) (by rw [hlen.out]; omega) (by simp; omega) rfl rfl rfl rfl ?_
       intro v5 w5 o5 g5 p5
       have hW := Lib.hid (show Wrote (fun g => (Value.slice A n cap).ownBlock = some g) w w5 from (Wrote.of_below ((below_alloc w _).next (Below.refl _ _).drew)).trans (Wrote.of_grown (S := fun g => (Value.slice A n cap).ownBlock = some g) g5 (fun k e => e)) (fun i _ e => e))
       have hne : ¬ (Value.slice A n cap).ownBlock = some hb := fun e => by have h1 := (World.ownsRow.lt HH.out.own hb e).1; have := HH.out.lt; omega
       have q5 : w5.heap[hb]? = w.heap[hb]? := hW.out.block hb hsz hne
       have c5 : w5.cell? ⟨hb, 0, none⟩ = some (.slice A n cap) := (World.cell?_of_block (a := ⟨hb, 0, none⟩) q5).trans c0
       have f5 : w5.frozen? ⟨hb, 0, none⟩ = false := (World.frozen?_of_block (a := ⟨hb, 0, none⟩) q5).trans f0
       obtain ⟨A5, cap5, hv5, _⟩ := o5.form (show (L ++ [p]).length = n + 1 by simp [hlen.out])
       subst hv5
       have H5 := Lib.hid (HeapQ.swapIn (q5.trans HH.out.box) HH.out.lt o5)
       have HB5 := Lib.hid (show ∀ g, g < w.heap.size → (Value.slice A5 (n + 1) cap5).ownBlock = some g → (Value.slice A n cap).ownBlock = some g from fun g hg e => by
         rcases p5 with p5 | p5
         · rw [← p5]; exact e
         · rw [p5] at e; injection e with e
           have h7 : ∀ W : World, W.drew.heap.size = W.heap.size := fun _ => rfl
           rw [h7] at e; simp at e; omega)
       clear q5 g5 p5)
    | fail)
  all_goals go_wp2
  all_goals go_end0
  all_goals exact ⟨rfl, _, _, H5.out, (hW.out.mono (fun k _ e => .inr e)).trans (Wrote.set (fun g => g = hb ∨ (Value.slice A n cap).ownBlock = some g) w5 ⟨hb, 0, none⟩ _ (.inl rfl)) (fun _ _ e => e), HB5.out⟩

set_option maxHeartbeats 1000000 in
theorem pop_any (hb base : Nat) (A : Option Addr) (n cap : Nat) (L : List Pr) (w : World) (h : HeapQ w base hb (.slice A (n + 1) cap) L) (hn : n ≤ 100000) :
    Calls Tryz.prog 299 #[.pointer (some ⟨hb, 0, none⟩)] w fun e w' => e = .returned (.iface 213 (.agg #[.int .i64 ((at_ L n).f : Int), .int .i64 ((at_ L n).s : Int), .int .i64 ((at_ L n).b : Int)])) ∧ HeapQ w' base hb (.slice A n cap) (L.take n) ∧ Wrote (fun g => g = hb) w w' := by
  have c0 := h.cell0
  have f0 := h.free 0
  have hsz := h.size
  have hnc : n ≤ cap := by
    obtain ⟨A', cap', e, h1⟩ := h.own.form h.own.len
    injection e with e1 e2 e3
    omega
  obtain ⟨g, rfl, hg1, hg2, i0, i1, i2, hf⟩ := h.own.at_ (show n < n + 1 by omega)
  have hcut := cut_pairs (some ⟨g, 0, none⟩) (n + 1) cap n hnc
  have HH := Lib.hid h
  obtain ⟨p, Hp⟩ : ∃ p, Hid (at_ L n = p) := ⟨_, rfl⟩
  rw [Hp.out] at i0 i1 i2 ⊢
  clear h Hp
  go_enter Tryz.func299, Tryz.ntmps299
  go_wp2
  go_ret
  exact ⟨rfl, (HeapQ.swapIn HH.out.box HH.out.lt HH.out.own.pop).below (below_alloc _ _), (Wrote.set (fun g => g = hb) w ⟨hb, 0, none⟩ _ rfl).next (below_alloc _ _)⟩

end Go.Proofs.YtnnaigoomipklaaGreatDoor

namespace Go.Proofs.YtnnaigoomipklaaGreatDoor
open Go.RowKit M

theorem meth_less (a : Addr) (w : World) : (method 405 209 (.pointer (some a)) "Less").run Tryz.prog w = .ok (298, .pointer (some a)) w := by kernel_rfl
theorem meth_swap (a : Addr) (w : World) : (method 405 209 (.pointer (some a)) "Swap").run Tryz.prog w = .ok (301, .pointer (some a)) w := by kernel_rfl
theorem meth_len (a : Addr) (w : World) : (method 405 209 (.pointer (some a)) "Len").run Tryz.prog w = .ok (196, .pointer (some a)) w := by kernel_rfl
theorem meth_push (a : Addr) (w : World) : (method 405 209 (.pointer (some a)) "Push").run Tryz.prog w = .ok (300, .pointer (some a)) w := by kernel_rfl
theorem meth_pop (a : Addr) (w : World) : (method 405 209 (.pointer (some a)) "Pop").run Tryz.prog w = .ok (299, .pointer (some a)) w := by kernel_rfl

set_option maxHeartbeats 1000000 in
set_option maxRecDepth 100000 in
theorem up_any (hb base : Nat) (A : Option Addr) (n cap : Nat) (L : List Pr) (j : Nat) (w : World) (h : HeapQ w base hb (.slice A n cap) L) (hn : n ≤ 100000) (hj : j < n) (hu : upOk L n j) :
    Calls Tryz.prog 235 #[.iface 209 (.pointer (some ⟨hb, 0, none⟩)), .int .i64 (j : Int)] w fun e w' => e = .returned (.tuple #[]) ∧ ∃ L', HeapQ w' base hb (.slice A n cap) L' ∧ L'.Perm L ∧ isHeap L' n ∧ Wrote (fun g => (Value.slice A n cap).ownBlock = some g) w w' := by
  have HU := Lib.hid hu
  clear hu
  have m1 := meth_less
  have m2 := meth_swap
  go_enter Tryz.func235, Tryz.ntmps235
  go_wp2
  go_loopw [1] (fun x w' => ∃ k : Nat, ∃ L', x = .int .i64 k ∧ k < n ∧ HeapQ w' base hb (.slice A n cap) L' ∧ Hid (L'.Perm L) ∧ Hid (upOk L' n k) ∧ Hid (Wrote (fun g => (Value.slice A n cap).ownBlock = some g) w w')) (fun x _ => (intOf x).toNat)
  case atStart => exact ⟨j, L, rfl, hj, h, List.Perm.refl _, HU, Wrote.refl _ _⟩
  case round =>
    obtain ⟨k, L', rfl, hk, hq, HP, HK, HW⟩ := hrel
    by_cases hk0 : k = 0
    · subst hk0
      go_wp2_with fail
      go_end0
      exact ⟨rfl, L', hq, HP.out, up_end HK.out (.inl rfl), HW.out⟩
    · obtain ⟨i, Hi⟩ : ∃ i, Hid (i = (k - 1) / 2) := ⟨_, rfl⟩
      have hi : i < k := by rw [Hi.out]; omega
      have hdiv : ((k : Int) - 1) / 2 = (i : Int) := by rw [Hi.out]; omega
      have hne : ((i : Int) == (k : Int)) = false := by simp; omega
      obtain ⟨y, Hy⟩ : ∃ y, Hid (ltQ (at_ L' k) (at_ L' i) = y) := ⟨_, rfl⟩
      have HQ := Lib.hid hq
      have HLL := Lib.hid hq.own.len
      clear hq
      go_wp2_with fail
      refine (less_any hb base A n cap L' k i _ HQ.out hk (by omega) hn).mono ?_
      rintro e w1 ⟨rfl, b1⟩
      rw [Hy.out]
      cases y with
      | false =>
        have HE := Lib.hid (up_end HK.out (.inr (by rw [← Hi.out]; exact Hy.out)))
        go_wp2_with fail
        go_end0
        exact ⟨rfl, L', HQ.out.below b1, HP.out, HE.out, HW.out.next b1⟩
      | true =>
        have HE := Lib.hid (up_step HK.out (by rw [HLL.out]; exact Nat.le_refl _) hk (by omega) (by rw [← Hi.out]; exact Hy.out))
        have HP2 := Lib.hid ((swap_perm (L := L') (i := i) (j := k) (by rw [HLL.out]; omega) (by rw [HLL.out]; exact hk)).trans HP.out)
        go_wp2_with fail
        refine (swap_any hb base A n cap L' i k _ (HQ.out.below b1) (by omega) hk hn).mono ?_
        rintro e w2 ⟨rfl, q2, g2⟩
        have HG := Lib.hid ((HW.out.next b1).trans g2 (fun _ _ e => e))
        clear g2 b1
        go_wp2_with fail
        go_roundw
        case rel => exact ⟨i, swapL L' i k, rfl, by omega, q2, HP2, by rw [Hi.out]; exact HE, HG⟩
        case measure => simp [intOf]; omega

set_option maxHeartbeats 2000000 in
set_option maxRecDepth 100000 in
theorem down_any (hb base : Nat) (A : Option Addr) (N n cap : Nat) (L : List Pr) (w : World) (h : HeapQ w base hb (.slice A N cap) L) (hN : N ≤ 100000) (hnN : n ≤ N) (hu : dnOk L n 0) :
    Calls Tryz.prog 236 #[.iface 209 (.pointer (some ⟨hb, 0, none⟩)), .int .i64 0, .int .i64 (n : Int)] w fun e w' => ∃ y L', e = .returned (.bool y) ∧ HeapQ w' base hb (.slice A N cap) L' ∧ L'.Perm L ∧ isHeap L' n ∧ (∀ m, n ≤ m → at_ L' m = at_ L m) ∧ Wrote (fun g => (Value.slice A N cap).ownBlock = some g) w w' := by
  have HU := Lib.hid hu
  clear hu
  have m1 := meth_less
  have m2 := meth_swap
  have h0n : 0 < N ∨ n = 0 := by omega
  go_enter Tryz.func236, Tryz.ntmps236
  go_wp2
  go_loopw [7] (fun x w' => ∃ k : Nat, ∃ L', x = .int .i64 k ∧ k ≤ N ∧ HeapQ w' base hb (.slice A N cap) L' ∧ Hid (L'.Perm L) ∧ Hid (dnOk L' n k) ∧ Hid (∀ m, n ≤ m → at_ L' m = at_ L m) ∧ Hid (Wrote (fun g => (Value.slice A N cap).ownBlock = some g) w w')) (fun x _ => N - (intOf x).toNat)
  case atStart => exact ⟨0, L, rfl, by omega, h, List.Perm.refl _, HU, fun _ _ => rfl, Wrote.refl _ _⟩
  case round =>
    obtain ⟨k, L', rfl, hk, hq, HP, HK, HT, HW⟩ := hrel
    obtain ⟨j1, Hj1⟩ : ∃ j1, Hid (j1 = 2 * k + 1) := ⟨_, rfl⟩
    have hj1 : 2 * (k : Int) + 1 = (j1 : Int) := by rw [Hj1.out]; omega
    have hkj : k < j1 := by rw [Hj1.out]; omega
    have HQ := Lib.hid hq
    have HLL := Lib.hid hq.own.len
    clear hq
    by_cases ha : n ≤ j1
    · have HE := Lib.hid (dn_end (j := 0) HK.out (.inl (by have := Hj1.out; omega)))
      have hd : decide (n ≤ j1) = true := by simpa using ha
      go_wp2_with fail
      go_ret
      exact ⟨_, L', rfl, HQ.out, HP.out, HE.out, HT.out, HW.out⟩
    have hd : decide (n ≤ j1) = false := by simpa using ha
    have ha : j1 < n := by omega
    have hj0 : ((j1 : Int) < 0) = False := by simp
    obtain ⟨j2, Hj2⟩ : ∃ j2, Hid (j2 = j1 + 1) := ⟨_, rfl⟩
    have hj2 : (j1 : Int) + 1 = (j2 : Int) := by rw [Hj2.out]; omega
    have hjj : j1 < j2 ∧ j2 ≤ j1 + 1 := by have := Hj2.out; omega
    obtain ⟨hjj, hjj'⟩ := hjj
    by_cases hb2 : j2 < n
    · obtain ⟨z, Hz⟩ : ∃ z, Hid (ltQ (at_ L' j2) (at_ L' j1) = z) := ⟨_, rfl⟩
      go_wp2_with fail
      refine (less_any hb base A N cap L' j2 j1 _ HQ.out (by omega) (by omega) hN).mono ?_
      rintro e w1 ⟨rfl, b1⟩
      rw [Hz.out]
      have HQ1 := Lib.hid (HQ.out.below b1)
      have HW1 := Lib.hid (HW.out.next b1)
      clear b1
      cases z with
      | true =>
        have HM := Lib.hid (show ∀ m, 0 < m → m < n → (m - 1) / 2 = k → leQ (at_ L' j2) (at_ L' m) by
          have e1 := Hj1.out; have e2 := Hj2.out; have e3 := Hz.out
          rw [e2, e1] at e3 ⊢; exact child_right e3)
        obtain ⟨y, Hy⟩ : ∃ y, Hid (ltQ (at_ L' j2) (at_ L' k) = y) := ⟨_, rfl⟩
        go_wp2_with fail
        refine (less_any hb base A N cap L' j2 k _ HQ1.out (by omega) (by omega) hN).mono ?_
        rintro e w2 ⟨rfl, b2⟩
        rw [Hy.out]
        cases y with
        | false =>
          have HE := Lib.hid (dn_end (j := j2) HK.out (.inr ⟨HM.out, Hy.out⟩))
          go_wp2_with fail
          go_ret
          exact ⟨_, L', rfl, HQ1.out.below b2, HP.out, HE.out, HT.out, HW1.out.next b2⟩
        | true =>
          have HE := Lib.hid (dn_step HK.out (by rw [HLL.out]; omega) (show j2 < n by omega) (by have := Hj1.out; omega) (by have := Hj1.out; omega) HM.out Hy.out)
          have HP2 := Lib.hid ((swap_perm (L := L') (i := k) (j := j2) (by rw [HLL.out]; omega) (by rw [HLL.out]; omega)).trans HP.out)
          have HT2 := Lib.hid (show ∀ m, n ≤ m → at_ (swapL L' k j2) m = at_ L m from fun m hm => by rw [swap_at (by rw [HLL.out]; omega) (by rw [HLL.out]; omega), if_neg (by omega), if_neg (by omega)]; exact HT.out m hm)
          go_wp2_with fail
          refine (swap_any hb base A N cap L' k j2 _ (HQ1.out.below b2) (by omega) (by omega) hN).mono ?_
          rintro e w3 ⟨rfl, q3, g3⟩
          have HG := Lib.hid ((HW1.out.next b2).trans g3 (fun _ _ e => e))
          clear g3 b2
          go_wp2_with fail
          go_roundw
          case rel => exact ⟨j2, swapL L' k j2, rfl, by omega, q3, HP2, HE, HT2, HG⟩
          case measure => simp [intOf]; omega
      | false =>
        have HM := Lib.hid (show ∀ m, 0 < m → m < n → (m - 1) / 2 = k → leQ (at_ L' j1) (at_ L' m) by
          have e1 := Hj1.out; have e2 := Hj2.out; have e3 := Hz.out
          rw [e2, e1] at e3; rw [e1]; exact child_left e3)
        obtain ⟨y, Hy⟩ : ∃ y, Hid (ltQ (at_ L' j1) (at_ L' k) = y) := ⟨_, rfl⟩
        go_wp2_with fail
        refine (less_any hb base A N cap L' j1 k _ HQ1.out (by omega) (by omega) hN).mono ?_
        rintro e w2 ⟨rfl, b2⟩
        rw [Hy.out]
        cases y with
        | false =>
          have HE := Lib.hid (dn_end (j := j1) HK.out (.inr ⟨HM.out, Hy.out⟩))
          go_wp2_with fail
          go_ret
          exact ⟨_, L', rfl, HQ1.out.below b2, HP.out, HE.out, HT.out, HW1.out.next b2⟩
        | true =>
          have HE := Lib.hid (dn_step HK.out (by rw [HLL.out]; omega) (show j1 < n by omega) (by have := Hj1.out; omega) (by have := Hj1.out; omega) HM.out Hy.out)
          have HP2 := Lib.hid ((swap_perm (L := L') (i := k) (j := j1) (by rw [HLL.out]; omega) (by rw [HLL.out]; omega)).trans HP.out)
          have HT2 := Lib.hid (show ∀ m, n ≤ m → at_ (swapL L' k j1) m = at_ L m from fun m hm => by rw [swap_at (by rw [HLL.out]; omega) (by rw [HLL.out]; omega), if_neg (by omega), if_neg (by omega)]; exact HT.out m hm)
          go_wp2_with fail
          refine (swap_any hb base A N cap L' k j1 _ (HQ1.out.below b2) (by omega) (by omega) hN).mono ?_
          rintro e w3 ⟨rfl, q3, g3⟩
          have HG := Lib.hid ((HW1.out.next b2).trans g3 (fun _ _ e => e))
          clear g3 b2
          go_wp2_with fail
          go_roundw
          case rel => exact ⟨j1, swapL L' k j1, rfl, by omega, q3, HP2, HE, HT2, HG⟩
          case measure => simp [intOf]; omega
    · have hd2 : decide (j2 < n) = false := by simpa using hb2
      have HM := Lib.hid (show ∀ m, 0 < m → m < n → (m - 1) / 2 = k → leQ (at_ L' j1) (at_ L' m) by
          have e1 := Hj1.out; have e2 := Hj2.out
          rw [e1]; exact child_one (by omega))
      obtain ⟨y, Hy⟩ : ∃ y, Hid (ltQ (at_ L' j1) (at_ L' k) = y) := ⟨_, rfl⟩
      go_wp2_with fail
      refine (less_any hb base A N cap L' j1 k _ HQ.out (by omega) (by omega) hN).mono ?_
      rintro e w2 ⟨rfl, b2⟩
      rw [Hy.out]
      cases y with
      | false =>
        have HE := Lib.hid (dn_end (j := j1) HK.out (.inr ⟨HM.out, Hy.out⟩))
        go_wp2_with fail
        go_ret
        exact ⟨_, L', rfl, HQ.out.below b2, HP.out, HE.out, HT.out, HW.out.next b2⟩
      | true =>
        have HE := Lib.hid (dn_step HK.out (by rw [HLL.out]; omega) (show j1 < n by omega) (by have := Hj1.out; omega) (by have := Hj1.out; omega) HM.out Hy.out)
        have HP2 := Lib.hid ((swap_perm (L := L') (i := k) (j := j1) (by rw [HLL.out]; omega) (by rw [HLL.out]; omega)).trans HP.out)
        have HT2 := Lib.hid (show ∀ m, n ≤ m → at_ (swapL L' k j1) m = at_ L m from fun m hm => by rw [swap_at (by rw [HLL.out]; omega) (by rw [HLL.out]; omega), if_neg (by omega), if_neg (by omega)]; exact HT.out m hm)
        go_wp2_with fail
        refine (swap_any hb base A N cap L' k j1 _ (HQ.out.below b2) (by omega) (by omega) hN).mono ?_
        rintro e w3 ⟨rfl, q3, g3⟩
        have HG := Lib.hid ((HW.out.next b2).trans g3 (fun _ _ e => e))
        clear g3 b2
        go_wp2_with fail
        go_roundw
        case rel => exact ⟨j1, swapL L' k j1, rfl, by omega, q3, HP2, HE, HT2, HG⟩
        case measure => simp [intOf]; omega

end Go.Proofs.YtnnaigoomipklaaGreatDoor
