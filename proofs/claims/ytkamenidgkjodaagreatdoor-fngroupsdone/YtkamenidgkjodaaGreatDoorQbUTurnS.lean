/-
  Groups turned round: the model's l7Back and BackGroups.
-/
import Derived.Test.YtkamenidgkjodaaGreatDoorQbUTurn
import Derived.Test.YtkamenidgkjodaaGreatDoorQbGGoodT
set_option linter.unusedSimpArgs false
set_option linter.unusedVariables false
namespace Go.Proofs.YtkamenidgkjodaaGreatDoor
open Go.RowKit Go.ChangeShapes Go.WideShapes M

theorem Rws.flat {w : World} {ad : Addr} {m : Nat} {r : List Rw} (h : Rws w (some ad) m r) : ∀ j d, ((r.map rwRow).flatten)[j]? = some d → w.cell? (ad.add j) = some d.val := by
  intro j d hd
  have hj : j < (r.map rwRow).flatten.length := (List.getElem?_eq_some_iff.1 hd).1
  rw [flat_len (rwRow_wide r), List.length_map] at hj
  have hk : j / 2 < r.length := by omega
  obtain ⟨b, off, ea, c0, c1⟩ := h.cell _ _ (List.getElem?_eq_getElem hk)
  injection ea with ea
  subst ea
  have hr : (r.map rwRow)[j / 2]? = some (rwRow r[j / 2]) := by rw [List.getElem?_map, List.getElem?_eq_getElem hk]; rfl
  have hf := flat_get (rwRow_wide r) hr (show j % 2 < 2 by omega)
  rw [show j / 2 * 2 + j % 2 = j by omega, hd] at hf
  have e5 : (⟨b, off, none⟩ : Addr).add j = ⟨b, off + j, none⟩ := by unfold Addr.add; by_cases h0 : j = 0 <;> simp [h0]
  rw [e5]
  rcases (by omega : j % 2 = 0 ∨ j % 2 = 1) with e | e
  · rw [e] at hf
    simp [rwRow] at hf
    rw [show off + j = off + j / 2 * 2 by omega, c0, hf]; rfl
  · rw [e] at hf
    simp [rwRow] at hf
    rw [show off + j = off + j / 2 * 2 + 1 by omega, c1, hf]; rfl

set_option maxRecDepth 100000 in
theorem run_app_rd {w : World} (ty : TypeId) (base : Nat) (v : Value) (l : List Rw) (hown : OwnRw w base v l) (A : Option Addr) (m c : Nat) (r : List Rw) (hu : Rws w A m r) (hbound : l.length + m ≤ 1048576) (hbase : base ≤ w.heap.size) :
    ∃ v' w', (Builtin.append_ #[58, 58] ty #[v, .slice A m c]).run Tryz.prog w = .ok v' w' ∧ OwnRw w' base v' (l ++ r) ∧ w.grownBy w' v.ownBlock ∧ (v'.ownBlock = v.ownBlock ∨ v'.ownBlock = some w.heap.size) := by
  obtain ⟨i, q1, q2, q3, q4⟩ := info_parts rw_info
  have hl := hu.len
  cases A with
  | none =>
    have hm : r = [] := by
      cases r with
      | nil => rfl
      | cons s r => obtain ⟨b, off, e, _⟩ := hu.cell 0 s rfl; cases e
    subst hm
    have hm0 : m = 0 := hl.symm
    subst hm0
    refine ⟨v, w, ?_, by simpa using hown, ⟨rfl, rfl, rfl, Nat.le_refl _, fun _ _ _ => rfl⟩, .inl rfl⟩
    rcases hown.own.own.own.1.2 with ⟨hv, h0⟩ | ⟨g, cap, cur, hv, _, _, hnc, _⟩
    · subst hv
      simp [Builtin.append_, run_underlying Tryz.underlying58, sizeOf, typeInfo, q1, Builtin.lenOf, Builtin.firstCells]
    · subst hv
      rw [List.length_map] at hnc ⊢
      simp [Builtin.append_, run_underlying Tryz.underlying58, sizeOf, typeInfo, q1, Builtin.lenOf, Builtin.firstCells, hnc, storeCells]
  | some ad =>
    have ho := hown.own.own
    rw [List.length_map] at ho
    obtain ⟨v', w', hrun, ho', hg, hat⟩ := run_app_D (ty := ty) Tryz.underlying58 q1 q2 q3 q4 (by simp [Value.cells]) (by omega) base v l.length (l.map rwRow).flatten ho (r.map rwRow).flatten m (by rw [flat_len (rwRow_wide r), List.length_map, hl]) (rwRow_ownL w base r) (by rw [rwRow_blocks]; simp) (fun g hg => by rw [rwRow_blocks] at hg; simp at hg) ad c hu.flat (by unfold maxLen; omega) (by omega) hbase
    refine ⟨v', w', hrun, ⟨⟨?_, rwRow_wide _⟩, fun x hx => ?_⟩, hg, hat⟩
    · rw [List.length_map, List.length_append, hl, List.map_append, List.flatten_append]
      exact ho'
    · rcases List.mem_append.1 hx with h5 | h5
      · exact hown.ok x h5
      · exact hu.ok x h5
theorem step_rd {w : World} {ops : Array Oper} {o : Oper} {a : Act} {K : Act → World → Prop} {Q : Exit → Act → World → Prop} {E : Prop} (s y : Operand) (base : Nat) (v : Value) (l : List Rw) (hown : OwnRw w base v l) (A : Option Addr) (m c : Nat) (r : List Rw) (hu : Rws w A m r) (hbound : l.length + m ≤ 1048576) (hbase : base ≤ w.heap.size)
    (hgd : Region.wanted o (yielded ops a.tmps) = true) (ho : o.op = .call { callee := .builtin .append, args := #[s, y], argTypes := #[58, 58] }) (hs : a.eval s = v) (hy : a.eval y = .slice A m c)
    (h : ∀ v' w', OwnRw w' base v' (l ++ r) → w.grownBy w' v.ownBlock → (v'.ownBlock = v.ownBlock ∨ v'.ownBlock = some w.heap.size) → K (a.put o.dst v') w') : if Region.wanted o (yielded ops a.tmps) = true then Oper.wp Tryz.prog o a w K Q else E := by
  rw [if_pos hgd]
  obtain ⟨v', w', hrun, h1, h2, h3⟩ := run_app_rd (o.type) base v l hown A m c r hu hbound hbase
  unfold Oper.wp execOp
  simp only [ho, resolve, invoke, builtin, Sem.run_bind, Sem.run_pure, Result.andThen_ok, List.map_toArray, List.map_cons, List.map_nil, hs, hy, hrun]
  exact h v' w' h1 h2 h3
theorem wpList_rd {w : World} {ops : Array Oper} {rest : List Oper} {o : Oper} {a : Act} {Q : Exit → Act → World → Prop} (s y : Operand) (base : Nat) (v : Value) (l : List Rw) (hown : OwnRw w base v l) (A : Option Addr) (m c : Nat) (r : List Rw) (hu : Rws w A m r) (hbound : l.length + m ≤ 1048576) (hbase : base ≤ w.heap.size)
    (hgd : Region.wanted o (yielded ops a.tmps) = true) (ho : o.op = .call { callee := .builtin .append, args := #[s, y], argTypes := #[58, 58] }) (hs : a.eval s = v) (hy : a.eval y = .slice A m c)
    (h : ∀ v' w', OwnRw w' base v' (l ++ r) → w.grownBy w' v.ownBlock → (v'.ownBlock = v.ownBlock ∨ v'.ownBlock = some w.heap.size) → wpList Tryz.prog ops Q rest (a.put o.dst v') w') : wpList Tryz.prog ops Q (o :: rest) a w := by
  obtain ⟨v', w', hrun, h1, h2, h3⟩ := run_app_rd (o.type) base v l hown A m c r hu hbound hbase
  refine wpList_wanted hgd fun K hK => ?_
  unfold Oper.wp execOp
  simp only [ho, resolve, invoke, builtin, Sem.run_bind, Sem.run_pure, Result.andThen_ok, List.map_toArray, List.map_cons, List.map_nil, hs, hy, hrun]
  exact hK _ _ (h v' w' h1 h2 h3)

theorem OwnRw.made0 (w : World) (base : Nat) (hb : base ≤ w.heap.size) : OwnRw (w.alloc (.cells #[] 62)) base (.slice (some ⟨w.heap.size, 0, none⟩) 0 0) [] := by
  refine ⟨⟨⟨?_, ?_⟩, fun r h => by simp at h⟩, fun x h => by simp at h⟩
  · exact ⟨World.ownsRow_made w #[] 0 hb (by simp [maxLen]) rfl, trivial⟩
  · simp [D.blocks, D.blocksL, Value.ownBlock]
theorem OwnRw.short {w : World} {base n m cap : Nat} {A : Option Addr} {l : List Rw} (h : OwnRw w base (.slice A n cap) l) (hm : m ≤ n) : OwnRw w base (.slice A m cap) (l.take m) := by
  have hl := h.len_
  obtain ⟨hx, hr⟩ := h.own.own.own.1
  have hfl : ((l.take m).map rwRow).flatten.map D.val = (((l.map rwRow).flatten.map D.val).take (m * 2)) := by
    have e : l.map rwRow = (l.take m).map rwRow ++ (l.drop m).map rwRow := by rw [← List.map_append, List.take_append_drop]
    have e2 : ((l.take m).map rwRow).flatten.length = m * 2 := by rw [flat_len (rwRow_wide _), List.length_map, List.length_take]; rw [Nat.min_eq_left (by omega)]
    rw [e, List.flatten_append, List.map_append]
    exact (List.take_left' (by rw [List.length_map, e2])).symm
  have hlen : ((l.take m).map rwRow).length = m := by rw [List.length_map, List.length_take]; omega
  refine ⟨⟨⟨?_, ?_⟩, rwRow_wide _⟩, fun x hx => h.ok x (List.mem_of_mem_take hx)⟩
  · refine ⟨⟨?_, ?_⟩, rwRow_ownL w base _⟩
    · rw [hlen, hfl, List.length_take, hx, List.length_map]; omega
    · rw [hlen]
      rcases hr with ⟨hv, h0⟩ | ⟨g, cap', cur, hv, h1, h2, h3, h4, h5, h6⟩
      · rw [List.length_map] at h0
        injection hv with e1 e2 e3
        left
        exact ⟨by rw [e1, e3, show m = 0 by omega], by omega⟩
      · right
        injection hv with e1 e2 e3
        rw [List.length_map] at h3 h6
        refine ⟨g, cap', cur, by rw [e1, e3], h1, h2, by omega, h4, h5, ?_⟩
        rw [hfl, ← h6, List.take_take]
        congr 1
        omega
  · have := h.own.own.nodup
    simp only [D.blocks, rwRow_blocks, List.append_nil] at this ⊢
    cases A <;> simp [Value.ownBlock]
theorem cut_hi_rws (a : Option Addr) (n c hi : Nat) (h2 : hi ≤ c) (w : World) :
    (Instr.slice 58 (.slice a n c) none (some (.int .i64 (hi : Int))) none).run Tryz.prog w = .ok (.slice a hi c) w := by
  obtain ⟨i, h3, h4, h5, h6⟩ := info_parts rw_info
  have he : Tryz.prog.elem 58 = 62 := by simp [Program.elem, Tryz.underlying58]
  have := run_slice_h (P := Tryz.prog) w 58 a n c (by rw [he]; exact Tryz.underlying58) .i64 hi (by omega) (by omega)
  rw [this, he]
  have h0 := cutA_zero a c
  unfold cutA at h0
  simp [sizeOf, typeInfo, h3, h5, sliced, h0]
theorem TbSt.kept {w wx w2 : World} {R G B : Nat} {F T : Int} {v : Value} {out : List Rw} {row : Option Nat} (h : TbSt w wx R G B F T v out) (hg : wx.grownBy w2 row) (hr : ∀ k, row = some k → B ≤ k ∧ v.ownBlock ≠ some k) : TbSt w w2 R G B F T v out := by
  obtain ⟨n1, n2, n3, n4, n5, n6⟩ := h.num
  have hz := hg.size
  have hne : ∀ k, k < B → row ≠ some k := fun k hk e => by have := (hr k e).1; omega
  refine ⟨Below.grown h.low hg (by omega) (fun b e => by have := (hr b e).1; omega), ⟨n1, n2, n3, n4, n5, by omega⟩, (hg.block _ (by omega) (fun e => hne _ n2 e.symm)).trans h.res, (hg.block _ (by omega) (fun e => hne _ n4 e.symm)).trans h.grp, ?_⟩
  exact h.own.wrote (Wrote.of_grown (S := fun i => row = some i) hg (fun _ e => e)) (fun g e e2 => (hr g e2).2 e)
theorem OwnRw.kept {w w2 : World} {B : Nat} {v : Value} {l : List Rw} {row : Option Nat} (h : OwnRw w B v l) (hg : w.grownBy w2 row) (hr : ∀ k, row = some k → v.ownBlock ≠ some k) : OwnRw w2 B v l :=
  h.wrote (Wrote.of_grown (S := fun i => row = some i) hg (fun _ e => e)) (fun g e e2 => hr g e2 e)

def Apart (v u : Value) : Prop := ∀ g, v.ownBlock = some g → u.ownBlock ≠ some g
theorem Apart.symm {v u : Value} (h : Apart v u) : Apart u v := fun g e e2 => h g e2 e
theorem Apart.grown {w : World} {B N : Nat} {v u u' : Value} {l : List Rw} (h : Apart v u) (hv : OwnRw w B v l) (p : u'.ownBlock = u.ownBlock ∨ u'.ownBlock = some N) (hN : w.heap.size ≤ N) : Apart v u' := fun g e e2 => by
  rcases p with p | p
  · exact h g e (by rw [← p]; exact e2)
  · rw [p] at e2; injection e2 with e2; have := (hv.lt e).2; omega
theorem Apart.nil_ {v : Value} : Apart v (.slice none 0 0) := fun g e e2 => by simp [Value.ownBlock] at e2
def backTo (out fresh : List Rw) (rest : List Rw) : List Rw := out ++ backRF fresh rest
theorem back_step_gone {rows : List Rw} {k : Nat} {x : Rw} (h : rows[k]? = some x) (hk : x.kind = 2) (out fresh : List Rw) : backTo out fresh (rows.drop k) = backTo out (fresh ++ [⟨3, x.line⟩]) (rows.drop (k + 1)) := by
  unfold backTo; rw [drop_at h, backRF, if_pos hk]
theorem back_step_new {rows : List Rw} {k : Nat} {x : Rw} (h : rows[k]? = some x) (hk : x.kind = 3) (out fresh : List Rw) : backTo out fresh (rows.drop k) = backTo (out ++ [⟨2, x.line⟩]) fresh (rows.drop (k + 1)) := by
  unfold backTo; rw [drop_at h, backRF, if_neg (by omega), if_pos hk]; simp
theorem back_step_keep {rows : List Rw} {k : Nat} {x : Rw} (h : rows[k]? = some x) (h2 : x.kind ≠ 2) (h3 : x.kind ≠ 3) (out fresh : List Rw) : backTo out fresh (rows.drop k) = backTo (out ++ fresh ++ [x]) [] (rows.drop (k + 1)) := by
  unfold backTo; rw [drop_at h, backRF, if_neg h2, if_neg h3]; simp
theorem back_pad : ∀ (rows fresh : List Rw), backRF fresh (rows ++ [⟨1, ⟨#[]⟩⟩]) = backRF fresh rows ++ [⟨1, ⟨#[]⟩⟩]
  | [], fresh => by simp [backRF]
  | x :: l, fresh => by
    rw [List.cons_append, backRF, backRF]
    split
    · exact back_pad l _
    · split
      · rw [back_pad l]; rfl
      · rw [back_pad l]; simp

theorem cell_past {w w' : World} {row : Option Nat} {b o : Nat} {x : Value} (hg : w.grownBy w' row) (h : w.cell? ⟨b, o, none⟩ = some x) (hne : row ≠ some b) : w'.cell? ⟨b, o, none⟩ = some x := by
  have hb : b < w.heap.size := by
    by_cases hb : b < w.heap.size
    · exact hb
    · have : w.heap[b]? = none := Array.getElem?_eq_none (by omega)
      simp [World.cell?, this] at h
  have e := hg.block b hb (fun e => hne e.symm)
  simpa [World.cell?, e] using h
theorem TbSt.two {w W W1 w7 W2 w8 : World} {R G B : Nat} {F T : Int} {v v7 v8 r : Value} {out out2 rows : List Rw} (HT : TbSt w W R G B F T v out) (HF : OwnRw W B r rows) (HA : Apart v r) (hb : Below W.heap.size W W1) (g7 : W1.grownBy w7 v.ownBlock) (p7 : v7.ownBlock = v.ownBlock ∨ v7.ownBlock = some W1.heap.size) (hb2 : Below w7.heap.size w7 W2) (g8 : W2.grownBy w8 v7.ownBlock) (p8 : v8.ownBlock = v7.ownBlock ∨ v8.ownBlock = some W2.heap.size) (o8 : OwnRw w8 B v8 out2) :
    TbSt w (w8.setCell ⟨G, 2, none⟩ v8) R G B F T v8 out2 ∧ OwnRw (w8.setCell ⟨G, 2, none⟩ v8) B r rows ∧ Apart v8 r ∧ w8.cell? ⟨G, 2, none⟩ = some v ∧ ∀ j, w8.frozen? ⟨G, j, none⟩ = false := by
  have T1 := HT.below hb
  obtain ⟨n1, n2, n3, n4, n5, n6⟩ := T1.num
  obtain ⟨a1, a2, a3⟩ := T1.grown g7
  have z7 := g7.size
  have z2 := hb2.size
  have z8 := g8.size
  have r2 := (hb2.block R (by omega)).trans a1
  have c2 := (hb2.block G (by omega)).trans a2
  have l2 := a3.next hb2
  have hB7 : ∀ k, v7.ownBlock = some k → B ≤ k := fun k e => by
    rcases p7 with p | p
    · rw [p] at e; exact (T1.own.lt e).1
    · rw [p] at e; injection e with e; omega
  have hne : ∀ k, k < B → v7.ownBlock ≠ some k := fun k hk e => by have := hB7 k e; omega
  have r8 := (g8.block R (by omega) (fun e => hne _ n2 e.symm)).trans r2
  have c8 := (g8.block G (by omega) (fun e => hne _ n4 e.symm)).trans c2
  have l8 : Below w.heap.size w w8 := Below.grown l2 g8 (by have := HT.num.2.2.1; omega) (fun b e => by have := hB7 b e; omega)
  have F1 := HF.below hb
  have A1 : Apart r v7 := HA.symm.grown F1 p7 (Nat.le_refl _)
  have F7 := F1.kept g7 (fun k e e2 => HA k e e2)
  have F2 := F7.below hb2
  have A2 : Apart r v8 := A1.grown F2 p8 (Nat.le_refl _)
  have F8 := F2.kept g8 (fun k e e2 => A1 k e2 e)
  refine ⟨⟨l8.setCell n3 _, ⟨n1, n2, n3, n4, n5, by simp; omega⟩, ?_, ?_, o8.setBelow n4 _⟩, F8.setBelow n4 _, A2.symm, by simp [World.cell?, c8], fun j => by simp [World.frozen?, c8]⟩
  · rw [Below.heap_setCell _ _ _ _ (by simpa using n5)]; exact r8
  · simp [World.setCell, Array.getElem?_modify, c8]

set_option maxHeartbeats 4000000 in
set_option maxRecDepth 100000 in
theorem l7Back_any (a : Option Addr) (n c : Nat) (x : Gp) (w : World) (hl : Rws w a n x.rows) (hx : groupB x = true) :
    Calls Tryz.prog 63 #[.agg #[.int .i64 x.at_, .int .i64 x.to_, .slice a n c]] w fun e w' => ∃ u, e = .returned (.agg #[.int .i64 x.to_, .int .i64 x.at_, u]) ∧ OwnRw w' w.heap.size u (backRF [] x.rows) ∧ Below w.heap.size w w' := by
  obtain ⟨hn80, _, _, _, _, h3, h2⟩ := groupB_len hx
  have hn : n ≤ 80 := by rw [← hl.len]; exact hn80
  obtain ⟨F, HF⟩ : ∃ F, Hid (x.to_ = F) := ⟨_, rfl⟩
  obtain ⟨T, HT⟩ : ∃ T, Hid (x.at_ = T) := ⟨_, rfl⟩
  rw [HT.out, HF.out]
  obtain ⟨rows0, HRW⟩ : ∃ rows, Hid (x.rows = rows) := ⟨_, rfl⟩
  rw [HRW.out] at hl ⊢
  have HR := Lib.hid hl
  clear hx hn80 h3 h2 hl
  obtain ⟨W0, HW0⟩ : ∃ W0, Hid (W0 = w.alloc (.cells #[.int .i64 T, .int .i64 F, .slice a n c] 60)) := ⟨_, rfl⟩
  obtain ⟨W3, HW3⟩ : ∃ W3, Hid (W3 = (W0.alloc (.cells #[.int .i64 0, .int .i64 0, .slice none 0 0] 60)).alloc (.cells #[.int .i64 F, .int .i64 T, .slice none 0 0] 60)) := ⟨_, rfl⟩
  have HS0 := Lib.hid (show W0.heap.size = w.heap.size + 1 by rw [HW0.out]; simp)
  have HB0 := Lib.hid (show Below w.heap.size w W0 by rw [HW0.out]; exact below_alloc _ _)
  have HTB := Lib.hid (show TbSt w W3 (w.heap.size + 1) (w.heap.size + 2) (w.heap.size + 3) F T (.slice none 0 0) [] by
    refine ⟨?_, ?_, ?_, ?_, OwnRw.nil_⟩
    · rw [HW3.out]; exact (HB0.out.next (below_alloc _ _)).next (below_alloc _ _)
    · refine ⟨by omega, by omega, by omega, by omega, by omega, ?_⟩
      rw [HW3.out]
      simp [HS0.out]
    · rw [HW3.out, Below.heap_alloc _ _ _ (by simp [HS0.out]), ← HS0.out]; exact heap_at rfl
    · rw [HW3.out]; exact heap_at (by simp [HS0.out]))
  have p0 : W0.cell? ⟨w.heap.size, 0, none⟩ = some (.int .i64 T) := by rw [HW0.out]; simp
  have p1 : W0.cell? ⟨w.heap.size, 1, none⟩ = some (.int .i64 F) := by rw [HW0.out]; simp
  have p2 : W0.cell? ⟨w.heap.size, 2, none⟩ = some (.slice a n c) := by rw [HW0.out]; simp
  have HS3 := Lib.hid (show W3.heap.size = w.heap.size + 3 by rw [HW3.out]; simp [HS0.out])
  have HM := Lib.hid (OwnRw.made0 W3 (w.heap.size + 3) (by rw [HS3.out]; exact Nat.le_refl _))
  rw [HS3.out] at HM
  have HRM := Lib.hid (HR.out.below (HTB.out.low.next (below_alloc W3 (.cells #[] 62))))
  have hR1 : ∀ o, (W0.alloc o).heap.size = w.heap.size + 2 := fun o => by simp [HS0.out]
  have p0' := fun o => cell_keep (below_alloc W0 o) p0
  have p1' := fun o => cell_keep (below_alloc W0 o) p1
  have p2' := fun o o2 => cell_keep (below_alloc (W0.alloc o) o2) (cell_keep (below_alloc W0 o) p2)
  go_enter Tryz.func63, Tryz.ntmps63
  go_wp2_with (first
    | (at_builtin
       rw [← HW0.out, ← HW3.out]
       refine wpList_rd (.tmp 12) (.tmp 14) (w.heap.size + 3) _ [] HM.out a n c rows0 HRM.out (by simp; omega) (by simp [HS3.out]) rfl rfl rfl rfl ?_
       intro v4 w4 o4 g4 p4
       obtain ⟨A4, k4, rfl, hk4, _⟩ := o4.form (n := n) (by rw [List.nil_append]; exact HR.out.len)
       have T4 := Lib.hid ((HTB.out.below (below_alloc W3 (.cells #[] 62))).kept g4 (fun k e => by simp [Value.ownBlock] at e; exact ⟨by omega, by simp [Value.ownBlock]⟩))
       have O4 : Hid (OwnRw w4 (w.heap.size + 3) (.slice A4 n k4) rows0) := Lib.hid (by rw [List.nil_append] at o4; exact o4)
       have hz4 := Lib.hid T4.out.num.2.2.2.2.2
       clear o4 g4 p4)
    | (at_builtin
       refine wpList_rw (.tmp 15) (.tmp 17) (w.heap.size + 3) (.slice A4 n k4) rows0 (O4.out.below (below_alloc w4 (.cells #[.int .i64 1, .string ⟨#[]⟩] 62))) ⟨1, ⟨#[]⟩⟩ ⟨⟨by decide, by decide⟩, by simp [maxLen, ByteArray.size]⟩ w4.heap.size (by simp) (by simp) (by rw [HR.out.len]; omega) (by have := hz4.out; simp; omega) rfl rfl rfl rfl ?_
       intro v5 w5 o5 g5 p5
       obtain ⟨A5, k5, rfl, hk5, _⟩ := o5.form (n := n + 1) (by rw [List.length_append, HR.out.len]; rfl)
       have T5 := Lib.hid ((T4.out.below (below_alloc w4 (.cells #[.int .i64 1, .string ⟨#[]⟩] 62))).kept g5 (fun k e => ⟨(O4.out.lt e).1, by simp [Value.ownBlock]⟩))
       have O5 := Lib.hid o5
       clear o5 g5 p5)
    | fail)
  obtain ⟨rows, HRS⟩ : ∃ rows, Hid (rows0 ++ [(⟨1, ⟨#[]⟩⟩ : Rw)] = rows) := ⟨_, rfl⟩
  rw [HRS.out] at O5
  have HLN := Lib.hid (show rows.length = n + 1 by rw [← HRS.out, List.length_append, HR.out.len]; rfl)
  have HPAD := Lib.hid (show backRF [] rows = backRF [] rows0 ++ [⟨1, ⟨#[]⟩⟩] by rw [← HRS.out]; exact back_pad rows0 [])
  have HBL := Lib.hid (show (backRF [] rows0).length = n by rw [backRF_len, HR.out.len]; simp)
  obtain ⟨R, HRR⟩ : ∃ R, Hid (w.heap.size + 1 = R) := ⟨_, rfl⟩
  obtain ⟨G, HG⟩ : ∃ G, Hid (w.heap.size + 2 = G) := ⟨_, rfl⟩
  obtain ⟨B, HBB⟩ : ∃ B, Hid (w.heap.size + 3 = B) := ⟨_, rfl⟩
  rw [HRR.out, HG.out, HBB.out] at T5
  rw [HBB.out] at O5
  have HG2 := Lib.hid (show w.heap.size + 1 + 1 = G from HG.out)
  have HEND := Lib.hid (show ∀ y, rows[n]? = some y → y.kind = 1 by
    intro y hy
    rw [← HRS.out, List.getElem?_append_right (by rw [HR.out.len]; exact Nat.le_refl _), HR.out.len, Nat.sub_self] at hy
    injection hy with hy
    rw [← hy])
  clear T4 O4 hz4 p0 p1 p2 p0' p1' p2' hR1
  rw [HG2.out]
  go_loopw [4, 20] (fun fv i w' => ∃ (v : Value) (out : List Rw) (u : Value) (fresh : List Rw) (k : Nat), u = fv ∧ i = .int .i64 (k : Int) ∧ k ≤ n + 1 ∧ Hid (TbSt w w' R G B F T v out) ∧ Hid (OwnRw w' B u fresh) ∧ Hid (OwnRw w' B (.slice A5 (n + 1) k5) rows) ∧ Hid (Apart v u ∧ Apart v (.slice A5 (n + 1) k5) ∧ Apart u (.slice A5 (n + 1) k5)) ∧ Hid (out.length + fresh.length ≤ k) ∧ Hid (backTo out fresh (rows.drop k) = backRF [] rows) ∧ Hid (k = n + 1 → fresh = [])) (fun _ i _ => n + 1 - (intOf i).toNat)
  case atStart => exact ⟨_, [], _, [], 0, rfl, rfl, by omega, T5.out, OwnRw.nil_, O5.out, ⟨Apart.nil_, Apart.nil_.symm, Apart.nil_.symm⟩, show _ ≤ _ by simp, show _ = _ by simp [backTo], show _ → _ from fun _ => rfl⟩
  case round =>
    obtain ⟨v, out, u, fresh, k, rfl, rfl, hk, HT, HU, H5, HA, HL, HP, HE⟩ := hrel
    by_cases hlt : k < n + 1
    · obtain ⟨g5, y, rfl, _, _, hy, c0, c1, hok, _⟩ := H5.out.at_ hlt
      have HY := Lib.hid hy
      have HYO := Lib.hid hok
      obtain ⟨W, HW⟩ : ∃ W, Hid (W = wr.alloc (.cells #[.int .i64 y.kind, .string y.line] 62)) := ⟨_, rfl⟩
      have HB := Lib.hid (show Below wr.heap.size wr W by rw [HW.out]; exact below_alloc _ _)
      have HWS := Lib.hid (show W.heap.size = wr.heap.size + 1 by rw [HW.out]; simp)
      have e0 : W.cell? ⟨wr.heap.size, 0, none⟩ = some (.int .i64 y.kind) := by rw [HW.out]; simp
      have e1 : W.cell? ⟨wr.heap.size, 1, none⟩ = some (.string y.line) := by rw [HW.out]; simp
      have TW := Lib.hid (HT.out.below HB.out)
      have UW := Lib.hid (HU.out.below HB.out)
      have FW := Lib.hid (H5.out.below HB.out)
      have hll := HL.out
      have hWB := Lib.hid (show B ≤ W.heap.size from TW.out.num.2.2.2.2.2)
      have hfl : fresh.length ≤ 1048576 := by omega
      have hol : out.length ≤ 1048576 := by omega
      clear hy hok
      by_cases h2 : y.kind = 2
      · have q2 : (y.kind == 2) = true := by simp [h2]
        have hs := Lib.hid (back_step_gone HY.out h2 out fresh)
        have hlast : ∀ z : List Rw, Hid (k + 1 = n + 1 → fresh ++ z = []) := fun z => Lib.hid (fun e => by have := HEND.out y (by rw [show n = k by omega]; exact HY.out); omega)
        have ha0 := Lib.hid (show (W.alloc (.cells #[.int .i64 3, .string y.line] 62)).cell? ⟨wr.heap.size + 1, 0, none⟩ = some (.int .i64 (⟨3, y.line⟩ : Rw).kind) by rw [← HWS.out]; simp)
        have ha1 := Lib.hid (show (W.alloc (.cells #[.int .i64 3, .string y.line] 62)).cell? ⟨wr.heap.size + 1, 1, none⟩ = some (.string (⟨3, y.line⟩ : Rw).line) by rw [← HWS.out]; simp)
        have haB := Lib.hid (show B ≤ (W.alloc (.cells #[.int .i64 3, .string y.line] 62)).heap.size by have := hWB.out; simp; omega)
        have haX := Lib.hid (show RwOk ⟨3, y.line⟩ from ⟨show i64ok 3 from ⟨by decide, by decide⟩, HYO.out.line⟩)
        have haU := Lib.hid (UW.out.below (below_alloc W (.cells #[.int .i64 3, .string y.line] 62)))
        clear h2
        go_wp2_with (first
          | (at_builtin
             rw [← HW.out]
             refine wpList_rw (.tmp 36) (.tmp 40) B u fresh haU.out ⟨3, y.line⟩ haX.out (wr.heap.size + 1) ha0.out ha1.out hfl haB.out rfl rfl rfl rfl ?_
             intro v9 w9 o9 g9 p9
             have T9 := Lib.hid ((TW.out.below (below_alloc W (.cells #[.int .i64 3, .string y.line] 62))).kept g9 (fun k e => ⟨(UW.out.lt e).1, fun e2 => HA.out.1 k e2 e⟩))
             have F9 := Lib.hid ((FW.out.below (below_alloc W (.cells #[.int .i64 3, .string y.line] 62))).kept g9 (fun k e e2 => HA.out.2.2 k e e2))
             have A9 := Lib.hid (show Apart v v9 ∧ Apart v9 (.slice (some ⟨g5, 0, none⟩) (n + 1) k5) from ⟨HA.out.1.grown (TW.out.own.below (below_alloc W (.cells #[.int .i64 3, .string y.line] 62))) p9 (Nat.le_refl _), (HA.out.2.2.symm.grown (FW.out.below (below_alloc W (.cells #[.int .i64 3, .string y.line] 62))) p9 (Nat.le_refl _)).symm⟩))
          | fail)
        go_roundw
        case rel => exact ⟨v, out, v9, fresh ++ [⟨3, y.line⟩], k + 1, rfl, by go_num, by omega, T9.out, Lib.hid o9, F9.out, ⟨A9.out.1, HA.out.2.1, A9.out.2⟩, show _ ≤ _ by simp; omega, show _ = _ by rw [← HP.out, hs.out], hlast _⟩
        case measure => simp [intOf]; omega
      · have q2 : (y.kind == 2) = false := by simp [h2]
        by_cases h3 : y.kind = 3
        · have q3 : (y.kind == 3) = true := by simp [h3]
          have hs := Lib.hid (back_step_new HY.out h3 out fresh)
          have hlast : Hid (k + 1 = n + 1 → fresh = []) := Lib.hid (fun e => by have := HEND.out y (by rw [show n = k by omega]; exact HY.out); omega)
          have f3 := TW.out.rows.1
          rw [HW.out] at f3
          have ha0 := Lib.hid (show (W.alloc (.cells #[.int .i64 2, .string y.line] 62)).cell? ⟨wr.heap.size + 1, 0, none⟩ = some (.int .i64 (⟨2, y.line⟩ : Rw).kind) by rw [← HWS.out]; simp)
          have ha1 := Lib.hid (show (W.alloc (.cells #[.int .i64 2, .string y.line] 62)).cell? ⟨wr.heap.size + 1, 1, none⟩ = some (.string (⟨2, y.line⟩ : Rw).line) by rw [← HWS.out]; simp)
          have haB := Lib.hid (show B ≤ (W.alloc (.cells #[.int .i64 2, .string y.line] 62)).heap.size by have := hWB.out; simp; omega)
          have haX := Lib.hid (show RwOk ⟨2, y.line⟩ from ⟨show i64ok 2 from ⟨by decide, by decide⟩, HYO.out.line⟩)
          have haU := Lib.hid (TW.out.own.below (below_alloc W (.cells #[.int .i64 2, .string y.line] 62)))
          clear h2 h3
          go_wp2_with (first
            | (at_builtin
               rw [← HW.out]
               refine wpList_rw (.tmp 47) (.tmp 51) B v out haU.out ⟨2, y.line⟩ haX.out (wr.heap.size + 1) ha0.out ha1.out hol haB.out rfl rfl rfl rfl ?_
               intro v9 w9 o9 g9 p9
               have U9 := Lib.hid ((UW.out.below (below_alloc W (.cells #[.int .i64 2, .string y.line] 62))).kept g9 (fun k e e2 => HA.out.1 k e e2))
               have F9 := Lib.hid ((FW.out.below (below_alloc W (.cells #[.int .i64 2, .string y.line] 62))).kept g9 (fun k e e2 => HA.out.2.1 k e e2))
               have A9 := Lib.hid (show Apart v9 u ∧ Apart v9 (.slice (some ⟨g5, 0, none⟩) (n + 1) k5) from ⟨(HA.out.1.symm.grown (UW.out.below (below_alloc W (.cells #[.int .i64 2, .string y.line] 62))) p9 (Nat.le_refl _)).symm, (HA.out.2.1.symm.grown (FW.out.below (below_alloc W (.cells #[.int .i64 2, .string y.line] 62))) p9 (Nat.le_refl _)).symm⟩)
               obtain ⟨q9, Hq9⟩ : ∃ q, Hid ((out ++ [(⟨2, y.line⟩ : Rw)]).length = q) := ⟨_, rfl⟩
               obtain ⟨A9', k9, rfl, h91, _⟩ := o9.form Hq9.out
               have TB9 := TW.out.below (below_alloc W (.cells #[.int .i64 2, .string y.line] 62))
               have T9 := Lib.hid (TB9.stored g9 o9)
               have c9 := (TB9.grown g9).2.1
               have f9 : ∀ j, w9.frozen? ⟨G, j, none⟩ = false := fun j => by simp [World.frozen?, c9]
               have f92 : w9.cell? ⟨G, 2, none⟩ = some v := by simp [World.cell?, c9]
               have HGB := Lib.hid (show G < B from TB9.num.2.2.2.1)
               clear TB9 g9 p9)
            | fail)
          go_roundw
          case rel => exact ⟨_, out ++ [⟨2, y.line⟩], u, fresh, k + 1, rfl, by go_num, by omega, T9, Lib.hid (U9.out.setBelow HGB.out _), Lib.hid (F9.out.setBelow HGB.out _), ⟨A9.out.1, A9.out.2, HA.out.2.2⟩, show _ ≤ _ by simp; omega, show _ = _ by rw [← HP.out, hs.out], hlast⟩
          case measure => simp [intOf]; omega
        · have q3 : (y.kind == 3) = false := by simp [h3]
          have hs := Lib.hid (back_step_keep HY.out h2 h3 out fresh)
          clear h2 h3
          obtain ⟨qu, Hqu⟩ : ∃ q, Hid (fresh.length = q) := ⟨_, rfl⟩
          obtain ⟨Au, ku, rfl, hku, _⟩ := UW.out.form Hqu.out
          have hqo : out.length + qu ≤ 1048576 := by rw [← Hqu.out]; omega
          have hqo2 : (out ++ fresh).length ≤ 1048576 := by rw [List.length_append]; omega
          have BD := Lib.hid (Below.refl W.heap.size W).drew
          have BA := Lib.hid ((below_alloc W (.cells #[.int .i64 y.kind, .string y.line] 62)).next (Below.refl _ _).drew)
          have TD := Lib.hid (TW.out.below BD.out)
          have TA := Lib.hid (TW.out.below BA.out)
          have UD := Lib.hid (UW.out.below BD.out)
          have UA := Lib.hid (UW.out.below BA.out)
          have f3 := TW.out.rows.1
          have f3A := TA.out.rows.1
          have f3D := TD.out.rows.1
          have hvn : Hid (∀ k, W.heap.size ≤ k + 1 → v.ownBlock ≠ some k) := Lib.hid (fun k hk e => by have := (HT.out.own.lt e).2; have := HWS.out; omega)
          go_wp2
          rw [← HW.out]
          go_region_law (first
            | ( (refine step_rd (.tmp 25) (.tmp 26) B v out TD.out.own Au qu ku fresh UD.out.rws hqo TD.out.num.2.2.2.2.2 rfl rfl rfl rfl ?_
                 intro v7 w7 o7 g7 p7
                 have e07 := cell_past g7 (show W.drew.cell? ⟨wr.heap.size, 0, none⟩ = some (.int .i64 y.kind) from e0) (hvn.out _ (by rw [HWS.out]; omega))
                 have e17 := cell_past g7 (show W.drew.cell? ⟨wr.heap.size, 1, none⟩ = some (.string y.line) from e1) (hvn.out _ (by rw [HWS.out]; omega))))
            | ( (refine step_rd (.tmp 25) (.tmp 26) B v out TA.out.own Au qu ku fresh UA.out.rws hqo TA.out.num.2.2.2.2.2 rfl rfl rfl rfl ?_
                 intro v7 w7 o7 g7 p7
                 have e07 := cell_past g7 (show (W.alloc (.cells #[.int .i64 y.kind, .string y.line] 62)).drew.cell? ⟨W.heap.size, 0, none⟩ = some (.int .i64 y.kind) by simp) (hvn.out _ (by omega))
                 have e17 := cell_past g7 (show (W.alloc (.cells #[.int .i64 y.kind, .string y.line] 62)).drew.cell? ⟨W.heap.size, 1, none⟩ = some (.string y.line) by simp) (hvn.out _ (by omega))))
            | ( (refine step_rw (.tmp 27) (.tmp 29) B v7 (out ++ fresh) (o7.below (below_alloc w7 (.cells #[.int .i64 y.kind, .string y.line] 62))) y HYO.out w7.heap.size (by simp) (by simp) hqo2 (by have := TD.out.num.2.2.2.2.2; have := g7.size; simp; omega) rfl rfl rfl rfl ?_
                 intro v8 w8 o8 g8 p8
                 obtain ⟨q8, Hq8⟩ : ∃ q, Hid ((out ++ fresh ++ [y]).length = q) := ⟨_, rfl⟩
                 obtain ⟨A8, k8, rfl, h81, _⟩ := o8.form Hq8.out
                 obtain ⟨x1, x2, x3, x4, x5⟩ := TbSt.two TW.out FW.out HA.out.2.1 BD.out g7 p7 (below_alloc w7 (.cells #[.int .i64 y.kind, .string y.line] 62)) g8 p8 o8))
            | ( (refine step_rw (.tmp 27) (.tmp 29) B v7 (out ++ fresh) o7 y HYO.out W.heap.size e07 e17 hqo2 (by have := TA.out.num.2.2.2.2.2; have := g7.size; omega) rfl rfl rfl rfl ?_
                 intro v8 w8 o8 g8 p8
                 obtain ⟨q8, Hq8⟩ : ∃ q, Hid ((out ++ fresh ++ [y]).length = q) := ⟨_, rfl⟩
                 obtain ⟨A8, k8, rfl, h81, _⟩ := o8.form Hq8.out
                 obtain ⟨x1, x2, x3, x4, x5⟩ := TbSt.two TW.out FW.out HA.out.2.1 BA.out g7 p7 (Below.refl w7.heap.size w7) g8 p8 o8))
            | fail)
          all_goals (have HX := Lib.hid (And.intro x1 (And.intro x2 x3)); clear x1 x2 x3)
          all_goals go_wp2
          all_goals go_roundw
          all_goals first | (case measure => simp [intOf]; omega) | skip
          all_goals exact ⟨_, out ++ fresh ++ [y], _, [], k + 1, rfl, by go_num, by omega, Lib.hid HX.out.1, OwnRw.nil_, Lib.hid HX.out.2.1, ⟨Apart.nil_, HX.out.2.2, Apart.nil_.symm⟩, show _ ≤ _ by have := HL.out; simp; omega, show _ = _ by rw [← HP.out, hs.out], show _ → _ from fun _ => rfl⟩
    · have hkn : k = n + 1 := by omega
      subst hkn
      obtain rfl := HE.out rfl
      have hout : Hid (out = backRF [] rows0 ++ [(⟨1, ⟨#[]⟩⟩ : Rw)]) := Lib.hid (by
        have := HP.out
        rw [List.drop_eq_nil_of_le (by rw [HLN.out]; exact Nat.le_refl _), HPAD.out] at this
        simpa [backTo, backRF] using this)
      have hol : Hid (out.length = n + 1) := Lib.hid (by rw [hout.out, List.length_append, HBL.out]; rfl)
      obtain ⟨A9, k9, rfl, h91, _⟩ := HT.out.own.form hol.out
      have hcut := cut_hi_rws A9 (n + 1) k9 n (by omega)
      have OS := Lib.hid (show OwnRw wr B (.slice A9 n k9) (backRF [] rows0) by
        have := HT.out.own.short (m := n) (by omega)
        rw [hout.out, List.take_left' HBL.out] at this
        exact this)
      have hgrp := HT.out.grp
      have hres := HT.out.res
      have HLOW := Lib.hid HT.out.low
      have t0 : wr.cell? ⟨G, 0, none⟩ = some (.int .i64 F) := by simp [World.cell?, hgrp]
      have t1 : wr.cell? ⟨G, 1, none⟩ = some (.int .i64 T) := by simp [World.cell?, hgrp]
      have t2 : wr.cell? ⟨G, 2, none⟩ = some (.slice A9 (n + 1) k9) := by simp [World.cell?, hgrp]
      have tf : ∀ j, wr.frozen? ⟨G, j, none⟩ = false := fun j => by simp [World.frozen?, hgrp]
      have r0 : wr.cell? ⟨w.heap.size + 1, 0, none⟩ = some (.int .i64 0) := by rw [HRR.out]; simp [World.cell?, hres]
      have r1 : wr.cell? ⟨w.heap.size + 1, 1, none⟩ = some (.int .i64 0) := by rw [HRR.out]; simp [World.cell?, hres]
      have r2 : wr.cell? ⟨w.heap.size + 1, 2, none⟩ = some (.slice none 0 0) := by rw [HRR.out]; simp [World.cell?, hres]
      have rf : ∀ j, wr.frozen? ⟨w.heap.size + 1, j, none⟩ = false := fun j => by rw [HRR.out]; simp [World.frozen?, hres]
      have hGR : G ≠ w.heap.size + 1 := by rw [← HG.out]; omega
      have hRG : w.heap.size + 1 ≠ G := hGR.symm
      have e1 : ((n : Int) + 1 - 1) = (n : Int) := by omega
      clear hgrp hres hout hol
      have HBW := Lib.hid (show w.heap.size + 3 = B from HBB.out)
      go_wp2
      (try simp only [Exit.inBlock, Exit.then])
      refine bodyPost_ret (v := .agg #[.int .i64 F, .int .i64 T, .slice A9 n k9]) (by simp [results, Tryz.results63, go_sem, r0, r1, r2]) rfl ?_
      refine ⟨_, rfl, ?_, ?_⟩
      · exact ((((OS.out.setBelow (show G < B by have := HBW.out; have := HG.out; omega) _).setBelow (show w.heap.size + 1 < B by have := HBW.out; omega) _).setBelow (show w.heap.size + 1 < B by have := HBW.out; omega) _).setBelow (show w.heap.size + 1 < B by have := HBW.out; omega) _).more (by have := HBW.out; omega)
      · exact (((HLOW.out.setCell (show w.heap.size ≤ G by have := HG.out; omega) _).setCell (show w.heap.size ≤ w.heap.size + 1 by omega) _).setCell (show w.heap.size ≤ w.heap.size + 1 by omega) _).setCell (show w.heap.size ≤ w.heap.size + 1 by omega) _

set_option maxHeartbeats 4000000 in
set_option maxRecDepth 100000 in
theorem specBackGroups_any (a : Option Addr) (n c : Nat) (g : List Gp) (w : World) (hg : Gps w a n g) (hsm : ∀ x ∈ g, x.rows.length ≤ 1048576) :
    Calls Tryz.prog 25 #[.slice a n c] w fun e w' => ∃ v vs, e = .returned (.tuple #[v, .bool (backG g).2]) ∧ OwnGp w' w.heap.size v (backG g).1 vs ∧ Below w.heap.size w w' := by
  have HN := Lib.hid hg.len
  cases hgg : goodG g
  · have hf := Lib.hid (show backG g = ([], false) from if_neg (by simp [hgg]))
    have HGG := Lib.hid hgg
    clear hgg
    go_enter Tryz.func25, Tryz.ntmps25
    go_wp2_with fail
    refine (l6Good_any a n c g _ hg hsm).mono ?_
    rintro e w1 ⟨rfl, b1⟩
    rw [HGG.out]
    go_wp2
    go_ret2
    exact ⟨_, [], by rw [hf.out]; rfl, by rw [hf.out]; exact OwnGp.nil_, b1⟩
  have hf := Lib.hid (show backG g = (g.map backGp, true) from if_pos hgg)
  have HGG := Lib.hid hgg
  have HALL := Lib.hid (goodGF_mem (show goodGF 0 0 g = true by unfold goodG at hgg; simp only [Bool.and_eq_true] at hgg; exact hgg.2))
  have hn20 : n ≤ 20 := by rw [← hg.len]; unfold goodG at hgg; simp only [Bool.and_eq_true, decide_eq_true_eq] at hgg; exact hgg.1
  clear hgg
  go_enter Tryz.func25, Tryz.ntmps25
  go_wp2_with fail
  refine (l6Good_any a n c g _ hg hsm).mono ?_
  rintro e w1 ⟨rfl, b1⟩
  rw [HGG.out]
  go_wp2
  go_loopw [4, 12] (fun lv i w' => ∃ (v : Value) (vs : List (List D)) (k : Nat), v = lv ∧ i = .int .i64 (k : Int) ∧ k ≤ n ∧ OwnGp w' w.heap.size v ((g.take k).map backGp) vs ∧ Below w.heap.size w w') (fun _ i _ => n - (intOf i).toNat)
  case atStart => exact ⟨_, [], 0, rfl, rfl, by omega, OwnGp.nil_, b1⟩
  case round =>
    obtain ⟨v, vs, k, rfl, rfl, hk, ho, hb⟩ := hrel
    by_cases hlt : k < n
    · obtain ⟨b, off, A, m, c', x, rfl, hx, c0, c1, c2, hr, hmc, hok⟩ := (hg.below hb).at_ hlt
      have HX := Lib.hid (HALL.out x (List.mem_of_getElem? hx))
      have HS := Lib.hid (show (g.take (k + 1)).map backGp = (g.take k).map backGp ++ [backGp x] by rw [take_snoc hx, List.map_append]; rfl)
      have hlen : ((g.take k).map backGp).length ≤ 20 := by simp; omega
      have hi0 := hok.at_
      have hi1 := hok.to_
      obtain ⟨W1, HW1⟩ : ∃ W1, Hid (W1 = wr.alloc (.cells #[.int .i64 x.at_, .int .i64 x.to_, .slice A m c'] 60)) := ⟨_, rfl⟩
      have HB1 := Lib.hid (show Below wr.heap.size wr W1 by rw [HW1.out]; exact below_alloc _ _)
      have HO := Lib.hid (ho.below HB1.out)
      have HBB := Lib.hid (hb.next HB1.out)
      have HRR := Lib.hid (hr.below HB1.out)
      have d0 : W1.cell? ⟨wr.heap.size, 0, none⟩ = some (.int .i64 x.at_) := by rw [HW1.out]; simp
      have d1 : W1.cell? ⟨wr.heap.size, 1, none⟩ = some (.int .i64 x.to_) := by rw [HW1.out]; simp
      have d2 : W1.cell? ⟨wr.heap.size, 2, none⟩ = some (.slice A m c') := by rw [HW1.out]; simp
      clear hx ho hr
      go_wp2_with fail
      rw [← HW1.out]
      refine (l7Back_any A m c' x _ HRR.out HX.out).mono ?_
      rintro e w2 ⟨u, rfl, o2, b2⟩
      obtain ⟨ul, HUL⟩ : ∃ m, Hid ((backRF [] x.rows).length = m) := ⟨_, rfl⟩
      obtain ⟨uA, uc, rfl, hu1, _⟩ := o2.form HUL.out
      have HO2 := Lib.hid (HO.out.below b2)
      have B2 := Lib.hid (HBB.out.next b2)
      have hfr := Lib.hid (show ∀ g', (Value.slice uA ul uc).ownBlock = some g' → ¬ BlkR v vs g' from fun g' e e2 => by have h3 := (o2.lt e).1; have h4 := (HO.out.lt e2).2; omega)
      obtain ⟨W, HW⟩ : ∃ W, Hid (W = w2.alloc (.cells #[.int .i64 x.to_, .int .i64 x.at_, .slice uA ul uc] 60)) := ⟨_, rfl⟩
      have HB := Lib.hid (show Below w2.heap.size w2 W by rw [HW.out]; exact below_alloc _ _)
      have k0 : W.cell? ⟨w2.heap.size, 0, none⟩ = some (.int .i64 x.to_) := by rw [HW.out]; simp
      have k1 : W.cell? ⟨w2.heap.size, 1, none⟩ = some (.int .i64 x.at_) := by rw [HW.out]; simp
      have k2 : W.cell? ⟨w2.heap.size, 2, none⟩ = some (.slice uA ul uc) := by rw [HW.out]; simp
      have OU := Lib.hid ((o2.more HBB.out.size).below HB.out)
      clear o2 b2 c0 c1 c2
      go_wp2_with (first
        | (at_builtin; rw [← HW.out]; refine wpList_gp (.tmp 16) (.tmp 19) w.heap.size v _ vs (HO2.out.below HB.out) (backGp x) ⟨hi1, hi0, OU.out.ok⟩ (.slice uA ul uc) OU.out hfr.out w2.heap.size k0 k1 k2 (by omega) (B2.out.next HB.out).size rfl rfl rfl rfl ?_
           intro v7 w7 o7 g7 p7
           have B7 := Lib.hid (Below.grown (B2.out.next HB.out) g7 (B2.out.next HB.out).size (fun g' e => (HO2.out.lt (List.mem_append.2 (.inl (by simp [e])))).1)))
        | fail)
      go_roundw
      case rel => exact ⟨v7, _, k + 1, rfl, by go_num, by omega, by rw [HS.out]; exact o7, B7.out⟩
      case measure => simp [intOf]; omega
    · have htk : g.take k = g := List.take_of_length_le (by rw [HN.out]; omega)
      rw [htk] at ho
      go_wp2
      go_ret2
      exact ⟨v, vs, by rw [hf.out]; rfl, by rw [hf.out]; exact ho, hb⟩

end Go.Proofs.YtkamenidgkjodaaGreatDoor
