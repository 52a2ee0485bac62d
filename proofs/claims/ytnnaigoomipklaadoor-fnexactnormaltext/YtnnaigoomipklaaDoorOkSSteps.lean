/-
  NormalSteps, the model's.
-/
import Derived.Test.YtnnaigoomipklaaDoorOkHPatch
import Derived.Test.YtnnaigoomipklaaDoorOkHApp
import Derived.Test.YtnnaigoomipklaaDoorOkSLaws
import Derived.Test.YtnnaigoomipklaaDoorOkSNum
set_option linter.unusedSimpArgs false
set_option linter.unusedVariables false
namespace Go.Proofs.YtnnaigoomipklaaDoor
open Go.RowKit Go.ChangeShapes Go.WideShapes M

/-- One step is appended: its six cells lie in a block of their own, both its lists are of the call's own too. -/
theorem OwnSt.snoc {w w' : World} {base : Nat} {v v' : Value} {p : List Sp} {rows : List (List D)} {x : Sp} {u u2 : Value} (h : OwnSt w base v p rows) (hx : SpOk x) (ho : OwnR w' base v' 83 6 (rows ++ [spRow x u u2])) : OwnSt w' base v' (p ++ [x]) (rows ++ [spRow x u u2]) := by
  refine ⟨by simp [h.len], ho, fun k r y hr hy => ?_, fun y hy => ?_⟩
  · rcases list_snoc_get hr with ⟨hk, hr⟩ | ⟨hk, rfl⟩
    · rcases list_snoc_get hy with ⟨_, hy⟩ | ⟨hk2, _⟩
      · exact h.row k r y hr hy
      · rw [h.len] at hk; omega
    · rcases list_snoc_get hy with ⟨hk2, _⟩ | ⟨_, rfl⟩
      · rw [h.len] at hk; omega
      · exact ⟨u, u2, rfl⟩
  · rcases List.mem_append.1 hy with h5 | h5
    · exact h.ok y h5
    · simp at h5; rw [h5]; exact hx
theorem spRow_own {w : World} {base : Nat} {x : Sp} {u u2 : Value} (hu : OwnV w base u x.old) (hu2 : OwnV w base u2 x.new) (hne : ∀ g, u.ownBlock = some g → u2.ownBlock ≠ some g) : D.ownL w base (spRow x u u2) ∧ (D.blocksL (spRow x u u2)).Nodup := by
  refine ⟨⟨rfl, rfl, hu.datum.own, rfl, rfl, hu2.datum.own, trivial⟩, ?_⟩
  simp only [spRow, D.blocksL, D.blocks, textsD_blocks, List.nil_append, List.append_nil]
  rw [List.nodup_append]
  refine ⟨by cases u.ownBlock <;> simp, by cases u2.ownBlock <;> simp, fun a ha b hb e => ?_⟩
  subst e
  exact hne a (by simpa using ha) (by simpa using hb)
theorem spRow_blk {x : Sp} {u u2 v : Value} {rows : List (List D)} (hf : ∀ g, u.ownBlock = some g → ¬ BlkR v rows g) (hf2 : ∀ g, u2.ownBlock = some g → ¬ BlkR v rows g) : ∀ g ∈ D.blocksL (spRow x u u2), ¬ BlkR v rows g := by
  intro g hg
  simp only [spRow, D.blocksL, D.blocks, textsD_blocks, List.nil_append, List.append_nil] at hg
  rcases List.mem_append.1 hg with h | h
  · exact hf g (by simpa using h)
  · exact hf2 g (by simpa using h)
theorem spRow_cells {w : World} {gb : Nat} {x : Sp} {u u2 : Value} (h0 : w.cell? ⟨gb, 0, none⟩ = some (.int .i64 x.fr)) (h1 : w.cell? ⟨gb, 1, none⟩ = some (.int .i64 x.to_)) (h2 : w.cell? ⟨gb, 2, none⟩ = some u) (h3 : w.cell? ⟨gb, 3, none⟩ = some (.int .i64 x.at_)) (h4 : w.cell? ⟨gb, 4, none⟩ = some (.int .i64 x.en)) (h5 : w.cell? ⟨gb, 5, none⟩ = some u2) :
    ∀ j d, (spRow x u u2)[j]? = some d → w.cell? ((⟨gb, 0, none⟩ : Addr).add j) = some d.val := by
  intro j d hd
  match j, hd with
  | 0, hd => simp [spRow] at hd; subst hd; simpa [Addr.add, D.val] using h0
  | 1, hd => simp [spRow] at hd; subst hd; simpa [Addr.add, D.val] using h1
  | 2, hd => simp [spRow] at hd; subst hd; simpa [Addr.add, D.val, textsD] using h2
  | 3, hd => simp [spRow] at hd; subst hd; simpa [Addr.add, D.val] using h3
  | 4, hd => simp [spRow] at hd; subst hd; simpa [Addr.add, D.val] using h4
  | 5, hd => simp [spRow] at hd; subst hd; simpa [Addr.add, D.val, textsD] using h5
  | j + 6, hd => simp [spRow] at hd

theorem wpList_sp {w : World} {ops : Array Oper} {rest : List Oper} {o : Oper} {a : Act} {Q : Exit → Act → World → Prop} (s y : Operand) (base : Nat) (v : Value) (p : List Sp) (rows : List (List D)) (hown : OwnSt w base v p rows) (x : Sp) (hx : SpOk x) (u u2 : Value) (hu : OwnV w base u x.old) (hu2 : OwnV w base u2 x.new)
    (hf : ∀ g, u.ownBlock = some g → ¬ BlkR v rows g) (hf2 : ∀ g, u2.ownBlock = some g → ¬ BlkR v rows g) (hne : ∀ g, u.ownBlock = some g → u2.ownBlock ≠ some g)
    (gb : Nat) (h0 : w.cell? ⟨gb, 0, none⟩ = some (.int .i64 x.fr)) (h1 : w.cell? ⟨gb, 1, none⟩ = some (.int .i64 x.to_)) (h2 : w.cell? ⟨gb, 2, none⟩ = some u) (h3 : w.cell? ⟨gb, 3, none⟩ = some (.int .i64 x.at_)) (h4 : w.cell? ⟨gb, 4, none⟩ = some (.int .i64 x.en)) (h5 : w.cell? ⟨gb, 5, none⟩ = some u2) (hbound : p.length ≤ 1048576) (hbase : base ≤ w.heap.size)
    (hgd : Region.wanted o (yielded ops a.tmps) = true) (ho : o.op = .call { callee := .builtin .append, args := #[s, y], argTypes := #[44, 44] }) (hs : a.eval s = v) (hy : a.eval y = .slice (some ⟨gb, 0, none⟩) 1 1)
    (h : ∀ v' w', OwnSt w' base v' (p ++ [x]) (rows ++ [spRow x u u2]) → w.grownBy w' v.ownBlock → (v'.ownBlock = v.ownBlock ∨ v'.ownBlock = some w.heap.size) → wpList Tryd.prog ops Q rest (a.put o.dst v') w') : wpList Tryd.prog ops Q (o :: rest) a w := by
  obtain ⟨i, q1, q2, q3, q4⟩ := info_parts sp_info
  obtain ⟨r1, r2⟩ := spRow_own (x := x) hu hu2 hne
  exact wpList_app_R Tryd.underlying44 q1 q2 q3 q4 (by simp [Value.cells]) (by omega) s y base v rows hown.own (spRow x u u2) rfl r1 r2 (spRow_blk hf hf2) ⟨gb, 0, none⟩ 1 (spRow_cells h0 h1 h2 h3 h4 h5) (by rw [hown.len]; exact hbound) (by omega) hbase hgd ho hs hy (fun v' w' o' => h v' w' (hown.snoc hx o'))
theorem step_sp {w : World} {ops : Array Oper} {o : Oper} {a : Act} {K : Act → World → Prop} {Q : Exit → Act → World → Prop} {E : Prop} (s y : Operand) (base : Nat) (v : Value) (p : List Sp) (rows : List (List D)) (hown : OwnSt w base v p rows) (x : Sp) (hx : SpOk x) (u u2 : Value) (hu : OwnV w base u x.old) (hu2 : OwnV w base u2 x.new)
    (hf : ∀ g, u.ownBlock = some g → ¬ BlkR v rows g) (hf2 : ∀ g, u2.ownBlock = some g → ¬ BlkR v rows g) (hne : ∀ g, u.ownBlock = some g → u2.ownBlock ≠ some g)
    (gb : Nat) (h0 : w.cell? ⟨gb, 0, none⟩ = some (.int .i64 x.fr)) (h1 : w.cell? ⟨gb, 1, none⟩ = some (.int .i64 x.to_)) (h2 : w.cell? ⟨gb, 2, none⟩ = some u) (h3 : w.cell? ⟨gb, 3, none⟩ = some (.int .i64 x.at_)) (h4 : w.cell? ⟨gb, 4, none⟩ = some (.int .i64 x.en)) (h5 : w.cell? ⟨gb, 5, none⟩ = some u2) (hbound : p.length ≤ 1048576) (hbase : base ≤ w.heap.size)
    (hgd : Region.wanted o (yielded ops a.tmps) = true) (ho : o.op = .call { callee := .builtin .append, args := #[s, y], argTypes := #[44, 44] }) (hs : a.eval s = v) (hy : a.eval y = .slice (some ⟨gb, 0, none⟩) 1 1)
    (h : ∀ v' w', OwnSt w' base v' (p ++ [x]) (rows ++ [spRow x u u2]) → w.grownBy w' v.ownBlock → (v'.ownBlock = v.ownBlock ∨ v'.ownBlock = some w.heap.size) → K (a.put o.dst v') w') : if Region.wanted o (yielded ops a.tmps) = true then Oper.wp Tryd.prog o a w K Q else E := by
  obtain ⟨i, q1, q2, q3, q4⟩ := info_parts sp_info
  obtain ⟨r1, r2⟩ := spRow_own (x := x) hu hu2 hne
  exact step_app_R Tryd.underlying44 q1 q2 q3 q4 (by simp [Value.cells]) (by omega) s y base v rows hown.own (spRow x u u2) rfl r1 r2 (spRow_blk hf hf2) ⟨gb, 0, none⟩ 1 (spRow_cells h0 h1 h2 h3 h4 h5) (by rw [hown.len]; exact hbound) (by omega) hbase hgd ho hs hy (fun v' w' o' => h v' w' (hown.snoc hx o'))

/-- A step that has been made beside steps of the call's own: its cells in a block, both lists in blocks apart; the block of a hunk stays. -/
structure Laid (w W : World) (base gb hb : Nat) (go : Int) (u : Value) (out : List Sp) (vs : List (List D)) (x : Sp) (v5 v6 : Value) : Prop where
  c0 : W.cell? ⟨gb, 0, none⟩ = some (.int .i64 x.fr)
  c1 : W.cell? ⟨gb, 1, none⟩ = some (.int .i64 x.to_)
  c2 : W.cell? ⟨gb, 2, none⟩ = some v5
  c3 : W.cell? ⟨gb, 3, none⟩ = some (.int .i64 x.at_)
  c4 : W.cell? ⟨gb, 4, none⟩ = some (.int .i64 x.en)
  c5 : W.cell? ⟨gb, 5, none⟩ = some v6
  own : OwnSt W base u out vs
  o5 : OwnV W base v5 x.old
  o6 : OwnV W base v6 x.new
  low : Below w.heap.size w W
  gone : W.cell? ⟨hb, 1, none⟩ = some (.int .i64 go)
def zeroSp : Array Value := #[.int .i64 0, .int .i64 0, .slice none 0 0, .int .i64 0, .int .i64 0, .slice none 0 0]
theorem laid_last {w W : World} {base hb : Nat} {go : Int} {u : Value} {out : List Sp} {vs : List (List D)} {v5 v6 : Value} (x : Sp) (h1 : OwnSt W base u out vs) (h2 : OwnV W base v5 x.old) (h3 : OwnV W base v6 x.new) (h4 : Below w.heap.size w W) (h5 : W.cell? ⟨hb, 1, none⟩ = some (.int .i64 go)) :
    Laid w (W.alloc (.cells #[.int .i64 x.fr, .int .i64 x.to_, v5, .int .i64 x.at_, .int .i64 x.en, v6] 83)) base W.heap.size hb go u out vs x v5 v6 :=
  ⟨by simp, by simp, by simp, by simp, by simp, by simp, h1.below (below_alloc _ _), h2.below (below_alloc _ _), h3.below (below_alloc _ _), h4.next (below_alloc _ _), cell_keep (below_alloc _ _) h5⟩
theorem laid_set {w W : World} {base gb hb : Nat} {go : Int} {u : Value} {out : List Sp} {vs : List (List D)} {v5 v6 : Value} (x : Sp) (hz : W.heap[gb]? = some (.cells zeroSp 83 (0, 0))) (h1 : OwnSt W base u out vs) (h2 : OwnV W base v5 x.old) (h3 : OwnV W base v6 x.new) (h4 : Below w.heap.size w W) (h5 : W.cell? ⟨hb, 1, none⟩ = some (.int .i64 go))
    (n1 : ¬ BlkR u vs gb) (n2 : v5.ownBlock ≠ some gb) (n3 : v6.ownBlock ≠ some gb) (n4 : w.heap.size ≤ gb) (n5 : gb ≠ hb) :
    Laid w ((((((W.setCell ⟨gb, 0, none⟩ (.int .i64 x.fr)).setCell ⟨gb, 1, none⟩ (.int .i64 x.to_)).setCell ⟨gb, 2, none⟩ v5).setCell ⟨gb, 3, none⟩ (.int .i64 x.at_)).setCell ⟨gb, 4, none⟩ (.int .i64 x.en)).setCell ⟨gb, 5, none⟩ v6) base gb hb go u out vs x v5 v6 := by
  obtain ⟨W7, HW⟩ : ∃ W7, W7 = (((((W.setCell ⟨gb, 0, none⟩ (.int .i64 x.fr)).setCell ⟨gb, 1, none⟩ (.int .i64 x.to_)).setCell ⟨gb, 2, none⟩ v5).setCell ⟨gb, 3, none⟩ (.int .i64 x.at_)).setCell ⟨gb, 4, none⟩ (.int .i64 x.en)).setCell ⟨gb, 5, none⟩ v6 := ⟨_, rfl⟩
  rw [← HW]
  have hq : W7.heap[gb]? = some (.cells #[.int .i64 x.fr, .int .i64 x.to_, v5, .int .i64 x.at_, .int .i64 x.en, v6] 83 (0, 0)) := by
    rw [HW]; exact heap_set_same (heap_set_same (heap_set_same (heap_set_same (heap_set_same (heap_set_same hz)))))
  have hw : Wrote (fun i => i = gb) W W7 := by
    rw [HW]
    exact (((((Wrote.set (fun i => i = gb) W _ _ rfl).trans (Wrote.set (fun i => i = gb) _ _ _ rfl) (fun _ _ e => e)).trans (Wrote.set (fun i => i = gb) _ _ _ rfl) (fun _ _ e => e)).trans (Wrote.set (fun i => i = gb) _ _ _ rfl) (fun _ _ e => e)).trans (Wrote.set (fun i => i = gb) _ _ _ rfl) (fun _ _ e => e)).trans (Wrote.set (fun i => i = gb) _ _ _ rfl) (fun _ _ e => e)
  refine ⟨by simp [World.cell?, hq], by simp [World.cell?, hq], by simp [World.cell?, hq], by simp [World.cell?, hq], by simp [World.cell?, hq], by simp [World.cell?, hq], h1.wrote hw (fun g e e2 => n1 (e2 ▸ e)), h2.wrote hw (fun g e e2 => n2 (e2 ▸ e)), h3.wrote hw (fun g e e2 => n3 (e2 ▸ e)), Wrote.below' h4 hw (fun k e => e ▸ n4), ?_⟩
  have hlt := cell_lt h5
  have hb := hw.block hb hlt (fun e => n5 e.symm)
  unfold World.cell? at h5 ⊢
  simp only at h5 ⊢
  rw [hb]
  exact h5

end Go.Proofs.YtnnaigoomipklaaDoor
