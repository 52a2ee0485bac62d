/-
  Rows and groups are appended: the program's addRows, the model's l6Rows.
  The rows of hunks: the program's rowsOf, howManyNear.
  How many hunks are near one another: the program's howManyNear.
-/
import Derived.Test.YtkamenidgkjodaaGreatDoorQcGMem
import Derived.Test.YtkamenidgkjodaaGreatDoorQcHBases
import Derived.Test.YtkamenidgkjodaaGreatDoorQcGLaws
import Derived.Test.YtkamenidgkjodaaGreatDoorQcHPatch
import Derived.Test.YtkamenidgkjodaaGreatDoorQcHApp
import Derived.BigQuiet
import Derived.Test.YtkamenidgkjodaaGreatDoorQcGTake
import Derived.Test.YtkamenidgkjodaaGreatDoorQcHMems
set_option linter.unusedSimpArgs false
set_option linter.unusedVariables false
namespace Go.Proofs.YtkamenidgkjodaaGreatDoor
open Go.RowKit Go.ChangeShapes Go.WideShapes M

theorem OwnRw.snoc {w w' : World} {base : Nat} {v v' : Value} {l : List Rw} {x : Rw} (h : OwnRw w base v l) (hx : RwOk x) (ho : OwnR w' base v' 62 2 (l.map rwRow ++ [rwRow x])) : OwnRw w' base v' (l ++ [x]) := by
  refine ⟨by rw [List.map_append]; exact ho, fun y hy => ?_⟩
  rcases List.mem_append.1 hy with h5 | h5
  · exact h.ok y h5
  · simp at h5; rw [h5]; exact hx
theorem rwRow_cells {w : World} {gb : Nat} {x : Rw} (h0 : w.cell? ⟨gb, 0, none⟩ = some (.int .i64 x.kind)) (h1 : w.cell? ⟨gb, 1, none⟩ = some (.string x.line)) :
    ∀ j d, (rwRow x)[j]? = some d → w.cell? ((⟨gb, 0, none⟩ : Addr).add j) = some d.val := by
  intro j d hd
  match j, hd with
  | 0, hd => simp [rwRow] at hd; subst hd; simpa [Addr.add, D.val] using h0
  | 1, hd => simp [rwRow] at hd; subst hd; simpa [Addr.add, D.val] using h1
  | j + 2, hd => simp [rwRow] at hd
/-- One row is appended. -/
theorem wpList_rw {w : World} {ops : Array Oper} {rest : List Oper} {o : Oper} {a : Act} {Q : Exit → Act → World → Prop} (s y : Operand) (base : Nat) (v : Value) (l : List Rw) (hown : OwnRw w base v l) (x : Rw) (hx : RwOk x)
    (gb : Nat) (h0 : w.cell? ⟨gb, 0, none⟩ = some (.int .i64 x.kind)) (h1 : w.cell? ⟨gb, 1, none⟩ = some (.string x.line)) (hbound : l.length ≤ 1048576) (hbase : base ≤ w.heap.size)
    (hgd : Region.wanted o (yielded ops a.tmps) = true) (ho : o.op = .call { callee := .builtin .append, args := #[s, y], argTypes := #[58, 58] }) (hs : a.eval s = v) (hy : a.eval y = .slice (some ⟨gb, 0, none⟩) 1 1)
    (h : ∀ v' w', OwnRw w' base v' (l ++ [x]) → w.grownBy w' v.ownBlock → (v'.ownBlock = v.ownBlock ∨ v'.ownBlock = some w.heap.size) → wpList Tryz.prog ops Q rest (a.put o.dst v') w') : wpList Tryz.prog ops Q (o :: rest) a w := by
  obtain ⟨i, q1, q2, q3, q4⟩ := info_parts rw_info
  exact wpList_app_R Tryz.underlying58 q1 q2 q3 q4 (by simp [Value.cells]) (by omega) s y base v (l.map rwRow) hown.own (rwRow x) rfl ⟨rfl, rfl, trivial⟩ (by simp [rwRow, D.blocksL, D.blocks]) (fun g hg => by simp [rwRow, D.blocksL, D.blocks] at hg) ⟨gb, 0, none⟩ 1 (rwRow_cells h0 h1) (by rw [List.length_map]; exact hbound) (by omega) hbase hgd ho hs hy (fun v' w' o' => h v' w' (hown.snoc hx o'))

theorem gpRow_cells {w : World} {gb : Nat} {x : Gp} {u : Value} (h0 : w.cell? ⟨gb, 0, none⟩ = some (.int .i64 x.at_)) (h1 : w.cell? ⟨gb, 1, none⟩ = some (.int .i64 x.to_)) (h2 : w.cell? ⟨gb, 2, none⟩ = some u) :
    ∀ j d, (gpRow x u)[j]? = some d → w.cell? ((⟨gb, 0, none⟩ : Addr).add j) = some d.val := by
  intro j d hd
  match j, hd with
  | 0, hd => simp [gpRow] at hd; subst hd; simpa [Addr.add, D.val] using h0
  | 1, hd => simp [gpRow] at hd; subst hd; simpa [Addr.add, D.val] using h1
  | 2, hd => simp [gpRow] at hd; subst hd; simpa [Addr.add, D.val, rowsD] using h2
  | j + 3, hd => simp [gpRow] at hd
theorem gpRow_own {w : World} {base : Nat} {x : Gp} {u : Value} (hu : OwnRw w base u x.rows) : D.ownL w base (gpRow x u) ∧ (D.blocksL (gpRow x u)).Nodup := by
  refine ⟨⟨rfl, rfl, hu.datum.own, trivial⟩, ?_⟩
  simp only [gpRow, D.blocksL, D.blocks, rowsD_blocks, List.nil_append, List.append_nil]
  cases u.ownBlock <;> simp
theorem gpRow_blk {x : Gp} {u v : Value} {rows : List (List D)} (hf : ∀ g, u.ownBlock = some g → ¬ BlkR v rows g) : ∀ g ∈ D.blocksL (gpRow x u), ¬ BlkR v rows g := by
  intro g hg
  simp only [gpRow, D.blocksL, D.blocks, rowsD_blocks, List.nil_append, List.append_nil] at hg
  exact hf g (by simpa using hg)
/-- One group is appended. -/
theorem wpList_gp {w : World} {ops : Array Oper} {rest : List Oper} {o : Oper} {a : Act} {Q : Exit → Act → World → Prop} (s y : Operand) (base : Nat) (v : Value) (l : List Gp) (rows : List (List D)) (hown : OwnGp w base v l rows) (x : Gp) (hx : GpOk x) (u : Value) (hu : OwnRw w base u x.rows) (hf : ∀ g, u.ownBlock = some g → ¬ BlkR v rows g)
    (gb : Nat) (h0 : w.cell? ⟨gb, 0, none⟩ = some (.int .i64 x.at_)) (h1 : w.cell? ⟨gb, 1, none⟩ = some (.int .i64 x.to_)) (h2 : w.cell? ⟨gb, 2, none⟩ = some u) (hbound : l.length ≤ 1048576) (hbase : base ≤ w.heap.size)
    (hgd : Region.wanted o (yielded ops a.tmps) = true) (ho : o.op = .call { callee := .builtin .append, args := #[s, y], argTypes := #[24, 24] }) (hs : a.eval s = v) (hy : a.eval y = .slice (some ⟨gb, 0, none⟩) 1 1)
    (h : ∀ v' w', OwnGp w' base v' (l ++ [x]) (rows ++ [gpRow x u]) → w.grownBy w' v.ownBlock → (v'.ownBlock = v.ownBlock ∨ v'.ownBlock = some w.heap.size) → wpList Tryz.prog ops Q rest (a.put o.dst v') w') : wpList Tryz.prog ops Q (o :: rest) a w := by
  obtain ⟨i, q1, q2, q3, q4⟩ := info_parts gp_info
  obtain ⟨r1, r2⟩ := gpRow_own (x := x) hu
  exact wpList_app_R Tryz.underlying24 q1 q2 q3 q4 (by simp [Value.cells]) (by omega) s y base v rows hown.own (gpRow x u) rfl r1 r2 (gpRow_blk hf) ⟨gb, 0, none⟩ 1 (gpRow_cells h0 h1 h2) (by rw [hown.len]; exact hbound) (by omega) hbase hgd ho hs hy (fun v' w' o' => h v' w' (hown.snoc hx o'))

end Go.Proofs.YtkamenidgkjodaaGreatDoor

