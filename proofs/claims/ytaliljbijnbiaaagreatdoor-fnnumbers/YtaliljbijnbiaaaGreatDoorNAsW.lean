/-
  errors.As at a target of the program's own fault type: its walks.
-/
import Derived.Test.YtaliljbijnbiaaaGreatDoorNAs
set_option linter.unusedSimpArgs false
set_option linter.unusedVariables false
namespace Go.Proofs.YtaliljbijnbiaaaGreatDoor
open Go.RowKit Go.Extern.Stop Go.Stop Go.Extern

theorem cell_of {w : World} {g : Nat} {cs : Array Value} {t : TypeId} {fr : Nat × Nat} (h : w.heap[g]? = some (.cells cs t fr)) (i : Nat) : w.cell? ⟨g, i, none⟩ = cs[i]? := by simp [World.cell?, h]
theorem free_of {w : World} {g : Nat} {cs : Array Value} {t : TypeId} (h : w.heap[g]? = some (.cells cs t (0, 0))) (i : Nat) : w.frozen? ⟨g, i, none⟩ = false := by simp [World.frozen?, h]

theorem set_block {w : World} {g i : Nat} {cs : Array Value} {t : TypeId} {fr : Nat × Nat} (h : w.heap[g]? = some (.cells cs t fr)) (v : Value) : (w.setCell ⟨g, i, none⟩ v).heap[g]? = some (.cells (cs.setIfInBounds i v) t fr) := by
  simp [World.setCell, Array.getElem?_modify, h]

theorem run_load2 (c : Nat) (n m : Int) (W : World) (h : W.heap[c]? = some (.cells #[.int .i64 n, .int .i64 m] 50 (0, 0))) :
    (loadVar 50 ⟨c, 0, none⟩).run Tryz.prog W = .ok (.agg #[.int .i64 n, .int .i64 m]) W := by
  have h2 := run_loadCells_list (P := Tryz.prog) (w := W) ⟨c, 0, none⟩ [.int .i64 n, .int .i64 m] (by
    intro k v hk
    rcases k with _ | _ | k
    · simp at hk; subst hk; simpa [Addr.add] using cell_of h 0
    · simp at hk; subst hk; simpa [Addr.add] using cell_of h 1
    · simp at hk)
  have h3 : (loadCells ⟨c, 0, none⟩ 2).run Tryz.prog W = .ok #[.int .i64 n, .int .i64 m] W := by simpa using h2
  simp only [loadVar, Sem.run_bind, xIsAgg, xSize, Result.andThen_ok, if_true, h3, Sem.run_pure]

theorem run_store2 (g : Nat) (n m : Int) (x y : Value) (W : World) (h : W.heap[g]? = some (.cells #[x, y] 50 (0, 0))) :
    (storeVar 50 ⟨g, 0, none⟩ (.agg #[.int .i64 n, .int .i64 m])).run Tryz.prog W = .ok () ((W.setCell ⟨g, 0, none⟩ (.int .i64 n)).setCell ⟨g, 1, none⟩ (.int .i64 m)) := by
  have c0 := cell_of h 0
  have f0 := free_of h 0
  have hb := set_block (i := 0) h (.int .i64 n)
  have c1 := cell_of hb 1
  have f1 := free_of hb 1
  simp at c0 c1
  simp only [storeVar, Sem.run_bind, xSize, Result.andThen_ok, Value.cells]
  simp [storeCells, Addr.add]
  rw [run_store Tryz.prog W ⟨g, 0, none⟩ _ _ (by rfl)]
  simp [c0, f0]
  rw [run_store Tryz.prog _ ⟨g, 1, none⟩ _ _ (by rfl)]
  simp [c1, f1]

theorem xSet (g c : Nat) (n m : Int) (x y : Value) (W : World) (hg : W.heap[g]? = some (.cells #[x, y] 50 (0, 0))) (hc : W.heap[c]? = some (.cells #[.int .i64 n, .int .i64 m] 50 (0, 0))) :
    (ReflectliteValue.set #[.agg #[.pointer (some ⟨7, 50, none⟩), .pointer (some ⟨g, 0, none⟩), .int .u64 409], .agg #[.pointer (some ⟨7, 50, none⟩), .pointer (some ⟨c, 0, none⟩), .int .u64 153]]).run Tryz.prog W
      = .ok (.tuple #[]) ((W.setCell ⟨g, 0, none⟩ (.int .i64 n)).setCell ⟨g, 1, none⟩ (.int .i64 m)) := by
  obtain ⟨v, hv⟩ : ∃ v, v = Value.agg #[.pointer (some ⟨7, 50, none⟩), .pointer (some ⟨g, 0, none⟩), .int .u64 409] := ⟨_, rfl⟩
  obtain ⟨u, hu⟩ : ∃ u, u = Value.agg #[.pointer (some ⟨7, 50, none⟩), .pointer (some ⟨c, 0, none⟩), .int .u64 153] := ⟨_, rfl⟩
  have h1 := xPartsA ⟨g, 0, none⟩ W
  have h2 := xPartsF ⟨c, 0, none⟩ W
  rw [← hv] at h1 ⊢
  rw [← hu] at h2 ⊢
  change Sem.run Tryz.prog (ReflectliteValue.parts v >>= _) W = _
  rw [Sem.run_bind, h1, Result.andThen_ok]
  change Sem.run Tryz.prog (ReflectliteValue.parts u >>= _) W = _
  rw [Sem.run_bind, h2, Result.andThen_ok]
  simp [ReflectliteValue.flagAddr, run_load2 c n m W hc, xDirect, run_store2 g n m x y W hg]

end Go.Proofs.YtaliljbijnbiaaaGreatDoor
