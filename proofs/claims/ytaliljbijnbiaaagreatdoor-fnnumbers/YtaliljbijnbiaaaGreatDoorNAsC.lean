/-
  errors.As at a target of the program's own fault type: its contracts.
-/
import Derived.Test.YtaliljbijnbiaaaGreatDoorNAsW
set_option linter.unusedSimpArgs false
set_option linter.unusedVariables false
namespace Go.Proofs.YtaliljbijnbiaaaGreatDoor
open Go.RowKit Go.Extern.Stop Go.Stop Go.Extern

/-- The library's own variable that holds the type of 'error'. -/
def ErrT (w : World) : Prop := w.cell? ⟨0, 0, none⟩ = some (.iface 83 (.agg #[.pointer (some ⟨7, 39, none⟩)]))
theorem ErrT.below {w w' : World} (h : ErrT w) (hb : Below w.heap.size w w') : ErrT w' := cell_keep hb h

abbrev oA (g : Nat) : Obj := .cells #[.pointer (some ⟨g, 0, none⟩)] 52
abbrev oV (b : Nat) : Obj := .cells #[.pointer (some ⟨7, 52, none⟩), .pointer (some ⟨b, 0, none⟩), .int .u64 150] 69

set_option maxHeartbeats 4000000 in
theorem as_miss (t : Value) (g : Nat) (w : World) (hg : ErrT w) :
    Calls Tryz.prog 37 #[.iface 64 t, .iface 52 (.pointer (some ⟨g, 0, none⟩))] w fun ev w' => ev = .returned (.bool false) ∧ w' = ((w.alloc (oA g)).alloc (oV w.heap.size)).alloc (oV w.heap.size) := by
  have h1 := @run_callFunc_extern Tryz.prog 50 _ (fun args => ReflectliteValue.unpack (args.getD 0 (.tuple #[]))) Tryz.func50 (by kernel_rfl) (by kernel_rfl) (by kernel_rfl) (by kernel_rfl)
  have h2 := @run_callFunc_extern Tryz.prog 51 _ (ReflectliteValue.methodAny (ReflectliteValue.valueError "reflectlite.Value.Type" 0) (fun t _ _ _ => ReflectliteType.toType t)) Tryz.func51 (by kernel_rfl) (by kernel_rfl) (by kernel_rfl) (by kernel_rfl)
  have h3 := @run_callFunc_extern Tryz.prog 52 _ (ReflectliteValue.method (ReflectliteValue.valueError "reflectlite.Value.IsNil" 0) ReflectliteValue.isNil) Tryz.func52 (by kernel_rfl) (by kernel_rfl) (by kernel_rfl) (by kernel_rfl)
  have h4 := @run_callFunc_extern Tryz.prog 107 _ (ReflectliteType.abiMethod fun t => do pure (.int .u8 (← Rtype.kind t))) Tryz.func107 (by kernel_rfl) (by kernel_rfl) (by kernel_rfl) (by kernel_rfl)
  have h5 := @run_callFunc_extern Tryz.prog 119 _ (ReflectliteType.method ReflectliteType.elem) Tryz.func119 (by kernel_rfl) (by kernel_rfl) (by kernel_rfl) (by kernel_rfl)
  have h6 := @run_callFunc_extern Tryz.prog 120 _ (ReflectliteType.relation "Implements" ReflectliteType.implements_) Tryz.func120 (by kernel_rfl) (by kernel_rfl) (by kernel_rfl) (by kernel_rfl)
  have h7 := @run_callFunc_extern Tryz.prog 60 _ ReflectliteType.typeOf Tryz.func60 (by kernel_rfl) (by kernel_rfl) (by kernel_rfl) (by kernel_rfl)
  have h8 := @run_callFunc_extern Tryz.prog 117 _ (ReflectliteType.relation "AssignableTo" ReflectliteType.assignableTo) Tryz.func117 (by kernel_rfl) (by kernel_rfl) (by kernel_rfl) (by kernel_rfl)
  have f1 := xValueOf
  have f2 := xType
  have mK := xMethodKind
  have mE := xMethodElem
  have mI := xMethodImplements
  have mA := xMethodAssignable
  have kP := xKindP
  have kS := xKindS
  have eP := xElem
  have iS := xImplements
  have tN := xTypeOfN
  have aN := xAssignableN
  have n1 := xNoAs
  have n2 := xNoUnwrap
  have n3 := xNoUnwraps
  have nil3 := xIsNil ⟨w.heap.size, 0, none⟩ ⟨g, 0, none⟩ ((w.alloc (oA g)).alloc (oV w.heap.size)) (by simp)
  have hlt : 0 < w.heap.size := cell_lt hg
  have hg2 : ((w.alloc (oA g)).alloc (oV w.heap.size)).cell? ⟨0, 0, none⟩ = some (.iface 83 (.agg #[.pointer (some ⟨7, 39, none⟩)])) := by
    rw [World.cell?_alloc_lt _ _ ⟨0, 0, none⟩ (by first | (simp; done) | (simp; omega)), World.cell?_alloc_lt _ _ ⟨0, 0, none⟩ hlt]; exact hg
  clear hg
  go_enter Tryz.func37, Tryz.ntmps37
  go_wp2
  refine wp_loop_rounds 1 ?_
  rw [rounds_succ]
  go_wp2
  go_ret
  exact ⟨rfl, rfl⟩

set_option maxHeartbeats 4000000 in
theorem as_hit0 (n m : Int) (g : Nat) (x y : Value) (w : World) (hg : ErrT w) (ht : w.heap[g]? = some (.cells #[x, y] 50 (0, 0))) :
    Calls Tryz.prog 37 #[.iface 50 (.agg #[.int .i64 n, .int .i64 m]), .iface 52 (.pointer (some ⟨g, 0, none⟩))] w fun ev w' => ev = .returned (.bool true) ∧ w' = (((((w.alloc (oA g)).alloc (oV w.heap.size)).alloc (oV w.heap.size)).alloc (.cells #[.int .i64 n, .int .i64 m] 50)).setCell ⟨g, 0, none⟩ (.int .i64 n)).setCell ⟨g, 1, none⟩ (.int .i64 m) := by
  have h1 := @run_callFunc_extern Tryz.prog 50 _ (fun args => ReflectliteValue.unpack (args.getD 0 (.tuple #[]))) Tryz.func50 (by kernel_rfl) (by kernel_rfl) (by kernel_rfl) (by kernel_rfl)
  have h2 := @run_callFunc_extern Tryz.prog 51 _ (ReflectliteValue.methodAny (ReflectliteValue.valueError "reflectlite.Value.Type" 0) (fun t _ _ _ => ReflectliteType.toType t)) Tryz.func51 (by kernel_rfl) (by kernel_rfl) (by kernel_rfl) (by kernel_rfl)
  have h3 := @run_callFunc_extern Tryz.prog 52 _ (ReflectliteValue.method (ReflectliteValue.valueError "reflectlite.Value.IsNil" 0) ReflectliteValue.isNil) Tryz.func52 (by kernel_rfl) (by kernel_rfl) (by kernel_rfl) (by kernel_rfl)
  have h4 := @run_callFunc_extern Tryz.prog 107 _ (ReflectliteType.abiMethod fun t => do pure (.int .u8 (← Rtype.kind t))) Tryz.func107 (by kernel_rfl) (by kernel_rfl) (by kernel_rfl) (by kernel_rfl)
  have h5 := @run_callFunc_extern Tryz.prog 119 _ (ReflectliteType.method ReflectliteType.elem) Tryz.func119 (by kernel_rfl) (by kernel_rfl) (by kernel_rfl) (by kernel_rfl)
  have h6 := @run_callFunc_extern Tryz.prog 120 _ (ReflectliteType.relation "Implements" ReflectliteType.implements_) Tryz.func120 (by kernel_rfl) (by kernel_rfl) (by kernel_rfl) (by kernel_rfl)
  have h7 := @run_callFunc_extern Tryz.prog 60 _ ReflectliteType.typeOf Tryz.func60 (by kernel_rfl) (by kernel_rfl) (by kernel_rfl) (by kernel_rfl)
  have h8 := @run_callFunc_extern Tryz.prog 117 _ (ReflectliteType.relation "AssignableTo" ReflectliteType.assignableTo) Tryz.func117 (by kernel_rfl) (by kernel_rfl) (by kernel_rfl) (by kernel_rfl)
  have h9 := @run_callFunc_extern Tryz.prog 61 _ (ReflectliteValue.method (ReflectliteValue.valueError "reflectlite.Value.Elem" 0) ReflectliteValue.elem) Tryz.func61 (by kernel_rfl) (by kernel_rfl) (by kernel_rfl) (by kernel_rfl)
  have h10 := @run_callFunc_extern Tryz.prog 62 _ ReflectliteValue.set Tryz.func62 (by kernel_rfl) (by kernel_rfl) (by kernel_rfl) (by kernel_rfl)
  have f1 := xValueOf
  have f2 := xType
  have mK := xMethodKind
  have mE := xMethodElem
  have mI := xMethodImplements
  have mA := xMethodAssignable
  have kP := xKindP
  have kS := xKindS
  have eP := xElem
  have iS := xImplements
  have tF := xTypeOfF
  have aF := xAssignableF
  have vF := xValueOfF
  have nil3 := xIsNil ⟨w.heap.size, 0, none⟩ ⟨g, 0, none⟩ ((w.alloc (oA g)).alloc (oV w.heap.size)) (by simp)
  have hlt : 0 < w.heap.size := cell_lt hg
  have hg2 : ((w.alloc (oA g)).alloc (oV w.heap.size)).cell? ⟨0, 0, none⟩ = some (.iface 83 (.agg #[.pointer (some ⟨7, 39, none⟩)])) := by
    rw [World.cell?_alloc_lt _ _ ⟨0, 0, none⟩ (by first | (simp; done) | (simp; omega)), World.cell?_alloc_lt _ _ ⟨0, 0, none⟩ hlt]; exact hg
  have hgl : g < w.heap.size := by
    apply Decidable.byContradiction
    intro h'
    rw [Array.getElem?_eq_none (by omega)] at ht
    cases ht
  have el := xElemV ⟨w.heap.size, 0, none⟩ ⟨g, 0, none⟩ (((w.alloc (oA g)).alloc (oV w.heap.size)).alloc (oV w.heap.size)) (by rw [World.cell?_alloc_lt _ _ ⟨w.heap.size, 0, none⟩ (by simp; omega)]; simp)
  have st := xSet g (w.heap.size + 1 + 1 + 1) n m x y ((((w.alloc (oA g)).alloc (oV w.heap.size)).alloc (oV w.heap.size)).alloc (.cells #[.int .i64 n, .int .i64 m] 50))
    (by
      have b4 : Below w.heap.size w ((((w.alloc (oA g)).alloc (oV w.heap.size)).alloc (oV w.heap.size)).alloc (.cells #[.int .i64 n, .int .i64 m] 50)) := (((below_alloc w _).next (below_alloc _ _)).next (below_alloc _ _)).next (below_alloc _ _)
      rw [b4.block g hgl]; exact ht)
    (by
      have := heap_alloc_new (((w.alloc (oA g)).alloc (oV w.heap.size)).alloc (oV w.heap.size)) (.cells #[.int .i64 n, .int .i64 m] 50)
      simpa using this)
  clear hg ht
  go_enter Tryz.func37, Tryz.ntmps37
  go_wp2
  refine wp_loop_rounds 1 ?_
  rw [rounds_succ]
  go_wp2
  go_ret
  exact ⟨rfl, rfl⟩

/-- The fault is of that type: it is laid into the target, and all else is as it was. -/
theorem as_hit (n m : Int) (g : Nat) (x y : Value) (w : World) (hg : ErrT w) (ht : w.heap[g]? = some (.cells #[x, y] 50 (0, 0))) :
    Calls Tryz.prog 37 #[.iface 50 (.agg #[.int .i64 n, .int .i64 m]), .iface 52 (.pointer (some ⟨g, 0, none⟩))] w fun ev w' => ev = .returned (.bool true) ∧
      w'.heap[g]? = some (.cells #[.int .i64 n, .int .i64 m] 50 (0, 0)) ∧ ∀ B a, B ≤ g → B ≤ w.heap.size → Below B a w → Below B a w' := by
  refine (as_hit0 n m g x y w hg ht).mono ?_
  rintro ev w' ⟨rfl, rfl⟩
  have hgl : g < w.heap.size := by
    apply Decidable.byContradiction
    intro h'
    rw [Array.getElem?_eq_none (by omega)] at ht
    cases ht
  have b4 : Below w.heap.size w ((((w.alloc (oA g)).alloc (oV w.heap.size)).alloc (oV w.heap.size)).alloc (.cells #[.int .i64 n, .int .i64 m] 50)) := (((below_alloc w _).next (below_alloc _ _)).next (below_alloc _ _)).next (below_alloc _ _)
  have h4 := (b4.block g hgl).trans ht
  refine ⟨rfl, ?_, fun B a h1 h2 hb => ?_⟩
  · have h5 := set_block (i := 0) h4 (.int .i64 n)
    have h6 := set_block (i := 1) h5 (.int .i64 m)
    simpa using h6
  · exact ((hb.trans (b4.mono h2)).setCell h1 _).setCell h1 _

end Go.Proofs.YtaliljbijnbiaaaGreatDoor
