/-
  strings.Builder, one that the call has made: what it holds, and WriteString.
-/
import Derived.Test.YtnnaigoomipklaaDoorProg
import Derived.Test.YtnnaigoomipklaaDoorOkMemT
import Derived.Test.YtnnaigoomipklaaDoorOkShelf
import Derived.Lib.Builder
import Derived.Lib.AppendStr
set_option linter.unusedSimpArgs false
set_option linter.unusedVariables false
namespace Go.Proofs.YtnnaigoomipklaaDoor
open Go.RowKit M

/-- A builder in block b, of the call's own from 'base' on, that holds these bytes. -/
def Bld (w : World) (base b : Nat) (l : List UInt8) : Prop := Lib.IsBuilder 58 5 base b (Lib.byteCells l) w

theorem bld_size : (Tryd.prog.info? 58).map (·.size) = some 2 := by kernel_rfl
theorem bld_lies : liesAt Tryd.prog Tryd.prog.depth 58 (2 / Tryd.prog.cellsOf 58) 0 58 1 = true := by kernel_rfl
theorem byte_info : (Tryd.prog.info? 5).map (fun i => (i.zero, i.size, i.bytes)) = some (some (.int .u8 0), 1, 1) := by kernel_rfl

set_option maxHeartbeats 1000000 in
set_option maxRecDepth 100000 in
theorem check_old (b : Nat) (w : World) (h0 : w.cell? ⟨b, 0, none⟩ = some (.pointer (some ⟨b, 0, none⟩))) :
    Calls Tryd.prog 57 #[.pointer (some ⟨b, 0, none⟩)] w fun e w' => e = .returned (.tuple #[]) ∧ w' = w := by
  obtain ⟨j, hj, _⟩ := Option.map_eq_some_iff.1 bld_size
  have hsame := Lib.run_neq_ptr_same (P := Tryd.prog) (w := w) ⟨b, 0, none⟩ Tryd.underlying55 hj
  go_enter Tryd.func57, Tryd.ntmps57
  go_wp2
  (try rw [hsame])
  go_wp2
  go_end0
  exact ⟨rfl, rfl⟩

set_option maxHeartbeats 1000000 in
set_option maxRecDepth 100000 in
theorem check_new (b : Nat) (w : World) (h0 : w.cell? ⟨b, 0, none⟩ = some (.pointer none)) (hsh : w.shape? b = some (58, 2)) (hfz : w.frozen? ⟨b, 0, none⟩ = false) :
    Calls Tryd.prog 57 #[.pointer (some ⟨b, 0, none⟩)] w fun e w' => e = .returned (.tuple #[]) ∧ w' = w.setCell ⟨b, 0, none⟩ (.pointer (some ⟨b, 0, none⟩)) := by
  obtain ⟨j, hj, hjs⟩ := Option.map_eq_some_iff.1 bld_size
  have h1 := Lib.run_to_unsafe (P := Tryd.prog) (w := w) ⟨b, 0, none⟩ Tryd.underlying55 Tryd.underlying130 hj (by rw [hjs]; decide) hsh (Nat.zero_lt_succ 1)
  have h2 := Lib.run_from_unsafe (P := Tryd.prog) (w := w) ⟨b, 0, none⟩ Tryd.underlying130 Tryd.underlying55 hj hsh bld_lies
  go_enter Tryd.func57, Tryd.ntmps57
  go_wp2
  rw [run_callFunc_extern Tryd.func84 (by kernel_rfl) (by kernel_rfl) (by kernel_rfl) (e := Extern.AbiNoEscape.same) (by kernel_rfl)]
  rw [Lib.run_noEscape]
  simp only [Result.andThen]
  rw [Oper.upon_value]
  go_wp2
  go_end0
  exact ⟨rfl, rfl⟩

theorem copyCheck_any (base b : Nat) (l : List UInt8) (w : World) (h : Bld w base b l) :
    Calls Tryd.prog 57 #[.pointer (some ⟨b, 0, none⟩)] w fun e w' => e = .returned (.tuple #[]) ∧ Lib.BuilderAt 58 5 base b (.pointer (some ⟨b, 0, none⟩)) (Lib.byteCells l) w' ∧ Below base w w' := by
  rcases h with h | h
  · refine (check_new b w h.cell0 h.shape h.frozen0).mono ?_
    rintro e w' ⟨rfl, rfl⟩
    exact ⟨rfl, h.used _, (Below.refl _ _).setCell h.1 _⟩
  · refine (check_old b w h.cell0).mono ?_
    rintro e w' ⟨rfl, rfl⟩
    exact ⟨rfl, h, Below.refl _ _⟩

theorem bytes_cells (l : List UInt8) (s : ByteArray) : Lib.byteCells l ++ Lib.strCells s = Lib.byteCells (l ++ s.data.toList) := by
  unfold Lib.byteCells Lib.strCells
  simp

set_option maxHeartbeats 2000000 in
set_option maxRecDepth 100000 in
theorem WriteString_any (base b : Nat) (l : List UInt8) (s : ByteArray) (w : World) (h : Bld w base b l) (hlen : l.length + s.size ≤ 4294967296) (hbase : base ≤ w.heap.size) :
    Calls Tryd.prog 32 #[.pointer (some ⟨b, 0, none⟩), .string s] w fun e w' => (∃ r, e = .returned r) ∧ Bld w' base b (l ++ s.data.toList) ∧ Below base w w' := by
  obtain ⟨i, q1, q2, q3, q4⟩ := info_parts byte_info
  have HLN := Lib.hid (show (Lib.byteCells l).length = l.length by simp [Lib.byteCells])
  go_enter Tryd.func32, Tryd.ntmps32
  go_wp2_with fail
  refine (copyCheck_any base b l _ h).mono ?_
  rintro e w1 ⟨rfl, h1, b1⟩
  obtain ⟨hB, v, hbk, hown, hne⟩ := h1
  have c1 : w1.cell? ⟨b, 1, none⟩ = some v := by simp [World.cell?, hbk]
  have HB1 := Lib.hid b1
  have hz1 : base ≤ w1.heap.size := Nat.le_trans hbase b1.size
  go_wp2_with (first
    | (at_builtin; refine Lib.wpList_append_own_string _ (by rfl) (.tmp 12) (.tmp 13) 56 9 (by rfl) base 5 i Tryd.underlying56 Tryd.underlying9 q1 q2 q3 q4 v (Lib.byteCells l).length (Lib.byteCells l) (by rfl) hown s (by rfl) (by rw [HLN.out]; unfold maxLen; omega) (by rw [HLN.out]; omega) hz1 ?_
       intro v2 w2 o2 g2 _
       have hlt : b < w1.heap.size := (Array.getElem?_eq_some_iff.1 hbk).1
       have hb2 : w2.heap[b]? = some (.cells #[.pointer (some ⟨b, 0, none⟩), v] 58 (0, 0)) := (g2.block b hlt (fun e => hne e.symm)).trans hbk
       have d1 : w2.cell? ⟨b, 1, none⟩ = some v := by simp [World.cell?, hb2]
       have f1 : w2.frozen? ⟨b, 1, none⟩ = false := by simp [World.frozen?, hb2]
       obtain ⟨ao, n2, cp, rfl⟩ : ∃ ao n2 cp, v2 = .slice ao n2 cp := by
         rcases o2.2 with ⟨hv, _⟩ | ⟨g, cap, cur, hv, _⟩
         · exact ⟨_, _, _, hv⟩
         · exact ⟨_, _, _, hv⟩
       have HO2 := Lib.hid o2
       have HBK := Lib.hid hb2
       have HG2 := Lib.hid g2
       clear o2 hb2 g2)
    | fail)
  go_ret2
  refine ⟨⟨_, rfl⟩, .inr ?_, ?_⟩
  · rw [← bytes_cells]
    exact Lib.BuilderAt.put hB HBK.out (by
      have h5 := HO2.out
      rw [List.length_append, Lib.strCells_length]
      exact h5) (by decide)
  · exact (HB1.out.grown HG2.out hz1 (fun k e => (hown.lt k e).1)).setCell hB _

theorem Bld.new (w : World) (base : Nat) (h : base ≤ w.heap.size) : Bld (w.alloc (.cells #[.pointer none, .slice none 0 0] 58)) base w.heap.size [] :=
  .inl ⟨h, .slice none 0 0, heap_alloc_new w _, World.ownsRow_nil _ base _ _, by simp [Value.ownBlock]⟩
theorem Bld.keep {w w' : World} {base b : Nat} {l : List UInt8} (h : Bld w base b l) (hb : Below w.heap.size w w') : Bld w' base b l := by
  have go : ∀ p, Lib.BuilderAt 58 5 base b p (Lib.byteCells l) w → Lib.BuilderAt 58 5 base b p (Lib.byteCells l) w' := by
    rintro p ⟨hB, v, hbk, hown, hne⟩
    refine ⟨hB, v, ?_, ownsRow_wrote (S := fun _ => False) hown (Wrote.of_below hb) (fun _ _ e => e), hne⟩
    rw [hb.block b (Array.getElem?_eq_some_iff.1 hbk).1]; exact hbk
  rcases h with h | h
  · exact .inl (go _ h)
  · exact .inr (go _ h)

end Go.Proofs.YtnnaigoomipklaaDoor
