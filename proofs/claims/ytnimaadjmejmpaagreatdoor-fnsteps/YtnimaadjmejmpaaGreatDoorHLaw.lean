/-
  The laws' own small functions on hunks: copied, compared, marked.
-/
import Derived.Test.YtnimaadjmejmpaaGreatDoorHMem
set_option linter.unusedSimpArgs false
set_option linter.unusedVariables false
namespace Go.Proofs.YtnimaadjmejmpaaGreatDoor
open Go.RowKit Go.ChangeShapes Go.WideShapes M

theorem hk_info : (Tryz.prog.info? 97).map (fun i => (i.zero, i.size, i.bytes)) = some (some (.agg #[.int .i64 0, .int .i64 0, .slice none 0 0]), 3, 40) := by kernel_rfl
def blankCells (n : Nat) : Array Value := madeCells #[.int .i64 0, .int .i64 0, .slice none 0 0] (n * 3)
theorem make_hks (n : Nat) (hn : n ≤ 1048576) (w : World) :
    (Instr.makeSlice 34 (.int .i64 (n : Int)) (.int .i64 (n : Int))).run Tryz.prog w = .ok (.slice (some ⟨w.heap.size, 0, none⟩) n n) (w.alloc (.cells (blankCells n) 97)) := by
  obtain ⟨i, h1, h2, h3, h4⟩ := info_parts hk_info
  have hr := run_make (P := Tryz.prog) w 34 97 i _ Tryz.underlying34 h1 h2 .i64 .i64 n n (by omega) (by omega) (by rw [h4]; omega) (by omega)
  rw [h3] at hr
  simpa [blankCells, Value.cells] using hr
theorem blank_get (n k : Nat) (hk : k < n) : (blankCells n).toList[k * 3]? = some (.int .i64 0) ∧ (blankCells n).toList[k * 3 + 1]? = some (.int .i64 0) ∧ (blankCells n).toList[k * 3 + 2]? = some (.slice none 0 0) := by
  have hs : (blankCells n).size = n * 3 := by simp [blankCells, madeCells]
  have hg : ∀ (j r : Nat), j < n * 3 → j % 3 = r → (blankCells n).toList[j]? = some ((#[.int .i64 0, .int .i64 0, .slice none 0 0] : Array Value)[r]!) := by
    intro j r hj hr
    rw [← hr, blankCells, madeCells, Array.toList_map, Array.toList_range, List.getElem?_map, List.getElem?_range hj]
    rfl
  exact ⟨hg _ 0 (by omega) (by omega), hg _ 1 (by omega) (by omega), hg _ 2 (by omega) (by omega)⟩
theorem OwnH.made (w : World) (n : Nat) (hn : n ≤ 1048576) : OwnH (w.alloc (.cells (blankCells n) 97)) w.heap.size (.slice (some ⟨w.heap.size, 0, none⟩) n n) (List.replicate n blankH) (List.replicate n (.slice none 0 0)) := by
  have hs : (blankCells n).size = n * 3 := by simp [blankCells, madeCells]
  have hg : ∀ {α : Type} {k : Nat} {a b : α}, (List.replicate n a)[k]? = some b → k < n ∧ b = a := by
    intro α k a b h
    rw [List.getElem?_replicate] at h
    split at h
    · injection h with h; exact ⟨by assumption, h.symm⟩
    · cases h
  refine ⟨by simp, ⟨(blankCells n).toList, ⟨by simp [hs], .inr ⟨w.heap.size, n, blankCells n, by simp, Nat.le_refl _, heap_alloc_new w _, by simp, by unfold maxLen; omega, hs, by rw [List.length_replicate]; exact List.take_of_length_le (by simp [hs])⟩⟩, fun k h u hh hu => ?_⟩, fun k h u hh hu => ?_, fun k u g hu e => ?_, fun i j u u' g hu hu' e e' => ?_, fun h hh => ?_⟩
  · obtain ⟨hk, rfl⟩ := hg hh
    obtain ⟨_, rfl⟩ := hg hu
    exact blank_get n k hk
  · obtain ⟨hk, rfl⟩ := hg hh
    obtain ⟨_, rfl⟩ := hg hu
    exact OwnV.nil_
  · obtain ⟨_, rfl⟩ := hg hu
    cases e
  · obtain ⟨_, rfl⟩ := hg hu
    cases e
  · rw [List.eq_of_mem_replicate hh]
    exact ⟨⟨by decide, by decide⟩, ⟨by decide, by decide⟩⟩

theorem eqH_step {l r : List Hk} {k : Nat} {s t : Hk} (H : ∀ j s t, j < k → l[j]? = some s → r[j]? = some t → eqH s t = true) (hs : l[k]? = some s) (ht : r[k]? = some t) (h : eqH s t = true) :
    ∀ j s t, j < k + 1 → l[j]? = some s → r[j]? = some t → eqH s t = true := by
  intro j s' t' hj hs' ht'
  by_cases e : j = k
  · subst e; rw [hs] at hs'; rw [ht] at ht'; injection hs' with hs'; injection ht' with ht'; rw [← hs', ← ht', h]
  · exact H j s' t' (by omega) hs' ht'

theorem nat_ok {k : Nat} (h : k ≤ 33554432) : i64ok (k : Int) := ⟨by omega, by omega⟩
theorem markHk_new (k : Nat) (x : Hk) : (markHk k x).new = marks (k + 2) x.new.length := rfl

theorem markStrW_any (A : Option Addr) (n cap base k0 : Nat) (l : List ByteArray) (w : World) (ho : OwnV w base (.slice A n cap) l) (hn : n ≤ 1048576) (hk : k0 ≤ 16777216) :
    Calls Tryz.prog 67 #[.slice A n cap, .int .i64 k0] w fun e w' => e = .returned (.int .i64 ((k0 + n : Nat) : Int)) ∧ OwnV w' base (.slice A n cap) (marks k0 n) ∧ Wrote (fun g => (Value.slice A n cap).ownBlock = some g) w w' :=
  (markStringS_any A n cap base k0 l w ho hn hk).mono fun e w' ⟨h1, h2, h3⟩ => ⟨h1, h2, Wrote.of_grown h3 (fun _ e => e)⟩
theorem Wrote.below' {S : Nat → Prop} {w w' a : World} (hb : Below a.heap.size a w) (h : Wrote S w w') (hs : ∀ k, S k → a.heap.size ≤ k) : Below a.heap.size a w' := Wrote.below hb h hb.size hs

end Go.Proofs.YtnimaadjmejmpaaGreatDoor
