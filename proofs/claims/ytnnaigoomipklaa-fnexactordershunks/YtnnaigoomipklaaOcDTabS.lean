/-
  The model's table of what both share.
-/
import Derived.Test.YtnnaigoomipklaaOcDPair
set_option linter.unusedSimpArgs false
set_option linter.unusedVariables false
namespace Go.Proofs.Ytnnaigoomipklaa
open Go.RowKit M

theorem l1Most_any (a b : Int) (w : World) : Calls Try.prog 101 #[.int .i64 a, .int .i64 b] w fun e w' => e = .returned (.int .i64 (max a b)) ∧ w = w' := by
  by_cases h : b < a
  · have hd : decide (b < a) = true := by simpa using h
    go_enter Try.func101, Try.ntmps101
    go_wp2
    go_ret
    exact ⟨ret_int (by omega), rfl⟩
  · have hd : decide (b < a) = false := by simpa using h
    go_enter Try.func101, Try.ntmps101
    go_wp2
    go_ret
    exact ⟨ret_int (by omega), rfl⟩

def reps (z : Value) (n : Nat) : Array Value := (List.replicate n z).toArray
theorem run_make_one {P : Program} (t e : TypeId) (i : TypeInfo) (z : Value) (bytes : Nat) (ht : P.underlying t = some (.slice e)) (hi : P.info? e = some i) (hz : i.zero = some z) (hs : i.size = 1) (hb : i.bytes = bytes) (hby : bytes ≤ 24) (hc : z.cells = #[z])
    (n : Nat) (hn : n ≤ 1000000) (w : World) :
    (Instr.makeSlice t (.int .i64 (n : Int)) (.int .i64 (n : Int))).run P w = .ok (.slice (some ⟨w.heap.size, 0, none⟩) n n) (w.alloc (.cells (reps z n) e)) := by
  have hr := run_make (P := P) w t e i _ ht hi hz .i64 .i64 n n (by omega) (by omega) (by rw [hb]; have h7 := Nat.mul_le_mul hby hn; rw [← Int.natCast_mul]; omega) (by omega)
  have e1 : madeCells z.cells ((n : Int).toNat * i.size) = reps z n := by
    apply Array.ext'
    rw [hs, Nat.mul_one, Int.toNat_natCast, hc, toList_madeCells_one]
    simp [reps]
  rw [e1] at hr
  simpa using hr
theorem int_info : (Try.prog.info? 3).map (fun i => (i.zero, i.size, i.bytes)) = some (some (.int .i64 0), 1, 8) := by kernel_rfl
theorem make_rows (n : Nat) (hn : n ≤ 1000) (w : World) : (Instr.makeSlice 117 (.int .i64 (n : Int)) (.int .i64 (n : Int))).run Try.prog w = .ok (.slice (some ⟨w.heap.size, 0, none⟩) n n) (w.alloc (.cells (reps (.slice none 0 0) n) 127)) := by
  obtain ⟨i, h1, h2, h3, h4⟩ := info_parts ints_info
  exact run_make_one _ _ i _ 24 Try.underlying117 h1 h2 h3 h4 (by omega) (by simp [Value.cells]) n (by omega) w
theorem make_ints (n : Nat) (hn : n ≤ 1000) (w : World) : (Instr.makeSlice 127 (.int .i64 (n : Int)) (.int .i64 (n : Int))).run Try.prog w = .ok (.slice (some ⟨w.heap.size, 0, none⟩) n n) (w.alloc (.cells (reps (.int .i64 0) n) 3)) := by
  obtain ⟨i, h1, h2, h3, h4⟩ := info_parts int_info
  exact run_make_one _ _ i _ 8 Try.underlying127 h1 h2 h3 h4 (by omega) (by simp [Value.cells]) n (by omega) w

/-- The model's table: k of its rows are made; T tells what they hold. -/
structure TabS (w : World) (g n1 m1 k : Nat) (gs : List Nat) (T : Nat → Nat → Nat) : Prop where
  len : gs.length = k
  size : g < w.heap.size
  row : ∃ xs : List Value, w.heap[g]? = some (.cells xs.toArray 127 (0, 0)) ∧ xs.length = n1 ∧ ∀ (i x : Nat), gs[i]? = some x → xs[i]? = some (Value.slice (some ⟨x, 0, none⟩) m1 m1)
  inner : ∀ (i x : Nat), gs[i]? = some x → ∃ ys : List Value, w.heap[x]? = some (.cells ys.toArray 3 (0, 0)) ∧ ys.length = m1 ∧ ∀ j, j < m1 → ys[j]? = some (.int .i64 (T i j : Int))
  low : ∀ (i x : Nat), gs[i]? = some x → g < x
  apart : ∀ (i j x : Nat), gs[i]? = some x → gs[j]? = some x → i = j
section
variable {w w' : World} {g n1 m1 k : Nat} {gs : List Nat} {T : Nat → Nat → Nat}
theorem TabS.below (h : TabS w g n1 m1 k gs T) (hb : Below w.heap.size w w') : TabS w' g n1 m1 k gs T := by
  refine ⟨h.len, Nat.lt_of_lt_of_le h.size hb.size, ?_, fun i x hx => ?_, h.low, h.apart⟩
  · obtain ⟨xs, h1, h2⟩ := h.row
    exact ⟨xs, (hb.block g h.size).trans h1, h2⟩
  · obtain ⟨ys, h1, h2⟩ := h.inner i x hx
    exact ⟨ys, (hb.block x (Array.getElem?_eq_some_iff.1 h1).1).trans h1, h2⟩
theorem TabS.outer (h : TabS w g n1 m1 k gs T) {i x : Nat} (hx : gs[i]? = some x) : w.cell? ⟨g, i, none⟩ = some (.slice (some ⟨x, 0, none⟩) m1 m1) := by
  obtain ⟨xs, h1, h2, h3⟩ := h.row
  simp [World.cell?, h1, h3 i x hx]
theorem TabS.cell (h : TabS w g n1 m1 k gs T) {i x j : Nat} (hx : gs[i]? = some x) (hj : j < m1) : w.cell? ⟨x, j, none⟩ = some (.int .i64 (T i j : Int)) := by
  obtain ⟨ys, h1, h2, h3⟩ := h.inner i x hx
  simp [World.cell?, h1, h3 j hj]
theorem TabS.free (h : TabS w g n1 m1 k gs T) {i x : Nat} (hx : gs[i]? = some x) (j : Nat) : w.frozen? ⟨x, j, none⟩ = false := by
  obtain ⟨ys, h1, h2, h3⟩ := h.inner i x hx
  simp [World.frozen?, h1]
theorem TabS.get (h : TabS w g n1 m1 k gs T) {i : Nat} (hi : i < k) : ∃ x, gs[i]? = some x := ⟨_, List.getElem?_eq_getElem (by rw [h.len]; exact hi)⟩
theorem TabS.lt (h : TabS w g n1 m1 k gs T) {i x : Nat} (hx : gs[i]? = some x) : x < w.heap.size := by
  obtain ⟨ys, h1, h2, h3⟩ := h.inner i x hx
  exact (Array.getElem?_eq_some_iff.1 h1).1
theorem TabS.set (h : TabS w g n1 m1 k gs T) {i x j : Nat} (hx : gs[i]? = some x) (hj : j < m1) (v : Nat) : TabS (w.setCell ⟨x, j, none⟩ (.int .i64 (v : Int))) g n1 m1 k gs (upd T i j v) := by
  have hw := Wrote.set (fun b => b = x) w ⟨x, j, none⟩ (.int .i64 (v : Int)) rfl
  have hlow := h.low i x hx
  refine ⟨h.len, Nat.lt_of_lt_of_le h.size hw.size, ?_, fun i' x' hx' => ?_, h.low, h.apart⟩
  · obtain ⟨xs, h1, h2⟩ := h.row
    exact ⟨xs, (hw.block g h.size (by omega)).trans h1, h2⟩
  · obtain ⟨ys, h1, h2, h3⟩ := h.inner i' x' hx'
    by_cases e : x' = x
    · subst e
      obtain rfl : i' = i := h.apart i' i x' hx' hx
      refine ⟨ys.set j (.int .i64 (v : Int)), ?_, by simp [h2], fun j' hj' => ?_⟩
      · have := heap_setCell_same w x' j _ _ (.int .i64 (v : Int)) h1
        rw [this]
        simp
      · unfold upd
        rw [List.getElem?_set]
        by_cases e : j = j'
        · rw [if_pos e, if_pos (by omega), if_pos ⟨rfl, e.symm⟩]
        · rw [if_neg e, if_neg (fun h => e h.2.symm)]
          exact h3 j' hj'
    · refine ⟨ys, (hw.block x' (Array.getElem?_eq_some_iff.1 h1).1 e).trans h1, h2, fun j' hj' => ?_⟩
      unfold upd
      rw [if_neg (fun h => e (by have e1 := h.1; subst e1; rw [hx] at hx'; injection hx' with hx'; exact hx'.symm))]
      exact h3 j' hj'
theorem TabS.start (w : World) (n1 m1 : Nat) : TabS (w.alloc (.cells (reps (.slice none 0 0) n1) 127)) w.heap.size n1 m1 0 [] (fun _ _ => 0) :=
  ⟨rfl, by simp, ⟨List.replicate n1 (.slice none 0 0), heap_alloc_new w _, by simp, fun i x h => by simp at h⟩, fun i x h => by simp at h, fun i x h => by simp at h, fun i j x h => by simp at h⟩
theorem TabS.cellOf (h : TabS w g n1 m1 k gs T) {i : Nat} (hi : i < n1) : (∃ u, w.cell? ⟨g, i, none⟩ = some u) ∧ ∀ j, w.frozen? ⟨g, j, none⟩ = false := by
  obtain ⟨xs, h1, h2, h3⟩ := h.row
  refine ⟨⟨xs[i]'(by omega), ?_⟩, fun j => by simp [World.frozen?, h1]⟩
  simp [World.cell?, h1, h2, hi]
/-- One more row is made. -/
theorem TabS.row_ (h : TabS w g n1 m1 k gs (fun _ _ => 0)) (hk : k < n1) : TabS ((w.setCell ⟨g, k, none⟩ (.slice (some ⟨w.heap.size, 0, none⟩) m1 m1)).alloc (.cells (reps (.int .i64 0) m1) 3)) g n1 m1 (k + 1) (gs ++ [w.heap.size]) (fun _ _ => 0) := by
  have hw := Wrote.set (fun b => b = g) w ⟨g, k, none⟩ (.slice (some ⟨w.heap.size, 0, none⟩) m1 m1) rfl
  have hb := below_alloc (w.setCell ⟨g, k, none⟩ (.slice (some ⟨w.heap.size, 0, none⟩) m1 m1)) (.cells (reps (.int .i64 0) m1) 3)
  have hz : (w.setCell ⟨g, k, none⟩ (.slice (some ⟨w.heap.size, 0, none⟩) m1 m1)).heap.size = w.heap.size := by simp [World.setCell]
  have hsz := h.size
  refine ⟨by simp [h.len], Nat.lt_of_lt_of_le h.size (Nat.le_trans hw.size hb.size), ?_, fun i x hx => ?_, fun i x hx => ?_, fun i j x hi hj => ?_⟩
  · obtain ⟨xs, h1, h2, h3⟩ := h.row
    refine ⟨xs.set k (.slice (some ⟨w.heap.size, 0, none⟩) m1 m1), ?_, by simp [h2], fun i x hx => ?_⟩
    · have := heap_setCell_same w g k _ _ (.slice (some ⟨w.heap.size, 0, none⟩) m1 m1) h1
      rw [hb.block g (by omega), this]
      simp
    · rcases list_snoc_get hx with ⟨hi, hx⟩ | ⟨hi, rfl⟩
      · exact set_ne (h3 i x hx) (by rw [h.len] at hi; omega)
      · rw [hi, h.len]; exact set_eq (by omega)
  · rcases list_snoc_get hx with ⟨hi, hx⟩ | ⟨hi, rfl⟩
    · obtain ⟨ys, h1, h2⟩ := h.inner i x hx
      have hlt := (Array.getElem?_eq_some_iff.1 h1).1
      exact ⟨ys, (hb.block x (by omega)).trans ((hw.block x hlt (by have := h.low i x hx; omega)).trans h1), h2⟩
    · refine ⟨List.replicate m1 (.int .i64 0), heap_at hz.symm, by simp, fun j hj => by simp [hj]⟩
  · rcases list_snoc_get hx with ⟨hi, hx⟩ | ⟨hi, rfl⟩
    · exact h.low i x hx
    · exact hsz
  · rcases list_snoc_get hi with ⟨hk1, hi1⟩ | ⟨hk1, e1⟩
    · rcases list_snoc_get hj with ⟨hk2, hj1⟩ | ⟨hk2, e2⟩
      · exact h.apart i j x hi1 hj1
      · have := h.lt hi1; omega
    · rcases list_snoc_get hj with ⟨hk2, hj1⟩ | ⟨hk2, e2⟩
      · have := h.lt hj1; omega
      · omega
end

end Go.Proofs.Ytnnaigoomipklaa
