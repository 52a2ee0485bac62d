/-
  What a cell of one's own rows leads to is another datum by now.
-/
import Derived.Test.YtnnaigoomipklaaGreatDoorOhHMems
import Derived.Test.YtnnaigoomipklaaGreatDoorOhURows
set_option linter.unusedSimpArgs false
set_option linter.unusedVariables false
namespace Go.Proofs.YtnnaigoomipklaaGreatDoor
open Go.RowKit M

theorem D.blocksL_at : ∀ {cs : List D} {g : Nat}, g ∈ D.blocksL cs → ∃ (p : Nat) (d : D), cs[p]? = some d ∧ g ∈ d.blocks
  | [], g, h => by simp [D.blocksL] at h
  | c :: r, g, h => by
    rw [D.blocksL, List.mem_append] at h
    rcases h with h | h
    · exact ⟨0, c, rfl, h⟩
    · obtain ⟨p, d, h1, h2⟩ := D.blocksL_at h
      exact ⟨p + 1, d, by simpa using h1, h2⟩
theorem setCell_twice (w : World) (blk off : Nat) (v v' : Value) : (w.setCell ⟨blk, off, none⟩ v).setCell ⟨blk, off, none⟩ v' = w.setCell ⟨blk, off, none⟩ v' := by
  unfold World.setCell
  simp only [World.mk.injEq, true_and, and_true]
  apply Array.ext_getElem?
  intro i
  simp only [Array.getElem?_modify]
  split
  · cases w.heap[i]? with
    | none => rfl
    | some o => cases o <;> simp
  · rfl
theorem heap_set_like {w w' : World} {p : Addr} {u : Value} {k : Nat} (h : w'.heap[k]? = w.heap[k]?) : (w'.setCell p u).heap[k]? = (w.setCell p u).heap[k]? := by
  unfold World.setCell
  simp only [Array.getElem?_modify, h]
theorem Wrote.set2 {S : Nat → Prop} {w w' : World} (p : Addr) (u : Value) (h : Wrote S w w') : Wrote S (w.setCell p u) (w'.setCell p u) :=
  ⟨h.os, h.tape, h.output, by simpa [World.setCell] using h.size, fun k hk hn => heap_set_like (h.block k (by simpa [World.setCell] using hk) hn)⟩

/-- What a cell leads to is another datum by now, in the blocks that it had or in new ones. -/
theorem OwnR.turn {w w' : World} {base n cap g k j sz : Nat} {t : TypeId} {rows : List (List D)} {r : List D} {d d' : D} (h : OwnR w base (.slice (some ⟨g, 0, none⟩) n cap) t sz rows) (hk : rows[k]? = some r) (hj : r[j]? = some d) (hw : Wrote (fun i => i ∈ d.blocks) w w') (hd : Owns w' base d') (hf : ∀ i ∈ d'.blocks, i ∈ d.blocks ∨ w.heap.size ≤ i) :
    OwnR (w'.setCell ⟨g, k * sz + j, none⟩ d'.val) base (.slice (some ⟨g, 0, none⟩) n cap) t sz (rows.set k (r.set j d')) := by
  have hr := h.wide r (List.mem_of_getElem? hk)
  have hjr : j < r.length := (List.getElem?_eq_some_iff.1 hj).1
  have hkr : k < rows.length := (List.getElem?_eq_some_iff.1 hk).1
  have hj2 : j < sz := by rw [← hr]; exact hjr
  have s0 := h.put hk hj2 (d' := .lit (.int .i64 0)) (Owns.lit rfl) (fun i hi => by simp [D.blocks] at hi)
  have hsa := h.self_apart hk hj
  have hglt := (h.lt (BlkR.of_self (g := g))).2
  have hat : rows.flatten[k * sz + j]? = some d := by rw [flat_get h.wide hk hj2]; exact hj
  have hnd : (D.blocksL rows.flatten).Nodup := by
    have := h.own.nodup
    rw [D.blocks, List.nodup_append] at this
    exact this.2.1
  have hno : ∀ i, BlkR (.slice (some ⟨g, 0, none⟩) n cap) (rows.set k (r.set j (.lit (.int .i64 0)))) i → i ∉ d.blocks := by
    intro i hi hd
    rcases List.mem_append.1 hi with h1 | h1
    · simp [Value.ownBlock] at h1
      subst h1
      exact hsa hd
    · rw [← flat_set h.wide hk hj2] at h1
      obtain ⟨q, e, h2, h3⟩ := D.blocksL_at h1
      rcases set_get h2 with ⟨h4, h5⟩ | ⟨h4, h5⟩
      · rw [h5] at h3; simp [D.blocks] at h3
      · exact nodup_at hnd hat h5 h4 i hd h3
  have s1 := s0.wrote (hw.set2 ⟨g, k * sz + j, none⟩ (.int .i64 0)) (fun i hi => hno i hi)
  have s2 := s1.put (k := k) (r := r.set j (.lit (.int .i64 0))) (set_eq hkr) hj2 (d' := d') (hd.wrote (Wrote.set (fun i => i = g) w' ⟨g, k * sz + j, none⟩ (.int .i64 0) rfl) (fun i hi e => by
      rcases hf i hi with h1 | h1
      · rw [e] at h1; exact hsa h1
      · omega)) (fun i hi hb => by
      rcases hf i hi with h1 | h1
      · exact hno i hb h1
      · rcases blk_set h.wide hk hj2 hb with e | e
        · have := (h.lt e).2; omega
        · simp [D.blocks] at e)
  rw [List.set_set, List.set_set, setCell_twice] at s2
  exact s2

end Go.Proofs.YtnnaigoomipklaaGreatDoor
