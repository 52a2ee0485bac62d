/-
  The program's table: plain facts, and words for it in memory.
-/
import Derived.Test.YtnnaigoomipklaaOcDHp3
set_option linter.unusedSimpArgs false
set_option linter.unusedVariables false
namespace Go.Proofs.Ytnnaigoomipklaa.M

/-- How many lines the last m and the last n share. -/
def tabB (a b : List ByteArray) (m n : Nat) : Nat := tab a b (a.length - m) (b.length - n)
theorem tabB_zero (a b : List ByteArray) (n : Nat) : tabB a b 0 n = 0 := tab_end (by omega) _
theorem tabB_zero' (a b : List ByteArray) (m : Nat) : tabB a b m 0 = 0 := tab_end' (by omega) _
theorem tabB_same {a b : List ByteArray} {m n : Nat} {s : ByteArray} (hm : m < a.length) (hn : n < b.length) (h1 : a[a.length - 1 - m]? = some s) (h2 : b[b.length - 1 - n]? = some s) : tabB a b (m + 1) (n + 1) = tabB a b m n + 1 := by
  unfold tabB
  rw [show a.length - (m + 1) = a.length - 1 - m from by omega, show b.length - (n + 1) = b.length - 1 - n from by omega, tab_same h1 h2, show a.length - 1 - m + 1 = a.length - m from by omega, show b.length - 1 - n + 1 = b.length - n from by omega]
theorem tabB_other {a b : List ByteArray} {m n : Nat} {s t : ByteArray} (hm : m < a.length) (hn : n < b.length) (h1 : a[a.length - 1 - m]? = some s) (h2 : b[b.length - 1 - n]? = some t) (h : s ≠ t) : tabB a b (m + 1) (n + 1) = max (tabB a b m (n + 1)) (tabB a b (m + 1) n) := by
  unfold tabB
  rw [show a.length - (m + 1) = a.length - 1 - m from by omega, show b.length - (n + 1) = b.length - 1 - n from by omega, tab_other h1 h2 h, show a.length - 1 - m + 1 = a.length - m from by omega, show b.length - 1 - n + 1 = b.length - n from by omega]
theorem tabB_hit {a b : List ByteArray} {m n : Nat} (hm : m < a.length) (hn : n < b.length) : hitQ a b (a.length - 1 - m, b.length - 1 - n) = ⟨a.length - 1 - m, b.length - 1 - n, tabB a b m n⟩ := by
  unfold hitQ tabB
  dsimp only
  rw [show a.length - 1 - m + 1 = a.length - m from by omega, show b.length - 1 - n + 1 = b.length - n from by omega]
theorem tabB_all (a b : List ByteArray) : tabB a b a.length b.length = lcs a b := by unfold tabB tab; rw [Nat.sub_self, Nat.sub_self]; rfl
theorem tabB_le (a b : List ByteArray) (m n : Nat) : tabB a b m n ≤ a.length := (tab_le a b _ _).1
/-- The first m rows are as they will be. -/
def rowsOk (a b : List ByteArray) (T : Nat → Nat → Nat) (m : Nat) : Prop := (∀ x y, x ≤ m → y ≤ b.length → T x y = tabB a b x y) ∧ ∀ x, T x 0 = 0
def rowOk (a b : List ByteArray) (T : Nat → Nat → Nat) (m n : Nat) : Prop := ∀ y, y ≤ n → T (m + 1) y = tabB a b (m + 1) y
def upd (T : Nat → Nat → Nat) (i j v : Nat) (x y : Nat) : Nat := if x = i ∧ y = j then v else T x y
theorem rows_zero (a b : List ByteArray) : rowsOk a b (fun _ _ => 0) 0 := ⟨fun x y hx hy => by rw [show x = 0 from by omega, tabB_zero], fun _ => rfl⟩
theorem row_zero {a b : List ByteArray} {T : Nat → Nat → Nat} {m : Nat} (h : rowsOk a b T m) : rowOk a b T m 0 := fun y hy => by
  rw [show y = 0 from by omega, h.2, tabB_zero']
theorem rows_next {a b : List ByteArray} {T : Nat → Nat → Nat} {m : Nat} (h : rowsOk a b T m) (hr : rowOk a b T m b.length) : rowsOk a b T (m + 1) := by
  refine ⟨fun x y hx hy => ?_, h.2⟩
  by_cases e : x = m + 1
  · rw [e]; exact hr y hy
  · exact h.1 x y (by omega) hy
theorem rows_upd {a b : List ByteArray} {T : Nat → Nat → Nat} {m n v : Nat} (h : rowsOk a b T m) : rowsOk a b (upd T (m + 1) (n + 1) v) m := by
  refine ⟨fun x y hx hy => ?_, fun x => ?_⟩
  · unfold upd; rw [if_neg (by omega)]; exact h.1 x y hx hy
  · unfold upd; rw [if_neg (by omega)]; exact h.2 x
theorem row_upd {a b : List ByteArray} {T : Nat → Nat → Nat} {m n v : Nat} (h : rowOk a b T m n) (hv : v = tabB a b (m + 1) (n + 1)) : rowOk a b (upd T (m + 1) (n + 1) v) m (n + 1) := by
  intro y hy
  unfold upd
  by_cases e : y = n + 1
  · rw [if_pos ⟨rfl, e⟩, e, hv]
  · rw [if_neg (by omega)]; exact h y (by omega)

end Go.Proofs.Ytnnaigoomipklaa.M
namespace Go.Proofs.Ytnnaigoomipklaa
open Go.RowKit M

theorem zero_tab : Try.zeroCells144.toList = List.replicate 1681 (.int .i64 0) := by kernel_rfl
/-- The table in a block of its own. -/
structure Tbl (w : World) (tb : Nat) (T : Nat → Nat → Nat) : Prop where
  size : tb < w.heap.size
  cell : ∀ i j, i ≤ 40 → j ≤ 40 → w.cell? ⟨tb, i * 41 + j, none⟩ = some (.int .i64 (T i j : Int))
  free : ∀ k, w.frozen? ⟨tb, k, none⟩ = false
theorem Tbl.new (w : World) : Tbl (w.alloc (.cells Try.zeroCells144 144)) w.heap.size (fun _ _ => 0) := by
  refine ⟨by simp, fun i j hi hj => ?_, fun k => by simp⟩
  rw [World.cell?_alloc_new, ← Array.getElem?_toList, zero_tab, List.getElem?_replicate, if_pos (by omega)]
  rfl
theorem Tbl.wrote {S : Nat → Prop} {w w' : World} {tb : Nat} {T : Nat → Nat → Nat} (h : Tbl w tb T) (hw : Wrote S w w') (hn : ¬ S tb) : Tbl w' tb T := by
  have e := hw.block tb h.size hn
  exact ⟨Nat.lt_of_lt_of_le h.size hw.size, fun i j hi hj => (World.cell?_of_block (a := ⟨tb, i * 41 + j, none⟩) e).trans (h.cell i j hi hj), fun k => (World.frozen?_of_block (a := ⟨tb, k, none⟩) e).trans (h.free k)⟩
theorem Tbl.below {w w' : World} {tb : Nat} {T : Nat → Nat → Nat} (h : Tbl w tb T) (hb : Below w.heap.size w w') : Tbl w' tb T := h.wrote (S := fun _ => False) (Wrote.of_below hb) (fun e => e)
theorem Tbl.set {w : World} {tb : Nat} {T : Nat → Nat → Nat} (h : Tbl w tb T) {i j : Nat} (hi : i ≤ 40) (hj : j ≤ 40) (v : Nat) : Tbl (w.setCell ⟨tb, i * 41 + j, none⟩ (.int .i64 (v : Int))) tb (upd T i j v) := by
  refine ⟨by simpa [World.setCell] using h.size, fun x y hx hy => ?_, fun k => ?_⟩
  · unfold upd
    by_cases e : x = i ∧ y = j
    · rw [if_pos e, e.1, e.2]
      exact World.cell?_setCell_same _ _ _ (h.cell i j hi hj)
    · rw [if_neg e, World.cell?_setCell_other w ⟨tb, i * 41 + j, none⟩ ⟨tb, x * 41 + y, none⟩ _ (fun h2 => by injection h2 with _ h3; omega)]
      exact h.cell x y hx hy
  · have := h.free k
    simpa using this

end Go.Proofs.Ytnnaigoomipklaa
