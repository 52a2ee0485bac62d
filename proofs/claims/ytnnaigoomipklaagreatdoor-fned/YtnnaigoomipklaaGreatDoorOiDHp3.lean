/-
  container/heap over the program's heap: Push, Pop; what the program adds and takes.
  The program's table: plain facts, and words for it in memory.
  The table of what both share, and the heap of the pairs that are found.
  Words for memory: lists of two numbers each, in a list, all of the call's own.
-/
import Derived.Test.YtnnaigoomipklaaGreatDoorOiDMem
import Derived.Test.YtnnaigoomipklaaGreatDoorOiHBack
set_option linter.unusedSimpArgs false
set_option linter.unusedVariables false
namespace Go.Proofs.YtnnaigoomipklaaGreatDoor
open Go.RowKit M

set_option maxHeartbeats 1000000 in
set_option maxRecDepth 100000 in
theorem hpush_any (hb base : Nat) (A : Option Addr) (n cap : Nat) (L : List Pr) (p : Pr) (w : World) (h : HeapQ w base hb (.slice A n cap) L) (hn : n < 100000) (hbase : base ≤ w.heap.size) (hh : isHeap L n) :
    Calls Tryz.prog 218 #[.iface 209 (.pointer (some ⟨hb, 0, none⟩)), .iface 213 (.agg #[.int .i64 (p.f : Int), .int .i64 (p.s : Int), .int .i64 (p.b : Int)])] w fun e w' => e = .returned (.tuple #[]) ∧ ∃ A' cap' L', HeapQ w' base hb (.slice A' (n + 1) cap') L' ∧ L'.Perm (p :: L) ∧ isHeap L' (n + 1) ∧ Wrote (fun g => g = hb ∨ (Value.slice A n cap).ownBlock = some g) w w' := by
  have HH := Lib.hid hh
  have HQ := Lib.hid h
  have HLL := Lib.hid h.own.len
  clear hh h
  have m1 := meth_push
  have m2 := meth_len
  go_enter Tryz.func218, Tryz.ntmps218
  go_wp2_with fail
  refine (push_any hb base A n cap L p _ HQ.out (by omega) hbase).mono ?_
  rintro e w1 ⟨rfl, A1, cap1, q1, g1, k1⟩
  have HQ1 := Lib.hid q1
  have HK1 := Lib.hid k1
  clear q1 k1
  go_wp2_with fail
  refine (len_any hb base A1 (n + 1) cap1 (L ++ [p]) _ HQ1.out).mono ?_
  rintro e w2 ⟨rfl, rfl⟩
  go_wp2_with fail
  refine (up_any hb base A1 (n + 1) cap1 (L ++ [p]) n _ HQ1.out (by omega) (by omega) (up_start HH.out p HLL.out)).mono ?_
  rintro e w3 ⟨rfl, L3, q3, p3, h3, g3⟩
  have HE := Lib.hid (show ∃ A' cap' L', HeapQ w3 base hb (.slice A' (n + 1) cap') L' ∧ L'.Perm (p :: L) ∧ isHeap L' (n + 1) ∧ Wrote (fun g => g = hb ∨ (Value.slice A n cap).ownBlock = some g) w w3 from
    ⟨A1, cap1, L3, q3, p3.trans List.perm_append_comm, h3, g1.trans g3 (fun i hi e => .inr (HK1.out i hi e))⟩)
  clear q3 p3 h3 g3 g1
  go_wp2_with fail
  go_end0
  exact ⟨rfl, HE.out⟩

theorem pop_swap {L : List Pr} {n : Nat} (hl : L.length = n + 1) : at_ (swapL L 0 n) n = at_ L 0 := by
  rw [swap_at (by omega) (by omega), if_pos rfl]

set_option maxHeartbeats 1000000 in
set_option maxRecDepth 100000 in
theorem hpop_any (hb base : Nat) (A : Option Addr) (n cap : Nat) (L : List Pr) (w : World) (h : HeapQ w base hb (.slice A (n + 1) cap) L) (hn : n < 100000) (hh : isHeap L (n + 1)) :
    Calls Tryz.prog 219 #[.iface 209 (.pointer (some ⟨hb, 0, none⟩))] w fun e w' => e = .returned (.iface 213 (.agg #[.int .i64 ((at_ L 0).f : Int), .int .i64 ((at_ L 0).s : Int), .int .i64 ((at_ L 0).b : Int)])) ∧ ∃ H, HeapQ w' base hb (.slice A n cap) H ∧ L.Perm (at_ L 0 :: H) ∧ isHeap H n ∧ Wrote (fun g => g = hb ∨ (Value.slice A (n + 1) cap).ownBlock = some g) w w' := by
  have HQ := Lib.hid h
  have HLL := Lib.hid h.own.len
  have HD := Lib.hid (dn_start hh h.own.len)
  clear hh h
  have m1 := meth_pop
  have m2 := meth_len
  have m3 := meth_swap
  go_enter Tryz.func219, Tryz.ntmps219
  go_wp2_with fail
  refine (len_any hb base A (n + 1) cap L _ HQ.out).mono ?_
  rintro e w1 ⟨rfl, rfl⟩
  go_wp2_with fail
  refine (swap_any hb base A (n + 1) cap L 0 n _ HQ.out (by omega) (by omega) (by omega)).mono ?_
  rintro e w2 ⟨rfl, q2, g2⟩
  have HQ2 := Lib.hid q2
  clear q2
  go_wp2_with fail
  refine (down_any hb base A (n + 1) n cap (swapL L 0 n) _ HQ2.out (by omega) (by omega) HD.out).mono ?_
  rintro e w3 ⟨y, L3, rfl, q3, p3, h3, t3, g3⟩
  have HQ3 := Lib.hid q3
  have HP3 := Lib.hid (p3.trans (swap_perm (L := L) (i := 0) (j := n) (by rw [HLL.out]; omega) (by rw [HLL.out]; omega)))
  have HT3 := Lib.hid (show at_ L3 n = at_ L 0 by rw [t3 n (Nat.le_refl _)]; exact pop_swap HLL.out)
  have HG3 := Lib.hid (g2.trans g3 (fun _ _ e => e))
  have HP := Lib.hid (pop_parts HP3.out HLL.out h3)
  clear q3 p3 h3 t3 g3 g2
  go_wp2_with fail
  refine (pop_any hb base A n cap L3 _ HQ3.out (by omega)).mono ?_
  rintro e w4 ⟨rfl, q4, g4⟩
  rw [HT3.out]
  have HE := Lib.hid (show ∃ H, HeapQ w4 base hb (.slice A n cap) H ∧ L.Perm (at_ L 0 :: H) ∧ isHeap H n ∧ Wrote (fun g => g = hb ∨ (Value.slice A (n + 1) cap).ownBlock = some g) w w4 from
    ⟨L3.take n, q4, by have := HP.out.2.1; rw [HT3.out] at this; exact this, HP.out.1, (HG3.out.mono (fun k _ e => .inr e)).trans g4 (fun i _ e => .inl e)⟩)
  clear q4 g4
  go_wp2_with fail
  go_ret
  exact ⟨rfl, HE.out⟩

set_option maxHeartbeats 1000000 in
theorem add_any (hb base : Nat) (A : Option Addr) (n cap : Nat) (L : List Pr) (p : Pr) (w : World) (h : HeapQ w base hb (.slice A n cap) L) (hn : n < 100000) (hbase : base ≤ w.heap.size) (hh : isHeap L n) :
    Calls Tryz.prog 195 #[.pointer (some ⟨hb, 0, none⟩), .agg #[.int .i64 (p.f : Int), .int .i64 (p.s : Int), .int .i64 (p.b : Int)]] w fun e w' => e = .returned (.tuple #[]) ∧ ∃ A' cap' L', HeapQ w' base hb (.slice A' (n + 1) cap') L' ∧ L'.Perm (p :: L) ∧ isHeap L' (n + 1) ∧ Wrote (fun g => g = hb ∨ (Value.slice A n cap).ownBlock = some g) w w' := by
  have HH := Lib.hid hh
  have HQ := Lib.hid h
  clear hh h
  go_enter Tryz.func195, Tryz.ntmps195
  go_wp2_with fail
  refine (hpush_any hb base A n cap L p _ (HQ.out.below (below_alloc w _)) hn (by simp; omega) HH.out).mono ?_
  rintro e w1 ⟨rfl, A1, cap1, L1, q1, p1, h1, g1⟩
  have HE := Lib.hid (show ∃ A' cap' L', HeapQ w1 base hb (.slice A' (n + 1) cap') L' ∧ L'.Perm (p :: L) ∧ isHeap L' (n + 1) ∧ Wrote (fun g => g = hb ∨ (Value.slice A n cap).ownBlock = some g) w w1 from
    ⟨A1, cap1, L1, q1, p1, h1, (Wrote.of_below (below_alloc w _)).trans g1 (fun _ _ e => e)⟩)
  clear q1 p1 h1 g1
  go_wp2_with fail
  go_end0
  exact ⟨rfl, HE.out⟩

set_option maxHeartbeats 1000000 in
theorem qnext_any (hb base : Nat) (A : Option Addr) (n cap : Nat) (L : List Pr) (w : World) (h : HeapQ w base hb (.slice A (n + 1) cap) L) (hn : n < 100000) (hh : isHeap L (n + 1)) :
    Calls Tryz.prog 197 #[.pointer (some ⟨hb, 0, none⟩)] w fun e w' => e = .returned (.agg #[.int .i64 ((at_ L 0).f : Int), .int .i64 ((at_ L 0).s : Int), .int .i64 ((at_ L 0).b : Int)]) ∧ ∃ H, HeapQ w' base hb (.slice A n cap) H ∧ L.Perm (at_ L 0 :: H) ∧ isHeap H n ∧ Wrote (fun g => g = hb ∨ (Value.slice A (n + 1) cap).ownBlock = some g) w w' := by
  have HH := Lib.hid hh
  have HQ := Lib.hid h
  clear hh h
  have hap := assert_pair
  go_enter Tryz.func197, Tryz.ntmps197
  go_wp2_with fail
  refine (hpop_any hb base A n cap L _ (HQ.out.below (below_alloc w _)) hn HH.out).mono ?_
  rintro e w1 ⟨rfl, H1, q1, p1, h1, g1⟩
  have hnS : ¬ (w.heap.size = hb ∨ (Value.slice A (n + 1) cap).ownBlock = some w.heap.size) := fun e => by
    rcases e with e | e
    · have := HQ.out.size; omega
    · have := (World.ownsRow.lt HQ.out.own _ e).2; omega
  have hnS' : ∀ g, (Value.slice A n cap).ownBlock = some g → g < w.heap.size := fun g e => (World.ownsRow.lt HQ.out.own g (by cases A with | none => cases e | some a => exact e)).2
  have z5 : w1.heap[w.heap.size]? = some (.cells #[.int .i64 0, .int .i64 0, .int .i64 0] 213 (0, 0)) := (g1.block _ (by simp) hnS).trans (heap_alloc_new w _)
  have z0 : w1.cell? ⟨w.heap.size, 0, none⟩ = some (.int .i64 0) := by simp [World.cell?, z5]
  have z1 : w1.cell? ⟨w.heap.size, 1, none⟩ = some (.int .i64 0) := by simp [World.cell?, z5]
  have z2 : w1.cell? ⟨w.heap.size, 2, none⟩ = some (.int .i64 0) := by simp [World.cell?, z5]
  have zf : ∀ j, w1.frozen? ⟨w.heap.size, j, none⟩ = false := fun j => by simp [World.frozen?, z5]
  obtain ⟨p, Hp⟩ : ∃ p, Hid (at_ L 0 = p) := ⟨_, rfl⟩
  rw [Hp.out] at p1 ⊢
  have hsz : hb < w.heap.size := HQ.out.size
  have hwr : Wrote (fun i => i = w.heap.size) w1 (((w1.setCell ⟨w.heap.size, 0, none⟩ (.int .i64 (p.f : Int))).setCell ⟨w.heap.size, 1, none⟩ (.int .i64 (p.s : Int))).setCell ⟨w.heap.size, 2, none⟩ (.int .i64 (p.b : Int))) := wrote3 w1 w.heap.size 0 _ _ _
  have HE := Lib.hid (show ∃ H, HeapQ (((w1.setCell ⟨w.heap.size, 0, none⟩ (.int .i64 (p.f : Int))).setCell ⟨w.heap.size, 1, none⟩ (.int .i64 (p.s : Int))).setCell ⟨w.heap.size, 2, none⟩ (.int .i64 (p.b : Int))) base hb (.slice A n cap) H ∧ L.Perm (p :: H) ∧ isHeap H n ∧ Wrote (fun g => g = hb ∨ (Value.slice A (n + 1) cap).ownBlock = some g) w (((w1.setCell ⟨w.heap.size, 0, none⟩ (.int .i64 (p.f : Int))).setCell ⟨w.heap.size, 1, none⟩ (.int .i64 (p.s : Int))).setCell ⟨w.heap.size, 2, none⟩ (.int .i64 (p.b : Int))) from
    ⟨H1, q1.wrote hwr (by omega) (fun g e e2 => by have := hnS' g e; omega), p1, h1, ((Wrote.of_below (below_alloc w _)).trans g1 (fun _ _ e => e)).trans hwr (fun i hi e => by omega)⟩)
  have zz := Lib.hid (set3_cells (x := .int .i64 (p.f : Int)) (y := .int .i64 (p.s : Int)) (z := .int .i64 (p.b : Int)) z0 z1 z2)
  clear q1 p1 h1 g1 hwr hnS hnS' z5
  go_wp2_with fail
  refine bodyPost_ret (v := .agg #[.int .i64 (p.f : Int), .int .i64 (p.s : Int), .int .i64 (p.b : Int)]) (by simp [results, Tryz.results197, go_sem, z0, z1, z2]) rfl ?_
  rw [Hp.out]
  exact ⟨rfl, HE.out⟩

end Go.Proofs.YtnnaigoomipklaaGreatDoor

namespace Go.Proofs.YtnnaigoomipklaaGreatDoor.M

/-- How many lines the last m and the last n share. -/
def tabB (a b : List ByteArray) (m n : Nat) : Nat := tab a b (a.length - m) (b.length - n)
theorem tabB_zero (a b : List ByteArray) (n : Nat) : tabB a b 0 n = 0 := tab_end (by omega) _
theorem tabB_zero' (a b : List ByteArray) (m : Nat) : tabB a b m 0 = 0 := tab_end' (by omega) _
theorem tabB_same {a b : List ByteArray} {m n : Nat} {s : ByteArray} (hm : m < a.length) (hn : n < b.length) (h1 : a[a.length - 1 - m]? = some s) (h2 : b[b.length - 1 - n]? = some s) : tabB a b (m + 1) (n + 1) = tabB a b m n + 1 := by
  unfold tabB
  rw [show a.length - (m + 1) = a.length - 1 - m from by omega, show b.length - (n + 1) = b.length - 1 - n from by omega, tab_same h1 h2, show a.length - 1 - m + 1 = a.length - m from by omega, show b.length - 1 - n + 1 = b.length - n from by omega]
theorem tabB_other {a b : List ByteArray} {m n : Nat} {s t : ByteArray} (hm : m < a.length) (hn : n < b.length) (h1 : a[a.length - 1 - m]? = some s) (h2 : b[b.length - 1 - n]? = some t) (h : s ≠ t) : tabB a b (m + 1) (n + 1) = max (tabB a b m (n + 1)) (tabB a b (m + 1) n) := by
  unfold tabB
  rw [show a.length - (m + 1) = a.length - 1 - m from by omega, show b.length - (n + 1) = b.length - 1 - n from by omega, tab_other h1 h2 h, show a.length - 1 - m + 1 = a.length - m from by omega, show b.length - 1 - n + 1 = b.length - n from by omega]
theorem tabB_hit {a b : List ByteArray} {m n : Nat} (hm : m < a.length) (hn : n < b.length) : hitQ a b (a.length - 1 - m, b.length - 1 - n) = ⟨a.length - 1 - m, b.length - 1 - n, tabB a b m n⟩ := by
  unfold hitQ tabB
  dsimp only
  rw [show a.length - 1 - m + 1 = a.length - m from by omega, show b.length - 1 - n + 1 = b.length - n from by omega]
theorem tabB_all (a b : List ByteArray) : tabB a b a.length b.length = lcs a b := by unfold tabB tab; rw [Nat.sub_self, Nat.sub_self]; rfl
theorem tabB_le (a b : List ByteArray) (m n : Nat) : tabB a b m n ≤ a.length := (tab_le a b _ _).1
/-- The first m rows are as they will be. -/
def rowsOk (a b : List ByteArray) (T : Nat → Nat → Nat) (m : Nat) : Prop := (∀ x y, x ≤ m → y ≤ b.length → T x y = tabB a b x y) ∧ ∀ x, T x 0 = 0
def rowOk (a b : List ByteArray) (T : Nat → Nat → Nat) (m n : Nat) : Prop := ∀ y, y ≤ n → T (m + 1) y = tabB a b (m + 1) y
def upd (T : Nat → Nat → Nat) (i j v : Nat) (x y : Nat) : Nat := if x = i ∧ y = j then v else T x y
theorem rows_zero (a b : List ByteArray) : rowsOk a b (fun _ _ => 0) 0 := ⟨fun x y hx hy => by rw [show x = 0 from by omega, tabB_zero], fun _ => rfl⟩
theorem row_zero {a b : List ByteArray} {T : Nat → Nat → Nat} {m : Nat} (h : rowsOk a b T m) : rowOk a b T m 0 := fun y hy => by
  rw [show y = 0 from by omega, h.2, tabB_zero']
theorem rows_next {a b : List ByteArray} {T : Nat → Nat → Nat} {m : Nat} (h : rowsOk a b T m) (hr : rowOk a b T m b.length) : rowsOk a b T (m + 1) := by
  refine ⟨fun x y hx hy => ?_, h.2⟩
  by_cases e : x = m + 1
  · rw [e]; exact hr y hy
  · exact h.1 x y (by omega) hy
theorem rows_upd {a b : List ByteArray} {T : Nat → Nat → Nat} {m n v : Nat} (h : rowsOk a b T m) : rowsOk a b (upd T (m + 1) (n + 1) v) m := by
  refine ⟨fun x y hx hy => ?_, fun x => ?_⟩
  · unfold upd; rw [if_neg (by omega)]; exact h.1 x y hx hy
  · unfold upd; rw [if_neg (by omega)]; exact h.2 x
theorem row_upd {a b : List ByteArray} {T : Nat → Nat → Nat} {m n v : Nat} (h : rowOk a b T m n) (hv : v = tabB a b (m + 1) (n + 1)) : rowOk a b (upd T (m + 1) (n + 1) v) m (n + 1) := by
  intro y hy
  unfold upd
  by_cases e : y = n + 1
  · rw [if_pos ⟨rfl, e⟩, e, hv]
  · rw [if_neg (by omega)]; exact h y (by omega)

end Go.Proofs.YtnnaigoomipklaaGreatDoor.M
namespace Go.Proofs.YtnnaigoomipklaaGreatDoor
open Go.RowKit M

theorem zero_tab : Tryz.zeroCells238.toList = List.replicate 1681 (.int .i64 0) := by kernel_rfl
/-- The table in a block of its own. -/
structure Tbl (w : World) (tb : Nat) (T : Nat → Nat → Nat) : Prop where
  size : tb < w.heap.size
  cell : ∀ i j, i ≤ 40 → j ≤ 40 → w.cell? ⟨tb, i * 41 + j, none⟩ = some (.int .i64 (T i j : Int))
  free : ∀ k, w.frozen? ⟨tb, k, none⟩ = false
theorem Tbl.new (w : World) : Tbl (w.alloc (.cells Tryz.zeroCells238 238)) w.heap.size (fun _ _ => 0) := by
  refine ⟨by simp, fun i j hi hj => ?_, fun k => by simp⟩
  rw [World.cell?_alloc_new, ← Array.getElem?_toList, zero_tab, List.getElem?_replicate, if_pos (by omega)]
  rfl
theorem Tbl.wrote {S : Nat → Prop} {w w' : World} {tb : Nat} {T : Nat → Nat → Nat} (h : Tbl w tb T) (hw : Wrote S w w') (hn : ¬ S tb) : Tbl w' tb T := by
  have e := hw.block tb h.size hn
  exact ⟨Nat.lt_of_lt_of_le h.size hw.size, fun i j hi hj => (World.cell?_of_block (a := ⟨tb, i * 41 + j, none⟩) e).trans (h.cell i j hi hj), fun k => (World.frozen?_of_block (a := ⟨tb, k, none⟩) e).trans (h.free k)⟩
theorem Tbl.below {w w' : World} {tb : Nat} {T : Nat → Nat → Nat} (h : Tbl w tb T) (hb : Below w.heap.size w w') : Tbl w' tb T := h.wrote (S := fun _ => False) (Wrote.of_below hb) (fun e => e)
theorem Tbl.set {w : World} {tb : Nat} {T : Nat → Nat → Nat} (h : Tbl w tb T) {i j : Nat} (hi : i ≤ 40) (hj : j ≤ 40) (v : Nat) : Tbl (w.setCell ⟨tb, i * 41 + j, none⟩ (.int .i64 (v : Int))) tb (upd T i j v) := by
  refine ⟨by simpa [World.setCell] using h.size, fun x y hx hy => ?_, fun k => ?_⟩
  · unfold upd
    by_cases e : x = i ∧ y = j
    · rw [if_pos e, e.1, e.2]
      exact World.cell?_setCell_same _ _ _ (h.cell i j hi hj)
    · rw [if_neg e, World.cell?_setCell_other w ⟨tb, i * 41 + j, none⟩ ⟨tb, x * 41 + y, none⟩ _ (fun h2 => by injection h2 with _ h3; omega)]
      exact h.cell x y hx hy
  · have := h.free k
    simpa using this

end Go.Proofs.YtnnaigoomipklaaGreatDoor

namespace Go.Proofs.YtnnaigoomipklaaGreatDoor
open Go.RowKit M

/-- Between two steps: the table, the heap of what was found, and what was written. -/
structure LS (w w' : World) (hb : Nat) (la lb : List ByteArray) (F : List (Nat × Nat)) (T : Nat → Nat → Nat) (L : List Pr) (v : Value) (m bound : Nat) : Prop where
  tbl : Tbl w' w.heap.size T
  hp : HeapQ w' (w.heap.size + 1) hb v L
  big : w.heap.size + 1 ≤ w'.heap.size
  rows : rowsOk la lb T m
  perm : L.Perm (F.map (hitQ la lb))
  heap : isHeap L L.length
  len : L.length ≤ bound
  wr : Wrote (fun i => i = hb) w w'
theorem LS.below {w w' w2 : World} {hb : Nat} {la lb : List ByteArray} {F : List (Nat × Nat)} {T : Nat → Nat → Nat} {L : List Pr} {v : Value} {m bound : Nat} (h : LS w w' hb la lb F T L v m bound) (hb2 : Below w'.heap.size w' w2) : LS w w2 hb la lb F T L v m bound :=
  ⟨h.tbl.below hb2, h.hp.below hb2, Nat.le_trans h.big hb2.size, h.rows, h.perm, h.heap, h.len, h.wr.next hb2⟩
theorem LS.set {w w' : World} {hb : Nat} {la lb : List ByteArray} {F : List (Nat × Nat)} {T : Nat → Nat → Nat} {L : List Pr} {v : Value} {m bound n : Nat} (h : LS w w' hb la lb F T L v m bound) (hm : m + 1 ≤ 40) (hn : n + 1 ≤ 40) (hlt : hb < w.heap.size) (x : Nat) :
    LS w (w'.setCell ⟨w.heap.size, (m + 1) * 41 + (n + 1), none⟩ (.int .i64 (x : Int))) hb la lb F (upd T (m + 1) (n + 1) x) L v m bound := by
  have hw := Wrote.set (fun i => i = w.heap.size) w' ⟨w.heap.size, (m + 1) * 41 + (n + 1), none⟩ (.int .i64 (x : Int)) rfl
  exact ⟨h.tbl.set hm hn x, h.hp.wrote hw (by omega) (fun g e e2 => by have := (World.ownsRow.lt h.hp.own g e).1; omega), Nat.le_trans h.big hw.size, rows_upd h.rows, h.perm, h.heap, h.len, h.wr.trans hw (fun i hi e => by omega)⟩
theorem LS.more {w w' : World} {hb : Nat} {la lb : List ByteArray} {F : List (Nat × Nat)} {T : Nat → Nat → Nat} {L : List Pr} {v : Value} {m bound b2 : Nat} (h : LS w w' hb la lb F T L v m bound) (hb2 : bound ≤ b2) : LS w w' hb la lb F T L v m b2 :=
  ⟨h.tbl, h.hp, h.big, h.rows, h.perm, h.heap, Nat.le_trans h.len hb2, h.wr⟩
/-- One more is found. -/
theorem LS.found {w w' w2 : World} {hb : Nat} {la lb : List ByteArray} {F : List (Nat × Nat)} {T : Nat → Nat → Nat} {L : List Pr} {v : Value} {m bound q : Nat} (h : LS w w' hb la lb F T L v m bound) (hlt : hb < w.heap.size) (hql : L.length = q) (x : Nat × Nat) {A : Option Addr} {cap : Nat} {L2 : List Pr}
    (h2 : HeapQ w2 (w.heap.size + 1) hb (.slice A (q + 1) cap) L2) (hp : L2.Perm (hitQ la lb x :: L)) (hh : isHeap L2 (q + 1)) (hw : Wrote (fun g => g = hb ∨ v.ownBlock = some g) w' w2) : LS w w2 hb la lb (x :: F) T L2 (.slice A (q + 1) cap) m (bound + 1) := by
  have hl := h2.own.len
  have hno : ∀ g, v.ownBlock = some g → w.heap.size + 1 ≤ g := fun g e => (World.ownsRow.lt h.hp.own g e).1
  exact ⟨h.tbl.wrote hw (fun e => by
    rcases e with e | e
    · omega
    · have := hno _ e; omega), h2, Nat.le_trans h.big hw.size, h.rows, by rw [List.map_cons]; exact hp.trans (h.perm.cons _), by rw [hl]; exact hh, by rw [hl]; have := h.len; omega, h.wr.trans hw (fun i hi e => by
    rcases e with e | e
    · exact e
    · have := hno _ e; omega)⟩

set_option maxHeartbeats 4000000 in
set_option maxRecDepth 100000 in
theorem longest_any (w0 : World) (aA : Option Addr) (na ca : Nat) (la : List ByteArray) (bA : Option Addr) (nb cb : Nat) (lb : List ByteArray) (hb : Nat) (w : World) (ha : Strs w0 aA na la) (hbS : Strs w0 bA nb lb) (hna : na ≤ 40) (hnb : nb ≤ 40) (h0 : Below w0.heap.size w0 w) (hw0 : w0.heap.size ≤ hb)
    (hbox : w.heap[hb]? = some (.cells #[.slice none 0 0, .func (.func 193) #[] #[]] 216 (0, 0))) :
    Calls Tryz.prog 194 #[.slice aA na ca, .slice bA nb cb, .func (.func 195) #[.pointer (some ⟨hb, 0, none⟩)] #[]] w fun e w' => ∃ A n cap L, e = .returned (.int .i64 (lcs la lb : Int)) ∧ HeapQ w' (w.heap.size + 1) hb (.slice A n cap) L ∧ L.Perm ((hits la lb).map (hitQ la lb)) ∧ isHeap L n ∧ n ≤ 1600 ∧ Wrote (fun i => i = hb) w w' := by
  have hlt : hb < w.heap.size := (Array.getElem?_eq_some_iff.1 hbox).1
  have HNA := Lib.hid ha.len
  have HNB := Lib.hid hbS.len
  have HA := Lib.hid ha
  have HB := Lib.hid hbS
  have H0 := Lib.hid h0
  have HINIT := Lib.hid (show LS w (w.alloc (.cells Tryz.zeroCells238 238)) hb la lb [] (fun _ _ => 0) [] (.slice none 0 0) 0 0 from
    ⟨Tbl.new w, ⟨((below_alloc w _).block hb hlt).trans hbox, OwnPr.nil_, by omega⟩, by simp, rows_zero la lb, List.Perm.refl _, fun k k0 kn => by simp at kn, by simp, Wrote.of_below (below_alloc w _)⟩)
  clear ha hbS h0 hbox
  go_enter Tryz.func194, Tryz.ntmps194
  go_wp2
  go_loopw [13] (fun x w' => ∃ m : Nat, ∃ T L v, x = .int .i64 m ∧ m ≤ na ∧ LS w w' hb la lb (((List.range la.length).drop (la.length - m)).flatMap (rowM la lb)) T L v m (m * 40)) (fun x _ => na - (intOf x).toNat)
  case atStart => exact ⟨0, fun _ _ => 0, [], .slice none 0 0, rfl, by omega, by rw [found_zero]; exact HINIT.out⟩
  case round =>
    obtain ⟨m, T, L, v, rfl, hm, HS⟩ := hrel
    by_cases hlm : m < na
    · go_wp2
      go_loopw [18] (fun x w' => ∃ n : Nat, ∃ T L v, x = .int .i64 n ∧ n ≤ nb ∧ LS w w' hb la lb (foundAt la lb m n) T L v m (m * 40 + n) ∧ Hid (rowOk la lb T m n)) (fun x _ => nb - (intOf x).toNat)
      case atStart => exact ⟨0, T, L, v, rfl, by omega, by unfold foundAt; rw [foundRow_zero]; exact HS, row_zero HS.rows⟩
      case round =>
        obtain ⟨n, T, L, v, rfl, hn, HS, HR⟩ := hrel
        by_cases hln : n < nb
        · have BW := Lib.hid (Wrote.below' H0.out HS.wr (fun k e => by omega))
          obtain ⟨i, Hi⟩ : ∃ i, Hid (i = na - 1 - m) := ⟨_, rfl⟩
          obtain ⟨j, Hj⟩ : ∃ j, Hid (j = nb - 1 - n) := ⟨_, rfl⟩
          have hi : i < na := by rw [Hi.out]; omega
          have hj : j < nb := by rw [Hj.out]; omega
          have hiI : (na : Int) - 1 - (m : Int) = (i : Int) := by rw [Hi.out]; omega
          have hjI : (nb : Int) - 1 - (n : Int) = (j : Int) := by rw [Hj.out]; omega
          obtain ⟨m', Hm'⟩ : ∃ m', Hid (m' = m + 1) := ⟨_, rfl⟩
          obtain ⟨n', Hn'⟩ : ∃ n', Hid (n' = n + 1) := ⟨_, rfl⟩
          have hm'I : IntKind.i64.wrap ((m : Int) + 1) = (m' : Int) := by rw [Hm'.out, IntKind.wrap_i64]; omega
          have hn'I : IntKind.i64.wrap ((n : Int) + 1) = (n' : Int) := by rw [Hn'.out, IntKind.wrap_i64]; omega
          have hm'b : m' ≤ 40 := by rw [Hm'.out]; omega
          have hn'b : n' ≤ 40 := by rw [Hn'.out]; omega
          have tc := HS.tbl.cell m n (by omega) (by omega)
          obtain ⟨t0, Ht0⟩ : ∃ t0, Hid (T m n = t0) := ⟨_, rfl⟩
          rw [Ht0.out] at tc
          obtain ⟨W1, HW1⟩ : ∃ W1, Hid (W1 = wr.alloc (.cells #[.int .i64 (i : Int), .int .i64 (j : Int), .int .i64 (t0 : Int)] 213)) := ⟨_, rfl⟩
          obtain ⟨pb, Hpb⟩ : ∃ pb, Hid (pb = wr.heap.size) := ⟨_, rfl⟩
          have HS1 := Lib.hid (show LS w W1 hb la lb (foundAt la lb m n) T L v m (m * 40 + n) by rw [HW1.out]; exact HS.below (below_alloc _ _))
          have BW1 := Lib.hid (show Below w0.heap.size w0 W1 by rw [HW1.out]; exact BW.out.next (below_alloc _ _))
          obtain ⟨b1, o1, s, rfl, hs, hs2, cs⟩ := (HA.out.below BW1.out).at_ hi
          obtain ⟨b2, o2, t, rfl, ht, ht2, ct⟩ := (HB.out.below BW1.out).at_ hj
          have p0 : W1.cell? ⟨pb, 0, none⟩ = some (.int .i64 (i : Int)) := by rw [HW1.out, Hpb.out]; simp
          have p1 : W1.cell? ⟨pb, 1, none⟩ = some (.int .i64 (j : Int)) := by rw [HW1.out, Hpb.out]; simp
          have p2 : W1.cell? ⟨pb, 2, none⟩ = some (.int .i64 (t0 : Int)) := by rw [HW1.out, Hpb.out]; simp
          have HHs := Lib.hid hs
          have HHt := Lib.hid ht
          have HS := Lib.hid HS
          have ht0 : t0 ≤ 40 := by rw [← Ht0.out, HS.out.rows.1 m n (Nat.le_refl _) (by rw [HNB.out]; exact hn)]; have := tabB_le la lb m n; rw [HNA.out] at this; omega
          clear hs ht
          go_wp2
          rw [← HW1.out, ← Hpb.out]
          obtain ⟨q, Hq⟩ : ∃ q, Hid (L.length = q) := ⟨_, rfl⟩
          obtain ⟨A, cap, hv, _⟩ := HS.out.hp.own.form Hq.out
          subst hv
          by_cases hst : s = t
          · subst hst
            have hbq := beq_same s
            obtain ⟨t1, Ht1⟩ : ∃ t1, Hid (t1 = t0 + 1) := ⟨_, rfl⟩
            have ht1I : IntKind.i64.wrap ((t0 : Int) + 1) = (t1 : Int) := by rw [Ht1.out, IntKind.wrap_i64]; omega
            go_quiet (fail)
            go_wp2
            obtain ⟨W2, HW2⟩ : ∃ W2, Hid (W2 = W1.drewN nq) := ⟨_, rfl⟩
            have HS2 := Lib.hid (show LS w W2 hb la lb (foundAt la lb m n) T L (.slice A q cap) m (m * 40 + n) by rw [HW2.out]; exact HS1.out.below (below_drewN (Below.refl _ _) _))
            have c2 : W2.cell? ⟨pb, 2, none⟩ = some (.int .i64 (t0 : Int)) := by rw [HW2.out]; exact p2
            have k0 : W2.cell? ⟨pb, 0, none⟩ = some (.int .i64 (i : Int)) := by rw [HW2.out]; exact p0
            have k1 : W2.cell? ⟨pb, 1, none⟩ = some (.int .i64 (j : Int)) := by rw [HW2.out]; exact p1
            have d2 := HS2.out.tbl.cell m' n' hm'b hn'b
            have f2 := HS2.out.tbl.free
            have hpt : pb ≠ w.heap.size := by have := HS.out.big; rw [Hpb.out]; omega
            obtain ⟨W3, HW3⟩ : ∃ W3, Hid (W3 = W2.setCell ⟨w.heap.size, m' * 41 + n', none⟩ (.int .i64 (t1 : Int))) := ⟨_, rfl⟩
            have HS3 := Lib.hid (show LS w W3 hb la lb (foundAt la lb m n) (upd T (m + 1) (n + 1) t1) L (.slice A q cap) m (m * 40 + n) by
              rw [HW3.out, Hm'.out, Hn'.out]; exact HS2.out.set (by omega) (by omega) hlt t1)
            have HR3 := Lib.hid (show rowOk la lb (upd T (m + 1) (n + 1) t1) m (n + 1) from row_upd HR.out (by
              rw [tabB_same (s := s) (by rw [HNA.out]; exact hlm) (by rw [HNB.out]; exact hln) (by rw [HNA.out, ← Hi.out]; exact HHs.out) (by rw [HNB.out, ← Hj.out]; exact HHt.out), Ht1.out, ← Ht0.out, HS.out.rows.1 m n (Nat.le_refl _) (by rw [HNB.out]; exact hn)]))
            have HHIT := Lib.hid (show hitQ la lb (i, j) = ⟨i, j, t0⟩ by
              have := tabB_hit (a := la) (b := lb) (m := m) (n := n) (by rw [HNA.out]; exact hlm) (by rw [HNB.out]; exact hln)
              rw [HNA.out, HNB.out, ← Hi.out, ← Hj.out] at this
              rw [this, ← Ht0.out, HS.out.rows.1 m n (Nat.le_refl _) (by rw [HNB.out]; exact hn)])
            have HF := Lib.hid (show foundAt la lb m (n + 1) = (i, j) :: foundAt la lb m n by
              unfold foundAt
              rw [foundRow_step (by rw [HNB.out]; exact hln), HNA.out, HNB.out, ← Hi.out, ← Hj.out, if_pos (HHs.out.trans HHt.out.symm)]; rfl)
            rw [← HW2.out]
            clear p0 p1 p2 tc cs ct
            go_region
            go_wp2_with fail
            rw [← HW3.out]
            have HS3d := Lib.hid (HS3.out.below (Below.refl _ _).drew)
            refine (add_any hb (w.heap.size + 1) A q cap L ⟨i, j, t0⟩ _ HS3d.out.hp (by have := HS3.out.len; rw [Hq.out] at this; omega) HS3d.out.big (by have := HS3.out.heap; rw [Hq.out] at this; exact this)).mono ?_
            rintro e w4 ⟨rfl, A4, cap4, L4, q4, p4, h4, g4⟩
            have HS4 := Lib.hid (HS3d.out.found hlt Hq.out (i, j) q4 (by rw [HHIT.out]; exact p4) h4 g4)
            clear q4 p4 h4 g4
            go_wp2
            go_roundw
            case rel => exact ⟨n + 1, upd T (m + 1) (n + 1) t1, L4, .slice A4 (q + 1) cap4, by rw [Hn'.out], by omega, by rw [HF.out]; exact HS4.out, HR3⟩
            case measure => have := Hn'.out; simp [intOf]; omega
          · have hbq := beq_other hst
            go_quiet (fail)
            go_wp2
            obtain ⟨W2, HW2⟩ : ∃ W2, Hid (W2 = W1.drewN nq) := ⟨_, rfl⟩
            have HS2 := Lib.hid (show LS w W2 hb la lb (foundAt la lb m n) T L (.slice A q cap) m (m * 40 + n) by rw [HW2.out]; exact HS1.out.below (below_drewN (Below.refl _ _) _))
            have d2 := HS2.out.tbl.cell m' n' hm'b hn'b
            have d3 := HS2.out.tbl.cell m n' (by omega) hn'b
            have d4 := HS2.out.tbl.cell m' n hm'b (by omega)
            have f2 := HS2.out.tbl.free
            obtain ⟨x3, Hx3⟩ : ∃ x, Hid (T m n' = x) := ⟨_, rfl⟩
            obtain ⟨x4, Hx4⟩ : ∃ x, Hid (T m' n = x) := ⟨_, rfl⟩
            rw [Hx3.out] at d3
            rw [Hx4.out] at d4
            have HF := Lib.hid (show foundAt la lb m (n + 1) = foundAt la lb m n by
              unfold foundAt
              rw [foundRow_step (by rw [HNB.out]; exact hln), HNA.out, HNB.out, ← Hi.out, ← Hj.out, if_neg (by rw [HHs.out, HHt.out]; exact fun e => hst (by injection e))]; rfl)
            rw [← HW2.out]
            clear p0 p1 p2 tc cs ct
            go_region
            go_wp2
            go_roundw
            case rel =>
              refine ⟨n + 1, upd T (m + 1) (n + 1) (max x3 x4), L, .slice A q cap, by rw [Hn'.out], by omega, ?_, ?_⟩
              · rw [show (if x3 < x4 then (x4 : Int) else (x3 : Int)) = ((max x3 x4 : Nat) : Int) from by split <;> omega, Hm'.out, Hn'.out, HF.out]
                exact ((HS2.out.set (by omega) (by omega) hlt (max x3 x4)).below (Below.refl _ _).drew).more (by omega)
              · refine row_upd HR.out ?_
                rw [tabB_other (s := s) (t := t) (by rw [HNA.out]; exact hlm) (by rw [HNB.out]; exact hln) (by rw [HNA.out, ← Hi.out]; exact HHs.out) (by rw [HNB.out, ← Hj.out]; exact HHt.out) hst, ← Hx3.out, ← Hx4.out, Hn'.out, Hm'.out, HS.out.rows.1 m (n + 1) (Nat.le_refl _) (by rw [HNB.out]; omega), HR.out n (Nat.le_refl _)]
            case measure => have := Hn'.out; simp [intOf]; omega
        · obtain rfl : n = nb := by omega
          go_wp2
          go_roundw
          case rel => exact ⟨m + 1, T, L, v, by go_num, by omega, by rw [← found_next (by rw [HNA.out]; exact hlm), HNB.out]; exact ⟨HS.tbl, HS.hp, HS.big, rows_next HS.rows (by rw [HNB.out]; exact HR.out), HS.perm, HS.heap, by have := HS.len; omega, HS.wr⟩⟩
          case measure => simp [intOf]; omega
    · obtain rfl : m = na := by omega
      obtain ⟨q, Hq⟩ : ∃ q, Hid (L.length = q) := ⟨_, rfl⟩
      obtain ⟨A, cap, hv, _⟩ := HS.hp.own.form Hq.out
      subst hv
      have tc := HS.tbl.cell m nb (by omega) hnb
      have ht : T m nb = lcs la lb := by rw [HS.rows.1 m nb (Nat.le_refl _) (by rw [HNB.out]; exact Nat.le_refl _), ← HNA.out, ← HNB.out]; exact tabB_all la lb
      rw [ht] at tc
      have HP := Lib.hid (show L.Perm ((hits la lb).map (hitQ la lb)) by
        have := HS.perm; rw [← found_all]; rw [← HNA.out] at this; exact this)
      clear ht
      go_wp2
      go_ret
      exact ⟨A, q, cap, L, rfl, HS.hp, HP.out, by rw [← Hq.out]; exact HS.heap, by have := HS.len; rw [Hq.out] at this; omega, HS.wr⟩

end Go.Proofs.YtnnaigoomipklaaGreatDoor

namespace Go.Proofs.YtnnaigoomipklaaGreatDoor
open Go.RowKit M

/-- The blocks of a list of pairs and of each pair. -/
def BlkP (v : Value) (gs : List Nat) (g : Nat) : Prop := v.ownBlock = some g ∨ g ∈ gs
/-- Pairs that the call itself has laid, each in a block of its own. -/
structure OwnPP (w : World) (base : Nat) (v : Value) (L : List (Nat × Nat)) (gs : List Nat) : Prop where
  len : gs.length = L.length
  row : w.ownsRow base 220 1 v L.length (gs.map fun g => Value.slice (some ⟨g, 0, none⟩) 2 2)
  inner : ∀ (k g : Nat) (s : Nat × Nat), gs[k]? = some g → L[k]? = some s → w.heap[g]? = some (.cells #[.int .i64 (s.1 : Int), .int .i64 (s.2 : Int)] 3 (0, 0)) ∧ base ≤ g ∧ v.ownBlock ≠ some g
  apart : ∀ (i j g : Nat), gs[i]? = some g → gs[j]? = some g → i = j
section
variable {S : Nat → Prop} {w w' : World} {base n cap g k : Nat} {v : Value} {A : Option Addr} {L : List (Nat × Nat)} {gs : List Nat}
theorem OwnPP.nil_ : OwnPP w base (.slice none 0 0) [] [] := ⟨rfl, w.ownsRow_nil base _ _, fun k g s h => by simp at h, fun i j g h => by simp at h⟩
theorem OwnPP.mem (h : OwnPP w base v L gs) (hg : g ∈ gs) : ∃ (k : Nat) (s : Nat × Nat), gs[k]? = some g ∧ L[k]? = some s := by
  obtain ⟨k, hk⟩ := List.mem_iff_getElem?.1 hg
  have hk2 : k < L.length := by rw [← h.len]; exact (List.getElem?_eq_some_iff.1 hk).1
  exact ⟨k, _, hk, List.getElem?_eq_getElem hk2⟩
theorem OwnPP.lt (h : OwnPP w base v L gs) (hg : BlkP v gs g) : base ≤ g ∧ g < w.heap.size := by
  rcases hg with e | e
  · exact h.row.lt g e
  · obtain ⟨k, s, h1, h2⟩ := h.mem e
    obtain ⟨h3, h4, _⟩ := h.inner k g s h1 h2
    exact ⟨h4, (Array.getElem?_eq_some_iff.1 h3).1⟩
theorem OwnPP.wrote (h : OwnPP w base v L gs) (hw : Wrote S w w') (hne : ∀ g, BlkP v gs g → ¬ S g) : OwnPP w' base v L gs := by
  refine ⟨h.len, ownsRow_wrote h.row hw (fun g e => hne g (.inl e)), fun k g s hg hs => ?_, h.apart⟩
  obtain ⟨h1, h2, h3⟩ := h.inner k g s hg hs
  exact ⟨(hw.block g (Array.getElem?_eq_some_iff.1 h1).1 (hne g (.inr (List.mem_of_getElem? hg)))).trans h1, h2, h3⟩
theorem OwnPP.below (h : OwnPP w base v L gs) (hb : Below w.heap.size w w') : OwnPP w' base v L gs := h.wrote (S := fun _ => False) (Wrote.of_below hb) (fun _ _ e => e)
theorem OwnPP.form (h : OwnPP w base v L gs) (hn : L.length = n) : ∃ A cap, v = .slice A n cap ∧ n ≤ cap := by
  subst hn
  rcases h.row.2 with ⟨hv, h0⟩ | ⟨g, cap, cur, hv, _, _, h1, h2, _⟩
  · exact ⟨none, 0, by rw [hv, h0], by omega⟩
  · exact ⟨_, cap, hv, h1⟩
theorem OwnPP.more {b2 : Nat} (h : OwnPP w base v L gs) (hb : b2 ≤ base) : OwnPP w b2 v L gs := by
  refine ⟨h.len, ⟨h.row.1, ?_⟩, fun k g s hg hs => ?_, h.apart⟩
  · rcases h.row.2 with h1 | ⟨g, cap, cur, h1, h2, h3⟩
    · exact .inl h1
    · exact .inr ⟨g, cap, cur, h1, by omega, h3⟩
  · obtain ⟨h1, h2, h3⟩ := h.inner k g s hg hs
    exact ⟨h1, by omega, h3⟩
/-- Within: the place of one pair, and its cells. -/
theorem OwnPP.at_ (h : OwnPP w base (.slice A n cap) L gs) (hk : k < n) : ∃ b gi s, A = some ⟨b, 0, none⟩ ∧ gs[k]? = some gi ∧ L[k]? = some s ∧ w.cell? ⟨b, k, none⟩ = some (.slice (some ⟨gi, 0, none⟩) 2 2) ∧ w.heap[gi]? = some (.cells #[.int .i64 (s.1 : Int), .int .i64 (s.2 : Int)] 3 (0, 0)) ∧ base ≤ gi ∧ b ≠ gi ∧ base ≤ b := by
  have hn : L.length = n := by
    rcases h.row.2 with ⟨hv, h0⟩ | ⟨g, cap', cur, hv, _⟩
    · injection hv with e1 e2 e3; omega
    · injection hv with e1 e2 e3; omega
  obtain ⟨b, cap', hv, hb, hlt⟩ := h.row.form (by omega)
  injection hv with e1 e2 e3
  subst e1 e3
  have hr := h.row
  rw [hn] at hr
  have hk1 : k < gs.length := by rw [h.len]; omega
  have hg := List.getElem?_eq_getElem hk1
  have hs := List.getElem?_eq_getElem (show k < L.length by omega)
  obtain ⟨h1, h2, h3⟩ := h.inner k _ _ hg hs
  exact ⟨b, _, _, rfl, hg, hs, by rw [hr.cellAt _ (by omega), List.getElem?_map, hg]; rfl, h1, h2, fun e => h3 (by rw [e]; rfl), hb⟩
theorem OwnPP.len_ (h : OwnPP w base (.slice A n cap) L gs) : L.length = n := by
  rcases h.row.2 with ⟨hv, h0⟩ | ⟨g, cap', cur, hv, _⟩
  · injection hv with e1 e2 e3; omega
  · injection hv with e1 e2 e3; omega
theorem OwnPP.prs (h : OwnPP w base (.slice A n cap) L gs) : Prs w A n L := by
  have hn := h.len_
  refine ⟨hn, ?_, fun k s hs => ?_⟩
  · rcases h.row.2 with ⟨hv, h0⟩ | ⟨g, cap', cur, hv, _⟩
    · injection hv with e1 e2 e3; exact .inl ⟨e1, e2⟩
    · injection hv with e1 e2 e3; exact .inr ⟨g, 0, e1⟩
  · have hk : k < n := by rw [← hn]; exact (List.getElem?_eq_some_iff.1 hs).1
    obtain ⟨b, gi, s', rfl, hg, hs', h1, h2, _⟩ := h.at_ hk
    rw [hs] at hs'
    injection hs' with hs'
    subst hs'
    exact ⟨b, 0, gi, rfl, by rw [Nat.zero_add]; exact h1, by simp [World.cell?, h2], by simp [World.cell?, h2]⟩
end
theorem run_pp {w : World} (ty : TypeId) (base : Nat) (v : Value) (L : List (Nat × Nat)) (gs : List Nat) (hown : OwnPP w base v L gs) (x : Nat × Nat) (gb gi : Nat) (h0 : w.cell? ⟨gb, 0, none⟩ = some (.slice (some ⟨gi, 0, none⟩) 2 2)) (h1 : w.heap[gi]? = some (.cells #[.int .i64 (x.1 : Int), .int .i64 (x.2 : Int)] 3 (0, 0)))
    (hgi : base ≤ gi) (hn : ¬ BlkP v gs gi) (hbound : L.length ≤ 1000) (hbase : base ≤ w.heap.size) :
    ∃ v' w', (Builtin.append_ #[174, 174] ty #[v, .slice (some ⟨gb, 0, none⟩) 1 1]).run Tryz.prog w = .ok v' w' ∧ OwnPP w' base v' (L ++ [x]) (gs ++ [gi]) ∧ w.grownBy w' v.ownBlock := by
  obtain ⟨i, q1, q2, q3, q4⟩ := info_parts ints_info
  have hnews : ∀ j t, [Value.slice (some ⟨gi, 0, none⟩) 2 2][j]? = some t → w.cell? ((⟨gb, 0, none⟩ : Addr).add j) = some t := by
    intro j t ht
    match j, ht with
    | 0, ht => simp at ht; subst ht; simpa [Addr.add] using h0
  obtain ⟨v', w', hrun, hr, hg, _, hat⟩ := run_append_own_at (P := Tryz.prog) w base 174 ty 220 i _ 1 24 Tryz.underlying174 q1 q2 q3 q4 (by simp [Value.cells]) (by omega) v L.length _ hown.row ⟨gb, 0, none⟩ 1 1 [.slice (some ⟨gi, 0, none⟩) 2 2] (by simp) hnews (fun t ht => by
    simp at ht
    rw [ht]; rfl) (by unfold maxLen; omega) (by omega) hbase
  refine ⟨v', w', hrun, ⟨by simp [hown.len], by rw [List.map_append, List.length_append]; exact hr, fun k g s hg' hs' => ?_, ?_⟩, hg⟩
  · have hone : w.heap[g]? = some (.cells #[.int .i64 (s.1 : Int), .int .i64 (s.2 : Int)] 3 (0, 0)) ∧ base ≤ g ∧ v.ownBlock ≠ some g := by
      rcases list_snoc_get hg' with ⟨hk, hg'⟩ | ⟨hk, rfl⟩
      · rcases list_snoc_get hs' with ⟨_, hs'⟩ | ⟨hk2, _⟩
        · exact hown.inner k g s hg' hs'
        · rw [hown.len] at hk; omega
      · rcases list_snoc_get hs' with ⟨hk2, _⟩ | ⟨_, rfl⟩
        · rw [hown.len] at hk; omega
        · exact ⟨h1, hgi, fun e => hn (.inl e)⟩
    obtain ⟨a0, a1, a2⟩ := hone
    have hlt := (Array.getElem?_eq_some_iff.1 a0).1
    refine ⟨(hg.block g hlt (fun e => a2 e.symm)).trans a0, a1, ?_⟩
    rcases hat with hat | hat
    · rw [hat]; exact a2
    · rw [hat]; intro e; injection e with e; omega
  · intro a b g ha hb
    rcases list_snoc_get ha with ⟨hk, ha1⟩ | ⟨hk, e1⟩
    · rcases list_snoc_get hb with ⟨_, hb1⟩ | ⟨hk2, e2⟩
      · exact hown.apart a b g ha1 hb1
      · rw [e2] at ha1; exact absurd (.inr (List.mem_of_getElem? ha1)) hn
    · rcases list_snoc_get hb with ⟨_, hb1⟩ | ⟨hk2, _⟩
      · rw [e1] at hb1; exact absurd (.inr (List.mem_of_getElem? hb1)) hn
      · omega
theorem wpList_pp {w : World} {ops : Array Oper} {rest : List Oper} {o : Oper} {a : Act} {Q : Exit → Act → World → Prop} (s y : Operand) (base : Nat) (v : Value) (L : List (Nat × Nat)) (gs : List Nat) (hown : OwnPP w base v L gs) (x : Nat × Nat) (gb gi : Nat) (h0 : w.cell? ⟨gb, 0, none⟩ = some (.slice (some ⟨gi, 0, none⟩) 2 2)) (h1 : w.heap[gi]? = some (.cells #[.int .i64 (x.1 : Int), .int .i64 (x.2 : Int)] 3 (0, 0)))
    (hgi : base ≤ gi) (hn : ¬ BlkP v gs gi) (hbound : L.length ≤ 1000) (hbase : base ≤ w.heap.size)
    (hgd : Region.wanted o (yielded ops a.tmps) = true) (ho : o.op = .call { callee := .builtin .append, args := #[s, y], argTypes := #[174, 174] }) (hs : a.eval s = v) (hy : a.eval y = .slice (some ⟨gb, 0, none⟩) 1 1)
    (h : ∀ v' w', OwnPP w' base v' (L ++ [x]) (gs ++ [gi]) → w.grownBy w' v.ownBlock → wpList Tryz.prog ops Q rest (a.put o.dst v') w') : wpList Tryz.prog ops Q (o :: rest) a w := by
  refine wpList_wanted hgd fun K hK => ?_
  obtain ⟨v', w', hrun, k1, k2⟩ := run_pp o.type base v L gs hown x gb gi h0 h1 hgi hn hbound hbase
  unfold Oper.wp execOp
  simp only [ho, resolve, invoke, builtin, Sem.run_bind, Sem.run_pure, Result.andThen_ok, List.map_toArray, List.map_cons, List.map_nil, hs, hy, hrun]
  exact hK _ _ (h v' w' k1 k2)

end Go.Proofs.YtnnaigoomipklaaGreatDoor
