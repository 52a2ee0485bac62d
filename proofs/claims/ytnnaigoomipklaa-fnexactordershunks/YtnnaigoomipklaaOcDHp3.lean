/-
  container/heap over the program's heap: Push, Pop; what the program adds and takes.
-/
import Derived.Test.YtnnaigoomipklaaOcDHp2
import Derived.Test.YtnnaigoomipklaaOcHJoins
set_option linter.unusedSimpArgs false
set_option linter.unusedVariables false
namespace Go.Proofs.Ytnnaigoomipklaa
open Go.RowKit M

set_option maxHeartbeats 1000000 in
set_option maxRecDepth 100000 in
theorem hpush_any (hb base : Nat) (A : Option Addr) (n cap : Nat) (L : List Pr) (p : Pr) (w : World) (h : HeapQ w base hb (.slice A n cap) L) (hn : n < 100000) (hbase : base ≤ w.heap.size) (hh : isHeap L n) :
    Calls Try.prog 102 #[.iface 128 (.pointer (some ⟨hb, 0, none⟩)), .iface 132 (.agg #[.int .i64 (p.f : Int), .int .i64 (p.s : Int), .int .i64 (p.b : Int)])] w fun e w' => e = .returned (.tuple #[]) ∧ ∃ A' cap' L', HeapQ w' base hb (.slice A' (n + 1) cap') L' ∧ L'.Perm (p :: L) ∧ isHeap L' (n + 1) ∧ Wrote (fun g => g = hb ∨ (Value.slice A n cap).ownBlock = some g) w w' := by
  have HH := Lib.hid hh
  have HQ := Lib.hid h
  have HLL := Lib.hid h.own.len
  clear hh h
  have m1 := meth_push
  have m2 := meth_len
  go_enter Try.func102, Try.ntmps102
  go_wp2_with fail
  refine (push_any hb base A n cap L p _ HQ.out (by omega) hbase).mono ?_
  rintro e w1 ⟨rfl, A1, cap1, q1, g1, k1⟩
  have HQ1 := Lib.hid q1
  have HK1 := Lib.hid k1
  clear q1 k1
  go_wp2_with fail
  refine (len_any hb base A1 (n + 1) cap1 (L ++ [p]) _ HQ1.out).mono ?_
  rintro e w2 ⟨rfl, rfl⟩
  go_wp2_with fail
  refine (up_any hb base A1 (n + 1) cap1 (L ++ [p]) n _ HQ1.out (by omega) (by omega) (up_start HH.out p HLL.out)).mono ?_
  rintro e w3 ⟨rfl, L3, q3, p3, h3, g3⟩
  have HE := Lib.hid (show ∃ A' cap' L', HeapQ w3 base hb (.slice A' (n + 1) cap') L' ∧ L'.Perm (p :: L) ∧ isHeap L' (n + 1) ∧ Wrote (fun g => g = hb ∨ (Value.slice A n cap).ownBlock = some g) w w3 from
    ⟨A1, cap1, L3, q3, p3.trans List.perm_append_comm, h3, g1.trans g3 (fun i hi e => .inr (HK1.out i hi e))⟩)
  clear q3 p3 h3 g3 g1
  go_wp2_with fail
  go_end0
  exact ⟨rfl, HE.out⟩

theorem pop_swap {L : List Pr} {n : Nat} (hl : L.length = n + 1) : at_ (swapL L 0 n) n = at_ L 0 := by
  rw [swap_at (by omega) (by omega), if_pos rfl]

set_option maxHeartbeats 1000000 in
set_option maxRecDepth 100000 in
theorem hpop_any (hb base : Nat) (A : Option Addr) (n cap : Nat) (L : List Pr) (w : World) (h : HeapQ w base hb (.slice A (n + 1) cap) L) (hn : n < 100000) (hh : isHeap L (n + 1)) :
    Calls Try.prog 103 #[.iface 128 (.pointer (some ⟨hb, 0, none⟩))] w fun e w' => e = .returned (.iface 132 (.agg #[.int .i64 ((at_ L 0).f : Int), .int .i64 ((at_ L 0).s : Int), .int .i64 ((at_ L 0).b : Int)])) ∧ ∃ H, HeapQ w' base hb (.slice A n cap) H ∧ L.Perm (at_ L 0 :: H) ∧ isHeap H n ∧ Wrote (fun g => g = hb ∨ (Value.slice A (n + 1) cap).ownBlock = some g) w w' := by
  have HQ := Lib.hid h
  have HLL := Lib.hid h.own.len
  have HD := Lib.hid (dn_start hh h.own.len)
  clear hh h
  have m1 := meth_pop
  have m2 := meth_len
  have m3 := meth_swap
  go_enter Try.func103, Try.ntmps103
  go_wp2_with fail
  refine (len_any hb base A (n + 1) cap L _ HQ.out).mono ?_
  rintro e w1 ⟨rfl, rfl⟩
  go_wp2_with fail
  refine (swap_any hb base A (n + 1) cap L 0 n _ HQ.out (by omega) (by omega) (by omega)).mono ?_
  rintro e w2 ⟨rfl, q2, g2⟩
  have HQ2 := Lib.hid q2
  clear q2
  go_wp2_with fail
  refine (down_any hb base A (n + 1) n cap (swapL L 0 n) _ HQ2.out (by omega) (by omega) HD.out).mono ?_
  rintro e w3 ⟨y, L3, rfl, q3, p3, h3, t3, g3⟩
  have HQ3 := Lib.hid q3
  have HP3 := Lib.hid (p3.trans (swap_perm (L := L) (i := 0) (j := n) (by rw [HLL.out]; omega) (by rw [HLL.out]; omega)))
  have HT3 := Lib.hid (show at_ L3 n = at_ L 0 by rw [t3 n (Nat.le_refl _)]; exact pop_swap HLL.out)
  have HG3 := Lib.hid (g2.trans g3 (fun _ _ e => e))
  have HP := Lib.hid (pop_parts HP3.out HLL.out h3)
  clear q3 p3 h3 t3 g3 g2
  go_wp2_with fail
  refine (pop_any hb base A n cap L3 _ HQ3.out (by omega)).mono ?_
  rintro e w4 ⟨rfl, q4, g4⟩
  rw [HT3.out]
  have HE := Lib.hid (show ∃ H, HeapQ w4 base hb (.slice A n cap) H ∧ L.Perm (at_ L 0 :: H) ∧ isHeap H n ∧ Wrote (fun g => g = hb ∨ (Value.slice A (n + 1) cap).ownBlock = some g) w w4 from
    ⟨L3.take n, q4, by have := HP.out.2.1; rw [HT3.out] at this; exact this, HP.out.1, (HG3.out.mono (fun k _ e => .inr e)).trans g4 (fun i _ e => .inl e)⟩)
  clear q4 g4
  go_wp2_with fail
  go_ret
  exact ⟨rfl, HE.out⟩

set_option maxHeartbeats 1000000 in
theorem add_any (hb base : Nat) (A : Option Addr) (n cap : Nat) (L : List Pr) (p : Pr) (w : World) (h : HeapQ w base hb (.slice A n cap) L) (hn : n < 100000) (hbase : base ≤ w.heap.size) (hh : isHeap L n) :
    Calls Try.prog 92 #[.pointer (some ⟨hb, 0, none⟩), .agg #[.int .i64 (p.f : Int), .int .i64 (p.s : Int), .int .i64 (p.b : Int)]] w fun e w' => e = .returned (.tuple #[]) ∧ ∃ A' cap' L', HeapQ w' base hb (.slice A' (n + 1) cap') L' ∧ L'.Perm (p :: L) ∧ isHeap L' (n + 1) ∧ Wrote (fun g => g = hb ∨ (Value.slice A n cap).ownBlock = some g) w w' := by
  have HH := Lib.hid hh
  have HQ := Lib.hid h
  clear hh h
  go_enter Try.func92, Try.ntmps92
  go_wp2_with fail
  refine (hpush_any hb base A n cap L p _ (HQ.out.below (below_alloc w _)) hn (by simp; omega) HH.out).mono ?_
  rintro e w1 ⟨rfl, A1, cap1, L1, q1, p1, h1, g1⟩
  have HE := Lib.hid (show ∃ A' cap' L', HeapQ w1 base hb (.slice A' (n + 1) cap') L' ∧ L'.Perm (p :: L) ∧ isHeap L' (n + 1) ∧ Wrote (fun g => g = hb ∨ (Value.slice A n cap).ownBlock = some g) w w1 from
    ⟨A1, cap1, L1, q1, p1, h1, (Wrote.of_below (below_alloc w _)).trans g1 (fun _ _ e => e)⟩)
  clear q1 p1 h1 g1
  go_wp2_with fail
  go_end0
  exact ⟨rfl, HE.out⟩

set_option maxHeartbeats 1000000 in
theorem qnext_any (hb base : Nat) (A : Option Addr) (n cap : Nat) (L : List Pr) (w : World) (h : HeapQ w base hb (.slice A (n + 1) cap) L) (hn : n < 100000) (hh : isHeap L (n + 1)) :
    Calls Try.prog 94 #[.pointer (some ⟨hb, 0, none⟩)] w fun e w' => e = .returned (.agg #[.int .i64 ((at_ L 0).f : Int), .int .i64 ((at_ L 0).s : Int), .int .i64 ((at_ L 0).b : Int)]) ∧ ∃ H, HeapQ w' base hb (.slice A n cap) H ∧ L.Perm (at_ L 0 :: H) ∧ isHeap H n ∧ Wrote (fun g => g = hb ∨ (Value.slice A (n + 1) cap).ownBlock = some g) w w' := by
  have HH := Lib.hid hh
  have HQ := Lib.hid h
  clear hh h
  have hap := assert_pair
  go_enter Try.func94, Try.ntmps94
  go_wp2_with fail
  refine (hpop_any hb base A n cap L _ (HQ.out.below (below_alloc w _)) hn HH.out).mono ?_
  rintro e w1 ⟨rfl, H1, q1, p1, h1, g1⟩
  have hnS : ¬ (w.heap.size = hb ∨ (Value.slice A (n + 1) cap).ownBlock = some w.heap.size) := fun e => by
    rcases e with e | e
    · have := HQ.out.size; omega
    · have := (World.ownsRow.lt HQ.out.own _ e).2; omega
  have hnS' : ∀ g, (Value.slice A n cap).ownBlock = some g → g < w.heap.size := fun g e => (World.ownsRow.lt HQ.out.own g (by cases A with | none => cases e | some a => exact e)).2
  have z5 : w1.heap[w.heap.size]? = some (.cells #[.int .i64 0, .int .i64 0, .int .i64 0] 132 (0, 0)) := (g1.block _ (by simp) hnS).trans (heap_alloc_new w _)
  have z0 : w1.cell? ⟨w.heap.size, 0, none⟩ = some (.int .i64 0) := by simp [World.cell?, z5]
  have z1 : w1.cell? ⟨w.heap.size, 1, none⟩ = some (.int .i64 0) := by simp [World.cell?, z5]
  have z2 : w1.cell? ⟨w.heap.size, 2, none⟩ = some (.int .i64 0) := by simp [World.cell?, z5]
  have zf : ∀ j, w1.frozen? ⟨w.heap.size, j, none⟩ = false := fun j => by simp [World.frozen?, z5]
  obtain ⟨p, Hp⟩ : ∃ p, Hid (at_ L 0 = p) := ⟨_, rfl⟩
  rw [Hp.out] at p1 ⊢
  have hsz : hb < w.heap.size := HQ.out.size
  have hwr : Wrote (fun i => i = w.heap.size) w1 (((w1.setCell ⟨w.heap.size, 0, none⟩ (.int .i64 (p.f : Int))).setCell ⟨w.heap.size, 1, none⟩ (.int .i64 (p.s : Int))).setCell ⟨w.heap.size, 2, none⟩ (.int .i64 (p.b : Int))) := wrote3 w1 w.heap.size 0 _ _ _
  have HE := Lib.hid (show ∃ H, HeapQ (((w1.setCell ⟨w.heap.size, 0, none⟩ (.int .i64 (p.f : Int))).setCell ⟨w.heap.size, 1, none⟩ (.int .i64 (p.s : Int))).setCell ⟨w.heap.size, 2, none⟩ (.int .i64 (p.b : Int))) base hb (.slice A n cap) H ∧ L.Perm (p :: H) ∧ isHeap H n ∧ Wrote (fun g => g = hb ∨ (Value.slice A (n + 1) cap).ownBlock = some g) w (((w1.setCell ⟨w.heap.size, 0, none⟩ (.int .i64 (p.f : Int))).setCell ⟨w.heap.size, 1, none⟩ (.int .i64 (p.s : Int))).setCell ⟨w.heap.size, 2, none⟩ (.int .i64 (p.b : Int))) from
    ⟨H1, q1.wrote hwr (by omega) (fun g e e2 => by have := hnS' g e; omega), p1, h1, ((Wrote.of_below (below_alloc w _)).trans g1 (fun _ _ e => e)).trans hwr (fun i hi e => by omega)⟩)
  have zz := Lib.hid (set3_cells (x := .int .i64 (p.f : Int)) (y := .int .i64 (p.s : Int)) (z := .int .i64 (p.b : Int)) z0 z1 z2)
  clear q1 p1 h1 g1 hwr hnS hnS' z5
  go_wp2_with fail
  refine bodyPost_ret (v := .agg #[.int .i64 (p.f : Int), .int .i64 (p.s : Int), .int .i64 (p.b : Int)]) (by simp [results, Try.results94, go_sem, z0, z1, z2]) rfl ?_
  rw [Hp.out]
  exact ⟨rfl, HE.out⟩

end Go.Proofs.Ytnnaigoomipklaa
