/-
  The heap's methods: how many, which is less, two changed for one another, one more, one less.
-/
import Derived.Test.YtnnaigoomipklaaOcDMem
import Derived.Deep.RegionHeld3
import Derived.StillTailTactics
import Derived.BigRegion
set_option linter.unusedSimpArgs false
set_option linter.unusedVariables false
namespace Go.Proofs.Ytnnaigoomipklaa
open Go.RowKit M

theorem isLess_any (p q : Pr) (w : World) : Calls Try.prog 90 #[.agg #[.int .i64 (p.f : Int), .int .i64 (p.s : Int), .int .i64 (p.b : Int)], .agg #[.int .i64 (q.f : Int), .int .i64 (q.s : Int), .int .i64 (q.b : Int)]] w fun e w' => e = .returned (.bool (ltQ p q)) ∧ Below w.heap.size w w' := by
  obtain ⟨pf, ps, pb⟩ := p
  obtain ⟨qf, qs, qb⟩ := q
  dsimp only
  have hb := Lib.hid ((below_alloc w (.cells #[.int .i64 (pf : Int), .int .i64 (ps : Int), .int .i64 (pb : Int)] 132)).next (below_alloc _ (.cells #[.int .i64 (qf : Int), .int .i64 (qs : Int), .int .i64 (qb : Int)] 132)))
  by_cases h : pf = qf
  · have hr := Lib.hid (show ltQ ⟨pf, ps, pb⟩ ⟨qf, qs, qb⟩ = decide (ps < qs) by unfold ltQ; rw [if_pos h])
    have hd : ((pf : Int) != (qf : Int)) = false := by simp [h]
    clear h
    go_enter Try.func90, Try.ntmps90
    go_wp2
    go_ret
    exact ⟨ret_bool (by rw [hr.out]), hb.out⟩
  · have hr := Lib.hid (show ltQ ⟨pf, ps, pb⟩ ⟨qf, qs, qb⟩ = decide (pf < qf) by unfold ltQ; rw [if_neg h])
    have hd : ((pf : Int) != (qf : Int)) = true := by simp; omega
    clear h
    go_enter Try.func90, Try.ntmps90
    go_wp2
    go_ret
    exact ⟨ret_bool (by rw [hr.out]), hb.out⟩

theorem len_any (hb base : Nat) (A : Option Addr) (n cap : Nat) (L : List Pr) (w : World) (h : HeapQ w base hb (.slice A n cap) L) :
    Calls Try.prog 93 #[.pointer (some ⟨hb, 0, none⟩)] w fun e w' => e = .returned (.int .i64 (n : Int)) ∧ w = w' := by
  have c0 := h.cell0
  go_enter Try.func93, Try.ntmps93
  go_wp2
  go_ret
  exact ⟨rfl, rfl⟩

set_option maxHeartbeats 1000000 in
theorem less_any (hb base : Nat) (A : Option Addr) (n cap : Nat) (L : List Pr) (i j : Nat) (w : World) (h : HeapQ w base hb (.slice A n cap) L) (hi : i < n) (hj : j < n) (hn : n ≤ 100000) :
    Calls Try.prog 137 #[.pointer (some ⟨hb, 0, none⟩), .int .i64 (i : Int), .int .i64 (j : Int)] w fun e w' => e = .returned (.bool (ltQ (at_ L i) (at_ L j))) ∧ Below w.heap.size w w' := by
  have c0 := h.cell0
  have c1 := h.cell1
  obtain ⟨g, rfl, hg1, hg2, i0, i1, i2, _⟩ := h.own.at_ hi
  obtain ⟨g', e, _, _, j0, j1, j2, _⟩ := h.own.at_ hj
  injection e with e
  injection e with e
  subst e
  obtain ⟨p, Hp⟩ : ∃ p, Hid (at_ L i = p) := ⟨_, rfl⟩
  obtain ⟨q, Hq⟩ : ∃ q, Hid (at_ L j = q) := ⟨_, rfl⟩
  rw [Hp.out] at i0 i1 i2 ⊢
  rw [Hq.out] at j0 j1 j2 ⊢
  clear h Hp Hq
  go_enter Try.func137, Try.ntmps137
  go_wp2
  go_region_held3 (fun w' => w'.cell? ⟨hb, 0, none⟩ = some (.slice (some ⟨g, 0, none⟩) n cap) ∧ w'.cell? ⟨hb, 1, none⟩ = some (.func (.func 90) #[] #[]) ∧ w'.cell? ⟨g, i * 3, none⟩ = some (.int .i64 (p.f : Int)) ∧ w'.cell? ⟨g, i * 3 + 1, none⟩ = some (.int .i64 (p.s : Int)) ∧ w'.cell? ⟨g, i * 3 + 2, none⟩ = some (.int .i64 (p.b : Int)) ∧ w'.cell? ⟨g, j * 3, none⟩ = some (.int .i64 (q.f : Int)) ∧ w'.cell? ⟨g, j * 3 + 1, none⟩ = some (.int .i64 (q.s : Int)) ∧ w'.cell? ⟨g, j * 3 + 2, none⟩ = some (.int .i64 (q.b : Int)))
    (first | exact ⟨c0, c1, i0, i1, i2, j0, j1, j2⟩ | exact ⟨cell_keep b5 c0, cell_keep b5 c1, cell_keep b5 i0, cell_keep b5 i1, cell_keep b5 i2, cell_keep b5 j0, cell_keep b5 j1, cell_keep b5 j2⟩ | go_keep)
    (first
      | (go_at_call 90; refine (isLess_any p q _).mono ?_; rintro e w5 ⟨rfl, b5⟩)
      | fail)
  go_wp2
  go_ret
  exact ⟨rfl, (Below.refl _ w).drew.next b5⟩

set_option maxHeartbeats 2000000 in
theorem swap_any (hb base : Nat) (A : Option Addr) (n cap : Nat) (L : List Pr) (i j : Nat) (w : World) (h : HeapQ w base hb (.slice A n cap) L) (hi : i < n) (hj : j < n) (hn : n ≤ 100000) :
    Calls Try.prog 140 #[.pointer (some ⟨hb, 0, none⟩), .int .i64 (i : Int), .int .i64 (j : Int)] w fun e w' => e = .returned (.tuple #[]) ∧ HeapQ w' base hb (.slice A n cap) (swapL L i j) ∧ Wrote (fun g => (Value.slice A n cap).ownBlock = some g) w w' := by
  have c0 := h.cell0
  obtain ⟨g, rfl, hg1, hg2, i0, i1, i2, hf⟩ := h.own.at_ hi
  obtain ⟨g', e, _, _, j0, j1, j2, _⟩ := h.own.at_ hj
  injection e with e
  injection e with e
  subst e
  have hlt := h.lt
  have hne : hb ≠ g := by omega
  have HF := Lib.hid ((h.put hi (at_ L j)).put hj (at_ L i))
  have hw := Lib.hid ((wrote3 w g i (.int .i64 ((at_ L j).f : Int)) (.int .i64 ((at_ L j).s : Int)) (.int .i64 ((at_ L j).b : Int))).trans (wrote3 _ g j (.int .i64 ((at_ L i).f : Int)) (.int .i64 ((at_ L i).s : Int)) (.int .i64 ((at_ L i).b : Int))) (fun _ _ e => e))
  rw [show (L.set i (at_ L j)).set j (at_ L i) = swapL L i j from rfl] at HF
  obtain ⟨p, Hp⟩ : ∃ p, Hid (at_ L i = p) := ⟨_, rfl⟩
  obtain ⟨q, Hq⟩ : ∃ q, Hid (at_ L j = q) := ⟨_, rfl⟩
  rw [Hp.out] at i0 i1 i2 HF hw
  rw [Hq.out] at j0 j1 j2 HF hw
  clear h
  by_cases hij : i = j
  · subst hij
    obtain rfl : p = q := Hp.out.symm.trans Hq.out
    clear Hp Hq
    go_enter Try.func140, Try.ntmps140
    go_wp2
    go_region
    go_wp2
    go_end0
    exact ⟨rfl, HF.out.below (Below.refl _ _).drew, (hw.out.next (Below.refl _ _).drew).mono (fun k _ e => by rw [e]; rfl)⟩
  · have hji : j ≠ i := fun e => hij e.symm
    clear Hp Hq
    go_enter Try.func140, Try.ntmps140
    go_wp2
    go_region
    go_wp2
    go_end0
    exact ⟨rfl, HF.out.below (Below.refl _ _).drew, (hw.out.next (Below.refl _ _).drew).mono (fun k _ e => by rw [e]; rfl)⟩

theorem assert_pair (v : Value) (w : World) : (Instr.typeAssert (.iface 132 v) 20 132 false).run Try.prog w = .ok v w := by kernel_rfl
theorem cut_pairs (a : Option Addr) (n c k : Nat) (h : k ≤ c) (w : World) :
    (Instr.slice 133 (.slice a n c) none (some (.int .i64 (k : Int))) none).run Try.prog w = .ok (.slice a k c) w := by
  obtain ⟨i, h3, h4, h5, h6⟩ := info_parts trip_info
  have he : Try.prog.elem 133 = 132 := by simp [Program.elem, Try.underlying133]
  have hr := run_slice_h (P := Try.prog) w 133 a n c (by rw [he]; exact Try.underlying133) .i64 k (by omega) (by omega)
  rw [hr, he]
  cases a <;> simp [sizeOf, typeInfo, h3, h5, sliced, Addr.add]

set_option maxHeartbeats 1000000 in
theorem push_any (hb base : Nat) (A : Option Addr) (n cap : Nat) (L : List Pr) (p : Pr) (w : World) (h : HeapQ w base hb (.slice A n cap) L) (hn : n ≤ 100000) (hbase : base ≤ w.heap.size) :
    Calls Try.prog 139 #[.pointer (some ⟨hb, 0, none⟩), .iface 132 (.agg #[.int .i64 (p.f : Int), .int .i64 (p.s : Int), .int .i64 (p.b : Int)])] w fun e w' => e = .returned (.tuple #[]) ∧ ∃ A' cap', HeapQ w' base hb (.slice A' (n + 1) cap') (L ++ [p]) ∧ Wrote (fun g => g = hb ∨ (Value.slice A n cap).ownBlock = some g) w w' ∧ ∀ g, g < w.heap.size → (Value.slice A' (n + 1) cap').ownBlock = some g → (Value.slice A n cap).ownBlock = some g := by
  have c0 := h.cell0
  have f0 := h.free 0
  have hap := assert_pair
  have hlen := Lib.hid h.own.len
  have HH := Lib.hid h
  have hsz := h.size
  clear h
  go_enter Try.func139, Try.ntmps139
  go_wp2
  go_region_law (first
    | (refine step_trip (.tmp 8) (.tmp 11) base (.slice A n cap) L ((HH.out.own.below (below_alloc w _)).below (Below.refl _ _).drew) p w.heap.size (by simp) (by simp) (by simp) (by rw [hlen.out]; omega) (by simp; omega) rfl rfl rfl rfl ?_
       intro v5 w5 o5 g5 p5
       have hW := Lib.hid (show Wrote (fun g => (Value.slice A n cap).ownBlock = some g) w w5 from (Wrote.of_below ((below_alloc w _).next (Below.refl _ _).drew)).trans (Wrote.of_grown (S := fun g => (Value.slice A n cap).ownBlock = some g) g5 (fun k e => e)) (fun i _ e => e))
       have hne : ¬ (Value.slice A n cap).ownBlock = some hb := fun e => by have h1 := (World.ownsRow.lt HH.out.own hb e).1; have := HH.out.lt; omega
       have q5 : w5.heap[hb]? = w.heap[hb]? := hW.out.block hb hsz hne
       have c5 : w5.cell? ⟨hb, 0, none⟩ = some (.slice A n cap) := (World.cell?_of_block (a := ⟨hb, 0, none⟩) q5).trans c0
       have f5 : w5.frozen? ⟨hb, 0, none⟩ = false := (World.frozen?_of_block (a := ⟨hb, 0, none⟩) q5).trans f0
       obtain ⟨A5, cap5, hv5, _⟩ := o5.form (show (L ++ [p]).length = n + 1 by simp [hlen.out])
       subst hv5
       have H5 := Lib.hid (HeapQ.swapIn (q5.trans HH.out.box) HH.out.lt o5)
       have HB5 := Lib.hid (show ∀ g, g < w.heap.size → (Value.slice A5 (n + 1) cap5).ownBlock = some g → (Value.slice A n cap).ownBlock = some g from fun g hg e => by
         rcases p5 with p5 | p5
         · rw [← p5]; exact e
         · rw [p5] at e; injection e with e
           have h7 : ∀ W : World, W.drew.heap.size = W.heap.size := fun _ => rfl
           rw [h7] at e; simp at e; omega)
       clear q5 g5 p5)
    | fail)
  all_goals go_wp2
  all_goals go_end0
  all_goals exact ⟨rfl, _, _, H5.out, (hW.out.mono (fun k _ e => .inr e)).trans (Wrote.set (fun g => g = hb ∨ (Value.slice A n cap).ownBlock = some g) w5 ⟨hb, 0, none⟩ _ (.inl rfl)) (fun _ _ e => e), HB5.out⟩

set_option maxHeartbeats 1000000 in
theorem pop_any (hb base : Nat) (A : Option Addr) (n cap : Nat) (L : List Pr) (w : World) (h : HeapQ w base hb (.slice A (n + 1) cap) L) (hn : n ≤ 100000) :
    Calls Try.prog 138 #[.pointer (some ⟨hb, 0, none⟩)] w fun e w' => e = .returned (.iface 132 (.agg #[.int .i64 ((at_ L n).f : Int), .int .i64 ((at_ L n).s : Int), .int .i64 ((at_ L n).b : Int)])) ∧ HeapQ w' base hb (.slice A n cap) (L.take n) ∧ Wrote (fun g => g = hb) w w' := by
  have c0 := h.cell0
  have f0 := h.free 0
  have hsz := h.size
  have hnc : n ≤ cap := by
    obtain ⟨A', cap', e, h1⟩ := h.own.form h.own.len
    injection e with e1 e2 e3
    omega
  obtain ⟨g, rfl, hg1, hg2, i0, i1, i2, hf⟩ := h.own.at_ (show n < n + 1 by omega)
  have hcut := cut_pairs (some ⟨g, 0, none⟩) (n + 1) cap n hnc
  have HH := Lib.hid h
  obtain ⟨p, Hp⟩ : ∃ p, Hid (at_ L n = p) := ⟨_, rfl⟩
  rw [Hp.out] at i0 i1 i2 ⊢
  clear h Hp
  go_enter Try.func138, Try.ntmps138
  go_wp2
  go_ret
  exact ⟨rfl, (HeapQ.swapIn HH.out.box HH.out.lt HH.out.own.pop).below (below_alloc _ _), (Wrote.set (fun g => g = hb) w ⟨hb, 0, none⟩ _ rfl).next (below_alloc _ _)⟩

end Go.Proofs.Ytnnaigoomipklaa
