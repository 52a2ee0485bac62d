/-
  BackHunks, the program's and the model's.
  TrimHunks, the program's and the model's.
  JoinHunks of the model.
  JoinHunks of the model, whole.
  JoinHunks of the program: the hunks around pairs of places.
  JoinHunks of the program: the hunks around pairs of places, walked.
-/
import Derived.Test.YtkamenidgkjodaaGreatDoorQbHPlace
import Derived.Test.YtkamenidgkjodaaGreatDoorQbHGoods
import Derived.Test.YtkamenidgkjodaaGreatDoorQbHBases
import Derived.Test.YtkamenidgkjodaaGreatDoorQbSame
set_option linter.unusedSimpArgs false
set_option linter.unusedVariables false
namespace Go.Proofs.YtkamenidgkjodaaGreatDoor
open Go.RowKit M

theorem OwnH.more {w : World} {base b2 : Nat} {v : Value} {l : List Hk} {vs : List Value} (h : OwnH w base v l vs) (hb : b2 ≤ base) : OwnH w b2 v l vs := by
  obtain ⟨xs, h1, h2⟩ := h.row
  refine ⟨h.len, ⟨xs, ⟨h1.1, ?_⟩, h2⟩, fun k x u hx hu => (h.news k x u hx hu).more hb, h.apart, h.apart2, h.ints⟩
  rcases h1.2 with h3 | ⟨g, cap, cur, h3, h4, h5⟩
  · exact .inl h3
  · exact .inr ⟨g, cap, cur, h3, by omega, h5⟩

end Go.Proofs.YtkamenidgkjodaaGreatDoor

namespace Go.Proofs.YtkamenidgkjodaaGreatDoor
open Go.RowKit M

theorem set3_cells {w : World} {g : Nat} {x y z u0 u1 u2 : Value} (z0 : w.cell? ⟨g, 0, none⟩ = some u0) (z1 : w.cell? ⟨g, 1, none⟩ = some u1) (z2 : w.cell? ⟨g, 2, none⟩ = some u2) :
    (((w.setCell ⟨g, 0, none⟩ x).setCell ⟨g, 1, none⟩ y).setCell ⟨g, 2, none⟩ z).cell? ⟨g, 0, none⟩ = some x ∧ (((w.setCell ⟨g, 0, none⟩ x).setCell ⟨g, 1, none⟩ y).setCell ⟨g, 2, none⟩ z).cell? ⟨g, 1, none⟩ = some y ∧ (((w.setCell ⟨g, 0, none⟩ x).setCell ⟨g, 1, none⟩ y).setCell ⟨g, 2, none⟩ z).cell? ⟨g, 2, none⟩ = some z := by
  refine ⟨?_, ?_, ?_⟩
  · rw [World.cell?_setCell_other _ _ _ _ (by simp), World.cell?_setCell_other _ _ _ _ (by simp)]; exact World.cell?_setCell_same _ _ _ z0
  · rw [World.cell?_setCell_other _ _ _ _ (by simp)]; exact World.cell?_setCell_same _ _ _ ((World.cell?_setCell_other _ _ _ _ (by simp)).trans z1)
  · exact World.cell?_setCell_same _ _ _ ((World.cell?_setCell_other _ _ _ _ (by simp)).trans ((World.cell?_setCell_other _ _ _ _ (by simp)).trans z2))
theorem cell_off {w : World} {p a : Addr} {u v : Value} (h : w.cell? a = some u) (hn : a.block ≠ p.block) : (w.setCell p v).cell? a = some u :=
  (World.cell?_of_block (Below.heap_setCell w p v a.block hn)).trans h

end Go.Proofs.YtkamenidgkjodaaGreatDoor


namespace Go.Proofs.YtkamenidgkjodaaGreatDoor
open Go.RowKit M

theorem ints_info : (Tryz.prog.info? 117).map (fun i => (i.zero, i.size, i.bytes)) = some (some (.slice none 0 0), 1, 24) := by kernel_rfl
structure Prs (w : World) (A : Option Addr) (n : Nat) (L : List (Nat × Nat)) : Prop where
  len : L.length = n
  addr : (A = none ∧ n = 0) ∨ ∃ b off, A = some ⟨b, off, none⟩
  cell : ∀ (k : Nat) (s : Nat × Nat), L[k]? = some s → ∃ b off gi, A = some ⟨b, off, none⟩ ∧ w.cell? ⟨b, off + k, none⟩ = some (.slice (some ⟨gi, 0, none⟩) 2 2) ∧ w.cell? ⟨gi, 0, none⟩ = some (.int .i64 (s.1 : Int)) ∧ w.cell? ⟨gi, 1, none⟩ = some (.int .i64 (s.2 : Int))
theorem Prs.below {w w' : World} {A : Option Addr} {n : Nat} {L : List (Nat × Nat)} (h : Prs w A n L) (hb : Below w.heap.size w w') : Prs w' A n L :=
  ⟨h.len, h.addr, fun k s hs => by
    obtain ⟨b, off, gi, e, h1, h2, h3⟩ := h.cell k s hs
    exact ⟨b, off, gi, e, cell_keep hb h1, cell_keep hb h2, cell_keep hb h3⟩⟩
theorem Prs.cellsL {w : World} {b off n : Nat} {L : List (Nat × Nat)} (h : Prs w (some ⟨b, off, none⟩) n L) : ∃ xs : List Value, xs.length = n ∧ (∀ u ∈ xs, ∃ gi, u = .slice (some ⟨gi, 0, none⟩) 2 2) ∧ (∀ j u, xs[j]? = some u → w.cell? ((⟨b, off, none⟩ : Addr).add j) = some u) ∧
    ∀ (k : Nat) (s : Nat × Nat), L[k]? = some s → ∃ gi, xs[k]? = some (.slice (some ⟨gi, 0, none⟩) 2 2) ∧ w.cell? ⟨gi, 0, none⟩ = some (.int .i64 (s.1 : Int)) ∧ w.cell? ⟨gi, 1, none⟩ = some (.int .i64 (s.2 : Int)) := by
  have hone : ∀ k, ∃ gi, ∀ s, L[k]? = some s → w.cell? ⟨b, off + k, none⟩ = some (.slice (some ⟨gi, 0, none⟩) 2 2) ∧ w.cell? ⟨gi, 0, none⟩ = some (.int .i64 (s.1 : Int)) ∧ w.cell? ⟨gi, 1, none⟩ = some (.int .i64 (s.2 : Int)) := by
    intro k
    cases hk : L[k]? with
    | none => exact ⟨0, fun s h => by cases h⟩
    | some s =>
      obtain ⟨b', off', gi, e, h1, h2, h3⟩ := h.cell k s hk
      injection e with e
      injection e with e1 e2
      subst e1 e2
      exact ⟨gi, fun t ht => by injection ht with ht; subst ht; exact ⟨h1, h2, h3⟩⟩
  have hg : ∀ k, k < n → ((List.range n).map fun k => (Value.slice (some ⟨Classical.choose (hone k), 0, none⟩) 2 2))[k]? = some (.slice (some ⟨Classical.choose (hone k), 0, none⟩) 2 2) := fun k hk => by rw [List.getElem?_map, List.getElem?_range hk]; rfl
  refine ⟨(List.range n).map fun k => .slice (some ⟨Classical.choose (hone k), 0, none⟩) 2 2, by simp, fun u hu => ?_, fun j u hu => ?_, fun k s hs => ?_⟩
  · rw [List.mem_map] at hu
    obtain ⟨k, _, rfl⟩ := hu
    exact ⟨_, rfl⟩
  · have hj : j < n := by have := (List.getElem?_eq_some_iff.1 hu).1; simpa using this
    rw [hg j hj] at hu
    injection hu with hu
    subst hu
    have e : (⟨b, off, none⟩ : Addr).add j = ⟨b, off + j, none⟩ := by unfold Addr.add; by_cases h0 : j = 0 <;> simp [h0]
    rw [e]
    exact (Classical.choose_spec (hone j) _ (List.getElem?_eq_getElem (show j < L.length by rw [h.len]; exact hj))).1
  · have hk : k < n := by rw [← h.len]; exact (List.getElem?_eq_some_iff.1 hs).1
    exact ⟨_, hg k hk, (Classical.choose_spec (hone k) s hs).2⟩
theorem run_app_full {w : World} (ty : TypeId) (A : Option Addr) (n : Nat) (L : List (Nat × Nat)) (h : Prs w A n L) (x : Nat × Nat) (gb gi : Nat) (h0 : w.cell? ⟨gb, 0, none⟩ = some (.slice (some ⟨gi, 0, none⟩) 2 2)) (h1 : w.cell? ⟨gi, 0, none⟩ = some (.int .i64 (x.1 : Int))) (h2 : w.cell? ⟨gi, 1, none⟩ = some (.int .i64 (x.2 : Int))) (hn : n ≤ 1000) :
    ∃ cap' w', (Builtin.append_ #[156, 156] ty #[.slice A n n, .slice (some ⟨gb, 0, none⟩) 1 1]).run Tryz.prog w = .ok (.slice (some ⟨w.heap.size, 0, none⟩) (n + 1) cap') w' ∧ Prs w' (some ⟨w.heap.size, 0, none⟩) (n + 1) (L ++ [x]) ∧ Below w.heap.size w w' := by
  obtain ⟨i, q1, q2, q3, q4⟩ := info_parts ints_info
  have hnews : ∀ j t, [Value.slice (some ⟨gi, 0, none⟩) 2 2][j]? = some t → w.cell? ((⟨gb, 0, none⟩ : Addr).add j) = some t := by
    intro j t ht
    match j, ht with
    | 0, ht => simp at ht; subst ht; simpa [Addr.add] using h0
  have hbl : ∀ o, Below w.heap.size w (w.drew.alloc o) := fun o => (Below.refl _ w).drew.alloc (Nat.le_refl _) o
  have fin : ∀ (xs : List Value) (zs : Array Value), xs.length = n → (∀ (k : Nat) (s : Nat × Nat), L[k]? = some s → ∃ g, xs[k]? = some (.slice (some ⟨g, 0, none⟩) 2 2) ∧ w.cell? ⟨g, 0, none⟩ = some (.int .i64 (s.1 : Int)) ∧ w.cell? ⟨g, 1, none⟩ = some (.int .i64 (s.2 : Int))) →
      Prs (w.drew.alloc (.cells (xs.toArray ++ #[Value.slice (some ⟨gi, 0, none⟩) 2 2] ++ zs) 117)) (some ⟨w.heap.size, 0, none⟩) (n + 1) (L ++ [x]) := by
    intro xs zs hxl hx
    have hheap : (w.drew.alloc (.cells (xs.toArray ++ #[Value.slice (some ⟨gi, 0, none⟩) 2 2] ++ zs) 117)).heap[w.heap.size]? = some (.cells (xs.toArray ++ #[Value.slice (some ⟨gi, 0, none⟩) 2 2] ++ zs) 117 (0, 0)) := heap_alloc_new w.drew _
    have hcell : ∀ k u, (xs ++ [Value.slice (some ⟨gi, 0, none⟩) 2 2])[k]? = some u → (w.drew.alloc (.cells (xs.toArray ++ #[Value.slice (some ⟨gi, 0, none⟩) 2 2] ++ zs) 117)).cell? ⟨w.heap.size, k, none⟩ = some u := by
      intro k u hu
      have hk : k < n + 1 := by have := (List.getElem?_eq_some_iff.1 hu).1; simp [hxl] at this; omega
      rw [cell_of_row _ _ k _ _ _ hheap, Array.getElem?_append_left (by simp [hxl]; omega)]
      rw [show xs.toArray ++ #[Value.slice (some ⟨gi, 0, none⟩) 2 2] = (xs ++ [Value.slice (some ⟨gi, 0, none⟩) 2 2]).toArray from by simp]
      simpa using hu
    refine ⟨by simp [h.len], .inr ⟨_, _, rfl⟩, fun k s hs => ?_⟩
    rcases list_snoc_get hs with ⟨hk, hs⟩ | ⟨hk, rfl⟩
    · obtain ⟨g, e1, e2, e3⟩ := hx k s hs
      exact ⟨_, 0, g, rfl, by rw [Nat.zero_add]; exact hcell k _ (by rw [List.getElem?_append_left (by rw [hxl, ← h.len]; exact hk)]; exact e1), cell_keep (hbl _) e2, cell_keep (hbl _) e3⟩
    · exact ⟨_, 0, gi, rfl, by rw [Nat.zero_add]; exact hcell k _ (by rw [hk, h.len, List.getElem?_append_right (by omega), hxl, Nat.sub_self]; rfl), cell_keep (hbl _) h1, cell_keep (hbl _) h2⟩
  rcases h.addr with ⟨rfl, rfl⟩ | ⟨b, off, rfl⟩
  · have hr := run_append_nil (P := Tryz.prog) w 156 ty 117 i _ Tryz.underlying156 q1 q2 ⟨gb, 0, none⟩ 1 1 [.slice (some ⟨gi, 0, none⟩) 2 2] (by simp [q3]) hnews (by omega) (by omega) (by rw [q4]; omega)
    have hL : L = [] := List.eq_nil_of_length_eq_zero h.len
    have hf := fin [] (Builtin.zeroCells (Value.slice none 0 0).cells (grownCap w 1 0 117 - 1)) rfl (fun k s hs => by rw [hL] at hs; simp at hs)
    refine ⟨_, _, hr, ?_, hbl _⟩
    simpa using hf
  · obtain ⟨xs, hxl, hxf, hxc, hxp⟩ := h.cellsL
    have hr := run_append_grow (P := Tryz.prog) w 156 ty 117 i _ Tryz.underlying156 q1 q2 ⟨b, off, none⟩ n n xs (by rw [q3]; omega) hxc ⟨gb, 0, none⟩ 1 1 [.slice (some ⟨gi, 0, none⟩) 2 2] (by simp [q3]) hnews (by omega) (by omega) (growslice_fits (by omega) (by rw [q4]; omega))
    refine ⟨_, _, hr, ?_, hbl _⟩
    have hf := fin xs (Builtin.zeroCells (Value.slice none 0 0).cells (grownCap w (n + 1) n 117 - (n + 1))) hxl hxp
    simpa using hf
theorem wpList_full {w : World} {ops : Array Oper} {rest : List Oper} {o : Oper} {a : Act} {Q : Exit → Act → World → Prop} (s y : Operand) (A : Option Addr) (n : Nat) (L : List (Nat × Nat)) (hp : Prs w A n L) (x : Nat × Nat) (gb gi : Nat) (h0 : w.cell? ⟨gb, 0, none⟩ = some (.slice (some ⟨gi, 0, none⟩) 2 2)) (h1 : w.cell? ⟨gi, 0, none⟩ = some (.int .i64 (x.1 : Int))) (h2 : w.cell? ⟨gi, 1, none⟩ = some (.int .i64 (x.2 : Int))) (hn : n ≤ 1000)
    (hgd : Region.wanted o (yielded ops a.tmps) = true) (ho : o.op = .call { callee := .builtin .append, args := #[s, y], argTypes := #[156, 156] }) (hs : a.eval s = .slice A n n) (hy : a.eval y = .slice (some ⟨gb, 0, none⟩) 1 1)
    (h : ∀ cap' w', Prs w' (some ⟨w.heap.size, 0, none⟩) (n + 1) (L ++ [x]) → Below w.heap.size w w' → wpList Tryz.prog ops Q rest (a.put o.dst (.slice (some ⟨w.heap.size, 0, none⟩) (n + 1) cap')) w') : wpList Tryz.prog ops Q (o :: rest) a w := by
  refine wpList_wanted hgd fun K hK => ?_
  obtain ⟨cap', w', hrun, k1, k2⟩ := run_app_full o.type A n L hp x gb gi h0 h1 h2 hn
  unfold Oper.wp execOp
  simp only [ho, resolve, invoke, builtin, Sem.run_bind, Sem.run_pure, Result.andThen_ok, List.map_toArray, List.map_cons, List.map_nil, hs, hy, hrun]
  exact hK _ _ (h cap' w' k1 k2)
theorem cut_full (a : Option Addr) (n c : Nat) (h : n ≤ c) (w : World) :
    (Instr.slice 156 (.slice a n c) none (some (.int .i64 (n : Int))) (some (.int .i64 (n : Int)))).run Tryz.prog w = .ok (.slice a n n) w := by
  obtain ⟨i, h3, h4, h5, h6⟩ := info_parts ints_info
  have he : Tryz.prog.elem 156 = 117 := by simp [Program.elem, Tryz.underlying156]
  have hr := run_slice_hm (P := Tryz.prog) w 156 a n c (by rw [he]; exact Tryz.underlying156) .i64 .i64 n n (by omega) (by omega) (by omega)
  rw [he] at hr
  rw [hr]
  have h0 := cutA_zero a n
  unfold cutA at h0
  simp [sizeOf, typeInfo, h3, h5, sliced, h0]
theorem join_nothing {last : List ByteArray} {i j : Nat} {s : Nat × Nat} (h1 : i ≤ s.1) (h2 : j ≤ s.2) (h3 : s.2 ≤ last.length) : nothing (joinOne last i j s) = decide (¬ (i < s.1 ∨ j < s.2)) := by
  have e : (seg last j s.2).length = s.2 - j := by rw [seg_len, Nat.min_eq_left h3]
  have h5 : ((s.1 : Int) - (i : Int) = 0 ∧ s.2 - j = 0) ↔ ¬ (i < s.1 ∨ j < s.2) := by omega
  unfold nothing joinOne
  dsimp only
  rw [e, ← Bool.decide_and, decide_eq_decide]
  exact h5

end Go.Proofs.YtkamenidgkjodaaGreatDoor

namespace Go.Proofs.YtkamenidgkjodaaGreatDoor
open Go.RowKit M

set_option maxHeartbeats 4000000 in
set_option maxRecDepth 100000 in
theorem hunksAround_any (a : Option Addr) (nl cl : Nat) (bA : Option Addr) (nm cm : Nat) (last : List ByteArray) (A : Option Addr) (n c : Nat) (L : List (Nat × Nat)) (w : World) (hst : Strs w bA nm last) (hcm : nm ≤ cm) (hprs : Prs w A n L) (hnc : n ≤ c)
    (hr : rises 0 0 (L ++ [(nl, nm)])) (hle : ∀ s ∈ L ++ [(nl, nm)], s.1 ≤ nl ∧ s.2 ≤ nm) (hnl : nl ≤ 40) (hnm : nm ≤ 40) (hLn : n ≤ 40) :
    Calls Tryz.prog 140 #[.slice a nl cl, .slice bA nm cm, .slice A n c] w fun e w' => ∃ v vs, e = .returned v ∧ OwnH w' w.heap.size v (joinFrom last 0 0 (L ++ [(nl, nm)])) vs ∧ Below w.heap.size w w' := by
  have HLE := Lib.hid hle
  have HR := Lib.hid hr
  have HPR := Lib.hid hprs
  have hcutf := cut_full A n c hnc
  have hb1 := Lib.hid ((below_alloc w (.cells #[.int .i64 (nl : Int), .int .i64 (nm : Int)] 3)).next (below_alloc _ (.cells #[.slice (some ⟨w.heap.size, 0, none⟩) 2 2] 117)))
  clear hle hr hprs
  go_enter Tryz.func140, Tryz.ntmps140
  go_wp2_with (first
    | (at_builtin; refine wpList_full (.tmp 19) (.tmp 25) A n L (HPR.out.below hb1.out) (nl, nm) (w.heap.size + 1) w.heap.size (by simp) (by simp) (by simp) (by omega) rfl rfl rfl rfl ?_
       intro cap1 w1 o1 d1)
    | fail)
  have HB1 := Lib.hid (hb1.out.next d1)
  have HS1 := Lib.hid (hst.below HB1.out)
  obtain ⟨T, HT⟩ : ∃ T, Hid (T = L ++ [(nl, nm)]) := ⟨_, rfl⟩
  rw [← HT.out] at o1
  have HNS := Lib.hid o1.len
  have HLE : Hid (∀ s ∈ T, s.1 ≤ nl ∧ s.2 ≤ nm) := by rw [HT.out]; exact HLE.out
  have HR : Hid (rises 0 0 (T.drop 0)) := by rw [HT.out]; exact HR.out
  simp only [World.size_alloc] at o1
  clear d1
  go_loopw [8, 9, 10, 29] (fun v i j k w' => ∃ kk ii jj : Nat, ∃ out vs, k = .int .i64 kk ∧ i = .int .i64 ii ∧ j = .int .i64 jj ∧ kk ≤ n + 1 ∧ ii ≤ 41 ∧ jj ≤ 41 ∧ OwnH w' w1.heap.size v out vs ∧ Hid (out.length ≤ kk) ∧ Hid (rises ii jj (T.drop kk)) ∧ Hid (out ++ joinFrom last ii jj (T.drop kk) = joinFrom last 0 0 T) ∧ Below w1.heap.size w1 w') (fun _ _ _ k _ => n + 1 - (intOf k).toNat)
  case atStart => exact ⟨0, 0, 0, [], [], rfl, rfl, rfl, by omega, by omega, by omega, OwnH.nil_, show _ ≤ _ by simp, HR.out, rfl, Below.refl _ _⟩
  case round =>
    obtain ⟨kk, ii, jj, out, vs, rfl, rfl, rfl, hkk, hii, hjj, ho, HO, HRI, HP, hb⟩ := hrel
    by_cases hlt : kk < n + 1
    · have hs := List.getElem?_eq_getElem (show kk < T.length by rw [HNS.out]; exact hlt)
      obtain ⟨s, hs⟩ : ∃ s, T[kk]? = some s := ⟨_, hs⟩
      obtain ⟨b, off, gi, e0, c0, c1, c2⟩ := o1.cell kk s hs
      injection e0 with e0
      injection e0 with e1 e2
      subst e1 e2
      rw [Nat.zero_add] at c0
      obtain ⟨hi1, hj1, hrn⟩ := rises_step hs HRI.out
      obtain ⟨hs0, hs1⟩ := HLE.out s (List.mem_of_getElem? hs)
      obtain ⟨s0, s1⟩ := s
      dsimp only at hi1 hj1 hrn hs0 hs1 c1 c2
      have HTs := Lib.hid hs
      have HRN := Lib.hid hrn
      clear hs hrn
      have HC := Lib.hid (show w1.cell? ⟨gi, 0, none⟩ = some (.int .i64 (s0 : Int)) ∧ w1.cell? ⟨gi, 1, none⟩ = some (.int .i64 (s1 : Int)) from ⟨c1, c2⟩)
      have c0 := cell_keep hb c0
      have k0 := cell_keep hb c1
      have k1 := cell_keep hb c2
      have hgi : gi ≠ wr.heap.size := by have := cell_lt k0; simp at this; omega
      clear c1 c2
      obtain ⟨q, Hq⟩ : ∃ q : Nat, Hid (q = s1 - jj) := ⟨_, rfl⟩
      have hcut := cut_strs bA nm cm jj s1 hj1 (by omega)
      have hw1 : IntKind.i64.wrap ((s0 : Int) - (ii : Int)) = (s0 : Int) - (ii : Int) := by rw [IntKind.wrap_i64]; omega
      have hw2 : IntKind.i64.wrap ((s0 : Int) + 1) = (s0 : Int) + 1 := by rw [IntKind.wrap_i64]; omega
      have hw3 : IntKind.i64.wrap ((s1 : Int) + 1) = (s1 : Int) + 1 := by rw [IntKind.wrap_i64]; omega
      have HOW := Lib.hid ho
      have HBB := Lib.hid hb
      have HOK := Lib.hid (show i64ok (ii : Int) ∧ i64ok ((s0 : Int) - ii) from ⟨⟨by omega, by omega⟩, ⟨by omega, by omega⟩⟩)
      have HNO := Lib.hid (join_nothing (last := last) (i := ii) (j := jj) (s := (s0, s1)) hi1 hj1 (by rw [HS1.out.len]; exact hs1))
      clear ho
      go_wp2
      go_region_held3 (fun w' => w'.cell? ⟨gi, 0, none⟩ = some (.int .i64 (s0 : Int)) ∧ w'.cell? ⟨gi, 1, none⟩ = some (.int .i64 (s1 : Int))) (first | exact ⟨k0, k1⟩ | exact ⟨cell_keep b5 k0, cell_keep b5 k1⟩ | exact ⟨cell_keep (b5.next (below_alloc _ _)) k0, cell_keep (b5.next (below_alloc _ _)) k1⟩ | exact ⟨cell_keep (below_alloc wr _) k0, cell_keep (below_alloc wr _) k1⟩ | exact ⟨cell_keep ((below_alloc wr _).drew.next b5) k0, cell_keep ((below_alloc wr _).drew.next b5) k1⟩ | exact ⟨cell_off (cell_off (cell_off (cell_keep ((below_alloc wr _).drew.next b5) k0) hgi) hgi) hgi, cell_off (cell_off (cell_off (cell_keep ((below_alloc wr _).drew.next b5) k1) hgi) hgi) hgi⟩ | go_keep)
        (first
          | (go_at_call 159; refine (copyOf_any _ _ _ (seg last jj s1) wr.drew ((HS1.out.below HBB.out.drew).cut hj1 hs1 hcm) (by omega)).mono ?_; rintro e w5 ⟨v5, rfl, o5, b5⟩
             obtain ⟨v5a, v5c, rfl, h51, h52⟩ := o5.form (show (seg last jj s1).length = q by rw [seg_len, HS1.out.len, Hq.out]; omega))
          | (go_at_call 159; refine (copyOf_any _ _ _ (seg last jj s1) (wr.alloc (.cells #[.int .i64 0, .int .i64 0, .slice none 0 0] 95)).drew ((HS1.out.below (HBB.out.next (below_alloc _ _)).drew).cut hj1 hs1 hcm) (by omega)).mono ?_; rintro e w5 ⟨v5, rfl, o5, b5⟩
             have z5 : w5.heap[wr.heap.size]? = some (.cells #[.int .i64 0, .int .i64 0, .slice none 0 0] 95 (0, 0)) := (b5.block _ (by simp)).trans (heap_alloc_new wr _)
             have z0 : w5.cell? ⟨wr.heap.size, 0, none⟩ = some (.int .i64 0) := by simp [World.cell?, z5]
             have z1 : w5.cell? ⟨wr.heap.size, 1, none⟩ = some (.int .i64 0) := by simp [World.cell?, z5]
             have z2 : w5.cell? ⟨wr.heap.size, 2, none⟩ = some (.slice none 0 0) := by simp [World.cell?, z5]
             have zf : ∀ j, w5.frozen? ⟨wr.heap.size, j, none⟩ = false := fun j => by simp [World.frozen?, z5]
             obtain ⟨v5a, v5c, rfl, h51, h52⟩ := o5.form (show (seg last jj s1).length = q by rw [seg_len, HS1.out.len, Hq.out]; omega))
          | fail)
      · obtain ⟨W7, HW7⟩ : ∃ W7, Hid (W7 = w5.alloc (.cells #[.int .i64 (ii : Int), .int .i64 ((s0 : Int) - ii), .slice v5a q v5c] 95)) := ⟨_, rfl⟩
        have HOW7 := Lib.hid (show OwnH W7 w1.heap.size u8 out vs by rw [HW7.out]; exact (HOW.out.below ((Below.refl _ wr).drew.next b5)).below (below_alloc _ _))
        have O7 := Lib.hid (show OwnV W7 w1.heap.size (.slice v5a q v5c) (seg last jj s1) by rw [HW7.out]; exact (o5.more HBB.out.size).below (below_alloc _ _))
        have HF7 := Lib.hid (show ∀ g, (Value.slice v5a q v5c).ownBlock = some g → ¬ Blk u8 vs g from fun g e e2 => by
          have h3 := (o5.lt e).1; have h4 := (HOW.out.lt e2).2; have h6 : wr.drew.heap.size = wr.heap.size := rfl; omega)
        have HB7 := Lib.hid (show Below w1.heap.size w1 W7 by rw [HW7.out]; exact (HBB.out.drew.next b5).next (below_alloc _ _))
        have m0 : W7.cell? ⟨w5.heap.size, 0, none⟩ = some (.int .i64 (ii : Int)) := by rw [HW7.out]; simp
        have m1 : W7.cell? ⟨w5.heap.size, 1, none⟩ = some (.int .i64 ((s0 : Int) - ii)) := by rw [HW7.out]; simp
        have m2 : W7.cell? ⟨w5.heap.size, 2, none⟩ = some (.slice v5a q v5c) := by rw [HW7.out]; simp
        have e0 : W7.cell? ⟨gi, 0, none⟩ = some (.int .i64 (s0 : Int)) := cell_keep HB7.out HC.out.1
        have e1 : W7.cell? ⟨gi, 1, none⟩ = some (.int .i64 (s1 : Int)) := cell_keep HB7.out HC.out.2
        clear k0 k1
        rw [← HW7.out]
        go_wp2_with fail
        refine (isNothing_any w5.heap.size 0 (joinOne last ii jj (s0, s1)) v5a q v5c _ ⟨m0, m1, m2, O7.out.strs, h51, HOK.out.1, HOK.out.2⟩).mono ?_
        rintro e w8 ⟨rfl, rfl⟩
        rw [HNO.out]
        by_cases hnz : ii < s0 ∨ jj < s1
        · have HRR := Lib.hid (join_yes (last := last) HTs.out hnz)
          have hdd : decide (¬ (ii < s0 ∨ jj < s1)) = false := decide_eq_false (fun h => h hnz)
          rw [hdd]
          clear hnz hdd
          go_wp2_with (first
            | (at_builtin; refine wpList_hk (.tmp 49) (.tmp 51) w1.heap.size u8 out vs (HOW7.out.below (below_alloc _ _)) (joinOne last ii jj (s0, s1)) HOK.out (.slice v5a q v5c) (O7.out.below (below_alloc _ _)) HF7.out _ (by simp [joinOne]) (by simp [joinOne]) (by simp) (by have := HO.out; omega) (Nat.le_trans HB7.out.size (by simp)) rfl rfl rfl rfl ?_
               intro v8 w8 o8 g8 p8
               have HB8 := Lib.hid (Below.grown (HB7.out.next (below_alloc _ _)) g8 (Nat.le_trans HB7.out.size (by simp)) (fun k e => (HOW.out.lt (.inl e)).1))
               have f0 : w8.cell? ⟨gi, 0, none⟩ = some (.int .i64 (s0 : Int)) := cell_keep HB8.out HC.out.1
               have f1 : w8.cell? ⟨gi, 1, none⟩ = some (.int .i64 (s1 : Int)) := cell_keep HB8.out HC.out.2
               clear g8 p8)
            | fail)
          go_quiet (fail)
          go_wp2
          go_roundw
          case rel => exact ⟨kk + 1, s0 + 1, s1 + 1, _, _, by go_num, by go_num, by go_num, by omega, by omega, by omega, o8.below (below_drewN (Below.refl _ _) _), show _ ≤ _ by have := HO.out; simp; omega, HRN.out, show _ = _ by
            rw [← HP.out, HRR.out]; simp, below_drewN HB8.out _⟩
          case measure => simp [intOf]; omega
        · have HRR := Lib.hid (join_no (last := last) HTs.out hnz)
          have hdd : decide (¬ (ii < s0 ∨ jj < s1)) = true := decide_eq_true hnz
          rw [hdd]
          clear hnz hdd
          go_wp2
          go_quiet (fail)
          go_wp2
          go_roundw
          case rel => exact ⟨kk + 1, s0 + 1, s1 + 1, _, _, by go_num, by go_num, by go_num, by omega, by omega, by omega, HOW7.out.below (below_drewN (Below.refl _ _) _), show _ ≤ _ by have := HO.out; omega, HRN.out, show _ = _ by rw [← HP.out, HRR.out], below_drewN HB7.out _⟩
          case measure => simp [intOf]; omega
      · obtain ⟨W7, HW7⟩ : ∃ W7, Hid (W7 = (((w5.setCell ⟨wr.heap.size, 0, none⟩ (.int .i64 (ii : Int))).setCell ⟨wr.heap.size, 1, none⟩ (.int .i64 ((s0 : Int) - ii))).setCell ⟨wr.heap.size, 2, none⟩ (.slice v5a q v5c))) := ⟨_, rfl⟩
        have bb := (below_alloc wr (.cells #[.int .i64 0, .int .i64 0, .slice none 0 0] 95)).drew.next b5
        have hwr7 : Wrote (fun i => i = wr.heap.size) w5 W7 := by
          rw [HW7.out]
          exact ((Wrote.set (fun i => i = wr.heap.size) w5 _ _ rfl).trans (Wrote.set (fun i => i = wr.heap.size) _ _ _ rfl) (fun _ _ e => e)).trans (Wrote.set (fun i => i = wr.heap.size) _ _ _ rfl) (fun _ _ e => e)
        have HOW7 := Lib.hid (show OwnH W7 w1.heap.size u8 out vs from (HOW.out.below bb).wrote hwr7 (fun g e e2 => by have h4 := (HOW.out.lt e).2; omega))
        have hszA : (wr.alloc (.cells #[.int .i64 0, .int .i64 0, .slice none 0 0] 95)).drew.heap.size = wr.heap.size + 1 := by show (wr.alloc _).heap.size = _; simp
        have O7 := Lib.hid (show OwnV W7 w1.heap.size (.slice v5a q v5c) (seg last jj s1) from (o5.wrote hwr7 (fun g e e2 => by have h4 := (o5.lt e).1; omega)).more (by have := HBB.out.size; omega))
        have HF7 := Lib.hid (show ∀ g, (Value.slice v5a q v5c).ownBlock = some g → ¬ Blk u8 vs g from fun g e e2 => by
          have h3 := (o5.lt e).1; have h4 := (HOW.out.lt e2).2; omega)
        have HB7 := Lib.hid (show Below w1.heap.size w1 W7 from Wrote.below' (((HBB.out.next (below_alloc wr (.cells #[.int .i64 0, .int .i64 0, .slice none 0 0] 95))).drew).next b5) hwr7 (fun k e => by have := HBB.out.size; omega))
        have m0 : W7.cell? ⟨wr.heap.size, 0, none⟩ = some (.int .i64 (ii : Int)) := by rw [HW7.out]; exact (set3_cells z0 z1 z2).1
        have m1 : W7.cell? ⟨wr.heap.size, 1, none⟩ = some (.int .i64 ((s0 : Int) - ii)) := by rw [HW7.out]; exact (set3_cells z0 z1 z2).2.1
        have m2 : W7.cell? ⟨wr.heap.size, 2, none⟩ = some (.slice v5a q v5c) := by rw [HW7.out]; exact (set3_cells z0 z1 z2).2.2
        have e0 : W7.cell? ⟨gi, 0, none⟩ = some (.int .i64 (s0 : Int)) := cell_keep HB7.out HC.out.1
        have e1 : W7.cell? ⟨gi, 1, none⟩ = some (.int .i64 (s1 : Int)) := cell_keep HB7.out HC.out.2
        clear k0 k1 z0 z1 z2 zf z5
        rw [← HW7.out]
        go_wp2_with fail
        refine (isNothing_any wr.heap.size 0 (joinOne last ii jj (s0, s1)) v5a q v5c _ ⟨m0, m1, m2, O7.out.strs, h51, HOK.out.1, HOK.out.2⟩).mono ?_
        rintro e w8 ⟨rfl, rfl⟩
        rw [HNO.out]
        by_cases hnz : ii < s0 ∨ jj < s1
        · have HRR := Lib.hid (join_yes (last := last) HTs.out hnz)
          have hdd : decide (¬ (ii < s0 ∨ jj < s1)) = false := decide_eq_false (fun h => h hnz)
          rw [hdd]
          clear hnz hdd
          go_wp2_with (first
            | (at_builtin; refine wpList_hk (.tmp 49) (.tmp 51) w1.heap.size u8 out vs (HOW7.out.below (below_alloc _ _)) (joinOne last ii jj (s0, s1)) HOK.out (.slice v5a q v5c) (O7.out.below (below_alloc _ _)) HF7.out _ (by simp [joinOne]) (by simp [joinOne]) (by simp) (by have := HO.out; omega) (Nat.le_trans HB7.out.size (by simp)) rfl rfl rfl rfl ?_
               intro v8 w8 o8 g8 p8
               have HB8 := Lib.hid (Below.grown (HB7.out.next (below_alloc _ _)) g8 (Nat.le_trans HB7.out.size (by simp)) (fun k e => (HOW.out.lt (.inl e)).1))
               have f0 : w8.cell? ⟨gi, 0, none⟩ = some (.int .i64 (s0 : Int)) := cell_keep HB8.out HC.out.1
               have f1 : w8.cell? ⟨gi, 1, none⟩ = some (.int .i64 (s1 : Int)) := cell_keep HB8.out HC.out.2
               clear g8 p8)
            | fail)
          go_quiet (fail)
          go_wp2
          go_roundw
          case rel => exact ⟨kk + 1, s0 + 1, s1 + 1, _, _, by go_num, by go_num, by go_num, by omega, by omega, by omega, o8.below (below_drewN (Below.refl _ _) _), show _ ≤ _ by have := HO.out; simp; omega, HRN.out, show _ = _ by
            rw [← HP.out, HRR.out]; simp, below_drewN HB8.out _⟩
          case measure => simp [intOf]; omega
        · have HRR := Lib.hid (join_no (last := last) HTs.out hnz)
          have hdd : decide (¬ (ii < s0 ∨ jj < s1)) = true := decide_eq_true hnz
          rw [hdd]
          clear hnz hdd
          go_wp2
          go_quiet (fail)
          go_wp2
          go_roundw
          case rel => exact ⟨kk + 1, s0 + 1, s1 + 1, _, _, by go_num, by go_num, by go_num, by omega, by omega, by omega, HOW7.out.below (below_drewN (Below.refl _ _) _), show _ ≤ _ by have := HO.out; omega, HRN.out, show _ = _ by rw [← HP.out, HRR.out], below_drewN HB7.out _⟩
          case measure => simp [intOf]; omega
    · have hfin := Lib.hid (join_end (last := last) (i := ii) (j := jj) (L := T) (k := kk) (by rw [HNS.out]; omega))
      go_wp2
      go_ret
      refine ⟨_, vs, rfl, ?_, HB1.out.next hb⟩
      rw [← HT.out, ← HP.out, hfin.out, List.append_nil]
      exact ho.more HB1.out.size

end Go.Proofs.YtkamenidgkjodaaGreatDoor
