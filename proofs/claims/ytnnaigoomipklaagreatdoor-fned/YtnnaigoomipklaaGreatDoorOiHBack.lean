/-
  BackHunks, the program's and the model's.
  TrimHunks, the program's and the model's.
  JoinHunks of the model.
  JoinHunks of the model, whole.
  JoinHunks of the program: the hunks around pairs of places.
  JoinHunks of the program: the hunks around pairs of places, walked.
-/
import Derived.Test.YtnnaigoomipklaaGreatDoorOiHPatch
import Derived.Test.YtnnaigoomipklaaGreatDoorOiHGoods
import Derived.Test.YtnnaigoomipklaaGreatDoorOiHBases
import Derived.Test.YtnnaigoomipklaaGreatDoorOiSame
set_option linter.unusedSimpArgs false
set_option linter.unusedVariables false
namespace Go.Proofs.YtnnaigoomipklaaGreatDoor
open Go.RowKit M

theorem OwnH.more {w : World} {base b2 : Nat} {v : Value} {l : List Hk} {vs : List Value} (h : OwnH w base v l vs) (hb : b2 ≤ base) : OwnH w b2 v l vs := by
  obtain ⟨xs, h1, h2⟩ := h.row
  refine ⟨h.len, ⟨xs, ⟨h1.1, ?_⟩, h2⟩, fun k x u hx hu => (h.news k x u hx hu).more hb, h.apart, h.apart2, h.ints⟩
  rcases h1.2 with h3 | ⟨g, cap, cur, h3, h4, h5⟩
  · exact .inl h3
  · exact .inr ⟨g, cap, cur, h3, by omega, h5⟩

end Go.Proofs.YtnnaigoomipklaaGreatDoor

namespace Go.Proofs.YtnnaigoomipklaaGreatDoor
open Go.RowKit M

theorem set3_cells {w : World} {g : Nat} {x y z u0 u1 u2 : Value} (z0 : w.cell? ⟨g, 0, none⟩ = some u0) (z1 : w.cell? ⟨g, 1, none⟩ = some u1) (z2 : w.cell? ⟨g, 2, none⟩ = some u2) :
    (((w.setCell ⟨g, 0, none⟩ x).setCell ⟨g, 1, none⟩ y).setCell ⟨g, 2, none⟩ z).cell? ⟨g, 0, none⟩ = some x ∧ (((w.setCell ⟨g, 0, none⟩ x).setCell ⟨g, 1, none⟩ y).setCell ⟨g, 2, none⟩ z).cell? ⟨g, 1, none⟩ = some y ∧ (((w.setCell ⟨g, 0, none⟩ x).setCell ⟨g, 1, none⟩ y).setCell ⟨g, 2, none⟩ z).cell? ⟨g, 2, none⟩ = some z := by
  refine ⟨?_, ?_, ?_⟩
  · rw [World.cell?_setCell_other _ _ _ _ (by simp), World.cell?_setCell_other _ _ _ _ (by simp)]; exact World.cell?_setCell_same _ _ _ z0
  · rw [World.cell?_setCell_other _ _ _ _ (by simp)]; exact World.cell?_setCell_same _ _ _ ((World.cell?_setCell_other _ _ _ _ (by simp)).trans z1)
  · exact World.cell?_setCell_same _ _ _ ((World.cell?_setCell_other _ _ _ _ (by simp)).trans ((World.cell?_setCell_other _ _ _ _ (by simp)).trans z2))
theorem cell_off {w : World} {p a : Addr} {u v : Value} (h : w.cell? a = some u) (hn : a.block ≠ p.block) : (w.setCell p v).cell? a = some u :=
  (World.cell?_of_block (Below.heap_setCell w p v a.block hn)).trans h

end Go.Proofs.YtnnaigoomipklaaGreatDoor

namespace Go.Proofs.YtnnaigoomipklaaGreatDoor
open Go.RowKit M

def pcells : List (Nat × Nat) → List Value
  | [] => []
  | s :: L => .int .i64 (s.1 : Int) :: .int .i64 (s.2 : Int) :: pcells L
theorem pcells_append : ∀ (L M : List (Nat × Nat)), pcells (L ++ M) = pcells L ++ pcells M
  | [], M => rfl
  | s :: L, M => by simp [pcells, pcells_append L M]
theorem pcells_get : ∀ {L : List (Nat × Nat)} {k : Nat} {s : Nat × Nat}, L[k]? = some s → (pcells L)[k * 2]? = some (.int .i64 (s.1 : Int)) ∧ (pcells L)[k * 2 + 1]? = some (.int .i64 (s.2 : Int))
  | [], k, s, h => by simp at h
  | t :: L, 0, s, h => by simp at h; subst h; exact ⟨rfl, rfl⟩
  | t :: L, k + 1, s, h => by
    have h1 := pcells_get (L := L) (k := k) (s := s) (by simpa using h)
    rw [show (k + 1) * 2 = k * 2 + 2 from by omega, show k * 2 + 2 + 1 = k * 2 + 1 + 2 from by omega]
    exact h1
theorem pair_info : (Tryz.prog.info? 235).map (fun i => (i.zero, i.size, i.bytes)) = some (some (.agg #[.int .i64 0, .int .i64 0]), 2, 16) := by kernel_rfl
/-- Pairs of places that the call itself has laid. -/
def OwnP (w : World) (base : Nat) (v : Value) (L : List (Nat × Nat)) : Prop := w.ownsRow base 235 2 v L.length (pcells L)
theorem run_app_pair {w : World} (ty : TypeId) (base : Nat) (v : Value) (L : List (Nat × Nat)) (hown : OwnP w base v L) (x : Nat × Nat)
    (gb : Nat) (h0 : w.cell? ⟨gb, 0, none⟩ = some (.int .i64 (x.1 : Int))) (h1 : w.cell? ⟨gb, 1, none⟩ = some (.int .i64 (x.2 : Int))) (hbound : L.length ≤ 1048576) (hbase : base ≤ w.heap.size) :
    ∃ v' w', (Builtin.append_ #[207, 207] ty #[v, .slice (some ⟨gb, 0, none⟩) 1 1]).run Tryz.prog w = .ok v' w' ∧ OwnP w' base v' (L ++ [x]) ∧ w.grownBy w' v.ownBlock ∧ (v'.ownBlock = v.ownBlock ∨ v'.ownBlock = some w.heap.size) := by
  obtain ⟨i, q1, q2, q3, q4⟩ := info_parts pair_info
  have hnews : ∀ j t, [Value.int .i64 (x.1 : Int), Value.int .i64 (x.2 : Int)][j]? = some t → w.cell? ((⟨gb, 0, none⟩ : Addr).add j) = some t := by
    intro j t ht
    match j, ht with
    | 0, ht => simp at ht; subst ht; simpa [Addr.add] using h0
    | 1, ht => simp at ht; subst ht; simpa [Addr.add] using h1
  obtain ⟨v', w', hrun, hr, hg, _, hat⟩ := run_append_own_at (P := Tryz.prog) w base 207 ty 235 i _ 2 16 Tryz.underlying207 q1 q2 q3 q4 (by simp [Value.cells]) (by omega) v L.length (pcells L) hown ⟨gb, 0, none⟩ 1 1 [.int .i64 (x.1 : Int), .int .i64 (x.2 : Int)] (by simp) hnews (fun t ht => by
    simp at ht
    rcases ht with rfl | rfl <;> rfl) (by unfold maxLen; omega) (by omega) hbase
  refine ⟨v', w', hrun, ?_, hg, hat⟩
  unfold OwnP
  rw [pcells_append, List.length_append]
  exact hr
theorem wpList_pair {w : World} {ops : Array Oper} {rest : List Oper} {o : Oper} {a : Act} {Q : Exit → Act → World → Prop} (s y : Operand) (base : Nat) (v : Value) (L : List (Nat × Nat)) (hown : OwnP w base v L) (x : Nat × Nat)
    (gb : Nat) (h0 : w.cell? ⟨gb, 0, none⟩ = some (.int .i64 (x.1 : Int))) (h1 : w.cell? ⟨gb, 1, none⟩ = some (.int .i64 (x.2 : Int))) (hbound : L.length ≤ 1048576) (hbase : base ≤ w.heap.size)
    (hgd : Region.wanted o (yielded ops a.tmps) = true) (ho : o.op = .call { callee := .builtin .append, args := #[s, y], argTypes := #[207, 207] }) (hs : a.eval s = v) (hy : a.eval y = .slice (some ⟨gb, 0, none⟩) 1 1)
    (h : ∀ v' w', OwnP w' base v' (L ++ [x]) → w.grownBy w' v.ownBlock → (v'.ownBlock = v.ownBlock ∨ v'.ownBlock = some w.heap.size) → wpList Tryz.prog ops Q rest (a.put o.dst v') w') : wpList Tryz.prog ops Q (o :: rest) a w := by
  refine wpList_wanted hgd fun K hK => ?_
  obtain ⟨v', w', hrun, k1, k2, k3⟩ := run_app_pair o.type base v L hown x gb h0 h1 hbound hbase
  unfold Oper.wp execOp
  simp only [ho, resolve, invoke, builtin, Sem.run_bind, Sem.run_pure, Result.andThen_ok, List.map_toArray, List.map_cons, List.map_nil, hs, hy, hrun]
  exact hK _ _ (h v' w' k1 k2 k3)
theorem OwnP.at_ {w : World} {base k n cap : Nat} {A : Option Addr} {L : List (Nat × Nat)} (h : OwnP w base (.slice A n cap) L) (hk : k < n) : ∃ g s, A = some ⟨g, 0, none⟩ ∧ g < w.heap.size ∧ L[k]? = some s ∧ w.cell? ⟨g, k * 2, none⟩ = some (.int .i64 (s.1 : Int)) ∧ w.cell? ⟨g, k * 2 + 1, none⟩ = some (.int .i64 (s.2 : Int)) := by
  unfold OwnP at h
  have hn : L.length = n := by
    rcases h.2 with ⟨hv, h0⟩ | ⟨g, cap', cur, hv, _⟩
    · injection hv with e1 e2 e3; omega
    · injection hv with e1 e2 e3; omega
  obtain ⟨g, cap', hv, hb, hlt⟩ := h.form (by omega)
  injection hv with e1 e2 e3
  subst e1 e3
  rw [hn] at h
  have hs := List.getElem?_eq_getElem (show k < L.length by omega)
  obtain ⟨q0, q1⟩ := pcells_get hs
  exact ⟨g, _, rfl, hlt, hs, by rw [h.cellAt _ (by omega)]; exact q0, by rw [h.cellAt _ (by omega)]; exact q1⟩
theorem OwnP.form {w : World} {base n : Nat} {v : Value} {L : List (Nat × Nat)} (h : OwnP w base v L) (hn : L.length = n) : ∃ A cap, v = .slice A n cap ∧ n ≤ cap := by
  subst hn
  rcases h.2 with ⟨hv, h0⟩ | ⟨g, cap, cur, hv, _, _, h1, h2, _⟩
  · exact ⟨none, 0, by rw [hv, h0], by omega⟩
  · exact ⟨_, cap, hv, h1⟩

set_option maxHeartbeats 4000000 in
set_option maxRecDepth 100000 in
theorem l2Join_any (a : Option Addr) (nl cl : Nat) (bA : Option Addr) (nm cm : Nat) (last : List ByteArray) (base : Nat) (v0 : Value) (L : List (Nat × Nat)) (w : World) (hst : ∀ w', w.grownBy w' v0.ownBlock → Strs w' bA nm last) (hcm : nm ≤ cm) (hown : OwnP w base v0 L) (hbase : base ≤ w.heap.size)
    (hr : rises 0 0 (L ++ [(nl, nm)])) (hle : ∀ s ∈ L ++ [(nl, nm)], s.1 ≤ nl ∧ s.2 ≤ nm) (hnl : nl ≤ 40) (hnm : nm ≤ 40) (hLn : L.length ≤ 40) :
    Calls Tryz.prog 191 #[.slice a nl cl, .slice bA nm cm, v0] w fun e w' => ∃ v vs, e = .returned v ∧ OwnH w' w.heap.size v (joinFrom last 0 0 (L ++ [(nl, nm)])) vs ∧ Below base w w' := by
  have HLE := Lib.hid hle
  have HR := Lib.hid hr
  have HST := Lib.hid hst
  have hb1 := Lib.hid (below_alloc w (.cells #[.int .i64 (nl : Int), .int .i64 (nm : Int)] 235))
  have HOWN := Lib.hid hown
  clear hle hr hst hown
  go_enter Tryz.func191, Tryz.ntmps191
  go_wp2_with (first
    | (at_builtin; refine wpList_pair (.tmp 12) (.tmp 18) base v0 L (HOWN.out.alloc _) (nl, nm) w.heap.size (by simp) (by simp) (by omega) (by simp; omega) rfl rfl rfl rfl ?_
       intro v1 w1 o1 g1 p1
       have HS1 := Lib.hid (HST.out w1 ⟨g1.os, g1.tape, g1.output, Nat.le_trans hb1.out.size g1.size, fun k hk hne => (g1.block k (Nat.lt_of_lt_of_le hk hb1.out.size) hne).trans (hb1.out.block k hk)⟩)
       have HB1 := Lib.hid (Below.grown (hb1.out.mono hbase) g1 (Nat.le_trans hbase hb1.out.size) (fun k e => (HOWN.out.lt k e).1))
       obtain ⟨ns, Hns⟩ : ∃ ns, Hid ((L ++ [(nl, nm)]).length = ns) := ⟨_, rfl⟩
       obtain ⟨A1, cap1, rfl, hc1⟩ := OwnP.form o1 Hns.out)
    | fail)
  obtain ⟨T, HT⟩ : ∃ T, Hid (T = L ++ [(nl, nm)]) := ⟨_, rfl⟩
  rw [← HT.out] at o1
  have HNS := Lib.hid (show T.length = ns by rw [HT.out]; exact Hns.out)
  have hns : ns ≤ 41 := by rw [← Hns.out]; simp; omega
  have HLE : Hid (∀ s ∈ T, s.1 ≤ nl ∧ s.2 ≤ nm) := by rw [HT.out]; exact HLE.out
  have HR : Hid (rises 0 0 (T.drop 0)) := by rw [HT.out]; exact HR.out
  clear g1 p1
  go_loopw [7, 8, 9, 21] (fun v i j k w' => ∃ kk ii jj : Nat, ∃ out vs, k = .int .i64 kk ∧ i = .int .i64 ii ∧ j = .int .i64 jj ∧ kk ≤ ns ∧ ii ≤ 41 ∧ jj ≤ 41 ∧ OwnH w' w1.heap.size v out vs ∧ Hid (out.length ≤ kk) ∧ Hid (rises ii jj (T.drop kk)) ∧ Hid (out ++ joinFrom last ii jj (T.drop kk) = joinFrom last 0 0 T) ∧ Below w1.heap.size w1 w') (fun _ _ _ k _ => ns - (intOf k).toNat)
  case atStart => exact ⟨0, 0, 0, [], [], rfl, rfl, rfl, by omega, by omega, by omega, OwnH.nil_, show _ ≤ _ by simp, HR.out, rfl, Below.refl _ _⟩
  case round =>
    obtain ⟨kk, ii, jj, out, vs, rfl, rfl, rfl, hkk, hii, hjj, ho, HO, HRI, HP, hb⟩ := hrel
    by_cases hlt : kk < ns
    · obtain ⟨g, s, rfl, hg, hs, c0, c1⟩ := o1.at_ hlt
      obtain ⟨hi1, hj1, hrn⟩ := rises_step hs HRI.out
      obtain ⟨hs0, hs1⟩ := HLE.out s (List.mem_of_getElem? hs)
      obtain ⟨s0, s1⟩ := s
      dsimp only at hi1 hj1 hrn hs0 hs1 c0 c1
      have HTs := Lib.hid hs
      have HRN := Lib.hid hrn
      clear hs hrn
      have c0 := cell_keep hb c0
      have c1 := cell_keep hb c1
      obtain ⟨q, Hq⟩ : ∃ q : Nat, Hid (q = s1 - jj) := ⟨_, rfl⟩
      have hcut := cut_strs bA nm cm jj s1 hj1 (by omega)
      have hw1 : IntKind.i64.wrap ((s0 : Int) - (ii : Int)) = (s0 : Int) - (ii : Int) := by rw [IntKind.wrap_i64]; omega
      obtain ⟨W2, HW2⟩ : ∃ W2, Hid (W2 = wr.alloc (.cells #[.int .i64 (s0 : Int), .int .i64 (s1 : Int)] 235)) := ⟨_, rfl⟩
      have k0 : W2.cell? ⟨wr.heap.size, 0, none⟩ = some (.int .i64 (s0 : Int)) := by rw [HW2.out]; simp
      have k1 : W2.cell? ⟨wr.heap.size, 1, none⟩ = some (.int .i64 (s1 : Int)) := by rw [HW2.out]; simp
      have hB2 := Lib.hid (show Below wr.heap.size wr W2 by rw [HW2.out]; exact below_alloc _ _)
      have hsz2 := Lib.hid (show W2.heap.size = wr.heap.size + 1 by rw [HW2.out]; simp)
      by_cases h1 : ii < s0
      · have q1 : decide ((ii : Int) < (s0 : Int)) = true := by simp; omega
        have HOW := Lib.hid ho
        have HBB := Lib.hid hb
        have HNE := Lib.hid (show u7.ownBlock ≠ some wr.heap.size from fun e => by have := (ho.lt (.inl e)).2; omega)
        have HOK := Lib.hid (show i64ok (ii : Int) ∧ i64ok ((s0 : Int) - ii) from ⟨⟨by omega, by omega⟩, ⟨by omega, by omega⟩⟩)
        have HJ := Lib.hid (join_yes (last := last) HTs.out (show ii < s0 ∨ jj < s1 from .inl h1))
        clear ho
        go_wp2
        rw [← HW2.out]
        clear c0 c1
        go_region_held3 (fun w' => w'.cell? ⟨wr.heap.size, 0, none⟩ = some (.int .i64 (s0 : Int)) ∧ w'.cell? ⟨wr.heap.size, 1, none⟩ = some (.int .i64 (s1 : Int))) (first | exact ⟨k0, k1⟩ | exact ⟨cell_keep b5 k0, cell_keep b5 k1⟩ | exact ⟨cell_keep (b5.next (below_alloc _ _)) k0, cell_keep (b5.next (below_alloc _ _)) k1⟩ | exact K6 | go_keep)
          (first
            | (go_at_call 103; refine (l1OwnT_any _ _ _ (seg last jj s1) W2.drew ((HS1.out.below (HBB.out.next hB2.out).drew).cut hj1 hs1 hcm) (by omega)).mono ?_; rintro e w5 ⟨v5, rfl, o5, b5⟩
               have HBX := Lib.hid ((HBB.out.next hB2.out).drew.next b5)
               obtain ⟨v5a, v5c, rfl, h51, h52⟩ := o5.form (show (seg last jj s1).length = q by rw [seg_len, HS1.out.len, Hq.out]; omega)
               have HOW5 := Lib.hid ((HOW.out.below hB2.out.drew).below b5)
               have O5 := Lib.hid (o5.more (show w1.heap.size ≤ W2.drew.heap.size from Nat.le_trans HBB.out.size hB2.out.size))
               have HF5 := Lib.hid (show ∀ g, (Value.slice v5a q v5c).ownBlock = some g → ¬ Blk u7 vs g from fun g e e2 => by
                 have h3 := (o5.lt e).1; have h4 := (HOW.out.lt e2).2; have h5 : W2.drew.heap.size = wr.heap.size + 1 := hsz2.out; omega))
            | (refine step_hk (.tmp 35) (.tmp 48) w1.heap.size u7 out vs (HOW5.out.below (below_alloc _ _)) ⟨(ii : Int), (s0 : Int) - ii, seg last jj s1⟩ HOK.out (.slice v5a q v5c) (O5.out.below (below_alloc _ _)) HF5.out w5.heap.size (by simp) (by simp) (by simp) (by have := HO.out; omega) (Nat.le_trans HBX.out.size (by simp)) rfl rfl rfl rfl ?_; intro v6 w6 o6 g6 p6
               have K6 := (show w6.cell? ⟨wr.heap.size, 0, none⟩ = some (.int .i64 (s0 : Int)) ∧ w6.cell? ⟨wr.heap.size, 1, none⟩ = some (.int .i64 (s1 : Int)) from
                 ⟨g6.cell (cell_keep (b5.next (below_alloc _ _)) k0) (fun e => HNE.out e.symm), g6.cell (cell_keep (b5.next (below_alloc _ _)) k1) (fun e => HNE.out e.symm)⟩)
               have HB6 := Lib.hid (Below.grown (HBX.out.next (below_alloc _ _)) g6 (Nat.le_trans HBX.out.size (by simp)) (fun k e => (HOW.out.lt (.inl e)).1)))
            | fail)
        obtain ⟨kk0, kk1⟩ := K6
        clear k0 k1 b5 o5 g6 p6
        go_wp2
        go_roundw
        case rel => exact ⟨kk + 1, s0 + 1, s1 + 1, _, _, by go_num, by go_num, by go_num, by omega, by omega, by omega, o6, show _ ≤ _ by have := HO.out; simp; omega, HRN.out, show _ = _ by
          rw [← HP.out, HJ.out]; simp [joinOne], HB6.out⟩
        case measure => simp [intOf]; omega
      · have q1 : decide ((ii : Int) < (s0 : Int)) = false := by simp; omega
        by_cases h2 : jj < s1
        · have q2 : decide ((jj : Int) < (s1 : Int)) = true := by simp; omega
          have HOW := Lib.hid ho
          have HBB := Lib.hid hb
          have HNE := Lib.hid (show u7.ownBlock ≠ some wr.heap.size from fun e => by have := (ho.lt (.inl e)).2; omega)
          have HOK := Lib.hid (show i64ok (ii : Int) ∧ i64ok ((s0 : Int) - ii) from ⟨⟨by omega, by omega⟩, ⟨by omega, by omega⟩⟩)
          have HJ := Lib.hid (join_yes (last := last) HTs.out (show ii < s0 ∨ jj < s1 from .inr h2))
          clear ho
          go_wp2
          rw [← HW2.out]
          clear c0 c1
          go_region_held3 (fun w' => w'.cell? ⟨wr.heap.size, 0, none⟩ = some (.int .i64 (s0 : Int)) ∧ w'.cell? ⟨wr.heap.size, 1, none⟩ = some (.int .i64 (s1 : Int))) (first | exact ⟨k0, k1⟩ | exact ⟨cell_keep b5 k0, cell_keep b5 k1⟩ | exact ⟨cell_keep (b5.next (below_alloc _ _)) k0, cell_keep (b5.next (below_alloc _ _)) k1⟩ | exact K6 | go_keep)
            (first
              | (go_at_call 103; refine (l1OwnT_any _ _ _ (seg last jj s1) W2.drew ((HS1.out.below (HBB.out.next hB2.out).drew).cut hj1 hs1 hcm) (by omega)).mono ?_; rintro e w5 ⟨v5, rfl, o5, b5⟩
                 have HBX := Lib.hid ((HBB.out.next hB2.out).drew.next b5)
                 obtain ⟨v5a, v5c, rfl, h51, h52⟩ := o5.form (show (seg last jj s1).length = q by rw [seg_len, HS1.out.len, Hq.out]; omega)
                 have HOW5 := Lib.hid ((HOW.out.below hB2.out.drew).below b5)
                 have O5 := Lib.hid (o5.more (show w1.heap.size ≤ W2.drew.heap.size from Nat.le_trans HBB.out.size hB2.out.size))
                 have HF5 := Lib.hid (show ∀ g, (Value.slice v5a q v5c).ownBlock = some g → ¬ Blk u7 vs g from fun g e e2 => by
                   have h3 := (o5.lt e).1; have h4 := (HOW.out.lt e2).2; have h5 : W2.drew.heap.size = wr.heap.size + 1 := hsz2.out; omega))
              | (refine step_hk (.tmp 35) (.tmp 48) w1.heap.size u7 out vs (HOW5.out.below (below_alloc _ _)) ⟨(ii : Int), (s0 : Int) - ii, seg last jj s1⟩ HOK.out (.slice v5a q v5c) (O5.out.below (below_alloc _ _)) HF5.out w5.heap.size (by simp) (by simp) (by simp) (by have := HO.out; omega) (Nat.le_trans HBX.out.size (by simp)) rfl rfl rfl rfl ?_; intro v6 w6 o6 g6 p6
                 have K6 := (show w6.cell? ⟨wr.heap.size, 0, none⟩ = some (.int .i64 (s0 : Int)) ∧ w6.cell? ⟨wr.heap.size, 1, none⟩ = some (.int .i64 (s1 : Int)) from
                   ⟨g6.cell (cell_keep (b5.next (below_alloc _ _)) k0) (fun e => HNE.out e.symm), g6.cell (cell_keep (b5.next (below_alloc _ _)) k1) (fun e => HNE.out e.symm)⟩)
                 have HB6 := Lib.hid (Below.grown (HBX.out.next (below_alloc _ _)) g6 (Nat.le_trans HBX.out.size (by simp)) (fun k e => (HOW.out.lt (.inl e)).1)))
              | fail)
          obtain ⟨kk0, kk1⟩ := K6
          clear k0 k1 b5 o5 g6 p6
          go_wp2
          go_roundw
          case rel => exact ⟨kk + 1, s0 + 1, s1 + 1, _, _, by go_num, by go_num, by go_num, by omega, by omega, by omega, o6, show _ ≤ _ by have := HO.out; simp; omega, HRN.out, show _ = _ by
            rw [← HP.out, HJ.out]; simp [joinOne], HB6.out⟩
          case measure => simp [intOf]; omega
        · have q2 : decide ((jj : Int) < (s1 : Int)) = false := by simp; omega
          have HJ := Lib.hid (join_no (last := last) HTs.out (show ¬ (ii < s0 ∨ jj < s1) by omega))
          have HB3 := Lib.hid (hb.next (below_alloc wr (.cells #[.int .i64 (s0 : Int), .int .i64 (s1 : Int)] 235)))
          have HO3 := Lib.hid (ho.below (below_alloc wr (.cells #[.int .i64 (s0 : Int), .int .i64 (s1 : Int)] 235)))
          go_wp2
          go_roundw
          case rel => exact ⟨kk + 1, s0 + 1, s1 + 1, out, vs, by go_num, by go_num, by go_num, by omega, by omega, by omega, HO3.out, show _ ≤ _ by have := HO.out; omega, HRN.out, show _ = _ by
            rw [← HP.out, HJ.out], HB3.out⟩
          case measure => simp [intOf]; omega
    · have hfin := Lib.hid (join_end (last := last) (i := ii) (j := jj) (L := T) (k := kk) (by rw [HNS.out]; omega))
      go_wp2
      go_ret
      refine ⟨_, vs, rfl, ?_, HB1.out.trans (hb.mono (Nat.le_trans hbase (by have := HB1.out.size; omega)))⟩
      rw [← HT.out, ← HP.out, hfin.out, List.append_nil]
      exact ho.more HB1.out.size

end Go.Proofs.YtnnaigoomipklaaGreatDoor

namespace Go.Proofs.YtnnaigoomipklaaGreatDoor
open Go.RowKit M

theorem patchOf_yes {l : List ByteArray} {hs : List Hk} (h : patchOk l hs = true) : patchOf l hs = (patchH l hs, true) := if_pos h

end Go.Proofs.YtnnaigoomipklaaGreatDoor

namespace Go.Proofs.YtnnaigoomipklaaGreatDoor
open Go.RowKit M

theorem ints_info : (Tryz.prog.info? 220).map (fun i => (i.zero, i.size, i.bytes)) = some (some (.slice none 0 0), 1, 24) := by kernel_rfl
/-- A list of pairs, each a list of two numbers. -/
structure Prs (w : World) (A : Option Addr) (n : Nat) (L : List (Nat × Nat)) : Prop where
  len : L.length = n
  addr : (A = none ∧ n = 0) ∨ ∃ b off, A = some ⟨b, off, none⟩
  cell : ∀ (k : Nat) (s : Nat × Nat), L[k]? = some s → ∃ b off gi, A = some ⟨b, off, none⟩ ∧ w.cell? ⟨b, off + k, none⟩ = some (.slice (some ⟨gi, 0, none⟩) 2 2) ∧ w.cell? ⟨gi, 0, none⟩ = some (.int .i64 (s.1 : Int)) ∧ w.cell? ⟨gi, 1, none⟩ = some (.int .i64 (s.2 : Int))
theorem Prs.below {w w' : World} {A : Option Addr} {n : Nat} {L : List (Nat × Nat)} (h : Prs w A n L) (hb : Below w.heap.size w w') : Prs w' A n L :=
  ⟨h.len, h.addr, fun k s hs => by
    obtain ⟨b, off, gi, e, h1, h2, h3⟩ := h.cell k s hs
    exact ⟨b, off, gi, e, cell_keep hb h1, cell_keep hb h2, cell_keep hb h3⟩⟩
theorem Prs.cellsL {w : World} {b off n : Nat} {L : List (Nat × Nat)} (h : Prs w (some ⟨b, off, none⟩) n L) : ∃ xs : List Value, xs.length = n ∧ (∀ u ∈ xs, ∃ gi, u = .slice (some ⟨gi, 0, none⟩) 2 2) ∧ (∀ j u, xs[j]? = some u → w.cell? ((⟨b, off, none⟩ : Addr).add j) = some u) ∧
    ∀ (k : Nat) (s : Nat × Nat), L[k]? = some s → ∃ gi, xs[k]? = some (.slice (some ⟨gi, 0, none⟩) 2 2) ∧ w.cell? ⟨gi, 0, none⟩ = some (.int .i64 (s.1 : Int)) ∧ w.cell? ⟨gi, 1, none⟩ = some (.int .i64 (s.2 : Int)) := by
  have hone : ∀ k, ∃ gi, ∀ s, L[k]? = some s → w.cell? ⟨b, off + k, none⟩ = some (.slice (some ⟨gi, 0, none⟩) 2 2) ∧ w.cell? ⟨gi, 0, none⟩ = some (.int .i64 (s.1 : Int)) ∧ w.cell? ⟨gi, 1, none⟩ = some (.int .i64 (s.2 : Int)) := by
    intro k
    cases hk : L[k]? with
    | none => exact ⟨0, fun s h => by cases h⟩
    | some s =>
      obtain ⟨b', off', gi, e, h1, h2, h3⟩ := h.cell k s hk
      injection e with e
      injection e with e1 e2
      subst e1 e2
      exact ⟨gi, fun t ht => by injection ht with ht; subst ht; exact ⟨h1, h2, h3⟩⟩
  have hg : ∀ k, k < n → ((List.range n).map fun k => (Value.slice (some ⟨Classical.choose (hone k), 0, none⟩) 2 2))[k]? = some (.slice (some ⟨Classical.choose (hone k), 0, none⟩) 2 2) := fun k hk => by rw [List.getElem?_map, List.getElem?_range hk]; rfl
  refine ⟨(List.range n).map fun k => .slice (some ⟨Classical.choose (hone k), 0, none⟩) 2 2, by simp, fun u hu => ?_, fun j u hu => ?_, fun k s hs => ?_⟩
  · rw [List.mem_map] at hu
    obtain ⟨k, _, rfl⟩ := hu
    exact ⟨_, rfl⟩
  · have hj : j < n := by have := (List.getElem?_eq_some_iff.1 hu).1; simpa using this
    rw [hg j hj] at hu
    injection hu with hu
    subst hu
    have e : (⟨b, off, none⟩ : Addr).add j = ⟨b, off + j, none⟩ := by unfold Addr.add; by_cases h0 : j = 0 <;> simp [h0]
    rw [e]
    exact (Classical.choose_spec (hone j) _ (List.getElem?_eq_getElem (show j < L.length by rw [h.len]; exact hj))).1
  · have hk : k < n := by rw [← h.len]; exact (List.getElem?_eq_some_iff.1 hs).1
    exact ⟨_, hg k hk, (Classical.choose_spec (hone k) s hs).2⟩
theorem run_app_full {w : World} (ty : TypeId) (A : Option Addr) (n : Nat) (L : List (Nat × Nat)) (h : Prs w A n L) (x : Nat × Nat) (gb gi : Nat) (h0 : w.cell? ⟨gb, 0, none⟩ = some (.slice (some ⟨gi, 0, none⟩) 2 2)) (h1 : w.cell? ⟨gi, 0, none⟩ = some (.int .i64 (x.1 : Int))) (h2 : w.cell? ⟨gi, 1, none⟩ = some (.int .i64 (x.2 : Int))) (hn : n ≤ 1000) :
    ∃ cap' w', (Builtin.append_ #[174, 174] ty #[.slice A n n, .slice (some ⟨gb, 0, none⟩) 1 1]).run Tryz.prog w = .ok (.slice (some ⟨w.heap.size, 0, none⟩) (n + 1) cap') w' ∧ Prs w' (some ⟨w.heap.size, 0, none⟩) (n + 1) (L ++ [x]) ∧ Below w.heap.size w w' := by
  obtain ⟨i, q1, q2, q3, q4⟩ := info_parts ints_info
  have hnews : ∀ j t, [Value.slice (some ⟨gi, 0, none⟩) 2 2][j]? = some t → w.cell? ((⟨gb, 0, none⟩ : Addr).add j) = some t := by
    intro j t ht
    match j, ht with
    | 0, ht => simp at ht; subst ht; simpa [Addr.add] using h0
  have hbl : ∀ o, Below w.heap.size w (w.drew.alloc o) := fun o => (Below.refl _ w).drew.alloc (Nat.le_refl _) o
  have fin : ∀ (xs : List Value) (zs : Array Value), xs.length = n → (∀ (k : Nat) (s : Nat × Nat), L[k]? = some s → ∃ g, xs[k]? = some (.slice (some ⟨g, 0, none⟩) 2 2) ∧ w.cell? ⟨g, 0, none⟩ = some (.int .i64 (s.1 : Int)) ∧ w.cell? ⟨g, 1, none⟩ = some (.int .i64 (s.2 : Int))) →
      Prs (w.drew.alloc (.cells (xs.toArray ++ #[Value.slice (some ⟨gi, 0, none⟩) 2 2] ++ zs) 220)) (some ⟨w.heap.size, 0, none⟩) (n + 1) (L ++ [x]) := by
    intro xs zs hxl hx
    have hheap : (w.drew.alloc (.cells (xs.toArray ++ #[Value.slice (some ⟨gi, 0, none⟩) 2 2] ++ zs) 220)).heap[w.heap.size]? = some (.cells (xs.toArray ++ #[Value.slice (some ⟨gi, 0, none⟩) 2 2] ++ zs) 220 (0, 0)) := heap_alloc_new w.drew _
    have hcell : ∀ k u, (xs ++ [Value.slice (some ⟨gi, 0, none⟩) 2 2])[k]? = some u → (w.drew.alloc (.cells (xs.toArray ++ #[Value.slice (some ⟨gi, 0, none⟩) 2 2] ++ zs) 220)).cell? ⟨w.heap.size, k, none⟩ = some u := by
      intro k u hu
      have hk : k < n + 1 := by have := (List.getElem?_eq_some_iff.1 hu).1; simp [hxl] at this; omega
      rw [cell_of_row _ _ k _ _ _ hheap, Array.getElem?_append_left (by simp [hxl]; omega)]
      rw [show xs.toArray ++ #[Value.slice (some ⟨gi, 0, none⟩) 2 2] = (xs ++ [Value.slice (some ⟨gi, 0, none⟩) 2 2]).toArray from by simp]
      simpa using hu
    refine ⟨by simp [h.len], .inr ⟨_, _, rfl⟩, fun k s hs => ?_⟩
    rcases list_snoc_get hs with ⟨hk, hs⟩ | ⟨hk, rfl⟩
    · obtain ⟨g, e1, e2, e3⟩ := hx k s hs
      exact ⟨_, 0, g, rfl, by rw [Nat.zero_add]; exact hcell k _ (by rw [List.getElem?_append_left (by rw [hxl, ← h.len]; exact hk)]; exact e1), cell_keep (hbl _) e2, cell_keep (hbl _) e3⟩
    · exact ⟨_, 0, gi, rfl, by rw [Nat.zero_add]; exact hcell k _ (by rw [hk, h.len, List.getElem?_append_right (by omega), hxl, Nat.sub_self]; rfl), cell_keep (hbl _) h1, cell_keep (hbl _) h2⟩
  rcases h.addr with ⟨rfl, rfl⟩ | ⟨b, off, rfl⟩
  · have hr := run_append_nil (P := Tryz.prog) w 174 ty 220 i _ Tryz.underlying174 q1 q2 ⟨gb, 0, none⟩ 1 1 [.slice (some ⟨gi, 0, none⟩) 2 2] (by simp [q3]) hnews (by omega) (by omega) (by rw [q4]; omega)
    have hL : L = [] := List.eq_nil_of_length_eq_zero h.len
    have hf := fin [] (Builtin.zeroCells (Value.slice none 0 0).cells (grownCap w 1 0 220 - 1)) rfl (fun k s hs => by rw [hL] at hs; simp at hs)
    refine ⟨_, _, hr, ?_, hbl _⟩
    simpa using hf
  · obtain ⟨xs, hxl, hxf, hxc, hxp⟩ := h.cellsL
    have hr := run_append_grow (P := Tryz.prog) w 174 ty 220 i _ Tryz.underlying174 q1 q2 ⟨b, off, none⟩ n n xs (by rw [q3]; omega) hxc ⟨gb, 0, none⟩ 1 1 [.slice (some ⟨gi, 0, none⟩) 2 2] (by simp [q3]) hnews (by omega) (by omega) (growslice_fits (by omega) (by rw [q4]; omega))
    refine ⟨_, _, hr, ?_, hbl _⟩
    have hf := fin xs (Builtin.zeroCells (Value.slice none 0 0).cells (grownCap w (n + 1) n 220 - (n + 1))) hxl hxp
    simpa using hf
theorem wpList_full {w : World} {ops : Array Oper} {rest : List Oper} {o : Oper} {a : Act} {Q : Exit → Act → World → Prop} (s y : Operand) (A : Option Addr) (n : Nat) (L : List (Nat × Nat)) (hp : Prs w A n L) (x : Nat × Nat) (gb gi : Nat) (h0 : w.cell? ⟨gb, 0, none⟩ = some (.slice (some ⟨gi, 0, none⟩) 2 2)) (h1 : w.cell? ⟨gi, 0, none⟩ = some (.int .i64 (x.1 : Int))) (h2 : w.cell? ⟨gi, 1, none⟩ = some (.int .i64 (x.2 : Int))) (hn : n ≤ 1000)
    (hgd : Region.wanted o (yielded ops a.tmps) = true) (ho : o.op = .call { callee := .builtin .append, args := #[s, y], argTypes := #[174, 174] }) (hs : a.eval s = .slice A n n) (hy : a.eval y = .slice (some ⟨gb, 0, none⟩) 1 1)
    (h : ∀ cap' w', Prs w' (some ⟨w.heap.size, 0, none⟩) (n + 1) (L ++ [x]) → Below w.heap.size w w' → wpList Tryz.prog ops Q rest (a.put o.dst (.slice (some ⟨w.heap.size, 0, none⟩) (n + 1) cap')) w') : wpList Tryz.prog ops Q (o :: rest) a w := by
  refine wpList_wanted hgd fun K hK => ?_
  obtain ⟨cap', w', hrun, k1, k2⟩ := run_app_full o.type A n L hp x gb gi h0 h1 h2 hn
  unfold Oper.wp execOp
  simp only [ho, resolve, invoke, builtin, Sem.run_bind, Sem.run_pure, Result.andThen_ok, List.map_toArray, List.map_cons, List.map_nil, hs, hy, hrun]
  exact hK _ _ (h cap' w' k1 k2)
theorem cut_full (a : Option Addr) (n c : Nat) (h : n ≤ c) (w : World) :
    (Instr.slice 174 (.slice a n c) none (some (.int .i64 (n : Int))) (some (.int .i64 (n : Int)))).run Tryz.prog w = .ok (.slice a n n) w := by
  obtain ⟨i, h3, h4, h5, h6⟩ := info_parts ints_info
  have he : Tryz.prog.elem 174 = 220 := by simp [Program.elem, Tryz.underlying174]
  have hr := run_slice_hm (P := Tryz.prog) w 174 a n c (by rw [he]; exact Tryz.underlying174) .i64 .i64 n n (by omega) (by omega) (by omega)
  rw [he] at hr
  rw [hr]
  have h0 := cutA_zero a n
  unfold cutA at h0
  simp [sizeOf, typeInfo, h3, h5, sliced, h0]
theorem join_nothing {last : List ByteArray} {i j : Nat} {s : Nat × Nat} (h1 : i ≤ s.1) (h2 : j ≤ s.2) (h3 : s.2 ≤ last.length) : nothing (joinOne last i j s) = decide (¬ (i < s.1 ∨ j < s.2)) := by
  have e : (seg last j s.2).length = s.2 - j := by rw [seg_len, Nat.min_eq_left h3]
  have h5 : ((s.1 : Int) - (i : Int) = 0 ∧ s.2 - j = 0) ↔ ¬ (i < s.1 ∨ j < s.2) := by omega
  unfold nothing joinOne
  dsimp only
  rw [e, ← Bool.decide_and, decide_eq_decide]
  exact h5

end Go.Proofs.YtnnaigoomipklaaGreatDoor

namespace Go.Proofs.YtnnaigoomipklaaGreatDoor
open Go.RowKit M

set_option maxHeartbeats 4000000 in
set_option maxRecDepth 100000 in
theorem hunksAround_any (a : Option Addr) (nl cl : Nat) (bA : Option Addr) (nm cm : Nat) (last : List ByteArray) (A : Option Addr) (n c : Nat) (L : List (Nat × Nat)) (w : World) (hst : Strs w bA nm last) (hcm : nm ≤ cm) (hprs : Prs w A n L) (hnc : n ≤ c)
    (hr : rises 0 0 (L ++ [(nl, nm)])) (hle : ∀ s ∈ L ++ [(nl, nm)], s.1 ≤ nl ∧ s.2 ≤ nm) (hnl : nl ≤ 40) (hnm : nm ≤ 40) (hLn : n ≤ 40) :
    Calls Tryz.prog 149 #[.slice a nl cl, .slice bA nm cm, .slice A n c] w fun e w' => ∃ v vs, e = .returned v ∧ OwnH w' w.heap.size v (joinFrom last 0 0 (L ++ [(nl, nm)])) vs ∧ Below w.heap.size w w' := by
  have HLE := Lib.hid hle
  have HR := Lib.hid hr
  have HPR := Lib.hid hprs
  have hcutf := cut_full A n c hnc
  have hb1 := Lib.hid ((below_alloc w (.cells #[.int .i64 (nl : Int), .int .i64 (nm : Int)] 3)).next (below_alloc _ (.cells #[.slice (some ⟨w.heap.size, 0, none⟩) 2 2] 220)))
  clear hle hr hprs
  go_enter Tryz.func149, Tryz.ntmps149
  go_wp2_with (first
    | (at_builtin; refine wpList_full (.tmp 19) (.tmp 25) A n L (HPR.out.below hb1.out) (nl, nm) (w.heap.size + 1) w.heap.size (by simp) (by simp) (by simp) (by omega) rfl rfl rfl rfl ?_
       intro cap1 w1 o1 d1)
    | fail)
  have HB1 := Lib.hid (hb1.out.next d1)
  have HS1 := Lib.hid (hst.below HB1.out)
  obtain ⟨T, HT⟩ : ∃ T, Hid (T = L ++ [(nl, nm)]) := ⟨_, rfl⟩
  rw [← HT.out] at o1
  have HNS := Lib.hid o1.len
  have HLE : Hid (∀ s ∈ T, s.1 ≤ nl ∧ s.2 ≤ nm) := by rw [HT.out]; exact HLE.out
  have HR : Hid (rises 0 0 (T.drop 0)) := by rw [HT.out]; exact HR.out
  simp only [World.size_alloc] at o1
  clear d1
  go_loopw [8, 9, 10, 29] (fun v i j k w' => ∃ kk ii jj : Nat, ∃ out vs, k = .int .i64 kk ∧ i = .int .i64 ii ∧ j = .int .i64 jj ∧ kk ≤ n + 1 ∧ ii ≤ 41 ∧ jj ≤ 41 ∧ OwnH w' w1.heap.size v out vs ∧ Hid (out.length ≤ kk) ∧ Hid (rises ii jj (T.drop kk)) ∧ Hid (out ++ joinFrom last ii jj (T.drop kk) = joinFrom last 0 0 T) ∧ Below w1.heap.size w1 w') (fun _ _ _ k _ => n + 1 - (intOf k).toNat)
  case atStart => exact ⟨0, 0, 0, [], [], rfl, rfl, rfl, by omega, by omega, by omega, OwnH.nil_, show _ ≤ _ by simp, HR.out, rfl, Below.refl _ _⟩
  case round =>
    obtain ⟨kk, ii, jj, out, vs, rfl, rfl, rfl, hkk, hii, hjj, ho, HO, HRI, HP, hb⟩ := hrel
    by_cases hlt : kk < n + 1
    · have hs := List.getElem?_eq_getElem (show kk < T.length by rw [HNS.out]; exact hlt)
      obtain ⟨s, hs⟩ : ∃ s, T[kk]? = some s := ⟨_, hs⟩
      obtain ⟨b, off, gi, e0, c0, c1, c2⟩ := o1.cell kk s hs
      injection e0 with e0
      injection e0 with e1 e2
      subst e1 e2
      rw [Nat.zero_add] at c0
      obtain ⟨hi1, hj1, hrn⟩ := rises_step hs HRI.out
      obtain ⟨hs0, hs1⟩ := HLE.out s (List.mem_of_getElem? hs)
      obtain ⟨s0, s1⟩ := s
      dsimp only at hi1 hj1 hrn hs0 hs1 c1 c2
      have HTs := Lib.hid hs
      have HRN := Lib.hid hrn
      clear hs hrn
      have HC := Lib.hid (show w1.cell? ⟨gi, 0, none⟩ = some (.int .i64 (s0 : Int)) ∧ w1.cell? ⟨gi, 1, none⟩ = some (.int .i64 (s1 : Int)) from ⟨c1, c2⟩)
      have c0 := cell_keep hb c0
      have k0 := cell_keep hb c1
      have k1 := cell_keep hb c2
      have hgi : gi ≠ wr.heap.size := by have := cell_lt k0; simp at this; omega
      clear c1 c2
      obtain ⟨q, Hq⟩ : ∃ q : Nat, Hid (q = s1 - jj) := ⟨_, rfl⟩
      have hcut := cut_strs bA nm cm jj s1 hj1 (by omega)
      have hw1 : IntKind.i64.wrap ((s0 : Int) - (ii : Int)) = (s0 : Int) - (ii : Int) := by rw [IntKind.wrap_i64]; omega
      have hw2 : IntKind.i64.wrap ((s0 : Int) + 1) = (s0 : Int) + 1 := by rw [IntKind.wrap_i64]; omega
      have hw3 : IntKind.i64.wrap ((s1 : Int) + 1) = (s1 : Int) + 1 := by rw [IntKind.wrap_i64]; omega
      have HOW := Lib.hid ho
      have HBB := Lib.hid hb
      have HOK := Lib.hid (show i64ok (ii : Int) ∧ i64ok ((s0 : Int) - ii) from ⟨⟨by omega, by omega⟩, ⟨by omega, by omega⟩⟩)
      have HNO := Lib.hid (join_nothing (last := last) (i := ii) (j := jj) (s := (s0, s1)) hi1 hj1 (by rw [HS1.out.len]; exact hs1))
      clear ho
      go_wp2
      go_region_held3 (fun w' => w'.cell? ⟨gi, 0, none⟩ = some (.int .i64 (s0 : Int)) ∧ w'.cell? ⟨gi, 1, none⟩ = some (.int .i64 (s1 : Int))) (first | exact ⟨k0, k1⟩ | exact ⟨cell_keep b5 k0, cell_keep b5 k1⟩ | exact ⟨cell_keep (b5.next (below_alloc _ _)) k0, cell_keep (b5.next (below_alloc _ _)) k1⟩ | exact ⟨cell_keep (below_alloc wr _) k0, cell_keep (below_alloc wr _) k1⟩ | exact ⟨cell_keep ((below_alloc wr _).drew.next b5) k0, cell_keep ((below_alloc wr _).drew.next b5) k1⟩ | exact ⟨cell_off (cell_off (cell_off (cell_keep ((below_alloc wr _).drew.next b5) k0) hgi) hgi) hgi, cell_off (cell_off (cell_off (cell_keep ((below_alloc wr _).drew.next b5) k1) hgi) hgi) hgi⟩ | go_keep)
        (first
          | (go_at_call 106; refine (copyOf_any _ _ _ (seg last jj s1) wr.drew ((HS1.out.below HBB.out.drew).cut hj1 hs1 hcm) (by omega)).mono ?_; rintro e w5 ⟨v5, rfl, o5, b5⟩
             obtain ⟨v5a, v5c, rfl, h51, h52⟩ := o5.form (show (seg last jj s1).length = q by rw [seg_len, HS1.out.len, Hq.out]; omega))
          | (go_at_call 106; refine (copyOf_any _ _ _ (seg last jj s1) (wr.alloc (.cells #[.int .i64 0, .int .i64 0, .slice none 0 0] 105)).drew ((HS1.out.below (HBB.out.next (below_alloc _ _)).drew).cut hj1 hs1 hcm) (by omega)).mono ?_; rintro e w5 ⟨v5, rfl, o5, b5⟩
             have z5 : w5.heap[wr.heap.size]? = some (.cells #[.int .i64 0, .int .i64 0, .slice none 0 0] 105 (0, 0)) := (b5.block _ (by simp)).trans (heap_alloc_new wr _)
             have z0 : w5.cell? ⟨wr.heap.size, 0, none⟩ = some (.int .i64 0) := by simp [World.cell?, z5]
             have z1 : w5.cell? ⟨wr.heap.size, 1, none⟩ = some (.int .i64 0) := by simp [World.cell?, z5]
             have z2 : w5.cell? ⟨wr.heap.size, 2, none⟩ = some (.slice none 0 0) := by simp [World.cell?, z5]
             have zf : ∀ j, w5.frozen? ⟨wr.heap.size, j, none⟩ = false := fun j => by simp [World.frozen?, z5]
             obtain ⟨v5a, v5c, rfl, h51, h52⟩ := o5.form (show (seg last jj s1).length = q by rw [seg_len, HS1.out.len, Hq.out]; omega))
          | fail)
      · obtain ⟨W7, HW7⟩ : ∃ W7, Hid (W7 = w5.alloc (.cells #[.int .i64 (ii : Int), .int .i64 ((s0 : Int) - ii), .slice v5a q v5c] 105)) := ⟨_, rfl⟩
        have HOW7 := Lib.hid (show OwnH W7 w1.heap.size u8 out vs by rw [HW7.out]; exact (HOW.out.below ((Below.refl _ wr).drew.next b5)).below (below_alloc _ _))
        have O7 := Lib.hid (show OwnV W7 w1.heap.size (.slice v5a q v5c) (seg last jj s1) by rw [HW7.out]; exact (o5.more HBB.out.size).below (below_alloc _ _))
        have HF7 := Lib.hid (show ∀ g, (Value.slice v5a q v5c).ownBlock = some g → ¬ Blk u8 vs g from fun g e e2 => by
          have h3 := (o5.lt e).1; have h4 := (HOW.out.lt e2).2; have h6 : wr.drew.heap.size = wr.heap.size := rfl; omega)
        have HB7 := Lib.hid (show Below w1.heap.size w1 W7 by rw [HW7.out]; exact (HBB.out.drew.next b5).next (below_alloc _ _))
        have m0 : W7.cell? ⟨w5.heap.size, 0, none⟩ = some (.int .i64 (ii : Int)) := by rw [HW7.out]; simp
        have m1 : W7.cell? ⟨w5.heap.size, 1, none⟩ = some (.int .i64 ((s0 : Int) - ii)) := by rw [HW7.out]; simp
        have m2 : W7.cell? ⟨w5.heap.size, 2, none⟩ = some (.slice v5a q v5c) := by rw [HW7.out]; simp
        have e0 : W7.cell? ⟨gi, 0, none⟩ = some (.int .i64 (s0 : Int)) := cell_keep HB7.out HC.out.1
        have e1 : W7.cell? ⟨gi, 1, none⟩ = some (.int .i64 (s1 : Int)) := cell_keep HB7.out HC.out.2
        clear k0 k1
        rw [← HW7.out]
        go_wp2_with fail
        refine (isNothing_any w5.heap.size 0 (joinOne last ii jj (s0, s1)) v5a q v5c _ ⟨m0, m1, m2, O7.out.strs, h51, HOK.out.1, HOK.out.2⟩).mono ?_
        rintro e w8 ⟨rfl, rfl⟩
        rw [HNO.out]
        by_cases hnz : ii < s0 ∨ jj < s1
        · have HRR := Lib.hid (join_yes (last := last) HTs.out hnz)
          have hdd : decide (¬ (ii < s0 ∨ jj < s1)) = false := decide_eq_false (fun h => h hnz)
          rw [hdd]
          clear hnz hdd
          go_wp2_with (first
            | (at_builtin; refine wpList_hk (.tmp 49) (.tmp 51) w1.heap.size u8 out vs (HOW7.out.below (below_alloc _ _)) (joinOne last ii jj (s0, s1)) HOK.out (.slice v5a q v5c) (O7.out.below (below_alloc _ _)) HF7.out _ (by simp [joinOne]) (by simp [joinOne]) (by simp) (by have := HO.out; omega) (Nat.le_trans HB7.out.size (by simp)) rfl rfl rfl rfl ?_
               intro v8 w8 o8 g8 p8
               have HB8 := Lib.hid (Below.grown (HB7.out.next (below_alloc _ _)) g8 (Nat.le_trans HB7.out.size (by simp)) (fun k e => (HOW.out.lt (.inl e)).1))
               have f0 : w8.cell? ⟨gi, 0, none⟩ = some (.int .i64 (s0 : Int)) := cell_keep HB8.out HC.out.1
               have f1 : w8.cell? ⟨gi, 1, none⟩ = some (.int .i64 (s1 : Int)) := cell_keep HB8.out HC.out.2
               clear g8 p8)
            | fail)
          go_quiet (fail)
          go_wp2
          go_roundw
          case rel => exact ⟨kk + 1, s0 + 1, s1 + 1, _, _, by go_num, by go_num, by go_num, by omega, by omega, by omega, o8.below (below_drewN (Below.refl _ _) _), show _ ≤ _ by have := HO.out; simp; omega, HRN.out, show _ = _ by
            rw [← HP.out, HRR.out]; simp, below_drewN HB8.out _⟩
          case measure => simp [intOf]; omega
        · have HRR := Lib.hid (join_no (last := last) HTs.out hnz)
          have hdd : decide (¬ (ii < s0 ∨ jj < s1)) = true := decide_eq_true hnz
          rw [hdd]
          clear hnz hdd
          go_wp2
          go_quiet (fail)
          go_wp2
          go_roundw
          case rel => exact ⟨kk + 1, s0 + 1, s1 + 1, _, _, by go_num, by go_num, by go_num, by omega, by omega, by omega, HOW7.out.below (below_drewN (Below.refl _ _) _), show _ ≤ _ by have := HO.out; omega, HRN.out, show _ = _ by rw [← HP.out, HRR.out], below_drewN HB7.out _⟩
          case measure => simp [intOf]; omega
      · obtain ⟨W7, HW7⟩ : ∃ W7, Hid (W7 = (((w5.setCell ⟨wr.heap.size, 0, none⟩ (.int .i64 (ii : Int))).setCell ⟨wr.heap.size, 1, none⟩ (.int .i64 ((s0 : Int) - ii))).setCell ⟨wr.heap.size, 2, none⟩ (.slice v5a q v5c))) := ⟨_, rfl⟩
        have bb := (below_alloc wr (.cells #[.int .i64 0, .int .i64 0, .slice none 0 0] 105)).drew.next b5
        have hwr7 : Wrote (fun i => i = wr.heap.size) w5 W7 := by
          rw [HW7.out]
          exact ((Wrote.set (fun i => i = wr.heap.size) w5 _ _ rfl).trans (Wrote.set (fun i => i = wr.heap.size) _ _ _ rfl) (fun _ _ e => e)).trans (Wrote.set (fun i => i = wr.heap.size) _ _ _ rfl) (fun _ _ e => e)
        have HOW7 := Lib.hid (show OwnH W7 w1.heap.size u8 out vs from (HOW.out.below bb).wrote hwr7 (fun g e e2 => by have h4 := (HOW.out.lt e).2; omega))
        have hszA : (wr.alloc (.cells #[.int .i64 0, .int .i64 0, .slice none 0 0] 105)).drew.heap.size = wr.heap.size + 1 := by show (wr.alloc _).heap.size = _; simp
        have O7 := Lib.hid (show OwnV W7 w1.heap.size (.slice v5a q v5c) (seg last jj s1) from (o5.wrote hwr7 (fun g e e2 => by have h4 := (o5.lt e).1; omega)).more (by have := HBB.out.size; omega))
        have HF7 := Lib.hid (show ∀ g, (Value.slice v5a q v5c).ownBlock = some g → ¬ Blk u8 vs g from fun g e e2 => by
          have h3 := (o5.lt e).1; have h4 := (HOW.out.lt e2).2; omega)
        have HB7 := Lib.hid (show Below w1.heap.size w1 W7 from Wrote.below' (((HBB.out.next (below_alloc wr (.cells #[.int .i64 0, .int .i64 0, .slice none 0 0] 105))).drew).next b5) hwr7 (fun k e => by have := HBB.out.size; omega))
        have m0 : W7.cell? ⟨wr.heap.size, 0, none⟩ = some (.int .i64 (ii : Int)) := by rw [HW7.out]; exact (set3_cells z0 z1 z2).1
        have m1 : W7.cell? ⟨wr.heap.size, 1, none⟩ = some (.int .i64 ((s0 : Int) - ii)) := by rw [HW7.out]; exact (set3_cells z0 z1 z2).2.1
        have m2 : W7.cell? ⟨wr.heap.size, 2, none⟩ = some (.slice v5a q v5c) := by rw [HW7.out]; exact (set3_cells z0 z1 z2).2.2
        have e0 : W7.cell? ⟨gi, 0, none⟩ = some (.int .i64 (s0 : Int)) := cell_keep HB7.out HC.out.1
        have e1 : W7.cell? ⟨gi, 1, none⟩ = some (.int .i64 (s1 : Int)) := cell_keep HB7.out HC.out.2
        clear k0 k1 z0 z1 z2 zf z5
        rw [← HW7.out]
        go_wp2_with fail
        refine (isNothing_any wr.heap.size 0 (joinOne last ii jj (s0, s1)) v5a q v5c _ ⟨m0, m1, m2, O7.out.strs, h51, HOK.out.1, HOK.out.2⟩).mono ?_
        rintro e w8 ⟨rfl, rfl⟩
        rw [HNO.out]
        by_cases hnz : ii < s0 ∨ jj < s1
        · have HRR := Lib.hid (join_yes (last := last) HTs.out hnz)
          have hdd : decide (¬ (ii < s0 ∨ jj < s1)) = false := decide_eq_false (fun h => h hnz)
          rw [hdd]
          clear hnz hdd
          go_wp2_with (first
            | (at_builtin; refine wpList_hk (.tmp 49) (.tmp 51) w1.heap.size u8 out vs (HOW7.out.below (below_alloc _ _)) (joinOne last ii jj (s0, s1)) HOK.out (.slice v5a q v5c) (O7.out.below (below_alloc _ _)) HF7.out _ (by simp [joinOne]) (by simp [joinOne]) (by simp) (by have := HO.out; omega) (Nat.le_trans HB7.out.size (by simp)) rfl rfl rfl rfl ?_
               intro v8 w8 o8 g8 p8
               have HB8 := Lib.hid (Below.grown (HB7.out.next (below_alloc _ _)) g8 (Nat.le_trans HB7.out.size (by simp)) (fun k e => (HOW.out.lt (.inl e)).1))
               have f0 : w8.cell? ⟨gi, 0, none⟩ = some (.int .i64 (s0 : Int)) := cell_keep HB8.out HC.out.1
               have f1 : w8.cell? ⟨gi, 1, none⟩ = some (.int .i64 (s1 : Int)) := cell_keep HB8.out HC.out.2
               clear g8 p8)
            | fail)
          go_quiet (fail)
          go_wp2
          go_roundw
          case rel => exact ⟨kk + 1, s0 + 1, s1 + 1, _, _, by go_num, by go_num, by go_num, by omega, by omega, by omega, o8.below (below_drewN (Below.refl _ _) _), show _ ≤ _ by have := HO.out; simp; omega, HRN.out, show _ = _ by
            rw [← HP.out, HRR.out]; simp, below_drewN HB8.out _⟩
          case measure => simp [intOf]; omega
        · have HRR := Lib.hid (join_no (last := last) HTs.out hnz)
          have hdd : decide (¬ (ii < s0 ∨ jj < s1)) = true := decide_eq_true hnz
          rw [hdd]
          clear hnz hdd
          go_wp2
          go_quiet (fail)
          go_wp2
          go_roundw
          case rel => exact ⟨kk + 1, s0 + 1, s1 + 1, _, _, by go_num, by go_num, by go_num, by omega, by omega, by omega, HOW7.out.below (below_drewN (Below.refl _ _) _), show _ ≤ _ by have := HO.out; omega, HRN.out, show _ = _ by rw [← HP.out, HRR.out], below_drewN HB7.out _⟩
          case measure => simp [intOf]; omega
    · have hfin := Lib.hid (join_end (last := last) (i := ii) (j := jj) (L := T) (k := kk) (by rw [HNS.out]; omega))
      go_wp2
      go_ret
      refine ⟨_, vs, rfl, ?_, HB1.out.next hb⟩
      rw [← HT.out, ← HP.out, hfin.out, List.append_nil]
      exact ho.more HB1.out.size

end Go.Proofs.YtnnaigoomipklaaGreatDoor
