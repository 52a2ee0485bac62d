/-
  JoinHunks of the model.
-/
import Derived.Test.YtdejlepgihgfgaaHBack
import Derived.Test.YtdejlepgihgfgaaHPlace
import Derived.Test.YtdejlepgihgfgaaHBase6
set_option linter.unusedSimpArgs false
set_option linter.unusedVariables false
namespace Go.Proofs.Ytdejlepgihgfgaa
open Go.RowKit M

def pcells : List (Nat × Nat) → List Value
  | [] => []
  | s :: L => .int .i64 (s.1 : Int) :: .int .i64 (s.2 : Int) :: pcells L
theorem pcells_len : ∀ L, (pcells L).length = L.length * 2
  | [] => rfl
  | s :: L => by simp [pcells, pcells_len L]; omega
theorem pcells_append : ∀ (L M : List (Nat × Nat)), pcells (L ++ M) = pcells L ++ pcells M
  | [], M => rfl
  | s :: L, M => by simp [pcells, pcells_append L M]
theorem pcells_get : ∀ {L : List (Nat × Nat)} {k : Nat} {s : Nat × Nat}, L[k]? = some s → (pcells L)[k * 2]? = some (.int .i64 (s.1 : Int)) ∧ (pcells L)[k * 2 + 1]? = some (.int .i64 (s.2 : Int))
  | [], k, s, h => by simp at h
  | t :: L, 0, s, h => by simp at h; subst h; exact ⟨rfl, rfl⟩
  | t :: L, k + 1, s, h => by
    have h1 := pcells_get (L := L) (k := k) (s := s) (by simpa using h)
    rw [show (k + 1) * 2 = k * 2 + 2 from by omega, show k * 2 + 2 + 1 = k * 2 + 1 + 2 from by omega]
    exact h1
theorem pair_info : (Try.prog.info? 89).map (fun i => (i.zero, i.size, i.bytes)) = some (some (.agg #[.int .i64 0, .int .i64 0]), 2, 16) := by kernel_rfl
/-- Pairs of places that the call itself has laid. -/
def OwnP (w : World) (base : Nat) (v : Value) (L : List (Nat × Nat)) : Prop := w.ownsRow base 89 2 v L.length (pcells L)
theorem run_app_pair {w : World} (ty : TypeId) (base : Nat) (v : Value) (L : List (Nat × Nat)) (hown : OwnP w base v L) (x : Nat × Nat)
    (gb : Nat) (h0 : w.cell? ⟨gb, 0, none⟩ = some (.int .i64 (x.1 : Int))) (h1 : w.cell? ⟨gb, 1, none⟩ = some (.int .i64 (x.2 : Int))) (hbound : L.length ≤ 1048576) (hbase : base ≤ w.heap.size) :
    ∃ v' w', (Builtin.append_ #[65, 65] ty #[v, .slice (some ⟨gb, 0, none⟩) 1 1]).run Try.prog w = .ok v' w' ∧ OwnP w' base v' (L ++ [x]) ∧ w.grownBy w' v.ownBlock ∧ (v'.ownBlock = v.ownBlock ∨ v'.ownBlock = some w.heap.size) := by
  obtain ⟨i, q1, q2, q3, q4⟩ := info_parts pair_info
  have hnews : ∀ j t, [Value.int .i64 (x.1 : Int), Value.int .i64 (x.2 : Int)][j]? = some t → w.cell? ((⟨gb, 0, none⟩ : Addr).add j) = some t := by
    intro j t ht
    match j, ht with
    | 0, ht => simp at ht; subst ht; simpa [Addr.add] using h0
    | 1, ht => simp at ht; subst ht; simpa [Addr.add] using h1
  obtain ⟨v', w', hrun, hr, hg, _, hat⟩ := run_append_own_at (P := Try.prog) w base 65 ty 89 i _ 2 16 Try.underlying65 q1 q2 q3 q4 (by simp [Value.cells]) (by omega) v L.length (pcells L) hown ⟨gb, 0, none⟩ 1 1 [.int .i64 (x.1 : Int), .int .i64 (x.2 : Int)] (by simp) hnews (fun t ht => by
    simp at ht
    rcases ht with rfl | rfl <;> rfl) (by unfold maxLen; omega) (by omega) hbase
  refine ⟨v', w', hrun, ?_, hg, hat⟩
  unfold OwnP
  rw [pcells_append, List.length_append]
  exact hr
theorem wpList_pair {w : World} {ops : Array Oper} {rest : List Oper} {o : Oper} {a : Act} {Q : Exit → Act → World → Prop} (s y : Operand) (base : Nat) (v : Value) (L : List (Nat × Nat)) (hown : OwnP w base v L) (x : Nat × Nat)
    (gb : Nat) (h0 : w.cell? ⟨gb, 0, none⟩ = some (.int .i64 (x.1 : Int))) (h1 : w.cell? ⟨gb, 1, none⟩ = some (.int .i64 (x.2 : Int))) (hbound : L.length ≤ 1048576) (hbase : base ≤ w.heap.size)
    (hgd : Region.wanted o (yielded ops a.tmps) = true) (ho : o.op = .call { callee := .builtin .append, args := #[s, y], argTypes := #[65, 65] }) (hs : a.eval s = v) (hy : a.eval y = .slice (some ⟨gb, 0, none⟩) 1 1)
    (h : ∀ v' w', OwnP w' base v' (L ++ [x]) → w.grownBy w' v.ownBlock → (v'.ownBlock = v.ownBlock ∨ v'.ownBlock = some w.heap.size) → wpList Try.prog ops Q rest (a.put o.dst v') w') : wpList Try.prog ops Q (o :: rest) a w := by
  refine wpList_wanted hgd fun K hK => ?_
  obtain ⟨v', w', hrun, k1, k2, k3⟩ := run_app_pair o.type base v L hown x gb h0 h1 hbound hbase
  unfold Oper.wp execOp
  simp only [ho, resolve, invoke, builtin, Sem.run_bind, Sem.run_pure, Result.andThen_ok, List.map_toArray, List.map_cons, List.map_nil, hs, hy, hrun]
  exact hK _ _ (h v' w' k1 k2 k3)
theorem OwnP.at_ {w : World} {base k n cap : Nat} {A : Option Addr} {L : List (Nat × Nat)} (h : OwnP w base (.slice A n cap) L) (hk : k < n) : ∃ g s, A = some ⟨g, 0, none⟩ ∧ g < w.heap.size ∧ L[k]? = some s ∧ w.cell? ⟨g, k * 2, none⟩ = some (.int .i64 (s.1 : Int)) ∧ w.cell? ⟨g, k * 2 + 1, none⟩ = some (.int .i64 (s.2 : Int)) := by
  unfold OwnP at h
  have hn : L.length = n := by
    rcases h.2 with ⟨hv, h0⟩ | ⟨g, cap', cur, hv, _⟩
    · injection hv with e1 e2 e3; omega
    · injection hv with e1 e2 e3; omega
  obtain ⟨g, cap', hv, hb, hlt⟩ := h.form (by omega)
  injection hv with e1 e2 e3
  subst e1 e3
  rw [hn] at h
  have hs := List.getElem?_eq_getElem (show k < L.length by omega)
  obtain ⟨q0, q1⟩ := pcells_get hs
  exact ⟨g, _, rfl, hlt, hs, by rw [h.cellAt _ (by omega)]; exact q0, by rw [h.cellAt _ (by omega)]; exact q1⟩
theorem OwnP.form {w : World} {base n : Nat} {v : Value} {L : List (Nat × Nat)} (h : OwnP w base v L) (hn : L.length = n) : ∃ A cap, v = .slice A n cap ∧ n ≤ cap := by
  subst hn
  rcases h.2 with ⟨hv, h0⟩ | ⟨g, cap, cur, hv, _, _, h1, h2, _⟩
  · exact ⟨none, 0, by rw [hv, h0], by omega⟩
  · exact ⟨_, cap, hv, h1⟩

set_option maxHeartbeats 4000000 in
set_option maxRecDepth 100000 in
theorem l2Join_any (a : Option Addr) (nl cl : Nat) (bA : Option Addr) (nm cm : Nat) (last : List ByteArray) (base : Nat) (v0 : Value) (L : List (Nat × Nat)) (w : World) (hst : ∀ w', w.grownBy w' v0.ownBlock → Strs w' bA nm last) (hcm : nm ≤ cm) (hown : OwnP w base v0 L) (hbase : base ≤ w.heap.size)
    (hr : rises 0 0 (L ++ [(nl, nm)])) (hle : ∀ s ∈ L ++ [(nl, nm)], s.1 ≤ nl ∧ s.2 ≤ nm) (hnl : nl ≤ 40) (hnm : nm ≤ 40) (hLn : L.length ≤ 40) :
    Calls Try.prog 40 #[.slice a nl cl, .slice bA nm cm, v0] w fun e w' => ∃ v vs, e = .returned v ∧ OwnH w' w.heap.size v (joinFrom last 0 0 (L ++ [(nl, nm)])) vs ∧ Below base w w' := by
  have HLE := Lib.hid hle
  have HR := Lib.hid hr
  have HST := Lib.hid hst
  have hb1 := Lib.hid (below_alloc w (.cells #[.int .i64 (nl : Int), .int .i64 (nm : Int)] 89))
  have HOWN := Lib.hid hown
  clear hle hr hst hown
  go_enter Try.func40, Try.ntmps40
  go_wp2_with (first
    | (at_builtin; refine wpList_pair (.tmp 12) (.tmp 18) base v0 L (HOWN.out.alloc _) (nl, nm) w.heap.size (by simp) (by simp) (by omega) (by simp; omega) rfl rfl rfl rfl ?_
       intro v1 w1 o1 g1 p1
       have HS1 := Lib.hid (HST.out w1 ⟨g1.os, g1.tape, g1.output, Nat.le_trans hb1.out.size g1.size, fun k hk hne => (g1.block k (Nat.lt_of_lt_of_le hk hb1.out.size) hne).trans (hb1.out.block k hk)⟩)
       have HB1 := Lib.hid (Below.grown (hb1.out.mono hbase) g1 (Nat.le_trans hbase hb1.out.size) (fun k e => (HOWN.out.lt k e).1))
       obtain ⟨ns, Hns⟩ : ∃ ns, Hid ((L ++ [(nl, nm)]).length = ns) := ⟨_, rfl⟩
       obtain ⟨A1, cap1, rfl, hc1⟩ := OwnP.form o1 Hns.out)
    | fail)
  obtain ⟨T, HT⟩ : ∃ T, Hid (T = L ++ [(nl, nm)]) := ⟨_, rfl⟩
  rw [← HT.out] at o1
  have HNS := Lib.hid (show T.length = ns by rw [HT.out]; exact Hns.out)
  have hns : ns ≤ 41 := by rw [← Hns.out]; simp; omega
  have HLE : Hid (∀ s ∈ T, s.1 ≤ nl ∧ s.2 ≤ nm) := by rw [HT.out]; exact HLE.out
  have HR : Hid (rises 0 0 (T.drop 0)) := by rw [HT.out]; exact HR.out
  clear g1 p1
  go_loopw [7, 8, 9, 21] (fun v i j k w' => ∃ kk ii jj : Nat, ∃ out vs, k = .int .i64 kk ∧ i = .int .i64 ii ∧ j = .int .i64 jj ∧ kk ≤ ns ∧ ii ≤ 41 ∧ jj ≤ 41 ∧ OwnH w' w1.heap.size v out vs ∧ Hid (out.length ≤ kk) ∧ Hid (rises ii jj (T.drop kk)) ∧ Hid (out ++ joinFrom last ii jj (T.drop kk) = joinFrom last 0 0 T) ∧ Below w1.heap.size w1 w') (fun _ _ _ k _ => ns - (intOf k).toNat)
  case atStart => exact ⟨0, 0, 0, [], [], rfl, rfl, rfl, by omega, by omega, by omega, OwnH.nil_, show _ ≤ _ by simp, HR.out, rfl, Below.refl _ _⟩
  case round =>
    obtain ⟨kk, ii, jj, out, vs, rfl, rfl, rfl, hkk, hii, hjj, ho, HO, HRI, HP, hb⟩ := hrel
    by_cases hlt : kk < ns
    · obtain ⟨g, s, rfl, hg, hs, c0, c1⟩ := o1.at_ hlt
      obtain ⟨hi1, hj1, hrn⟩ := rises_step hs HRI.out
      obtain ⟨hs0, hs1⟩ := HLE.out s (List.mem_of_getElem? hs)
      obtain ⟨s0, s1⟩ := s
      dsimp only at hi1 hj1 hrn hs0 hs1 c0 c1
      have HTs := Lib.hid hs
      have HRN := Lib.hid hrn
      clear hs hrn
      have c0 := cell_keep hb c0
      have c1 := cell_keep hb c1
      obtain ⟨q, Hq⟩ : ∃ q : Nat, Hid (q = s1 - jj) := ⟨_, rfl⟩
      have hcut := cut_strs bA nm cm jj s1 hj1 (by omega)
      have hw1 : IntKind.i64.wrap ((s0 : Int) - (ii : Int)) = (s0 : Int) - (ii : Int) := by rw [IntKind.wrap_i64]; omega
      obtain ⟨W2, HW2⟩ : ∃ W2, Hid (W2 = wr.alloc (.cells #[.int .i64 (s0 : Int), .int .i64 (s1 : Int)] 89)) := ⟨_, rfl⟩
      have k0 : W2.cell? ⟨wr.heap.size, 0, none⟩ = some (.int .i64 (s0 : Int)) := by rw [HW2.out]; simp
      have k1 : W2.cell? ⟨wr.heap.size, 1, none⟩ = some (.int .i64 (s1 : Int)) := by rw [HW2.out]; simp
      have hB2 := Lib.hid (show Below wr.heap.size wr W2 by rw [HW2.out]; exact below_alloc _ _)
      have hsz2 := Lib.hid (show W2.heap.size = wr.heap.size + 1 by rw [HW2.out]; simp)
      by_cases h1 : ii < s0
      · have q1 : decide ((ii : Int) < (s0 : Int)) = true := by simp; omega
        have HOW := Lib.hid ho
        have HBB := Lib.hid hb
        have HNE := Lib.hid (show u7.ownBlock ≠ some wr.heap.size from fun e => by have := (ho.lt (.inl e)).2; omega)
        have HOK := Lib.hid (show i64ok (ii : Int) ∧ i64ok ((s0 : Int) - ii) from ⟨⟨by omega, by omega⟩, ⟨by omega, by omega⟩⟩)
        have HJ := Lib.hid (join_yes (last := last) HTs.out (show ii < s0 ∨ jj < s1 from .inl h1))
        clear ho
        go_wp2
        rw [← HW2.out]
        clear c0 c1
        go_region_held3 (fun w' => w'.cell? ⟨wr.heap.size, 0, none⟩ = some (.int .i64 (s0 : Int)) ∧ w'.cell? ⟨wr.heap.size, 1, none⟩ = some (.int .i64 (s1 : Int))) (first | exact ⟨k0, k1⟩ | exact ⟨cell_keep b5 k0, cell_keep b5 k1⟩ | exact ⟨cell_keep (b5.next (below_alloc _ _)) k0, cell_keep (b5.next (below_alloc _ _)) k1⟩ | exact K6 | go_keep)
          (first
            | (go_at_call 45; refine (l1OwnT_any _ _ _ (seg last jj s1) W2.drew ((HS1.out.below (HBB.out.next hB2.out).drew).cut hj1 hs1 hcm) (by omega)).mono ?_; rintro e w5 ⟨v5, rfl, o5, b5⟩
               have HBX := Lib.hid ((HBB.out.next hB2.out).drew.next b5)
               obtain ⟨v5a, v5c, rfl, h51, h52⟩ := o5.form (show (seg last jj s1).length = q by rw [seg_len, HS1.out.len, Hq.out]; omega)
               have HOW5 := Lib.hid ((HOW.out.below hB2.out.drew).below b5)
               have O5 := Lib.hid (o5.more (show w1.heap.size ≤ W2.drew.heap.size from Nat.le_trans HBB.out.size hB2.out.size))
               have HF5 := Lib.hid (show ∀ g, (Value.slice v5a q v5c).ownBlock = some g → ¬ Blk u7 vs g from fun g e e2 => by
                 have h3 := (o5.lt e).1; have h4 := (HOW.out.lt e2).2; have h5 : W2.drew.heap.size = wr.heap.size + 1 := hsz2.out; omega))
            | (refine step_hk (.tmp 35) (.tmp 48) w1.heap.size u7 out vs (HOW5.out.below (below_alloc _ _)) ⟨(ii : Int), (s0 : Int) - ii, seg last jj s1⟩ HOK.out (.slice v5a q v5c) (O5.out.below (below_alloc _ _)) HF5.out w5.heap.size (by simp) (by simp) (by simp) (by have := HO.out; omega) (Nat.le_trans HBX.out.size (by simp)) rfl rfl rfl rfl ?_; intro v6 w6 o6 g6 p6
               have K6 := (show w6.cell? ⟨wr.heap.size, 0, none⟩ = some (.int .i64 (s0 : Int)) ∧ w6.cell? ⟨wr.heap.size, 1, none⟩ = some (.int .i64 (s1 : Int)) from
                 ⟨g6.cell (cell_keep (b5.next (below_alloc _ _)) k0) (fun e => HNE.out e.symm), g6.cell (cell_keep (b5.next (below_alloc _ _)) k1) (fun e => HNE.out e.symm)⟩)
               have HB6 := Lib.hid (Below.grown (HBX.out.next (below_alloc _ _)) g6 (Nat.le_trans HBX.out.size (by simp)) (fun k e => (HOW.out.lt (.inl e)).1)))
            | fail)
        obtain ⟨kk0, kk1⟩ := K6
        clear k0 k1 b5 o5 g6 p6
        go_wp2
        go_roundw
        case rel => exact ⟨kk + 1, s0 + 1, s1 + 1, _, _, by go_num, by go_num, by go_num, by omega, by omega, by omega, o6, show _ ≤ _ by have := HO.out; simp; omega, HRN.out, show _ = _ by
          rw [← HP.out, HJ.out]; simp [joinOne], HB6.out⟩
        case measure => simp [intOf]; omega
      · have q1 : decide ((ii : Int) < (s0 : Int)) = false := by simp; omega
        by_cases h2 : jj < s1
        · have q2 : decide ((jj : Int) < (s1 : Int)) = true := by simp; omega
          have HOW := Lib.hid ho
          have HBB := Lib.hid hb
          have HNE := Lib.hid (show u7.ownBlock ≠ some wr.heap.size from fun e => by have := (ho.lt (.inl e)).2; omega)
          have HOK := Lib.hid (show i64ok (ii : Int) ∧ i64ok ((s0 : Int) - ii) from ⟨⟨by omega, by omega⟩, ⟨by omega, by omega⟩⟩)
          have HJ := Lib.hid (join_yes (last := last) HTs.out (show ii < s0 ∨ jj < s1 from .inr h2))
          clear ho
          go_wp2
          rw [← HW2.out]
          clear c0 c1
          go_region_held3 (fun w' => w'.cell? ⟨wr.heap.size, 0, none⟩ = some (.int .i64 (s0 : Int)) ∧ w'.cell? ⟨wr.heap.size, 1, none⟩ = some (.int .i64 (s1 : Int))) (first | exact ⟨k0, k1⟩ | exact ⟨cell_keep b5 k0, cell_keep b5 k1⟩ | exact ⟨cell_keep (b5.next (below_alloc _ _)) k0, cell_keep (b5.next (below_alloc _ _)) k1⟩ | exact K6 | go_keep)
            (first
              | (go_at_call 45; refine (l1OwnT_any _ _ _ (seg last jj s1) W2.drew ((HS1.out.below (HBB.out.next hB2.out).drew).cut hj1 hs1 hcm) (by omega)).mono ?_; rintro e w5 ⟨v5, rfl, o5, b5⟩
                 have HBX := Lib.hid ((HBB.out.next hB2.out).drew.next b5)
                 obtain ⟨v5a, v5c, rfl, h51, h52⟩ := o5.form (show (seg last jj s1).length = q by rw [seg_len, HS1.out.len, Hq.out]; omega)
                 have HOW5 := Lib.hid ((HOW.out.below hB2.out.drew).below b5)
                 have O5 := Lib.hid (o5.more (show w1.heap.size ≤ W2.drew.heap.size from Nat.le_trans HBB.out.size hB2.out.size))
                 have HF5 := Lib.hid (show ∀ g, (Value.slice v5a q v5c).ownBlock = some g → ¬ Blk u7 vs g from fun g e e2 => by
                   have h3 := (o5.lt e).1; have h4 := (HOW.out.lt e2).2; have h5 : W2.drew.heap.size = wr.heap.size + 1 := hsz2.out; omega))
              | (refine step_hk (.tmp 35) (.tmp 48) w1.heap.size u7 out vs (HOW5.out.below (below_alloc _ _)) ⟨(ii : Int), (s0 : Int) - ii, seg last jj s1⟩ HOK.out (.slice v5a q v5c) (O5.out.below (below_alloc _ _)) HF5.out w5.heap.size (by simp) (by simp) (by simp) (by have := HO.out; omega) (Nat.le_trans HBX.out.size (by simp)) rfl rfl rfl rfl ?_; intro v6 w6 o6 g6 p6
                 have K6 := (show w6.cell? ⟨wr.heap.size, 0, none⟩ = some (.int .i64 (s0 : Int)) ∧ w6.cell? ⟨wr.heap.size, 1, none⟩ = some (.int .i64 (s1 : Int)) from
                   ⟨g6.cell (cell_keep (b5.next (below_alloc _ _)) k0) (fun e => HNE.out e.symm), g6.cell (cell_keep (b5.next (below_alloc _ _)) k1) (fun e => HNE.out e.symm)⟩)
                 have HB6 := Lib.hid (Below.grown (HBX.out.next (below_alloc _ _)) g6 (Nat.le_trans HBX.out.size (by simp)) (fun k e => (HOW.out.lt (.inl e)).1)))
              | fail)
          obtain ⟨kk0, kk1⟩ := K6
          clear k0 k1 b5 o5 g6 p6
          go_wp2
          go_roundw
          case rel => exact ⟨kk + 1, s0 + 1, s1 + 1, _, _, by go_num, by go_num, by go_num, by omega, by omega, by omega, o6, show _ ≤ _ by have := HO.out; simp; omega, HRN.out, show _ = _ by
            rw [← HP.out, HJ.out]; simp [joinOne], HB6.out⟩
          case measure => simp [intOf]; omega
        · have q2 : decide ((jj : Int) < (s1 : Int)) = false := by simp; omega
          have HJ := Lib.hid (join_no (last := last) HTs.out (show ¬ (ii < s0 ∨ jj < s1) by omega))
          have HB3 := Lib.hid (hb.next (below_alloc wr (.cells #[.int .i64 (s0 : Int), .int .i64 (s1 : Int)] 89)))
          have HO3 := Lib.hid (ho.below (below_alloc wr (.cells #[.int .i64 (s0 : Int), .int .i64 (s1 : Int)] 89)))
          go_wp2
          go_roundw
          case rel => exact ⟨kk + 1, s0 + 1, s1 + 1, out, vs, by go_num, by go_num, by go_num, by omega, by omega, by omega, HO3.out, show _ ≤ _ by have := HO.out; omega, HRN.out, show _ = _ by
            rw [← HP.out, HJ.out], HB3.out⟩
          case measure => simp [intOf]; omega
    · have hfin := Lib.hid (join_end (last := last) (i := ii) (j := jj) (L := T) (k := kk) (by rw [HNS.out]; omega))
      go_wp2
      go_ret
      refine ⟨_, vs, rfl, ?_, HB1.out.trans (hb.mono (Nat.le_trans hbase (by have := HB1.out.size; omega)))⟩
      rw [← HT.out, ← HP.out, hfin.out, List.append_nil]
      exact ho.more HB1.out.size

end Go.Proofs.Ytdejlepgihgfgaa
