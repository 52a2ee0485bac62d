/-
  JoinHunks of the program: the hunks around pairs of places, walked.
-/
import Derived.Test.YtdejlepgihgfgaaHJoinM
set_option linter.unusedSimpArgs false
set_option linter.unusedVariables false
namespace Go.Proofs.Ytdejlepgihgfgaa
open Go.RowKit M

set_option maxHeartbeats 4000000 in
set_option maxRecDepth 100000 in
theorem hunksAround_any (a : Option Addr) (nl cl : Nat) (bA : Option Addr) (nm cm : Nat) (last : List ByteArray) (A : Option Addr) (n c : Nat) (L : List (Nat × Nat)) (w : World) (hst : Strs w bA nm last) (hcm : nm ≤ cm) (hprs : Prs w A n L) (hnc : n ≤ c)
    (hr : rises 0 0 (L ++ [(nl, nm)])) (hle : ∀ s ∈ L ++ [(nl, nm)], s.1 ≤ nl ∧ s.2 ≤ nm) (hnl : nl ≤ 40) (hnm : nm ≤ 40) (hLn : n ≤ 40) :
    Calls Try.prog 35 #[.slice a nl cl, .slice bA nm cm, .slice A n c] w fun e w' => ∃ v vs, e = .returned v ∧ OwnH w' w.heap.size v (joinFrom last 0 0 (L ++ [(nl, nm)])) vs ∧ Below w.heap.size w w' := by
  have HLE := Lib.hid hle
  have HR := Lib.hid hr
  have HPR := Lib.hid hprs
  have hcutf := cut_full A n c hnc
  have hb1 := Lib.hid ((below_alloc w (.cells #[.int .i64 (nl : Int), .int .i64 (nm : Int)] 3)).next (below_alloc _ (.cells #[.slice (some ⟨w.heap.size, 0, none⟩) 2 2] 71)))
  clear hle hr hprs
  go_enter Try.func35, Try.ntmps35
  go_wp2_with (first
    | (at_builtin; refine wpList_full (.tmp 19) (.tmp 25) A n L (HPR.out.below hb1.out) (nl, nm) (w.heap.size + 1) w.heap.size (by simp) (by simp) (by simp) (by omega) rfl rfl rfl rfl ?_
       intro cap1 w1 o1 d1)
    | fail)
  have HB1 := Lib.hid (hb1.out.next d1)
  have HS1 := Lib.hid (hst.below HB1.out)
  obtain ⟨T, HT⟩ : ∃ T, Hid (T = L ++ [(nl, nm)]) := ⟨_, rfl⟩
  rw [← HT.out] at o1
  have HNS := Lib.hid o1.len
  have HLE : Hid (∀ s ∈ T, s.1 ≤ nl ∧ s.2 ≤ nm) := by rw [HT.out]; exact HLE.out
  have HR : Hid (rises 0 0 (T.drop 0)) := by rw [HT.out]; exact HR.out
  simp only [World.size_alloc] at o1
  clear d1
  go_loopw [8, 9, 10, 29] (fun v i j k w' => ∃ kk ii jj : Nat, ∃ out vs, k = .int .i64 kk ∧ i = .int .i64 ii ∧ j = .int .i64 jj ∧ kk ≤ n + 1 ∧ ii ≤ 41 ∧ jj ≤ 41 ∧ OwnH w' w1.heap.size v out vs ∧ Hid (out.length ≤ kk) ∧ Hid (rises ii jj (T.drop kk)) ∧ Hid (out ++ joinFrom last ii jj (T.drop kk) = joinFrom last 0 0 T) ∧ Below w1.heap.size w1 w') (fun _ _ _ k _ => n + 1 - (intOf k).toNat)
  case atStart => exact ⟨0, 0, 0, [], [], rfl, rfl, rfl, by omega, by omega, by omega, OwnH.nil_, show _ ≤ _ by simp, HR.out, rfl, Below.refl _ _⟩
  case round =>
    obtain ⟨kk, ii, jj, out, vs, rfl, rfl, rfl, hkk, hii, hjj, ho, HO, HRI, HP, hb⟩ := hrel
    by_cases hlt : kk < n + 1
    · have hs := List.getElem?_eq_getElem (show kk < T.length by rw [HNS.out]; exact hlt)
      obtain ⟨s, hs⟩ : ∃ s, T[kk]? = some s := ⟨_, hs⟩
      obtain ⟨b, off, gi, e0, c0, c1, c2⟩ := o1.cell kk s hs
      injection e0 with e0
      injection e0 with e1 e2
      subst e1 e2
      rw [Nat.zero_add] at c0
      obtain ⟨hi1, hj1, hrn⟩ := rises_step hs HRI.out
      obtain ⟨hs0, hs1⟩ := HLE.out s (List.mem_of_getElem? hs)
      obtain ⟨s0, s1⟩ := s
      dsimp only at hi1 hj1 hrn hs0 hs1 c1 c2
      have HTs := Lib.hid hs
      have HRN := Lib.hid hrn
      clear hs hrn
      have HC := Lib.hid (show w1.cell? ⟨gi, 0, none⟩ = some (.int .i64 (s0 : Int)) ∧ w1.cell? ⟨gi, 1, none⟩ = some (.int .i64 (s1 : Int)) from ⟨c1, c2⟩)
      have c0 := cell_keep hb c0
      have k0 := cell_keep hb c1
      have k1 := cell_keep hb c2
      have hgi : gi ≠ wr.heap.size := by have := cell_lt k0; simp at this; omega
      clear c1 c2
      obtain ⟨q, Hq⟩ : ∃ q : Nat, Hid (q = s1 - jj) := ⟨_, rfl⟩
      have hcut := cut_strs bA nm cm jj s1 hj1 (by omega)
      have hw1 : IntKind.i64.wrap ((s0 : Int) - (ii : Int)) = (s0 : Int) - (ii : Int) := by rw [IntKind.wrap_i64]; omega
      have hw2 : IntKind.i64.wrap ((s0 : Int) + 1) = (s0 : Int) + 1 := by rw [IntKind.wrap_i64]; omega
      have hw3 : IntKind.i64.wrap ((s1 : Int) + 1) = (s1 : Int) + 1 := by rw [IntKind.wrap_i64]; omega
      have HOW := Lib.hid ho
      have HBB := Lib.hid hb
      have HOK := Lib.hid (show i64ok (ii : Int) ∧ i64ok ((s0 : Int) - ii) from ⟨⟨by omega, by omega⟩, ⟨by omega, by omega⟩⟩)
      have HNO := Lib.hid (join_nothing (last := last) (i := ii) (j := jj) (s := (s0, s1)) hi1 hj1 (by rw [HS1.out.len]; exact hs1))
      clear ho
      go_wp2
      go_region_held3 (fun w' => w'.cell? ⟨gi, 0, none⟩ = some (.int .i64 (s0 : Int)) ∧ w'.cell? ⟨gi, 1, none⟩ = some (.int .i64 (s1 : Int))) (first | exact ⟨k0, k1⟩ | exact ⟨cell_keep b5 k0, cell_keep b5 k1⟩ | exact ⟨cell_keep (b5.next (below_alloc _ _)) k0, cell_keep (b5.next (below_alloc _ _)) k1⟩ | exact ⟨cell_keep (below_alloc wr _) k0, cell_keep (below_alloc wr _) k1⟩ | exact ⟨cell_keep ((below_alloc wr _).drew.next b5) k0, cell_keep ((below_alloc wr _).drew.next b5) k1⟩ | exact ⟨cell_off (cell_off (cell_off (cell_keep ((below_alloc wr _).drew.next b5) k0) hgi) hgi) hgi, cell_off (cell_off (cell_off (cell_keep ((below_alloc wr _).drew.next b5) k1) hgi) hgi) hgi⟩ | go_keep)
        (first
          | (go_at_call 61; refine (copyOf_any _ _ _ (seg last jj s1) wr.drew ((HS1.out.below HBB.out.drew).cut hj1 hs1 hcm) (by omega)).mono ?_; rintro e w5 ⟨v5, rfl, o5, b5⟩
             obtain ⟨v5a, v5c, rfl, h51, h52⟩ := o5.form (show (seg last jj s1).length = q by rw [seg_len, HS1.out.len, Hq.out]; omega))
          | (go_at_call 61; refine (copyOf_any _ _ _ (seg last jj s1) (wr.alloc (.cells #[.int .i64 0, .int .i64 0, .slice none 0 0] 46)).drew ((HS1.out.below (HBB.out.next (below_alloc _ _)).drew).cut hj1 hs1 hcm) (by omega)).mono ?_; rintro e w5 ⟨v5, rfl, o5, b5⟩
             have z5 : w5.heap[wr.heap.size]? = some (.cells #[.int .i64 0, .int .i64 0, .slice none 0 0] 46 (0, 0)) := (b5.block _ (by simp)).trans (heap_alloc_new wr _)
             have z0 : w5.cell? ⟨wr.heap.size, 0, none⟩ = some (.int .i64 0) := by simp [World.cell?, z5]
             have z1 : w5.cell? ⟨wr.heap.size, 1, none⟩ = some (.int .i64 0) := by simp [World.cell?, z5]
             have z2 : w5.cell? ⟨wr.heap.size, 2, none⟩ = some (.slice none 0 0) := by simp [World.cell?, z5]
             have zf : ∀ j, w5.frozen? ⟨wr.heap.size, j, none⟩ = false := fun j => by simp [World.frozen?, z5]
             obtain ⟨v5a, v5c, rfl, h51, h52⟩ := o5.form (show (seg last jj s1).length = q by rw [seg_len, HS1.out.len, Hq.out]; omega))
          | fail)
      · obtain ⟨W7, HW7⟩ : ∃ W7, Hid (W7 = w5.alloc (.cells #[.int .i64 (ii : Int), .int .i64 ((s0 : Int) - ii), .slice v5a q v5c] 46)) := ⟨_, rfl⟩
        have HOW7 := Lib.hid (show OwnH W7 w1.heap.size u8 out vs by rw [HW7.out]; exact (HOW.out.below ((Below.refl _ wr).drew.next b5)).below (below_alloc _ _))
        have O7 := Lib.hid (show OwnV W7 w1.heap.size (.slice v5a q v5c) (seg last jj s1) by rw [HW7.out]; exact (o5.more HBB.out.size).below (below_alloc _ _))
        have HF7 := Lib.hid (show ∀ g, (Value.slice v5a q v5c).ownBlock = some g → ¬ Blk u8 vs g from fun g e e2 => by
          have h3 := (o5.lt e).1; have h4 := (HOW.out.lt e2).2; have h6 : wr.drew.heap.size = wr.heap.size := rfl; omega)
        have HB7 := Lib.hid (show Below w1.heap.size w1 W7 by rw [HW7.out]; exact (HBB.out.drew.next b5).next (below_alloc _ _))
        have m0 : W7.cell? ⟨w5.heap.size, 0, none⟩ = some (.int .i64 (ii : Int)) := by rw [HW7.out]; simp
        have m1 : W7.cell? ⟨w5.heap.size, 1, none⟩ = some (.int .i64 ((s0 : Int) - ii)) := by rw [HW7.out]; simp
        have m2 : W7.cell? ⟨w5.heap.size, 2, none⟩ = some (.slice v5a q v5c) := by rw [HW7.out]; simp
        have e0 : W7.cell? ⟨gi, 0, none⟩ = some (.int .i64 (s0 : Int)) := cell_keep HB7.out HC.out.1
        have e1 : W7.cell? ⟨gi, 1, none⟩ = some (.int .i64 (s1 : Int)) := cell_keep HB7.out HC.out.2
        clear k0 k1
        rw [← HW7.out]
        go_wp2_with fail
        refine (isNothing_any w5.heap.size 0 (joinOne last ii jj (s0, s1)) v5a q v5c _ ⟨m0, m1, m2, O7.out.strs, h51, HOK.out.1, HOK.out.2⟩).mono ?_
        rintro e w8 ⟨rfl, rfl⟩
        rw [HNO.out]
        by_cases hnz : ii < s0 ∨ jj < s1
        · have HRR := Lib.hid (join_yes (last := last) HTs.out hnz)
          have hdd : decide (¬ (ii < s0 ∨ jj < s1)) = false := decide_eq_false (fun h => h hnz)
          rw [hdd]
          clear hnz hdd
          go_wp2_with (first
            | (at_builtin; refine wpList_hk (.tmp 49) (.tmp 51) w1.heap.size u8 out vs (HOW7.out.below (below_alloc _ _)) (joinOne last ii jj (s0, s1)) HOK.out (.slice v5a q v5c) (O7.out.below (below_alloc _ _)) HF7.out _ (by simp [joinOne]) (by simp [joinOne]) (by simp) (by have := HO.out; omega) (Nat.le_trans HB7.out.size (by simp)) rfl rfl rfl rfl ?_
               intro v8 w8 o8 g8 p8
               have HB8 := Lib.hid (Below.grown (HB7.out.next (below_alloc _ _)) g8 (Nat.le_trans HB7.out.size (by simp)) (fun k e => (HOW.out.lt (.inl e)).1))
               have f0 : w8.cell? ⟨gi, 0, none⟩ = some (.int .i64 (s0 : Int)) := cell_keep HB8.out HC.out.1
               have f1 : w8.cell? ⟨gi, 1, none⟩ = some (.int .i64 (s1 : Int)) := cell_keep HB8.out HC.out.2
               clear g8 p8)
            | fail)
          go_quiet (fail)
          go_wp2
          go_roundw
          case rel => exact ⟨kk + 1, s0 + 1, s1 + 1, _, _, by go_num, by go_num, by go_num, by omega, by omega, by omega, o8.below (below_drewN (Below.refl _ _) _), show _ ≤ _ by have := HO.out; simp; omega, HRN.out, show _ = _ by
            rw [← HP.out, HRR.out]; simp, below_drewN HB8.out _⟩
          case measure => simp [intOf]; omega
        · have HRR := Lib.hid (join_no (last := last) HTs.out hnz)
          have hdd : decide (¬ (ii < s0 ∨ jj < s1)) = true := decide_eq_true hnz
          rw [hdd]
          clear hnz hdd
          go_wp2
          go_quiet (fail)
          go_wp2
          go_roundw
          case rel => exact ⟨kk + 1, s0 + 1, s1 + 1, _, _, by go_num, by go_num, by go_num, by omega, by omega, by omega, HOW7.out.below (below_drewN (Below.refl _ _) _), show _ ≤ _ by have := HO.out; omega, HRN.out, show _ = _ by rw [← HP.out, HRR.out], below_drewN HB7.out _⟩
          case measure => simp [intOf]; omega
      · obtain ⟨W7, HW7⟩ : ∃ W7, Hid (W7 = (((w5.setCell ⟨wr.heap.size, 0, none⟩ (.int .i64 (ii : Int))).setCell ⟨wr.heap.size, 1, none⟩ (.int .i64 ((s0 : Int) - ii))).setCell ⟨wr.heap.size, 2, none⟩ (.slice v5a q v5c))) := ⟨_, rfl⟩
        have bb := (below_alloc wr (.cells #[.int .i64 0, .int .i64 0, .slice none 0 0] 46)).drew.next b5
        have hwr7 : Wrote (fun i => i = wr.heap.size) w5 W7 := by
          rw [HW7.out]
          exact ((Wrote.set (fun i => i = wr.heap.size) w5 _ _ rfl).trans (Wrote.set (fun i => i = wr.heap.size) _ _ _ rfl) (fun _ _ e => e)).trans (Wrote.set (fun i => i = wr.heap.size) _ _ _ rfl) (fun _ _ e => e)
        have HOW7 := Lib.hid (show OwnH W7 w1.heap.size u8 out vs from (HOW.out.below bb).wrote hwr7 (fun g e e2 => by have h4 := (HOW.out.lt e).2; omega))
        have hszA : (wr.alloc (.cells #[.int .i64 0, .int .i64 0, .slice none 0 0] 46)).drew.heap.size = wr.heap.size + 1 := by show (wr.alloc _).heap.size = _; simp
        have O7 := Lib.hid (show OwnV W7 w1.heap.size (.slice v5a q v5c) (seg last jj s1) from (o5.wrote hwr7 (fun g e e2 => by have h4 := (o5.lt e).1; omega)).more (by have := HBB.out.size; omega))
        have HF7 := Lib.hid (show ∀ g, (Value.slice v5a q v5c).ownBlock = some g → ¬ Blk u8 vs g from fun g e e2 => by
          have h3 := (o5.lt e).1; have h4 := (HOW.out.lt e2).2; omega)
        have HB7 := Lib.hid (show Below w1.heap.size w1 W7 from Wrote.below' (((HBB.out.next (below_alloc wr (.cells #[.int .i64 0, .int .i64 0, .slice none 0 0] 46))).drew).next b5) hwr7 (fun k e => by have := HBB.out.size; omega))
        have m0 : W7.cell? ⟨wr.heap.size, 0, none⟩ = some (.int .i64 (ii : Int)) := by rw [HW7.out]; exact (set3_cells z0 z1 z2).1
        have m1 : W7.cell? ⟨wr.heap.size, 1, none⟩ = some (.int .i64 ((s0 : Int) - ii)) := by rw [HW7.out]; exact (set3_cells z0 z1 z2).2.1
        have m2 : W7.cell? ⟨wr.heap.size, 2, none⟩ = some (.slice v5a q v5c) := by rw [HW7.out]; exact (set3_cells z0 z1 z2).2.2
        have e0 : W7.cell? ⟨gi, 0, none⟩ = some (.int .i64 (s0 : Int)) := cell_keep HB7.out HC.out.1
        have e1 : W7.cell? ⟨gi, 1, none⟩ = some (.int .i64 (s1 : Int)) := cell_keep HB7.out HC.out.2
        clear k0 k1 z0 z1 z2 zf z5
        rw [← HW7.out]
        go_wp2_with fail
        refine (isNothing_any wr.heap.size 0 (joinOne last ii jj (s0, s1)) v5a q v5c _ ⟨m0, m1, m2, O7.out.strs, h51, HOK.out.1, HOK.out.2⟩).mono ?_
        rintro e w8 ⟨rfl, rfl⟩
        rw [HNO.out]
        by_cases hnz : ii < s0 ∨ jj < s1
        · have HRR := Lib.hid (join_yes (last := last) HTs.out hnz)
          have hdd : decide (¬ (ii < s0 ∨ jj < s1)) = false := decide_eq_false (fun h => h hnz)
          rw [hdd]
          clear hnz hdd
          go_wp2_with (first
            | (at_builtin; refine wpList_hk (.tmp 49) (.tmp 51) w1.heap.size u8 out vs (HOW7.out.below (below_alloc _ _)) (joinOne last ii jj (s0, s1)) HOK.out (.slice v5a q v5c) (O7.out.below (below_alloc _ _)) HF7.out _ (by simp [joinOne]) (by simp [joinOne]) (by simp) (by have := HO.out; omega) (Nat.le_trans HB7.out.size (by simp)) rfl rfl rfl rfl ?_
               intro v8 w8 o8 g8 p8
               have HB8 := Lib.hid (Below.grown (HB7.out.next (below_alloc _ _)) g8 (Nat.le_trans HB7.out.size (by simp)) (fun k e => (HOW.out.lt (.inl e)).1))
               have f0 : w8.cell? ⟨gi, 0, none⟩ = some (.int .i64 (s0 : Int)) := cell_keep HB8.out HC.out.1
               have f1 : w8.cell? ⟨gi, 1, none⟩ = some (.int .i64 (s1 : Int)) := cell_keep HB8.out HC.out.2
               clear g8 p8)
            | fail)
          go_quiet (fail)
          go_wp2
          go_roundw
          case rel => exact ⟨kk + 1, s0 + 1, s1 + 1, _, _, by go_num, by go_num, by go_num, by omega, by omega, by omega, o8.below (below_drewN (Below.refl _ _) _), show _ ≤ _ by have := HO.out; simp; omega, HRN.out, show _ = _ by
            rw [← HP.out, HRR.out]; simp, below_drewN HB8.out _⟩
          case measure => simp [intOf]; omega
        · have HRR := Lib.hid (join_no (last := last) HTs.out hnz)
          have hdd : decide (¬ (ii < s0 ∨ jj < s1)) = true := decide_eq_true hnz
          rw [hdd]
          clear hnz hdd
          go_wp2
          go_quiet (fail)
          go_wp2
          go_roundw
          case rel => exact ⟨kk + 1, s0 + 1, s1 + 1, _, _, by go_num, by go_num, by go_num, by omega, by omega, by omega, HOW7.out.below (below_drewN (Below.refl _ _) _), show _ ≤ _ by have := HO.out; omega, HRN.out, show _ = _ by rw [← HP.out, HRR.out], below_drewN HB7.out _⟩
          case measure => simp [intOf]; omega
    · have hfin := Lib.hid (join_end (last := last) (i := ii) (j := jj) (L := T) (k := kk) (by rw [HNS.out]; omega))
      go_wp2
      go_ret
      refine ⟨_, vs, rfl, ?_, HB1.out.next hb⟩
      rw [← HT.out, ← HP.out, hfin.out, List.append_nil]
      exact ho.more HB1.out.size

end Go.Proofs.Ytdejlepgihgfgaa
