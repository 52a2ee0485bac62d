/-
  Hunks made of steps: the model's.
  StepsHunks and ApplySteps, the model's.
-/
import Derived.Test.YtnimaadjmejmpaaGreatDoorSApply
import Derived.Test.YtnimaadjmejmpaaGreatDoorHGoodS
set_option linter.unusedSimpArgs false
set_option linter.unusedVariables false
namespace Go.Proofs.YtnimaadjmejmpaaGreatDoor
open Go.RowKit Go.ChangeShapes Go.WideShapes M

theorem l5Base_any (x : Int) (a : Option Addr) (n c : Nat) (h0 : -100000 ≤ x) (h1 : x ≤ 100000) (w : World) :
    Calls Tryz.prog 103 #[.int .i64 x, .slice a n c] w fun e w' => e = .returned (.int .i64 (baseN x n)) ∧ w = w' := by
  by_cases h : n = 0
  · have H := Lib.hid (show baseN x n = x from if_pos h)
    have hb2 : decide (0 < n) = false := by simp; omega
    subst h
    go_enter Tryz.func103, Tryz.ntmps103
    go_wp2
    go_ret
    exact ⟨ret_int H.out.symm, rfl⟩
  · have H := Lib.hid (show baseN x n = x - 1 from if_neg h)
    have hw : IntKind.i64.wrap (x - 1) = x - 1 := by rw [IntKind.wrap_i64]; omega
    have hb2 : decide (0 < n) = true := by simp; omega
    have hb3 : (0 : Int) < (n : Int) := by omega
    go_enter Tryz.func103, Tryz.ntmps103
    go_wp2
    go_ret
    exact ⟨ret_int H.out.symm, rfl⟩

set_option maxHeartbeats 4000000 in
set_option maxRecDepth 100000 in
theorem l5Hunks_any (a : Option Addr) (nl cl : Nat) (l : List ByteArray) (b0 : Option Addr) (n c : Nat) (p : List Sp) (w : World) (hl : Strs w a nl l) (hcl : nl ≤ cl) (hp : Sps w b0 n p) (hgl : goodB l = true) (hgp : stepsB p = true) :
    Calls Tryz.prog 65 #[.slice a nl cl, .slice b0 n c] w fun e w' => ∃ v vs, e = .returned (.tuple #[v, .int .i64 (hunksC l p).2]) ∧ OwnH w' w.heap.size v (hunksC l p).1 vs ∧ Below w.heap.size w w' := by
  have HN := Lib.hid hp.len
  have HL := Lib.hid hl.len
  have hall : p.all stepB = true := by unfold stepsB at hgp; simp only [Bool.and_eq_true] at hgp; exact hgp.1
  have hn20 : n ≤ 20 := by unfold stepsB at hgp; simp only [Bool.and_eq_true, decide_eq_true_eq] at hgp; rw [← hp.len]; exact hgp.2
  have hnl40 : nl ≤ 40 := by rw [← hl.len]; exact goodB_len hgl
  have HALL := Lib.hid (List.all_eq_true.1 hall)
  have HALB := Lib.hid hall
  clear hgl hgp hall
  go_enter Tryz.func65, Tryz.ntmps65
  go_wp2
  go_loopw [6, 15] (fun v i w' => ∃ j : Nat, ∃ vs, i = .int .i64 j ∧ j ≤ n ∧ OwnH w' w.heap.size v ((p.take j).map hunkP) vs ∧ Below w.heap.size w w') (fun _ i _ => n - (intOf i).toNat)
  case atStart => exact ⟨0, [], rfl, by omega, by simpa using OwnH.nil_, Below.refl _ _⟩
  case round =>
    obtain ⟨j, vs, rfl, hj, ho, hb⟩ := hrel
    by_cases hlt : j < n
    · obtain ⟨b, off, A, m, c', B, m2, c2', x, rfl, hx, c0, c1, c2, c3, c4, c5, hs, hmc, hs2, hmc2, hok⟩ := (hp.below hb).at_ hlt
      have hsb := HALL.out x (List.mem_of_getElem? hx)
      obtain ⟨at', ea, ha1, hf0, hf1, hq0, hq1, ho40, hn40⟩ := goodP_parts hsb
      have hto := (hunkP_end hsb).2.2
      by_cases hfar : (nl : Int) < x.to_
      · have hf := Lib.hid (show hunksC l p = ([], 3) by unfold hunksC; rw [rise_far HALB.out (List.mem_of_getElem? hx) (by rw [HL.out]; exact hfar)]; rfl)
        clear hx ea hsb
        go_wp2
        go_ret2
        exact ⟨_, [], by rw [hf.out]; rfl, by rw [hf.out]; exact OwnH.nil_, hb.next (below_alloc _ _)⟩
      · have hm2 : m2 ≤ 40 := by rw [← hs2.len]; exact hn40
        have hm1 : m ≤ 40 := by rw [← hs.len]; exact ho40
        have HTK := Lib.hid (show (p.take (j + 1)).map hunkP = (p.take j).map hunkP ++ [hunkP x] by rw [take_snoc hx, List.map_append]; rfl)
        have HGO := Lib.hid (show (hunkP x).gone = (m : Int) by unfold hunkP; dsimp only; rw [hs.len])
        have HAT := Lib.hid (show baseN x.fr m = (hunkP x).at_ from (baseN_eq _ _ hs.len).symm)
        have HOK := Lib.hid (show i64ok (hunkP x).at_ ∧ i64ok (hunkP x).gone by rw [ea, HGO.out]; exact ⟨⟨by omega, by omega⟩, ⟨by omega, by omega⟩⟩)
        have HO := Lib.hid ho
        have HLEN := Lib.hid (show ((p.take j).map hunkP).length ≤ 1048576 by simp; omega)
        obtain ⟨W1, HW1⟩ : ∃ W1, Hid (W1 = wr.alloc (.cells #[.int .i64 x.fr, .int .i64 x.to_, .slice A m c', .int .i64 x.at_, .int .i64 x.en, .slice B m2 c2'] 69)) := ⟨_, rfl⟩
        have k0 : W1.cell? ⟨wr.heap.size, 0, none⟩ = some (.int .i64 x.fr) := by rw [HW1.out]; simp
        have k1 : W1.cell? ⟨wr.heap.size, 1, none⟩ = some (.int .i64 x.to_) := by rw [HW1.out]; simp
        have k2 : W1.cell? ⟨wr.heap.size, 2, none⟩ = some (.slice A m c') := by rw [HW1.out]; simp
        have k5 : W1.cell? ⟨wr.heap.size, 5, none⟩ = some (.slice B m2 c2') := by rw [HW1.out]; simp
        have hB1 := Lib.hid (show Below wr.heap.size wr W1 by rw [HW1.out]; exact below_alloc _ _)
        have hsz1 := Lib.hid (show W1.heap.size = wr.heap.size + 1 by rw [HW1.out]; simp)
        have HB1 := Lib.hid (hb.next hB1.out)
        have HS2 := Lib.hid (hs2.below hB1.out)
        have HNE := Lib.hid (show u6.ownBlock ≠ some wr.heap.size from fun e => by have := (ho.lt (.inl e)).2; omega)
        have HL2 := Lib.hid hs2.len
        clear hx ea ho40 hn40 ho hs hs2 hb hok hsb
        go_wp2
        rw [← HW1.out]
        clear c0 c1 c2 c3 c4 c5 k1
        go_region_held3 (fun w' => w'.cell? ⟨wr.heap.size, 0, none⟩ = some (.int .i64 x.fr) ∧ w'.cell? ⟨wr.heap.size, 2, none⟩ = some (.slice A m c') ∧ w'.cell? ⟨wr.heap.size, 5, none⟩ = some (.slice B m2 c2')) (first | with_reducible exact ⟨k0, k2, k5⟩ | with_reducible exact ⟨cell_keep B5.out k0, cell_keep B5.out k2, cell_keep B5.out k5⟩ | with_reducible exact ⟨cell_keep (B5.out.next (below_alloc w5 _)) k0, cell_keep (B5.out.next (below_alloc w5 _)) k2, cell_keep (B5.out.next (below_alloc w5 _)) k5⟩ | with_reducible exact K6 | go_keep)
          (first
            | (go_at_call 103; refine (l5Base_any x.fr A m c' (by omega) (by omega) _).mono ?_; rintro e w9 ⟨rfl, rfl⟩)
            | (go_at_call 50; refine (l1OwnT_any B m2 c2' x.new W1.drew (HS2.out.below (Below.refl _ W1).drew) (by omega)).mono ?_; rintro e w5 ⟨v5, rfl, o5, b5⟩
               obtain ⟨v5a, v5c, rfl, h51, h52⟩ := o5.form HL2.out
               have B5 := Lib.hid (show Below W1.heap.size W1 w5 from (Below.refl _ W1).drew.next b5)
               have O5 := Lib.hid (show OwnV w5 W1.heap.size (.slice v5a m2 v5c) x.new from o5)
               clear o5 b5)
            | (refine step_hk (.tmp 24) (.tmp 37) w.heap.size u6 _ vs (((HO.out.below hB1.out).below B5.out).below (below_alloc _ _)) (hunkP x) HOK.out (.slice v5a m2 v5c) ((O5.out.more HB1.out.size).below (below_alloc _ _)) (fun g e e2 => by
                 have h3 := (O5.out.lt e).1; have h4 := (HO.out.lt e2).2; have h5 := hsz1.out; omega) w5.heap.size (by rw [← HAT.out]; simp) (by rw [HGO.out]; simp) (by simp) HLEN.out (Nat.le_trans HB1.out.size (Nat.le_trans B5.out.size (by simp))) rfl rfl rfl rfl ?_
               intro v6 w6 o6 g6 p6
               have K6 := (show w6.cell? ⟨wr.heap.size, 0, none⟩ = some (.int .i64 x.fr) ∧ w6.cell? ⟨wr.heap.size, 2, none⟩ = some (.slice A m c') ∧ w6.cell? ⟨wr.heap.size, 5, none⟩ = some (.slice B m2 c2') from
                 ⟨g6.cell (cell_keep (B5.out.next (below_alloc w5 _)) k0) (fun e => HNE.out e.symm), g6.cell (cell_keep (B5.out.next (below_alloc w5 _)) k2) (fun e => HNE.out e.symm), g6.cell (cell_keep (B5.out.next (below_alloc w5 _)) k5) (fun e => HNE.out e.symm)⟩)
               have HB6 := Lib.hid (Below.grown ((HB1.out.next B5.out).next (below_alloc w5 _)) g6 (Nat.le_trans HB1.out.size (Nat.le_trans B5.out.size (by simp))) (fun k e => (HO.out.lt (.inl e)).1)))
            | fail)
        clear k0 k2 k5 K6 g6 p6
        go_wp2
        go_roundw
        case rel => exact ⟨j + 1, _, by go_num, by omega, by rw [HTK.out]; exact o6, HB6.out⟩
        case measure => simp [intOf]; omega
    · obtain rfl : j = n := by omega
      have htk : p.take j = p := List.take_of_length_le (by rw [HN.out]; exact Nat.le_refl _)
      rw [htk] at ho
      obtain ⟨A7, c7, rfl, h71, h72⟩ := ho.form (show (p.map hunkP).length = j by rw [List.length_map, HN.out])
      have HCL := Lib.hid (show goodH (l.length : Int) (p.map hunkP) = goodH (nl : Int) (p.map hunkP) by rw [HL.out])
      have hnw : ∀ x ∈ p.map hunkP, x.new.length ≤ 1048576 := fun y hy => by
        obtain ⟨x, hx, rfl⟩ := List.mem_map.1 hy
        obtain ⟨_, _, _, _, _, _, _, _, h9⟩ := goodP_parts (HALL.out x hx)
        show x.new.length ≤ _
        omega
      have HNW := Lib.hid hnw
      clear hnw
      cases hq : goodH (nl : Int) (p.map hunkP)
      · have HQ := Lib.hid hq
        have hf := Lib.hid (show hunksC l p = ([], 3) by unfold hunksC; rw [HCL.out, hq]; rfl)
        clear hq
        go_wp2_with fail
        refine (l2Hunks_any (nl : Int) A7 j c7 (p.map hunkP) _ ho.hks ⟨by omega, by omega⟩ HNW.out).mono ?_
        rintro e w3 ⟨rfl, b3⟩
        rw [HQ.out]
        go_wp2
        go_ret2
        exact ⟨_, [], by rw [hf.out]; rfl, by rw [hf.out]; exact OwnH.nil_, hb.next b3⟩
      · have HQ := Lib.hid hq
        clear hq
        go_wp2_with fail
        refine (l2Hunks_any (nl : Int) A7 j c7 (p.map hunkP) _ ho.hks ⟨by omega, by omega⟩ HNW.out).mono ?_
        rintro e w3 ⟨rfl, b3⟩
        rw [HQ.out]
        have HO3 := Lib.hid (ho.below b3)
        have HB3 := Lib.hid (hb.next b3)
        clear ho hb b3 hj hlt
        go_wp2
        go_loopw [9, 47] (fun q i w' => ∃ k : Nat, ∃ more : Int, i = .int .i64 k ∧ q = .int .i64 more ∧ k ≤ j ∧ -40 * (k : Int) ≤ more ∧ more ≤ 40 * (k : Int) ∧ Hid (more = moreP p k) ∧ Hid (otherB l (moreP p k) (p.drop k) = otherB l 0 p) ∧ OwnH w' w.heap.size (.slice A7 j c7) (p.map hunkP) vs ∧ Below w.heap.size w w') (fun _ i _ => j - (intOf i).toNat)
        case atStart => exact ⟨0, 0, rfl, rfl, by omega, by omega, by omega, Lib.hid (moreP_zero p).symm, Lib.hid (by rw [moreP_zero]; rfl), HO3.out, HB3.out⟩
        case round =>
          obtain ⟨k, more, rfl, rfl, hk, hmo0, hmo1, HMO, HOT, ho, hb⟩ := hrel
          by_cases hlt : k < j
          · obtain ⟨b, off, A, m, c', B, m2, c2', x, rfl, hx, c0, c1, c2, c3, c4, c5, hs, hmc, hs2, hmc2, hok⟩ := (hp.below hb).at_ hlt
            obtain ⟨at', ea, ha1, hf0, hf1, hq0, hq1, ho40, hn40⟩ := goodP_parts (HALL.out x (List.mem_of_getElem? hx))
            have hm1 : m ≤ 40 := by rw [← hs.len]; exact ho40
            have hm2 : m2 ≤ 40 := by rw [← hs2.len]; exact hn40
            have HGO := Lib.hid (show (hunkP x).gone = (m : Int) by unfold hunkP; dsimp only; rw [hs.len])
            have hmx : (p.map hunkP)[k]? = some (hunkP x) := by simp [hx]
            have hfit := goodH_mem HQ.out (List.mem_of_getElem? hmx)
            obtain ⟨hi, Hhi⟩ : ∃ hi : Nat, Hid (hi = at' + m) := ⟨_, rfl⟩
            have hih : at' ≤ hi ∧ hi ≤ nl := by have h1 := hfit.2.2.1; rw [ea, HGO.out] at h1; have := Hhi.out; omega
            obtain ⟨hi0, hi1⟩ := hih
            obtain ⟨am, Ham⟩ : ∃ am : Int, Hid ((at' : Int) + more = am) := ⟨_, rfl⟩
            obtain ⟨bn, Hbn⟩ : ∃ bn : Int, Hid (baseN x.at_ m2 = bn) := ⟨_, rfl⟩
            have HOLD := Lib.hid (show oldOf l (hunkP x) = seg l at' hi by unfold oldOf; rw [ea, HGO.out, Hhi.out]; congr 1)
            have HBN := Lib.hid (show baseI x.at_ x.new = baseN x.at_ m2 from baseN_eq _ _ hs2.len)
            have HST := Lib.hid (other_step (l := l) (more := moreP p k) hx)
            have HXX := Lib.hid hx
            have HMS := Lib.hid (moreP_succ hx)
            rw [hs.len, hs2.len] at HMS
            have HC := Lib.hid (show OtC l p k x = (!eqT (seg l at' hi) x.old || decide (bn ≠ am)) by unfold OtC; rw [HOLD.out, HBN.out, ea, Hbn.out, ← Ham.out, HMO.out])
            obtain ⟨g7, y, a2, my, cy, hA7, hg70, hg71, hy, hu, hmcy, e0, e1, e2, oy, iy0, iy1, hfz⟩ := ho.at_ hlt
            rw [hmx] at hy
            injection hy with hy
            subst hy
            subst hA7
            rw [ea] at e0
            rw [HGO.out] at e1
            have hcut := cut_strs a nl cl at' hi hi0 (by omega)
            have hwe : IntKind.i64.wrap ((at' : Int) + (m : Int)) = (hi : Int) := by rw [IntKind.wrap_i64]; have := Hhi.out; omega
            have hwa : IntKind.i64.wrap ((at' : Int) + more) = am := by rw [IntKind.wrap_i64]; have := Ham.out; omega
            have hwd : IntKind.i64.wrap ((m2 : Int) - (m : Int)) = (m2 : Int) - (m : Int) := by rw [IntKind.wrap_i64]; omega
            have hwm : IntKind.i64.wrap (more + ((m2 : Int) - (m : Int))) = more + ((m2 : Int) - (m : Int)) := by rw [IntKind.wrap_i64]; omega
            obtain ⟨W2, HW2⟩ : ∃ W2, Hid (W2 = (wr.alloc (.cells #[.int .i64 x.fr, .int .i64 x.to_, .slice A m c', .int .i64 x.at_, .int .i64 x.en, .slice B m2 c2'] 69)).alloc (.cells #[.int .i64 (at' : Int), .int .i64 (m : Int), .slice a2 my cy] 97)) := ⟨_, rfl⟩
            have hB2 := Lib.hid (show Below wr.heap.size wr W2 by rw [HW2.out]; exact (below_alloc _ _).next (below_alloc _ _))
            have Q1 := Lib.hid (show W2.heap[wr.heap.size]? = some (.cells #[.int .i64 x.fr, .int .i64 x.to_, .slice A m c', .int .i64 x.at_, .int .i64 x.en, .slice B m2 c2'] 69 (0, 0)) by rw [HW2.out, Below.heap_alloc _ _ _ (by simp)]; exact heap_at rfl)
            have Q2 := Lib.hid (show W2.heap[wr.heap.size + 1]? = some (.cells #[.int .i64 (at' : Int), .int .i64 (m : Int), .slice a2 my cy] 97 (0, 0)) by rw [HW2.out]; exact heap_at (by simp))
            have q2 : W2.cell? ⟨wr.heap.size, 2, none⟩ = some (.slice A m c') := by simp [World.cell?, Q1.out]
            have q3 : W2.cell? ⟨wr.heap.size, 3, none⟩ = some (.int .i64 x.at_) := by simp [World.cell?, Q1.out]
            have q5 : W2.cell? ⟨wr.heap.size, 5, none⟩ = some (.slice B m2 c2') := by simp [World.cell?, Q1.out]
            have r0 : W2.cell? ⟨wr.heap.size + 1, 0, none⟩ = some (.int .i64 (at' : Int)) := by simp [World.cell?, Q2.out]
            have r1 : W2.cell? ⟨wr.heap.size + 1, 1, none⟩ = some (.int .i64 (m : Int)) := by simp [World.cell?, Q2.out]
            have HB2 := Lib.hid (hb.next hB2.out)
            have HLS := Lib.hid ((hl.below HB2.out).cut hi0 hi1 hcl)
            have HSO := Lib.hid (hs.below hB2.out)
            have HO := Lib.hid (ho.below hB2.out)
            have f0 : ∀ o, (wr.alloc o).cell? ⟨g7, k * 3, none⟩ = some (.int .i64 (at' : Int)) := fun o => cell_keep (below_alloc _ _) e0
            have f1 : ∀ o, (wr.alloc o).cell? ⟨g7, k * 3 + 1, none⟩ = some (.int .i64 (m : Int)) := fun o => cell_keep (below_alloc _ _) e1
            have f2 : ∀ o, (wr.alloc o).cell? ⟨g7, k * 3 + 2, none⟩ = some (.slice a2 my cy) := fun o => cell_keep (below_alloc _ _) e2
            clear hx ea hmx hfit ho oy iy0 iy1 hfz hu hmcy hok ho40 hn40 h71 h72 hs hs2 hb
            go_wp2
            rw [← HW2.out]
            clear c0 c1 c2 c3 c4 c5 f0 f1 f2 e0 e1 e2
            have HSM := Lib.hid (show ∀ nn, Calls Tryz.prog 105 #[.slice (cutA a cl at') (hi - at') (cl - at'), .slice A m c'] (W2.drewN nn) fun e w' => e = .returned (.bool (eqT (seg l at' hi) x.old)) ∧ ∃ q, w' = (W2.drewN nn).drewN q from fun nn => l1SameT_any (cutA a cl at') A (hi - at') m (cl - at') c' (seg l at' hi) x.old _ (HLS.out.below (below_drewN (Below.refl _ W2) nn)) (HSO.out.below (below_drewN (Below.refl _ W2) nn)))
            have HBS := Lib.hid (show ∀ nn, Calls Tryz.prog 103 #[.int .i64 x.at_, .slice B m2 c2'] (W2.drewN nn) fun e w' => e = .returned (.int .i64 bn) ∧ w' = W2.drewN nn from fun nn => by
              rw [← Hbn.out]; exact (l5Base_any x.at_ B m2 c2' (by omega) (by omega) _).mono fun e w' h => ⟨h.1, h.2.symm⟩)
            cases hE : eqT (seg l at' hi) x.old
            · rw [hE] at HSM
              have hf := Lib.hid (show hunksC l p = ([], 2) by
                have h1 : otherB l 0 p = true := by rw [← HOT.out, HST.out]; show (OtC l p k x || _) = true; rw [HC.out, hE]; rfl
                unfold hunksC; rw [HCL.out, HQ.out, h1]; rfl)
              clear hE
              go_quiet ((first | (go_at_call 105; exact Calls.quiet_of (HSM.out _)) | (go_at_call 103; exact Calls.quiet_of_same (HBS.out _))))
              go_wp2
              go_ret2
              exact ⟨_, [], by rw [hf.out]; rfl, by rw [hf.out]; exact OwnH.nil_, below_drewN HB2.out _⟩
            · rw [hE] at HSM
              cases hC : decide (bn ≠ am)
              · have hbe : bn = am := by simpa using hC
                have hN := Lib.hid (show otherB l (moreP p (k + 1)) (p.drop (k + 1)) = otherB l 0 p by
                  rw [← HOT.out, HST.out]
                  have h1 : OtC l p k x = false := by rw [HC.out, hE, hC]; rfl
                  show _ = (OtC l p k x || _)
                  rw [h1, Bool.false_or, moreP_succ HXX.out])
                have hne : (bn != am) = false := by simp [hbe]
                clear hE hC hbe
                go_quiet ((first | (go_at_call 105; exact Calls.quiet_of (HSM.out _)) | (go_at_call 103; exact Calls.quiet_of_same (HBS.out _))))
                go_wp2
                go_roundw
                case rel => exact ⟨k + 1, more + ((m2 : Int) - m), by go_num, rfl, by omega, by omega, by omega, Lib.hid (by rw [HMS.out, HMO.out]), hN, HO.out.below (below_drewN (Below.refl _ _) _), below_drewN HB2.out _⟩
                case measure => simp [intOf]; omega
              · have hf := Lib.hid (show hunksC l p = ([], 2) by
                  have h1 : otherB l 0 p = true := by rw [← HOT.out, HST.out]; show (OtC l p k x || _) = true; rw [HC.out, hE, hC]; rfl
                  unfold hunksC; rw [HCL.out, HQ.out, h1]; rfl)
                have hne : (bn != am) = true := by simpa using hC
                clear hE hC
                go_quiet ((first | (go_at_call 105; exact Calls.quiet_of (HSM.out _)) | (go_at_call 103; exact Calls.quiet_of_same (HBS.out _))))
                go_wp2
                go_ret2
                exact ⟨_, [], by rw [hf.out]; rfl, by rw [hf.out]; exact OwnH.nil_, below_drewN HB2.out _⟩
          · have hf := Lib.hid (show hunksC l p = (p.map hunkP, 0) by
              have h1 : otherB l 0 p = false := by rw [← HOT.out]; exact other_end (by rw [HN.out]; omega)
              unfold hunksC; rw [HCL.out, HQ.out, h1]; rfl)
            go_wp2
            go_ret2
            exact ⟨_, vs, by rw [hf.out]; rfl, by rw [hf.out]; exact ho, hb⟩

end Go.Proofs.YtnimaadjmejmpaaGreatDoor

namespace Go.Proofs.YtnimaadjmejmpaaGreatDoor
open Go.RowKit Go.ChangeShapes Go.WideShapes M

set_option maxHeartbeats 1000000 in
theorem specStepsHunks_any (a : Option Addr) (nl cl : Nat) (l : List ByteArray) (b0 : Option Addr) (n c : Nat) (p : List Sp) (w : World) (hl : Strs w a nl l) (hcl : nl ≤ cl) (hp : Sps w b0 n p) (hsm : ∀ x ∈ p, x.old.length ≤ 1048576 ∧ x.new.length ≤ 1048576) (hnl : nl ≤ 1048576) :
    Calls Tryz.prog 28 #[.slice a nl cl, .slice b0 n c] w fun e w' => ∃ v vs, e = .returned (.tuple #[v, .int .i64 (hunksOf l p).2.1, .bool (hunksOf l p).2.2]) ∧ OwnH w' w.heap.size v (hunksOf l p).1 vs ∧ Below w.heap.size w w' := by
  cases hgl : goodB l
  · have hf := Lib.hid (show hunksOf l p = ([], 0, false) by unfold hunksOf hunksOk; rw [hgl]; rfl)
    have HG := Lib.hid hgl
    clear hgl
    go_enter Tryz.func28, Tryz.ntmps28
    go_wp2_with (go_at_call 64; refine (l1Good_any a nl cl l _ hl).mono ?_; rintro e w' ⟨rfl, rfl⟩; rw [HG.out])
    go_ret3
    exact ⟨_, [], by rw [hf.out]; rfl, by rw [hf.out]; exact OwnH.nil_, Below.refl _ _⟩
  cases hgp : stepsB p
  · have hf := Lib.hid (show hunksOf l p = ([], 0, false) by unfold hunksOf hunksOk; rw [hgl, hgp]; rfl)
    have HG := Lib.hid hgl
    have HGP := Lib.hid hgp
    clear hgl hgp
    go_enter Tryz.func28, Tryz.ntmps28
    go_wp2_with (first | (go_at_call 64; refine (l1Good_any a nl cl l _ hl).mono ?_; rintro e w' ⟨rfl, rfl⟩; rw [HG.out]) | (go_at_call 11; refine (specGoodSteps_any b0 n c p _ hp hsm).mono ?_; rintro e w1 ⟨rfl, b1⟩; rw [HGP.out]))
    go_ret3
    exact ⟨_, [], by rw [hf.out]; rfl, by rw [hf.out]; exact OwnH.nil_, b1⟩
  have HG := Lib.hid hgl
  have HGP := Lib.hid hgp
  have HF := Lib.hid (show hunksOf l p = ((hunksC l p).1, (hunksC l p).2, true) by unfold hunksOf hunksOk; rw [hgl, hgp]; rfl)
  clear hgl hgp
  go_enter Tryz.func28, Tryz.ntmps28
  go_wp2_with (first | (go_at_call 64; refine (l1Good_any a nl cl l _ hl).mono ?_; rintro e w' ⟨rfl, rfl⟩; rw [HG.out]) | (go_at_call 11; refine (specGoodSteps_any b0 n c p _ hp hsm).mono ?_; rintro e w1 ⟨rfl, b1⟩; rw [HGP.out]) | (go_at_call 65; refine (l5Hunks_any a nl cl l b0 n c p _ (hl.below b1) hcl (hp.below b1) HG.out HGP.out).mono ?_; rintro e w2 ⟨v2, vs2, rfl, o2, b2⟩))
  go_ret3
  exact ⟨_, vs2, by rw [HF.out]; rfl, by rw [HF.out]; exact o2.more b1.size, b1.next b2⟩

set_option maxHeartbeats 1000000 in
theorem specApplySteps_any (a : Option Addr) (nl cl : Nat) (l : List ByteArray) (b0 : Option Addr) (n c : Nat) (p : List Sp) (w : World) (hl : Strs w a nl l) (hcl : nl ≤ cl) (hp : Sps w b0 n p) (hsm : ∀ x ∈ p, x.old.length ≤ 1048576 ∧ x.new.length ≤ 1048576) (hnl : nl ≤ 1048576) :
    Calls Tryz.prog 27 #[.slice a nl cl, .slice b0 n c] w fun e w' => ∃ v, e = .returned (.tuple #[v, .int .i64 (applyOf l p).2.1, .bool (applyOf l p).2.2]) ∧ OwnV w' w.heap.size v (applyOf l p).1 ∧ Below w.heap.size w w' := by
  have hcd : (hunksOf l p).2.1 = 0 ∨ (hunksOf l p).2.1 = 2 ∨ (hunksOf l p).2.1 = 3 := by
    unfold hunksOf hunksC
    split
    · split
      · split
        · exact .inr (.inl rfl)
        · exact .inl rfl
      · exact .inr (.inr rfl)
    · exact .inl rfl
  have HNW := Lib.hid (hunksOf_new (l := l) (p := p))
  obtain ⟨H, code, ok, HP⟩ : ∃ H code ok, Hid (hunksOf l p = (H, code, ok)) := ⟨_, _, _, rfl⟩
  have HA := Lib.hid (show applyOf l p = if ok = true ∧ code = 0 then (if (patchOf l H).2 = true then ((patchOf l H).1, 0, true) else ([], 2, true)) else ([], code, ok) by unfold applyOf; rw [HP.out])
  rw [HP.out] at hcd HNW
  dsimp only at hcd HNW
  cases ok
  · have hf := Lib.hid (show applyOf l p = ([], code, false) by rw [HA.out, if_neg (by simp)])
    clear hcd
    go_enter Tryz.func27, Tryz.ntmps27
    go_wp2_with fail
    refine (specStepsHunks_any a nl cl l b0 n c p _ hl hcl hp hsm hnl).mono ?_
    rintro e w1 ⟨v, vs, rfl, o1, b1⟩
    rw [HP.out] at o1 ⊢
    dsimp only at o1 ⊢
    go_wp2
    go_ret3
    exact ⟨_, by rw [hf.out]; rfl, by rw [hf.out]; exact OwnV.nil_, b1⟩
  · by_cases hc : code = 0
    · subst hc
      clear hcd
      obtain ⟨P, q, HQ⟩ : ∃ P q, Hid (patchOf l H = (P, q)) := ⟨_, _, rfl⟩
      obtain ⟨n2, HN2⟩ : ∃ n2, Hid (H.length = n2) := ⟨_, rfl⟩
      cases q
      · have hf := Lib.hid (show applyOf l p = ([], 2, true) by rw [HA.out, if_pos ⟨rfl, rfl⟩, HQ.out]; rfl)
        go_enter Tryz.func27, Tryz.ntmps27
        go_wp2_with fail
        refine (specStepsHunks_any a nl cl l b0 n c p _ hl hcl hp hsm hnl).mono ?_
        rintro e w1 ⟨v, vs, rfl, o1, b1⟩
        rw [HP.out] at o1 ⊢
        dsimp only at o1 ⊢
        obtain ⟨A1, c1, rfl, h11, h12⟩ := o1.form HN2.out
        go_wp2_with fail
        refine (specPatch_any a nl cl l A1 n2 c1 H _ (hl.below b1) hcl o1.hks HNW.out hnl).mono ?_
        rintro e w2 ⟨v2, rfl, o2, b2⟩
        rw [HQ.out] at o2 ⊢
        dsimp only at o2 ⊢
        go_wp2
        go_ret3
        exact ⟨_, by rw [hf.out]; rfl, by rw [hf.out]; exact OwnV.nil_, b1.next b2⟩
      · have hf := Lib.hid (show applyOf l p = (P, 0, true) by rw [HA.out, if_pos ⟨rfl, rfl⟩, HQ.out]; rfl)
        go_enter Tryz.func27, Tryz.ntmps27
        go_wp2_with fail
        refine (specStepsHunks_any a nl cl l b0 n c p _ hl hcl hp hsm hnl).mono ?_
        rintro e w1 ⟨v, vs, rfl, o1, b1⟩
        rw [HP.out] at o1 ⊢
        dsimp only at o1 ⊢
        obtain ⟨A1, c1, rfl, h11, h12⟩ := o1.form HN2.out
        go_wp2_with fail
        refine (specPatch_any a nl cl l A1 n2 c1 H _ (hl.below b1) hcl o1.hks HNW.out hnl).mono ?_
        rintro e w2 ⟨v2, rfl, o2, b2⟩
        rw [HQ.out] at o2 ⊢
        dsimp only at o2 ⊢
        go_wp2
        go_ret3
        exact ⟨_, by rw [hf.out]; rfl, by rw [hf.out]; exact o2.more b1.size, b1.next b2⟩
    · have hf := Lib.hid (show applyOf l p = ([], code, true) by rw [HA.out, if_neg (fun e => hc e.2)])
      have hcp : 0 < code := by omega
      clear hcd
      go_enter Tryz.func27, Tryz.ntmps27
      go_wp2_with fail
      refine (specStepsHunks_any a nl cl l b0 n c p _ hl hcl hp hsm hnl).mono ?_
      rintro e w1 ⟨v, vs, rfl, o1, b1⟩
      rw [HP.out] at o1 ⊢
      dsimp only at o1 ⊢
      go_wp2
      go_ret3
      exact ⟨_, by rw [hf.out]; rfl, by rw [hf.out]; exact OwnV.nil_, b1⟩

end Go.Proofs.YtnimaadjmejmpaaGreatDoor
