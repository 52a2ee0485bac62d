/-
  The text of steps: the model's.
-/
import Derived.Test.YtnnaigoomipklaaDoorOkSTxt
import Derived.Test.YtnnaigoomipklaaDoorOkSGoods
set_option linter.unusedSimpArgs false
set_option linter.unusedVariables false
namespace Go.Proofs.YtnnaigoomipklaaDoor
open Go.RowKit M

set_option maxHeartbeats 4000000 in
set_option maxRecDepth 100000 in
theorem l5Text_any (a : Option Addr) (n c : Nat) (p : List Sp) (w : World) (hp : Sps w a n p) (hgp : stepsB p = true) :
    Calls Tryd.prog 46 #[.slice a n c] w fun e w' => e = .returned (.string (bs (stepsT p))) ∧ Below w.heap.size w w' := by
  have HN := Lib.hid hp.len
  have HALL := Lib.hid (show ∀ x ∈ p, stepB x = true by unfold stepsB at hgp; simp only [Bool.and_eq_true] at hgp; exact List.all_eq_true.1 hgp.1)
  have hn20 : n ≤ 20 := by unfold stepsB at hgp; simp only [Bool.and_eq_true, decide_eq_true_eq] at hgp; rw [← hp.len]; exact hgp.2
  have HLEN := Lib.hid (stepsT_take hgp)
  clear hgp
  go_enter Tryd.func46, Tryd.ntmps46
  go_wp2
  go_loopw [3, 13] (fun t i w' => ∃ j : Nat, i = .int .i64 j ∧ j ≤ n ∧ t = .string (bs (stepsT (p.take j))) ∧ Below w.heap.size w w') (fun _ i _ => n - (intOf i).toNat)
  case atStart => exact ⟨0, rfl, by omega, rfl, Below.refl _ _⟩
  case round =>
    obtain ⟨j, rfl, hj, rfl, hb⟩ := hrel
    by_cases hlt : j < n
    · obtain ⟨b, off, A, m, c', B, m2, c2', x, rfl, hx, d0, d1, d2, d3, d4, d5, hs, hmc, hs2, hmc2, hok⟩ := (hp.below hb).at_ hlt
      have HJ := Lib.hid hx
      have HX := Lib.hid (HALL.out x (List.mem_of_getElem? hx))
      obtain ⟨s1, s2, hpos⟩ := stepB_parts HX.out
      obtain ⟨a0, b0, e1, e2, q1', q2', g1, _⟩ := side_le s1
      obtain ⟨c0, e0, e3, e4, q3', q4', g2, _⟩ := side_le s2
      obtain ⟨fr, to_, old, at_, en, new⟩ := x
      dsimp only at e1 e2 e3 e4 hs hs2 g1 g2 d0 d1 d2 d3 d4 d5
      subst e1 e2 e3 e4
      have HG1 := Lib.hid g1
      have HG2 := Lib.hid g2
      have HL1 := Lib.hid hs.len
      have HL2 := Lib.hid hs2.len
      have hm40 : m ≤ 40 := by rw [← hs.len]; exact goodB_len g1
      have hm240 : m2 ≤ 40 := by rw [← hs2.len]; exact goodB_len g2
      obtain ⟨W1, HW1⟩ : ∃ W1, Hid (W1 = wr.alloc (.cells #[.int .i64 (a0 : Int), .int .i64 (b0 : Int), .slice A m c', .int .i64 (c0 : Int), .int .i64 (e0 : Int), .slice B m2 c2'] 83)) := ⟨_, rfl⟩
      have hB1 := Lib.hid (show Below wr.heap.size wr W1 by rw [HW1.out]; exact below_alloc _ _)
      have k0 : W1.cell? ⟨wr.heap.size, 0, none⟩ = some (.int .i64 (a0 : Int)) := by rw [HW1.out]; simp
      have k1 : W1.cell? ⟨wr.heap.size, 1, none⟩ = some (.int .i64 (b0 : Int)) := by rw [HW1.out]; simp
      have k2 : W1.cell? ⟨wr.heap.size, 2, none⟩ = some (.slice A m c') := by rw [HW1.out]; simp
      have k3 : W1.cell? ⟨wr.heap.size, 3, none⟩ = some (.int .i64 (c0 : Int)) := by rw [HW1.out]; simp
      have k4 : W1.cell? ⟨wr.heap.size, 4, none⟩ = some (.int .i64 (e0 : Int)) := by rw [HW1.out]; simp
      have k5 : W1.cell? ⟨wr.heap.size, 5, none⟩ = some (.slice B m2 c2') := by rw [HW1.out]; simp
      obtain ⟨T0, HT0⟩ : ∃ T0, Hid (bs (stepsT (p.take j)) = T0) := ⟨_, rfl⟩
      obtain ⟨T1, HT1⟩ : ∃ T1, Hid (bs (numsL a0 b0) = T1) := ⟨_, rfl⟩
      obtain ⟨T2, HT2⟩ : ∃ T2, Hid (bs (numsL c0 e0) = T2) := ⟨_, rfl⟩
      have HZ0 := Lib.hid (show T0.size ≤ 66000 by rw [← HT0.out, bs_size]; exact HLEN.out j)
      have HZ1 := Lib.hid (show T1.size ≤ 11 by rw [← HT1.out, bs_size]; exact numsL_len (by omega) (by omega))
      have HZ2' := Lib.hid (show T2.size ≤ 11 by rw [← HT2.out, bs_size]; exact numsL_len (by omega) (by omega))
      rw [HT0.out]
      clear hx s1 s2 g1 g2 hok hpos
      by_cases hm1 : m = 0
      · have HWD := Lib.hid (show wordL ⟨(a0 : Int), (b0 : Int), old, (c0 : Int), (e0 : Int), new⟩ = 97 from if_pos (show old.length = 0 by rw [HL1.out]; exact hm1))
        have hq1 : ((m : Int) == 0) = true := by simp [hm1]
        clear hm1
        have y1 : (9223372036854775807 < T1.size + 1) = False := eq_false (by have := HZ1.out; omega)
        have y2 : (9223372036854775807 < T1.size + 1 + T2.size) = False := eq_false (by have := HZ1.out; have := HZ2'.out; omega)
        have y3 : (9223372036854775807 < T1.size + 1 + T2.size + 1) = False := eq_false (by have := HZ1.out; have := HZ2'.out; omega)
        have y4 : (9223372036854775807 < T0.size + (T1.size + 1 + T2.size + 1)) = False := eq_false (by have := HZ1.out; have := HZ2'.out; have := HZ0.out; omega)
        go_wp2
        rw [← HW1.out]
        go_region_held3 (fun w' => w'.cell? ⟨wr.heap.size, 0, none⟩ = some (.int .i64 (a0 : Int)) ∧ w'.cell? ⟨wr.heap.size, 1, none⟩ = some (.int .i64 (b0 : Int)) ∧ w'.cell? ⟨wr.heap.size, 3, none⟩ = some (.int .i64 (c0 : Int)) ∧ w'.cell? ⟨wr.heap.size, 4, none⟩ = some (.int .i64 (e0 : Int))) (first | with_reducible exact ⟨k0, k1, k3, k4⟩ | with_reducible exact ⟨cell_keep B3.out k0, cell_keep B3.out k1, cell_keep B3.out k3, cell_keep B3.out k4⟩ | with_reducible exact ⟨cell_keep B4.out k0, cell_keep B4.out k1, cell_keep B4.out k3, cell_keep B4.out k4⟩ | go_keep)
          (first
            | (go_at_call 53; with_reducible show Calls _ _ #[.int .i64 (a0 : Int), .int .i64 (b0 : Int)] _ _; refine (l5Numbers_any a0 b0 (by omega) (by omega) W1.drew).mono ?_; rintro e w3 ⟨rfl, b3⟩
               rw [HT1.out]
               have B3 := Lib.hid (show Below W1.heap.size W1 w3 from (Below.refl _ W1).drew.next b3))
            | (go_at_call 53; refine (l5Numbers_any c0 e0 (by omega) (by omega) w3).mono ?_; rintro e w4 ⟨rfl, b4⟩
               rw [HT2.out]
               have B4 := Lib.hid (show Below W1.heap.size W1 w4 from B3.out.next b4))
            | fail)
        replace k2 := cell_keep B4.out k2
        replace k5 := cell_keep B4.out k5
        have HS1 := Lib.hid ((hs.below hB1.out).below B4.out)
        have HS2 := Lib.hid ((hs2.below hB1.out).below B4.out)
        have HBN := Lib.hid (hb.next (hB1.out.next B4.out))
        obtain ⟨K, HK⟩ : ∃ K : List UInt8, Hid (K = stepsT (p.take j) ++ (headL ⟨(a0 : Int), (b0 : Int), old, (c0 : Int), (e0 : Int), new⟩ ++ [10])) := ⟨_, Lib.hid rfl⟩
        have ATST : T0 ++ (T1 ++ (⟨#[97]⟩ : ByteArray) ++ T2 ++ (⟨#[10]⟩ : ByteArray)) = bs K := by
          rw [HK.out, ← HT0.out, ← HT1.out, ← HT2.out, add_bs, add_bs, add_bs, add_bs]
          simp only [bs_list]
          unfold headL
          rw [HWD.out]
          simp
        have HATS := Lib.hid ATST
        clear ATST
        have HBZ := Lib.hid (show K.length ≤ 70000 by rw [HK.out]; have h1 := HLEN.out j; have h2 := headL_len HX.out; simp only [List.length_append, List.length_cons, List.length_nil]; omega)
        clear y1 y2 y3 y4 k0 k1 k3 k4
        go_wp2
        go_loop [3, 46] (fun t i => ∃ q : Nat, i = .int .i64 q ∧ q ≤ m ∧ t = .string (bs (K ++ sideT [60, 32] (old.take q)))) (fun _ i => m - (intOf i).toNat)
        case atStart => exact ⟨0, rfl, by omega, congrArg Value.string (by rw [List.take_zero, sideT_nil, List.append_nil]; try exact HATS.out)⟩
        case round =>
          obtain ⟨q, rfl, hq, rfl⟩ := hrel
          by_cases hql : q < m
          · obtain ⟨bb, of, s, HSE, hss, hsz, hcs⟩ := HS1.out.at_ hql
            have hline := lineB_size (good_lines HG1.out s (List.mem_of_getElem? hss))
            obtain ⟨hline1, hline2⟩ := hline
            have HSN := Lib.hid (show bs (K ++ sideT [60, 32] (old.take q)) ++ showB (⟨#[60, 32]⟩ : ByteArray) s = bs (K ++ sideT [60, 32] (old.take (q + 1))) by
              have e : old.take (q + 1) = old.take q ++ [s] := by rw [List.take_add_one, hss]; rfl
              rw [e, sideT_snoc, add_bs, bs_list]; unfold showB; rw [bs_list, List.append_assoc])
            have HZ := Lib.hid (show (bs (K ++ sideT [60, 32] (old.take q))).size ≤ 100000 by rw [bs_size, List.length_append]; have := sideT_take (sign := [60, 32]) rfl HG1.out q; have := HBZ.out; omega)
            have HZ2 := Lib.hid (showB_size (sign := (⟨#[60, 32]⟩ : ByteArray)) (s := s) rfl hline2)
            obtain ⟨U, HU⟩ : ∃ U, Hid (bs (K ++ sideT [60, 32] (old.take q)) = U) := ⟨_, rfl⟩
            obtain ⟨V, HVV⟩ : ∃ V, Hid (showB (⟨#[60, 32]⟩ : ByteArray) s = V) := ⟨_, rfl⟩
            have yy : (9223372036854775807 < U.size + V.size) = False := eq_false (by have h1 := HZ.out; have h2 := HZ2.out; rw [HU.out] at h1; rw [HVV.out] at h2; omega)
            have HSN2 := Lib.hid (show U ++ V = bs (K ++ sideT [60, 32] (old.take (q + 1))) by rw [← HU.out, ← HVV.out]; exact HSN.out)
            rw [HU.out]
            subst HSE
            clear hss
            go_wp2_with fail
            refine (l5Shown_any (⟨#[60, 32]⟩ : ByteArray) s _ rfl hline1 hline2).mono ?_
            rintro e w9 ⟨rfl, rfl⟩
            rw [HVV.out]
            go_wp2
            go_round
            case rel => exact ⟨q + 1, by go_num, by omega, congrArg Value.string HSN2.out⟩
            case measure => simp [intOf]; omega
          · have hqe : old.take q = old := List.take_of_length_le (by have := HL1.out; omega)
            rw [hqe]
            clear hqe
            obtain ⟨K3, HK3⟩ : ∃ K3 : List UInt8, Hid (K3 = K ++ sideT [60, 32] old) := ⟨_, Lib.hid rfl⟩
            have HFIN := Lib.hid (show bs (K3 ++ sideT [62, 32] new) = bs (stepsT (p.take (j + 1))) by
              rw [HK3.out, take_snoc HJ.out, stepsT_snoc, HK.out]
              have hmid : midT ⟨(a0 : Int), (b0 : Int), old, (c0 : Int), (e0 : Int), new⟩ = [] := by unfold midT; rw [HWD.out]; rfl
              unfold spT
              rw [hmid]
              simp)
            obtain ⟨U3, HU3⟩ : ∃ U3, Hid (bs (K ++ sideT [60, 32] old) = U3) := ⟨_, rfl⟩
            rw [HU3.out]
            have HBZ3 := Lib.hid (show K3.length ≤ 80000 by
              rw [HK3.out]; have h1 := HBZ.out; have h2 := sideT_take (sign := [60, 32]) rfl HG1.out old.length; rw [List.take_length] at h2; simp [ruleL]; omega)
            have yr : (9223372036854775807 < U3.size + 4) = False := eq_false (by rw [← HU3.out, bs_size, List.length_append]; have h1 := HBZ.out; have h2 := sideT_take (sign := [60, 32]) rfl HG1.out old.length; rw [List.take_length] at h2; omega)
            have ATST : U3 = bs K3 := by
              rw [HK3.out, ← HU3.out]
            clear HATS
            have HATS := Lib.hid ATST
            clear ATST
            clear HBZ
            have HBZ := HBZ3
            go_wp2
            go_loop [3, 62] (fun t i => ∃ q : Nat, i = .int .i64 q ∧ q ≤ m2 ∧ t = .string (bs (K3 ++ sideT [62, 32] (new.take q)))) (fun _ i => m2 - (intOf i).toNat)
            case atStart => exact ⟨0, rfl, by omega, congrArg Value.string (by rw [List.take_zero, sideT_nil, List.append_nil]; try exact HATS.out)⟩
            case round =>
              obtain ⟨q, rfl, hq, rfl⟩ := hrel
              by_cases hql : q < m2
              · obtain ⟨bb, of, s, HSE, hss, hsz, hcs⟩ := HS2.out.at_ hql
                have hline := lineB_size (good_lines HG2.out s (List.mem_of_getElem? hss))
                obtain ⟨hline1, hline2⟩ := hline
                have HSN := Lib.hid (show bs (K3 ++ sideT [62, 32] (new.take q)) ++ showB (⟨#[62, 32]⟩ : ByteArray) s = bs (K3 ++ sideT [62, 32] (new.take (q + 1))) by
                  have e : new.take (q + 1) = new.take q ++ [s] := by rw [List.take_add_one, hss]; rfl
                  rw [e, sideT_snoc, add_bs, bs_list]; unfold showB; rw [bs_list, List.append_assoc])
                have HZ := Lib.hid (show (bs (K3 ++ sideT [62, 32] (new.take q))).size ≤ 100000 by rw [bs_size, List.length_append]; have := sideT_take (sign := [62, 32]) rfl HG2.out q; have := HBZ.out; omega)
                have HZ2 := Lib.hid (showB_size (sign := (⟨#[62, 32]⟩ : ByteArray)) (s := s) rfl hline2)
                obtain ⟨U, HU⟩ : ∃ U, Hid (bs (K3 ++ sideT [62, 32] (new.take q)) = U) := ⟨_, rfl⟩
                obtain ⟨V, HVV⟩ : ∃ V, Hid (showB (⟨#[62, 32]⟩ : ByteArray) s = V) := ⟨_, rfl⟩
                have yy : (9223372036854775807 < U.size + V.size) = False := eq_false (by have h1 := HZ.out; have h2 := HZ2.out; rw [HU.out] at h1; rw [HVV.out] at h2; omega)
                have HSN2 := Lib.hid (show U ++ V = bs (K3 ++ sideT [62, 32] (new.take (q + 1))) by rw [← HU.out, ← HVV.out]; exact HSN.out)
                rw [HU.out]
                subst HSE
                clear hss
                go_wp2_with fail
                refine (l5Shown_any (⟨#[62, 32]⟩ : ByteArray) s _ rfl hline1 hline2).mono ?_
                rintro e w9 ⟨rfl, rfl⟩
                rw [HVV.out]
                go_wp2
                go_round
                case rel => exact ⟨q + 1, by go_num, by omega, congrArg Value.string HSN2.out⟩
                case measure => simp [intOf]; omega
              · have hqe : new.take q = new := List.take_of_length_le (by have := HL2.out; omega)
                rw [hqe]
                clear hqe
                go_wp2
                go_roundw
                case rel => exact ⟨j + 1, by go_num, by omega, congrArg Value.string HFIN.out, HBN.out⟩
                case measure => simp [intOf]; omega
      · have hq1 : ((m : Int) == 0) = false := by simp; omega
        by_cases hm2 : m2 = 0
        · have HWD := Lib.hid (show wordL ⟨(a0 : Int), (b0 : Int), old, (c0 : Int), (e0 : Int), new⟩ = 100 from (if_neg (show ¬ old.length = 0 by rw [HL1.out]; exact hm1)).trans (if_pos (show new.length = 0 by rw [HL2.out]; exact hm2)))
          have hq2 : ((m2 : Int) == 0) = true := by simp [hm2]
          clear hm1 hm2
          have y1 : (9223372036854775807 < T1.size + 1) = False := eq_false (by have := HZ1.out; omega)
          have y2 : (9223372036854775807 < T1.size + 1 + T2.size) = False := eq_false (by have := HZ1.out; have := HZ2'.out; omega)
          have y3 : (9223372036854775807 < T1.size + 1 + T2.size + 1) = False := eq_false (by have := HZ1.out; have := HZ2'.out; omega)
          have y4 : (9223372036854775807 < T0.size + (T1.size + 1 + T2.size + 1)) = False := eq_false (by have := HZ1.out; have := HZ2'.out; have := HZ0.out; omega)
          go_wp2
          rw [← HW1.out]
          go_region_held3 (fun w' => w'.cell? ⟨wr.heap.size, 0, none⟩ = some (.int .i64 (a0 : Int)) ∧ w'.cell? ⟨wr.heap.size, 1, none⟩ = some (.int .i64 (b0 : Int)) ∧ w'.cell? ⟨wr.heap.size, 3, none⟩ = some (.int .i64 (c0 : Int)) ∧ w'.cell? ⟨wr.heap.size, 4, none⟩ = some (.int .i64 (e0 : Int))) (first | with_reducible exact ⟨k0, k1, k3, k4⟩ | with_reducible exact ⟨cell_keep B3.out k0, cell_keep B3.out k1, cell_keep B3.out k3, cell_keep B3.out k4⟩ | with_reducible exact ⟨cell_keep B4.out k0, cell_keep B4.out k1, cell_keep B4.out k3, cell_keep B4.out k4⟩ | go_keep)
            (first
              | (go_at_call 53; with_reducible show Calls _ _ #[.int .i64 (a0 : Int), .int .i64 (b0 : Int)] _ _; refine (l5Numbers_any a0 b0 (by omega) (by omega) W1.drew).mono ?_; rintro e w3 ⟨rfl, b3⟩
                 rw [HT1.out]
                 have B3 := Lib.hid (show Below W1.heap.size W1 w3 from (Below.refl _ W1).drew.next b3))
              | (go_at_call 53; refine (l5Numbers_any c0 e0 (by omega) (by omega) w3).mono ?_; rintro e w4 ⟨rfl, b4⟩
                 rw [HT2.out]
                 have B4 := Lib.hid (show Below W1.heap.size W1 w4 from B3.out.next b4))
              | fail)
          replace k2 := cell_keep B4.out k2
          replace k5 := cell_keep B4.out k5
          have HS1 := Lib.hid ((hs.below hB1.out).below B4.out)
          have HS2 := Lib.hid ((hs2.below hB1.out).below B4.out)
          have HBN := Lib.hid (hb.next (hB1.out.next B4.out))
          obtain ⟨K, HK⟩ : ∃ K : List UInt8, Hid (K = stepsT (p.take j) ++ (headL ⟨(a0 : Int), (b0 : Int), old, (c0 : Int), (e0 : Int), new⟩ ++ [10])) := ⟨_, Lib.hid rfl⟩
          have ATST : T0 ++ (T1 ++ (⟨#[100]⟩ : ByteArray) ++ T2 ++ (⟨#[10]⟩ : ByteArray)) = bs K := by
            rw [HK.out, ← HT0.out, ← HT1.out, ← HT2.out, add_bs, add_bs, add_bs, add_bs]
            simp only [bs_list]
            unfold headL
            rw [HWD.out]
            simp
          have HATS := Lib.hid ATST
          clear ATST
          have HBZ := Lib.hid (show K.length ≤ 70000 by rw [HK.out]; have h1 := HLEN.out j; have h2 := headL_len HX.out; simp only [List.length_append, List.length_cons, List.length_nil]; omega)
          clear y1 y2 y3 y4 k0 k1 k3 k4
          go_wp2
          go_loop [3, 46] (fun t i => ∃ q : Nat, i = .int .i64 q ∧ q ≤ m ∧ t = .string (bs (K ++ sideT [60, 32] (old.take q)))) (fun _ i => m - (intOf i).toNat)
          case atStart => exact ⟨0, rfl, by omega, congrArg Value.string (by rw [List.take_zero, sideT_nil, List.append_nil]; try exact HATS.out)⟩
          case round =>
            obtain ⟨q, rfl, hq, rfl⟩ := hrel
            by_cases hql : q < m
            · obtain ⟨bb, of, s, HSE, hss, hsz, hcs⟩ := HS1.out.at_ hql
              have hline := lineB_size (good_lines HG1.out s (List.mem_of_getElem? hss))
              obtain ⟨hline1, hline2⟩ := hline
              have HSN := Lib.hid (show bs (K ++ sideT [60, 32] (old.take q)) ++ showB (⟨#[60, 32]⟩ : ByteArray) s = bs (K ++ sideT [60, 32] (old.take (q + 1))) by
                have e : old.take (q + 1) = old.take q ++ [s] := by rw [List.take_add_one, hss]; rfl
                rw [e, sideT_snoc, add_bs, bs_list]; unfold showB; rw [bs_list, List.append_assoc])
              have HZ := Lib.hid (show (bs (K ++ sideT [60, 32] (old.take q))).size ≤ 100000 by rw [bs_size, List.length_append]; have := sideT_take (sign := [60, 32]) rfl HG1.out q; have := HBZ.out; omega)
              have HZ2 := Lib.hid (showB_size (sign := (⟨#[60, 32]⟩ : ByteArray)) (s := s) rfl hline2)
              obtain ⟨U, HU⟩ : ∃ U, Hid (bs (K ++ sideT [60, 32] (old.take q)) = U) := ⟨_, rfl⟩
              obtain ⟨V, HVV⟩ : ∃ V, Hid (showB (⟨#[60, 32]⟩ : ByteArray) s = V) := ⟨_, rfl⟩
              have yy : (9223372036854775807 < U.size + V.size) = False := eq_false (by have h1 := HZ.out; have h2 := HZ2.out; rw [HU.out] at h1; rw [HVV.out] at h2; omega)
              have HSN2 := Lib.hid (show U ++ V = bs (K ++ sideT [60, 32] (old.take (q + 1))) by rw [← HU.out, ← HVV.out]; exact HSN.out)
              rw [HU.out]
              subst HSE
              clear hss
              go_wp2_with fail
              refine (l5Shown_any (⟨#[60, 32]⟩ : ByteArray) s _ rfl hline1 hline2).mono ?_
              rintro e w9 ⟨rfl, rfl⟩
              rw [HVV.out]
              go_wp2
              go_round
              case rel => exact ⟨q + 1, by go_num, by omega, congrArg Value.string HSN2.out⟩
              case measure => simp [intOf]; omega
            · have hqe : old.take q = old := List.take_of_length_le (by have := HL1.out; omega)
              rw [hqe]
              clear hqe
              obtain ⟨K3, HK3⟩ : ∃ K3 : List UInt8, Hid (K3 = K ++ sideT [60, 32] old) := ⟨_, Lib.hid rfl⟩
              have HFIN := Lib.hid (show bs (K3 ++ sideT [62, 32] new) = bs (stepsT (p.take (j + 1))) by
                rw [HK3.out, take_snoc HJ.out, stepsT_snoc, HK.out]
                have hmid : midT ⟨(a0 : Int), (b0 : Int), old, (c0 : Int), (e0 : Int), new⟩ = [] := by unfold midT; rw [HWD.out]; rfl
                unfold spT
                rw [hmid]
                simp)
              obtain ⟨U3, HU3⟩ : ∃ U3, Hid (bs (K ++ sideT [60, 32] old) = U3) := ⟨_, rfl⟩
              rw [HU3.out]
              have HBZ3 := Lib.hid (show K3.length ≤ 80000 by
                rw [HK3.out]; have h1 := HBZ.out; have h2 := sideT_take (sign := [60, 32]) rfl HG1.out old.length; rw [List.take_length] at h2; simp [ruleL]; omega)
              have yr : (9223372036854775807 < U3.size + 4) = False := eq_false (by rw [← HU3.out, bs_size, List.length_append]; have h1 := HBZ.out; have h2 := sideT_take (sign := [60, 32]) rfl HG1.out old.length; rw [List.take_length] at h2; omega)
              have ATST : U3 = bs K3 := by
                rw [HK3.out, ← HU3.out]
              clear HATS
              have HATS := Lib.hid ATST
              clear ATST
              clear HBZ
              have HBZ := HBZ3
              go_wp2
              go_loop [3, 62] (fun t i => ∃ q : Nat, i = .int .i64 q ∧ q ≤ m2 ∧ t = .string (bs (K3 ++ sideT [62, 32] (new.take q)))) (fun _ i => m2 - (intOf i).toNat)
              case atStart => exact ⟨0, rfl, by omega, congrArg Value.string (by rw [List.take_zero, sideT_nil, List.append_nil]; try exact HATS.out)⟩
              case round =>
                obtain ⟨q, rfl, hq, rfl⟩ := hrel
                by_cases hql : q < m2
                · obtain ⟨bb, of, s, HSE, hss, hsz, hcs⟩ := HS2.out.at_ hql
                  have hline := lineB_size (good_lines HG2.out s (List.mem_of_getElem? hss))
                  obtain ⟨hline1, hline2⟩ := hline
                  have HSN := Lib.hid (show bs (K3 ++ sideT [62, 32] (new.take q)) ++ showB (⟨#[62, 32]⟩ : ByteArray) s = bs (K3 ++ sideT [62, 32] (new.take (q + 1))) by
                    have e : new.take (q + 1) = new.take q ++ [s] := by rw [List.take_add_one, hss]; rfl
                    rw [e, sideT_snoc, add_bs, bs_list]; unfold showB; rw [bs_list, List.append_assoc])
                  have HZ := Lib.hid (show (bs (K3 ++ sideT [62, 32] (new.take q))).size ≤ 100000 by rw [bs_size, List.length_append]; have := sideT_take (sign := [62, 32]) rfl HG2.out q; have := HBZ.out; omega)
                  have HZ2 := Lib.hid (showB_size (sign := (⟨#[62, 32]⟩ : ByteArray)) (s := s) rfl hline2)
                  obtain ⟨U, HU⟩ : ∃ U, Hid (bs (K3 ++ sideT [62, 32] (new.take q)) = U) := ⟨_, rfl⟩
                  obtain ⟨V, HVV⟩ : ∃ V, Hid (showB (⟨#[62, 32]⟩ : ByteArray) s = V) := ⟨_, rfl⟩
                  have yy : (9223372036854775807 < U.size + V.size) = False := eq_false (by have h1 := HZ.out; have h2 := HZ2.out; rw [HU.out] at h1; rw [HVV.out] at h2; omega)
                  have HSN2 := Lib.hid (show U ++ V = bs (K3 ++ sideT [62, 32] (new.take (q + 1))) by rw [← HU.out, ← HVV.out]; exact HSN.out)
                  rw [HU.out]
                  subst HSE
                  clear hss
                  go_wp2_with fail
                  refine (l5Shown_any (⟨#[62, 32]⟩ : ByteArray) s _ rfl hline1 hline2).mono ?_
                  rintro e w9 ⟨rfl, rfl⟩
                  rw [HVV.out]
                  go_wp2
                  go_round
                  case rel => exact ⟨q + 1, by go_num, by omega, congrArg Value.string HSN2.out⟩
                  case measure => simp [intOf]; omega
                · have hqe : new.take q = new := List.take_of_length_le (by have := HL2.out; omega)
                  rw [hqe]
                  clear hqe
                  go_wp2
                  go_roundw
                  case rel => exact ⟨j + 1, by go_num, by omega, congrArg Value.string HFIN.out, HBN.out⟩
                  case measure => simp [intOf]; omega
        · have HWD := Lib.hid (show wordL ⟨(a0 : Int), (b0 : Int), old, (c0 : Int), (e0 : Int), new⟩ = 99 from (if_neg (show ¬ old.length = 0 by rw [HL1.out]; exact hm1)).trans (if_neg (show ¬ new.length = 0 by rw [HL2.out]; exact hm2)))
          have hq2 : ((m2 : Int) == 0) = false := by simp; omega
          clear hm1 hm2
          have y1 : (9223372036854775807 < T1.size + 1) = False := eq_false (by have := HZ1.out; omega)
          have y2 : (9223372036854775807 < T1.size + 1 + T2.size) = False := eq_false (by have := HZ1.out; have := HZ2'.out; omega)
          have y3 : (9223372036854775807 < T1.size + 1 + T2.size + 1) = False := eq_false (by have := HZ1.out; have := HZ2'.out; omega)
          have y4 : (9223372036854775807 < T0.size + (T1.size + 1 + T2.size + 1)) = False := eq_false (by have := HZ1.out; have := HZ2'.out; have := HZ0.out; omega)
          go_wp2
          rw [← HW1.out]
          go_region_held3 (fun w' => w'.cell? ⟨wr.heap.size, 0, none⟩ = some (.int .i64 (a0 : Int)) ∧ w'.cell? ⟨wr.heap.size, 1, none⟩ = some (.int .i64 (b0 : Int)) ∧ w'.cell? ⟨wr.heap.size, 3, none⟩ = some (.int .i64 (c0 : Int)) ∧ w'.cell? ⟨wr.heap.size, 4, none⟩ = some (.int .i64 (e0 : Int))) (first | with_reducible exact ⟨k0, k1, k3, k4⟩ | with_reducible exact ⟨cell_keep B3.out k0, cell_keep B3.out k1, cell_keep B3.out k3, cell_keep B3.out k4⟩ | with_reducible exact ⟨cell_keep B4.out k0, cell_keep B4.out k1, cell_keep B4.out k3, cell_keep B4.out k4⟩ | go_keep)
            (first
              | (go_at_call 53; with_reducible show Calls _ _ #[.int .i64 (a0 : Int), .int .i64 (b0 : Int)] _ _; refine (l5Numbers_any a0 b0 (by omega) (by omega) W1.drew).mono ?_; rintro e w3 ⟨rfl, b3⟩
                 rw [HT1.out]
                 have B3 := Lib.hid (show Below W1.heap.size W1 w3 from (Below.refl _ W1).drew.next b3))
              | (go_at_call 53; refine (l5Numbers_any c0 e0 (by omega) (by omega) w3).mono ?_; rintro e w4 ⟨rfl, b4⟩
                 rw [HT2.out]
                 have B4 := Lib.hid (show Below W1.heap.size W1 w4 from B3.out.next b4))
              | fail)
          replace k2 := cell_keep B4.out k2
          replace k5 := cell_keep B4.out k5
          have HS1 := Lib.hid ((hs.below hB1.out).below B4.out)
          have HS2 := Lib.hid ((hs2.below hB1.out).below B4.out)
          have HBN := Lib.hid (hb.next (hB1.out.next B4.out))
          obtain ⟨K, HK⟩ : ∃ K : List UInt8, Hid (K = stepsT (p.take j) ++ (headL ⟨(a0 : Int), (b0 : Int), old, (c0 : Int), (e0 : Int), new⟩ ++ [10])) := ⟨_, Lib.hid rfl⟩
          have ATST : T0 ++ (T1 ++ (⟨#[99]⟩ : ByteArray) ++ T2 ++ (⟨#[10]⟩ : ByteArray)) = bs K := by
            rw [HK.out, ← HT0.out, ← HT1.out, ← HT2.out, add_bs, add_bs, add_bs, add_bs]
            simp only [bs_list]
            unfold headL
            rw [HWD.out]
            simp
          have HATS := Lib.hid ATST
          clear ATST
          have HBZ := Lib.hid (show K.length ≤ 70000 by rw [HK.out]; have h1 := HLEN.out j; have h2 := headL_len HX.out; simp only [List.length_append, List.length_cons, List.length_nil]; omega)
          clear y1 y2 y3 y4 k0 k1 k3 k4
          go_wp2
          go_loop [3, 46] (fun t i => ∃ q : Nat, i = .int .i64 q ∧ q ≤ m ∧ t = .string (bs (K ++ sideT [60, 32] (old.take q)))) (fun _ i => m - (intOf i).toNat)
          case atStart => exact ⟨0, rfl, by omega, congrArg Value.string (by rw [List.take_zero, sideT_nil, List.append_nil]; try exact HATS.out)⟩
          case round =>
            obtain ⟨q, rfl, hq, rfl⟩ := hrel
            by_cases hql : q < m
            · obtain ⟨bb, of, s, HSE, hss, hsz, hcs⟩ := HS1.out.at_ hql
              have hline := lineB_size (good_lines HG1.out s (List.mem_of_getElem? hss))
              obtain ⟨hline1, hline2⟩ := hline
              have HSN := Lib.hid (show bs (K ++ sideT [60, 32] (old.take q)) ++ showB (⟨#[60, 32]⟩ : ByteArray) s = bs (K ++ sideT [60, 32] (old.take (q + 1))) by
                have e : old.take (q + 1) = old.take q ++ [s] := by rw [List.take_add_one, hss]; rfl
                rw [e, sideT_snoc, add_bs, bs_list]; unfold showB; rw [bs_list, List.append_assoc])
              have HZ := Lib.hid (show (bs (K ++ sideT [60, 32] (old.take q))).size ≤ 100000 by rw [bs_size, List.length_append]; have := sideT_take (sign := [60, 32]) rfl HG1.out q; have := HBZ.out; omega)
              have HZ2 := Lib.hid (showB_size (sign := (⟨#[60, 32]⟩ : ByteArray)) (s := s) rfl hline2)
              obtain ⟨U, HU⟩ : ∃ U, Hid (bs (K ++ sideT [60, 32] (old.take q)) = U) := ⟨_, rfl⟩
              obtain ⟨V, HVV⟩ : ∃ V, Hid (showB (⟨#[60, 32]⟩ : ByteArray) s = V) := ⟨_, rfl⟩
              have yy : (9223372036854775807 < U.size + V.size) = False := eq_false (by have h1 := HZ.out; have h2 := HZ2.out; rw [HU.out] at h1; rw [HVV.out] at h2; omega)
              have HSN2 := Lib.hid (show U ++ V = bs (K ++ sideT [60, 32] (old.take (q + 1))) by rw [← HU.out, ← HVV.out]; exact HSN.out)
              rw [HU.out]
              subst HSE
              clear hss
              go_wp2_with fail
              refine (l5Shown_any (⟨#[60, 32]⟩ : ByteArray) s _ rfl hline1 hline2).mono ?_
              rintro e w9 ⟨rfl, rfl⟩
              rw [HVV.out]
              go_wp2
              go_round
              case rel => exact ⟨q + 1, by go_num, by omega, congrArg Value.string HSN2.out⟩
              case measure => simp [intOf]; omega
            · have hqe : old.take q = old := List.take_of_length_le (by have := HL1.out; omega)
              rw [hqe]
              clear hqe
              obtain ⟨K3, HK3⟩ : ∃ K3 : List UInt8, Hid (K3 = K ++ sideT [60, 32] old ++ ruleL) := ⟨_, Lib.hid rfl⟩
              have HFIN := Lib.hid (show bs (K3 ++ sideT [62, 32] new) = bs (stepsT (p.take (j + 1))) by
                rw [HK3.out, take_snoc HJ.out, stepsT_snoc, HK.out]
                have hmid : midT ⟨(a0 : Int), (b0 : Int), old, (c0 : Int), (e0 : Int), new⟩ = ruleL := by unfold midT; rw [HWD.out]; rfl
                unfold spT
                rw [hmid]
                simp)
              obtain ⟨U3, HU3⟩ : ∃ U3, Hid (bs (K ++ sideT [60, 32] old) = U3) := ⟨_, rfl⟩
              rw [HU3.out]
              have HBZ3 := Lib.hid (show K3.length ≤ 80000 by
                rw [HK3.out]; have h1 := HBZ.out; have h2 := sideT_take (sign := [60, 32]) rfl HG1.out old.length; rw [List.take_length] at h2; simp [ruleL]; omega)
              have yr : (9223372036854775807 < U3.size + 4) = False := eq_false (by rw [← HU3.out, bs_size, List.length_append]; have h1 := HBZ.out; have h2 := sideT_take (sign := [60, 32]) rfl HG1.out old.length; rw [List.take_length] at h2; omega)
              have ATST : U3 ++ (⟨#[45, 45, 45, 10]⟩ : ByteArray) = bs K3 := by
                rw [HK3.out, ← HU3.out, add_bs, bs_list]; rfl
              clear HATS
              have HATS := Lib.hid ATST
              clear ATST
              clear HBZ
              have HBZ := HBZ3
              go_wp2
              go_loop [3, 62] (fun t i => ∃ q : Nat, i = .int .i64 q ∧ q ≤ m2 ∧ t = .string (bs (K3 ++ sideT [62, 32] (new.take q)))) (fun _ i => m2 - (intOf i).toNat)
              case atStart => exact ⟨0, rfl, by omega, congrArg Value.string (by rw [List.take_zero, sideT_nil, List.append_nil]; try exact HATS.out)⟩
              case round =>
                obtain ⟨q, rfl, hq, rfl⟩ := hrel
                by_cases hql : q < m2
                · obtain ⟨bb, of, s, HSE, hss, hsz, hcs⟩ := HS2.out.at_ hql
                  have hline := lineB_size (good_lines HG2.out s (List.mem_of_getElem? hss))
                  obtain ⟨hline1, hline2⟩ := hline
                  have HSN := Lib.hid (show bs (K3 ++ sideT [62, 32] (new.take q)) ++ showB (⟨#[62, 32]⟩ : ByteArray) s = bs (K3 ++ sideT [62, 32] (new.take (q + 1))) by
                    have e : new.take (q + 1) = new.take q ++ [s] := by rw [List.take_add_one, hss]; rfl
                    rw [e, sideT_snoc, add_bs, bs_list]; unfold showB; rw [bs_list, List.append_assoc])
                  have HZ := Lib.hid (show (bs (K3 ++ sideT [62, 32] (new.take q))).size ≤ 100000 by rw [bs_size, List.length_append]; have := sideT_take (sign := [62, 32]) rfl HG2.out q; have := HBZ.out; omega)
                  have HZ2 := Lib.hid (showB_size (sign := (⟨#[62, 32]⟩ : ByteArray)) (s := s) rfl hline2)
                  obtain ⟨U, HU⟩ : ∃ U, Hid (bs (K3 ++ sideT [62, 32] (new.take q)) = U) := ⟨_, rfl⟩
                  obtain ⟨V, HVV⟩ : ∃ V, Hid (showB (⟨#[62, 32]⟩ : ByteArray) s = V) := ⟨_, rfl⟩
                  have yy : (9223372036854775807 < U.size + V.size) = False := eq_false (by have h1 := HZ.out; have h2 := HZ2.out; rw [HU.out] at h1; rw [HVV.out] at h2; omega)
                  have HSN2 := Lib.hid (show U ++ V = bs (K3 ++ sideT [62, 32] (new.take (q + 1))) by rw [← HU.out, ← HVV.out]; exact HSN.out)
                  rw [HU.out]
                  subst HSE
                  clear hss
                  go_wp2_with fail
                  refine (l5Shown_any (⟨#[62, 32]⟩ : ByteArray) s _ rfl hline1 hline2).mono ?_
                  rintro e w9 ⟨rfl, rfl⟩
                  rw [HVV.out]
                  go_wp2
                  go_round
                  case rel => exact ⟨q + 1, by go_num, by omega, congrArg Value.string HSN2.out⟩
                  case measure => simp [intOf]; omega
                · have hqe : new.take q = new := List.take_of_length_le (by have := HL2.out; omega)
                  rw [hqe]
                  clear hqe
                  go_wp2
                  go_roundw
                  case rel => exact ⟨j + 1, by go_num, by omega, congrArg Value.string HFIN.out, HBN.out⟩
                  case measure => simp [intOf]; omega
    · have htk : p.take j = p := List.take_of_length_le (by rw [HN.out]; omega)
      rw [htk]
      go_wp2
      go_ret
      exact ⟨rfl, hb⟩

end Go.Proofs.YtnnaigoomipklaaDoor
