/-
  Orders run, the model's.
-/
import Derived.Test.YtnnaigoomipklaaGreatDoorOiODoS
set_option linter.unusedSimpArgs false
set_option linter.unusedVariables false
namespace Go.Proofs.YtnnaigoomipklaaGreatDoor.M
open Go

theorem runO_bad {l : List ByteArray} {p : List Od} {c : Int} (h : runsO (startO l) p = ([], c)) (hc : c ≠ 0) : runO l p = ([], c) := by
  unfold runO
  rw [h]
  simp only []
  rw [if_neg hc]
theorem runO_good {l : List ByteArray} {p : List Od} {r : List ByteArray} (h : runsO (startO l) p = (r, 0)) (hg : goodB r = true) : runO l p = (r, 0) := by
  unfold runO
  rw [h]
  simp only [if_true]
  rw [if_pos hg]
theorem runO_other {l : List ByteArray} {p : List Od} {r : List ByteArray} (h : runsO (startO l) p = (r, 0)) (hg : goodB r = false) : runO l p = ([], 2) := by
  unfold runO
  rw [h]
  simp only [if_true]
  rw [if_neg (by rw [hg]; simp)]
theorem doO_code (l : List ByteArray) (x : Od) : (doO l x).2 = 0 ∨ (doO l x).2 = 2 ∨ (doO l x).2 = 3 := by
  unfold doO
  split
  · simp
  · split
    · cases (l[(x.fr - 1).toNat]?).bind fixS <;> simp
    · simp
theorem runsO_code : ∀ (p : List Od) (l : List ByteArray), (runsO l p).2 = 0 ∨ 0 < (runsO l p).2
  | [], l => .inl rfl
  | x :: p, l => by
    unfold runsO
    split
    · exact runsO_code p _
    · rename_i h
      have := doO_code l x
      refine .inr ?_
      show 0 < (doO l x).2
      omega
theorem runO_code (l : List ByteArray) (p : List Od) : (runO l p).2 = 0 ∨ 0 < (runO l p).2 := by
  have h := runsO_code p (startO l)
  unfold runO
  split
  · split
    · exact .inl rfl
    · exact .inr (by decide)
  · rename_i h1
    refine .inr ?_
    show 0 < (runsO (startO l) p).2
    omega

end Go.Proofs.YtnnaigoomipklaaGreatDoor.M

namespace Go.Proofs.YtnnaigoomipklaaGreatDoor
open Go.RowKit Go.ChangeShapes Go.WideShapes M

set_option maxHeartbeats 4000000 in
set_option maxRecDepth 100000 in
theorem l9Run_any (a : Option Addr) (n c : Nat) (l : List ByteArray) (b : Option Addr) (m d : Nat) (p : List Od) (w : World) (hl : Strs w a n l) (hg : goodB l = true) (hp : Ods w b m p) (hgp : ordersB p = true) :
    Calls Tryz.prog 85 #[.slice a n c, .slice b m d] w fun e w' => ∃ v, e = .returned (.tuple #[v, .int .i64 (runO l p).2]) ∧ OwnV w' w.heap.size v (runO l p).1 ∧ Below w.heap.size w w' := by
  have HL := Lib.hid hl.len
  have HM := Lib.hid hp.len
  have hn40 : n ≤ 40 := by rw [← HL.out]; exact goodB_len hg
  have hm60 : m ≤ 60 := by rw [← HM.out]; exact (orders_all hgp).2
  have HALL := Lib.hid (fun x hx => List.all_eq_true.1 (orders_all hgp).1 x hx)
  have HST := Lib.hid (startO_ends hg)
  have HG := Lib.hid hg
  have HGAT := Lib.hid (fun j s hj => goodB_at hg (j := j) (s := s) hj)
  clear hg hgp
  go_enter Tryz.func85, Tryz.ntmps85
  go_wp2_with fail
  refine (l1OwnT_any a n c l _ hl (by omega)).mono ?_
  rintro e w1 ⟨v0, rfl, o1, b1⟩
  obtain ⟨A0, c0, rfl, h01, h02⟩ := o1.form HL.out
  have HB1 := Lib.hid b1
  have HO1 := Lib.hid o1
  clear o1 b1
  by_cases h0 : n = 0
  · have hz : l = [] := List.eq_nil_of_length_eq_zero (by rw [HL.out]; exact h0)
    have HSE := Lib.hid (show startO l = l from startO_whole (by rw [hz]; rfl))
    have HOS := Lib.hid (show OwnV w1 w.heap.size (.slice A0 n c0) (startO l) by rw [HSE.out]; exact HO1.out)
    have HBS := Lib.hid HB1.out
    have hp0 : decide ((0 : Int) < (n : Int)) = false := by simp; omega
    have hp1 : decide (0 < n) = false := by simp; omega
    clear hz
    subst h0
    go_wp2
    go_loopw [6, 36] (fun ov i w' => ∃ (j : Nat) (v : Value) (cur : List ByteArray), i = .int .i64 j ∧ v = ov ∧ j ≤ m ∧ OwnV w' w.heap.size v cur ∧ Hid (runsO (startO l) (p.take j) = (cur, 0)) ∧ Hid (∀ s ∈ cur, endsB s = true) ∧ Hid (cur.length ≤ 40 + 40 * j) ∧ Below w.heap.size w w') (fun _ i _ => m - (intOf i).toNat)
    case atStart => exact ⟨0, _, startO l, rfl, rfl, by omega, HOS.out, Lib.hid (by rw [List.take_zero]; rfl), Lib.hid HST.out.1, Lib.hid (by rw [HST.out.2.2, HL.out]; omega), HBS.out⟩
    case round =>
      obtain ⟨j, v, cur, rfl, rfl, hj, ho, HR, HEN, HLN, hb⟩ := hrel
      obtain ⟨q, HQ⟩ : ∃ q, Hid (cur.length = q) := ⟨_, rfl⟩
      obtain ⟨Aq, cq, rfl, hq1, hq2⟩ := ho.form HQ.out
      have hqs : q ≤ 100000 := by have := HLN.out; have := HQ.out; omega
      have HO := Lib.hid ho
      have HB := Lib.hid hb
      clear ho hb
      by_cases hlt : j < m
      · obtain ⟨bb, of, A, mm, cm, x, rfl, hx, d0, d1, d2, d3, hs, hmc, hok⟩ := (hp.below HB.out).at_ hlt
        have HX := Lib.hid hx
        have HXB := Lib.hid (HALL.out x (List.mem_of_getElem? hx))
        obtain ⟨W1, HW1⟩ : ∃ W1, Hid (W1 = wr.alloc (.cells #[.int .i64 x.kd, .int .i64 x.fr, .int .i64 x.to_, .slice A mm cm] 78)) := ⟨_, rfl⟩
        have HBW := Lib.hid (show Below wr.heap.size wr W1 by rw [HW1.out]; exact below_alloc _ _)
        have HSX := Lib.hid (hs.below HBW.out)
        have HO1 := Lib.hid (HO.out.below HBW.out)
        obtain ⟨cc, HCC⟩ : ∃ cc : Int, Hid ((doO cur x).2 = cc) := ⟨_, rfl⟩
        obtain ⟨nx, HNX⟩ : ∃ nx, Hid ((doO cur x).1 = nx) := ⟨_, rfl⟩
        have HC3 := Lib.hid (doO_code cur x)
        clear hx hok hs
        go_wp2_with fail
        rw [← HW1.out]
        refine (l9Do_any Aq q cq cur x A mm cm _ HO1.out.strs hq1 hqs HEN.out HXB.out HSX.out hmc).mono ?_
        rintro e w3 ⟨v3, rfl, o3, b3⟩
        rw [HCC.out]
        rw [HNX.out] at o3
        have HB3 := Lib.hid ((HB.out.next HBW.out).next b3)
        have HO3 := Lib.hid (o3.more (show w.heap.size ≤ W1.heap.size from Nat.le_trans HB.out.size HBW.out.size))
        clear o3 b3
        by_cases hc0 : cc = 0
        · have hgt : decide ((0 : Int) < cc) = false := by simp [hc0]
          have HRN := Lib.hid (show runsO (startO l) (p.take (j + 1)) = (nx, 0) by
            have h1 := runsO_take_succ HX.out (startO l) (by rw [HR.out])
            rw [HR.out] at h1
            simp only [] at h1
            rw [if_pos (by rw [HCC.out]; exact hc0), HNX.out] at h1
            exact h1)
          have HEN2 := Lib.hid (show ∀ s ∈ nx, endsB s = true by rw [← HNX.out]; exact doO_ends HXB.out HEN.out)
          have HLN2 := Lib.hid (show nx.length ≤ 40 + 40 * (j + 1) by rw [← HNX.out]; have h1 := doO_len (l := cur) HXB.out; have h2 := HLN.out; omega)
          subst hc0
          obtain ⟨q3, HQ3⟩ : ∃ q, Hid (nx.length = q) := ⟨_, rfl⟩
          obtain ⟨A3, c3, rfl, h31, h32⟩ := HO3.out.form HQ3.out
          go_wp2
          go_roundw
          case rel => exact ⟨j + 1, _, nx, by go_num, rfl, by omega, HO3.out, HRN, HEN2, HLN2, HB3.out⟩
          case measure => simp [intOf]; omega
        · have hgt : decide ((0 : Int) < cc) = true := by have := HC3.out; rw [HCC.out] at this; simp; omega
          have HRF := Lib.hid (show runO l p = ([], cc) by
            have h1 := runsO_bad HX.out (startO l) (by rw [HR.out]) (by rw [HR.out]; show (doO cur x).2 ≠ 0; rw [HCC.out]; exact hc0)
            rw [HR.out] at h1
            refine runO_bad ?_ hc0
            rw [h1]
            show ([], (doO cur x).2) = _
            rw [HCC.out])
          clear hc0
          go_wp2
          go_ret2
          exact ⟨_, by rw [HRF.out]; rfl, by rw [HRF.out]; exact OwnV.nil_, HB3.out⟩
      · have HRA := Lib.hid (show runsO (startO l) p = (cur, 0) by
          have := HR.out
          rwa [List.take_of_length_le (by rw [HM.out]; omega)] at this)
        cases hgd : goodB cur
        · have HGD := Lib.hid hgd
          have HRF := Lib.hid (runO_other HRA.out hgd)
          clear hgd
          go_wp2_with fail
          refine (l1Good_any Aq q cq cur _ HO.out.strs).mono ?_
          rintro e w3 ⟨rfl, rfl⟩
          rw [HGD.out]
          go_wp2
          go_ret2
          exact ⟨_, by rw [HRF.out]; rfl, by rw [HRF.out]; exact OwnV.nil_, HB.out⟩
        · have HGD := Lib.hid hgd
          have HRF := Lib.hid (runO_good HRA.out hgd)
          clear hgd
          go_wp2_with fail
          refine (l1Good_any Aq q cq cur _ HO.out.strs).mono ?_
          rintro e w3 ⟨rfl, rfl⟩
          rw [HGD.out]
          go_wp2
          go_ret2
          exact ⟨_, by rw [HRF.out]; rfl, by rw [HRF.out]; exact HO.out, HB.out⟩
  · have hp0 : decide ((0 : Int) < (n : Int)) = true := by simp; omega
    have hp1 : decide (0 < n) = true := by simp; omega
    have hp2 : (0 : Int) < (n : Int) := by omega
    have hp3 : 0 < n := by omega
    obtain ⟨K, HK⟩ : ∃ K, Hid (n = K + 1) := ⟨n - 1, Lib.hid (by omega)⟩
    have hKn : K < n := by have := HK.out; omega
    have hw : IntKind.i64.wrap ((n : Int) - 1) = (K : Int) := by rw [IntKind.wrap_i64]; have := HK.out; omega
    have hk0 : (0 : Int) ≤ (K : Int) := by omega
    have hk1 : (K : Int) < (n : Int) := by omega
    obtain ⟨g, hgA, hg0, hg1, ⟨u0, hu0⟩, hfz, hats⟩ := HO1.out.at_ hKn
    obtain ⟨g', of, s, hgA2, hss, hsm, hsc⟩ := HO1.out.strs.at_ hKn
    rw [hgA] at hgA2
    injection hgA2 with hgA2
    injection hgA2 with e1 e2
    subst e1 e2
    subst hgA
    rw [Nat.zero_add] at hsc
    have HSS := Lib.hid hss
    have HLS := Lib.hid (lineB_size (HGAT.out K s hss).1)
    have hs30 : s.size ≤ 30 := HLS.out.2
    have hs1 : 0 < s.size := HLS.out.1
    have HKE := Lib.hid (show l[n - 1]? = some s by have := HK.out; rw [show n - 1 = K by omega]; exact hss)
    clear hu0 hss hsm
    cases hes : endsB s
    · have HES := Lib.hid hes
      have HSE := Lib.hid (show startO l = l.set K (s ++ (⟨#[10]⟩ : ByteArray)) by
        have := startO_set HL.out hp3 HKE.out hes
        rw [this, show n - 1 = K by have := HK.out; omega]
        rfl)
      have hup := hats (s ++ (⟨#[10]⟩ : ByteArray)) (by rw [ByteArray.size_append]; show s.size + 1 ≤ maxLen; unfold maxLen; omega)
      have HOS := Lib.hid (show OwnV (w1.setCell ⟨g, K, none⟩ (.string (s ++ (⟨#[10]⟩ : ByteArray)))) w.heap.size (.slice (some ⟨g, 0, none⟩) n c0) (startO l) by rw [HSE.out]; exact hup.1)
      have HBS := Lib.hid (show Below w.heap.size w (w1.setCell ⟨g, K, none⟩ (.string (s ++ (⟨#[10]⟩ : ByteArray)))) from HB1.out.setCell hg0 _)
      have hyy : (9223372036854775807 < s.size + 1) = False := eq_false (by omega)
      clear hes hats hup
      go_wp2_with (first
        | (go_at_call 135; refine (l1Ends_any s _ (by unfold maxLen; omega) hs1).mono ?_; rintro e w' ⟨rfl, rfl⟩; rw [HES.out])
        | fail)
      go_loopw [6, 36] (fun ov i w' => ∃ (j : Nat) (v : Value) (cur : List ByteArray), i = .int .i64 j ∧ v = ov ∧ j ≤ m ∧ OwnV w' w.heap.size v cur ∧ Hid (runsO (startO l) (p.take j) = (cur, 0)) ∧ Hid (∀ s ∈ cur, endsB s = true) ∧ Hid (cur.length ≤ 40 + 40 * j) ∧ Below w.heap.size w w') (fun _ i _ => m - (intOf i).toNat)
      case atStart => exact ⟨0, _, startO l, rfl, rfl, by omega, HOS.out, Lib.hid (by rw [List.take_zero]; rfl), Lib.hid HST.out.1, Lib.hid (by rw [HST.out.2.2, HL.out]; omega), HBS.out⟩
      case round =>
        obtain ⟨j, v, cur, rfl, rfl, hj, ho, HR, HEN, HLN, hb⟩ := hrel
        obtain ⟨q, HQ⟩ : ∃ q, Hid (cur.length = q) := ⟨_, rfl⟩
        obtain ⟨Aq, cq, rfl, hq1, hq2⟩ := ho.form HQ.out
        have hqs : q ≤ 100000 := by have := HLN.out; have := HQ.out; omega
        have HO := Lib.hid ho
        have HB := Lib.hid hb
        clear ho hb
        by_cases hlt : j < m
        · obtain ⟨bb, of, A, mm, cm, x, rfl, hx, d0, d1, d2, d3, hs, hmc, hok⟩ := (hp.below HB.out).at_ hlt
          have HX := Lib.hid hx
          have HXB := Lib.hid (HALL.out x (List.mem_of_getElem? hx))
          obtain ⟨W1, HW1⟩ : ∃ W1, Hid (W1 = wr.alloc (.cells #[.int .i64 x.kd, .int .i64 x.fr, .int .i64 x.to_, .slice A mm cm] 78)) := ⟨_, rfl⟩
          have HBW := Lib.hid (show Below wr.heap.size wr W1 by rw [HW1.out]; exact below_alloc _ _)
          have HSX := Lib.hid (hs.below HBW.out)
          have HO1 := Lib.hid (HO.out.below HBW.out)
          obtain ⟨cc, HCC⟩ : ∃ cc : Int, Hid ((doO cur x).2 = cc) := ⟨_, rfl⟩
          obtain ⟨nx, HNX⟩ : ∃ nx, Hid ((doO cur x).1 = nx) := ⟨_, rfl⟩
          have HC3 := Lib.hid (doO_code cur x)
          clear hx hok hs
          go_wp2_with fail
          rw [← HW1.out]
          refine (l9Do_any Aq q cq cur x A mm cm _ HO1.out.strs hq1 hqs HEN.out HXB.out HSX.out hmc).mono ?_
          rintro e w3 ⟨v3, rfl, o3, b3⟩
          rw [HCC.out]
          rw [HNX.out] at o3
          have HB3 := Lib.hid ((HB.out.next HBW.out).next b3)
          have HO3 := Lib.hid (o3.more (show w.heap.size ≤ W1.heap.size from Nat.le_trans HB.out.size HBW.out.size))
          clear o3 b3
          by_cases hc0 : cc = 0
          · have hgt : decide ((0 : Int) < cc) = false := by simp [hc0]
            have HRN := Lib.hid (show runsO (startO l) (p.take (j + 1)) = (nx, 0) by
              have h1 := runsO_take_succ HX.out (startO l) (by rw [HR.out])
              rw [HR.out] at h1
              simp only [] at h1
              rw [if_pos (by rw [HCC.out]; exact hc0), HNX.out] at h1
              exact h1)
            have HEN2 := Lib.hid (show ∀ s ∈ nx, endsB s = true by rw [← HNX.out]; exact doO_ends HXB.out HEN.out)
            have HLN2 := Lib.hid (show nx.length ≤ 40 + 40 * (j + 1) by rw [← HNX.out]; have h1 := doO_len (l := cur) HXB.out; have h2 := HLN.out; omega)
            subst hc0
            obtain ⟨q3, HQ3⟩ : ∃ q, Hid (nx.length = q) := ⟨_, rfl⟩
            obtain ⟨A3, c3, rfl, h31, h32⟩ := HO3.out.form HQ3.out
            go_wp2
            go_roundw
            case rel => exact ⟨j + 1, _, nx, by go_num, rfl, by omega, HO3.out, HRN, HEN2, HLN2, HB3.out⟩
            case measure => simp [intOf]; omega
          · have hgt : decide ((0 : Int) < cc) = true := by have := HC3.out; rw [HCC.out] at this; simp; omega
            have HRF := Lib.hid (show runO l p = ([], cc) by
              have h1 := runsO_bad HX.out (startO l) (by rw [HR.out]) (by rw [HR.out]; show (doO cur x).2 ≠ 0; rw [HCC.out]; exact hc0)
              rw [HR.out] at h1
              refine runO_bad ?_ hc0
              rw [h1]
              show ([], (doO cur x).2) = _
              rw [HCC.out])
            clear hc0
            go_wp2
            go_ret2
            exact ⟨_, by rw [HRF.out]; rfl, by rw [HRF.out]; exact OwnV.nil_, HB3.out⟩
        · have HRA := Lib.hid (show runsO (startO l) p = (cur, 0) by
            have := HR.out
            rwa [List.take_of_length_le (by rw [HM.out]; omega)] at this)
          cases hgd : goodB cur
          · have HGD := Lib.hid hgd
            have HRF := Lib.hid (runO_other HRA.out hgd)
            clear hgd
            go_wp2_with fail
            refine (l1Good_any Aq q cq cur _ HO.out.strs).mono ?_
            rintro e w3 ⟨rfl, rfl⟩
            rw [HGD.out]
            go_wp2
            go_ret2
            exact ⟨_, by rw [HRF.out]; rfl, by rw [HRF.out]; exact OwnV.nil_, HB.out⟩
          · have HGD := Lib.hid hgd
            have HRF := Lib.hid (runO_good HRA.out hgd)
            clear hgd
            go_wp2_with fail
            refine (l1Good_any Aq q cq cur _ HO.out.strs).mono ?_
            rintro e w3 ⟨rfl, rfl⟩
            rw [HGD.out]
            go_wp2
            go_ret2
            exact ⟨_, by rw [HRF.out]; rfl, by rw [HRF.out]; exact HO.out, HB.out⟩
    · have HES := Lib.hid hes
      have HSE := Lib.hid (show startO l = l from startO_whole (by rw [wholeB_last HL.out hp3 HKE.out]; exact hes))
      have HOS := Lib.hid (show OwnV w1 w.heap.size (.slice (some ⟨g, 0, none⟩) n c0) (startO l) by rw [HSE.out]; exact HO1.out)
      have HBS := Lib.hid HB1.out
      clear hes hats
      go_wp2_with (first
        | (go_at_call 135; refine (l1Ends_any s _ (by unfold maxLen; omega) hs1).mono ?_; rintro e w' ⟨rfl, rfl⟩; rw [HES.out])
        | fail)
      go_loopw [6, 36] (fun ov i w' => ∃ (j : Nat) (v : Value) (cur : List ByteArray), i = .int .i64 j ∧ v = ov ∧ j ≤ m ∧ OwnV w' w.heap.size v cur ∧ Hid (runsO (startO l) (p.take j) = (cur, 0)) ∧ Hid (∀ s ∈ cur, endsB s = true) ∧ Hid (cur.length ≤ 40 + 40 * j) ∧ Below w.heap.size w w') (fun _ i _ => m - (intOf i).toNat)
      case atStart => exact ⟨0, _, startO l, rfl, rfl, by omega, HOS.out, Lib.hid (by rw [List.take_zero]; rfl), Lib.hid HST.out.1, Lib.hid (by rw [HST.out.2.2, HL.out]; omega), HBS.out⟩
      case round =>
        obtain ⟨j, v, cur, rfl, rfl, hj, ho, HR, HEN, HLN, hb⟩ := hrel
        obtain ⟨q, HQ⟩ : ∃ q, Hid (cur.length = q) := ⟨_, rfl⟩
        obtain ⟨Aq, cq, rfl, hq1, hq2⟩ := ho.form HQ.out
        have hqs : q ≤ 100000 := by have := HLN.out; have := HQ.out; omega
        have HO := Lib.hid ho
        have HB := Lib.hid hb
        clear ho hb
        by_cases hlt : j < m
        · obtain ⟨bb, of, A, mm, cm, x, rfl, hx, d0, d1, d2, d3, hs, hmc, hok⟩ := (hp.below HB.out).at_ hlt
          have HX := Lib.hid hx
          have HXB := Lib.hid (HALL.out x (List.mem_of_getElem? hx))
          obtain ⟨W1, HW1⟩ : ∃ W1, Hid (W1 = wr.alloc (.cells #[.int .i64 x.kd, .int .i64 x.fr, .int .i64 x.to_, .slice A mm cm] 78)) := ⟨_, rfl⟩
          have HBW := Lib.hid (show Below wr.heap.size wr W1 by rw [HW1.out]; exact below_alloc _ _)
          have HSX := Lib.hid (hs.below HBW.out)
          have HO1 := Lib.hid (HO.out.below HBW.out)
          obtain ⟨cc, HCC⟩ : ∃ cc : Int, Hid ((doO cur x).2 = cc) := ⟨_, rfl⟩
          obtain ⟨nx, HNX⟩ : ∃ nx, Hid ((doO cur x).1 = nx) := ⟨_, rfl⟩
          have HC3 := Lib.hid (doO_code cur x)
          clear hx hok hs
          go_wp2_with fail
          rw [← HW1.out]
          refine (l9Do_any Aq q cq cur x A mm cm _ HO1.out.strs hq1 hqs HEN.out HXB.out HSX.out hmc).mono ?_
          rintro e w3 ⟨v3, rfl, o3, b3⟩
          rw [HCC.out]
          rw [HNX.out] at o3
          have HB3 := Lib.hid ((HB.out.next HBW.out).next b3)
          have HO3 := Lib.hid (o3.more (show w.heap.size ≤ W1.heap.size from Nat.le_trans HB.out.size HBW.out.size))
          clear o3 b3
          by_cases hc0 : cc = 0
          · have hgt : decide ((0 : Int) < cc) = false := by simp [hc0]
            have HRN := Lib.hid (show runsO (startO l) (p.take (j + 1)) = (nx, 0) by
              have h1 := runsO_take_succ HX.out (startO l) (by rw [HR.out])
              rw [HR.out] at h1
              simp only [] at h1
              rw [if_pos (by rw [HCC.out]; exact hc0), HNX.out] at h1
              exact h1)
            have HEN2 := Lib.hid (show ∀ s ∈ nx, endsB s = true by rw [← HNX.out]; exact doO_ends HXB.out HEN.out)
            have HLN2 := Lib.hid (show nx.length ≤ 40 + 40 * (j + 1) by rw [← HNX.out]; have h1 := doO_len (l := cur) HXB.out; have h2 := HLN.out; omega)
            subst hc0
            obtain ⟨q3, HQ3⟩ : ∃ q, Hid (nx.length = q) := ⟨_, rfl⟩
            obtain ⟨A3, c3, rfl, h31, h32⟩ := HO3.out.form HQ3.out
            go_wp2
            go_roundw
            case rel => exact ⟨j + 1, _, nx, by go_num, rfl, by omega, HO3.out, HRN, HEN2, HLN2, HB3.out⟩
            case measure => simp [intOf]; omega
          · have hgt : decide ((0 : Int) < cc) = true := by have := HC3.out; rw [HCC.out] at this; simp; omega
            have HRF := Lib.hid (show runO l p = ([], cc) by
              have h1 := runsO_bad HX.out (startO l) (by rw [HR.out]) (by rw [HR.out]; show (doO cur x).2 ≠ 0; rw [HCC.out]; exact hc0)
              rw [HR.out] at h1
              refine runO_bad ?_ hc0
              rw [h1]
              show ([], (doO cur x).2) = _
              rw [HCC.out])
            clear hc0
            go_wp2
            go_ret2
            exact ⟨_, by rw [HRF.out]; rfl, by rw [HRF.out]; exact OwnV.nil_, HB3.out⟩
        · have HRA := Lib.hid (show runsO (startO l) p = (cur, 0) by
            have := HR.out
            rwa [List.take_of_length_le (by rw [HM.out]; omega)] at this)
          cases hgd : goodB cur
          · have HGD := Lib.hid hgd
            have HRF := Lib.hid (runO_other HRA.out hgd)
            clear hgd
            go_wp2_with fail
            refine (l1Good_any Aq q cq cur _ HO.out.strs).mono ?_
            rintro e w3 ⟨rfl, rfl⟩
            rw [HGD.out]
            go_wp2
            go_ret2
            exact ⟨_, by rw [HRF.out]; rfl, by rw [HRF.out]; exact OwnV.nil_, HB.out⟩
          · have HGD := Lib.hid hgd
            have HRF := Lib.hid (runO_good HRA.out hgd)
            clear hgd
            go_wp2_with fail
            refine (l1Good_any Aq q cq cur _ HO.out.strs).mono ?_
            rintro e w3 ⟨rfl, rfl⟩
            rw [HGD.out]
            go_wp2
            go_ret2
            exact ⟨_, by rw [HRF.out]; rfl, by rw [HRF.out]; exact HO.out, HB.out⟩

set_option maxHeartbeats 1000000 in
theorem specRunOrders_any (a : Option Addr) (n c : Nat) (l : List ByteArray) (b : Option Addr) (m d : Nat) (p : List Od) (w : World) (hl : Strs w a n l) (hp : Ods w b m p) :
    Calls Tryz.prog 28 #[.slice a n c, .slice b m d] w fun e w' => ∃ v, e = .returned (.tuple #[v, .int .i64 (runOrders l p).2.1, .bool (runOrders l p).2.2]) ∧ OwnV w' w.heap.size v (runOrders l p).1 ∧ Below w.heap.size w w' := by
  cases hg : goodB l
  · have HG := Lib.hid hg
    have hf := Lib.hid (show runOrders l p = ([], 0, false) from if_neg (by rw [hg]; simp))
    clear hg
    go_enter Tryz.func28, Tryz.ntmps28
    go_wp2_with fail
    refine (l1Good_any a n c l _ hl).mono ?_
    rintro e w1 ⟨rfl, rfl⟩
    rw [HG.out]
    go_wp2
    go_ret3
    exact ⟨_, by rw [hf.out]; rfl, by rw [hf.out]; exact OwnV.nil_, Below.refl _ _⟩
  · have HG := Lib.hid hg
    cases hgp : ordersB p
    · have HGP := Lib.hid hgp
      have hf := Lib.hid (show runOrders l p = ([], 0, false) from if_neg (by rw [hgp]; simp))
      clear hg hgp
      go_enter Tryz.func28, Tryz.ntmps28
      go_wp2_with fail
      refine (l1Good_any a n c l _ hl).mono ?_
      rintro e w1 ⟨rfl, rfl⟩
      rw [HG.out]
      go_wp2_with fail
      refine (l9Good_any b m d p _ hp).mono ?_
      rintro e w2 ⟨rfl, b2⟩
      rw [HGP.out]
      go_wp2
      go_ret3
      exact ⟨_, by rw [hf.out]; rfl, by rw [hf.out]; exact OwnV.nil_, b2⟩
    · have HGP := Lib.hid hgp
      have hf := Lib.hid (show runOrders l p = ((runO l p).1, (runO l p).2, true) from if_pos ⟨hg, hgp⟩)
      clear hg hgp
      go_enter Tryz.func28, Tryz.ntmps28
      go_wp2_with fail
      refine (l1Good_any a n c l _ hl).mono ?_
      rintro e w1 ⟨rfl, rfl⟩
      rw [HG.out]
      go_wp2_with fail
      refine (l9Good_any b m d p _ hp).mono ?_
      rintro e w2 ⟨rfl, b2⟩
      rw [HGP.out]
      go_wp2_with fail
      refine (l9Run_any a n c l b m d p _ (hl.below b2) HG.out (hp.below b2) HGP.out).mono ?_
      rintro e w3 ⟨v, rfl, o3, b3⟩
      have HO3 := Lib.hid (o3.more b2.size)
      have HB3 := Lib.hid (b2.next b3)
      obtain ⟨q, HQ⟩ : ∃ q, Hid ((runO l p).1.length = q) := ⟨_, rfl⟩
      obtain ⟨Aq, cq, rfl, hq1, hq2⟩ := o3.form HQ.out
      clear o3 b2 b3
      go_wp2
      go_ret3
      exact ⟨_, by rw [hf.out]; rfl, by rw [hf.out]; exact HO3.out, HB3.out⟩

end Go.Proofs.YtnnaigoomipklaaGreatDoor
