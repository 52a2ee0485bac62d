/-
  Good orders, the model's.
-/
import Derived.Test.YtnnaigoomipklaaGreatDoorOgOLaws
import Derived.Test.YtnnaigoomipklaaGreatDoorOgOMath
import Derived.Test.YtnnaigoomipklaaGreatDoorOgGood
set_option linter.unusedSimpArgs false
set_option linter.unusedVariables false
namespace Go.Proofs.YtnnaigoomipklaaGreatDoor
open Go.RowKit Go.ChangeShapes Go.WideShapes M

theorem dot_bytes {t : ByteArray} : (t.toList == [46, 10]) = decide (t = dotA) := by
  have e : t.toList = t.data.toList := ByteArray.toList_eq t
  rw [e, Bool.eq_iff_iff]
  simp only [beq_iff_eq, decide_eq_true_eq]
  exact ⟨fun h => bytes_ext (by rw [h]; rfl), fun h => by rw [h]; rfl⟩

theorem lineO_bad {l : List ByteArray} {s : ByteArray} {k : Nat} (h : l[k]? = some s) (hb : lineO s = false) : linesO l = false := by
  unfold linesO
  rw [show l.all lineO = false by rw [List.all_eq_false]; exact ⟨s, List.mem_of_getElem? h, by simp [hb]⟩, Bool.false_and]
theorem lineO_all {l : List ByteArray} {k : Nat} (h : ∀ (j : Nat) s, j < k → l[j]? = some s → lineO s = true) (hk : l.length ≤ k) : linesO l = (decide (1 ≤ l.length) && decide (l.length ≤ 40)) := by
  unfold linesO
  rw [show l.all lineO = true by
    rw [List.all_eq_true]; intro x hx
    obtain ⟨j, hj⟩ := List.mem_iff_getElem?.1 hx
    exact h j x (by have := (List.getElem?_eq_some_iff.1 hj).1; omega) hj, Bool.true_and]

set_option maxHeartbeats 1000000 in
theorem l9Lines_any (a : Option Addr) (n c : Nat) (l : List ByteArray) (w : World) (hl : Strs w a n l) :
    Calls Tryz.prog 176 #[.slice a n c] w fun e w' => e = .returned (.bool (linesO l)) ∧ w = w' := by
  have hlim := hl.lim
  unfold maxLen at hlim
  have HL := Lib.hid hl.len
  go_enter Tryz.func176, Tryz.ntmps176
  go_wp2
  go_loop [7] (fun i => ∃ k : Nat, i = .int .i64 k ∧ k ≤ n ∧ Hid (∀ (j : Nat) s, j < k → l[j]? = some s → lineO s = true)) (fun i => n - (intOf i).toNat)
  case atStart => exact ⟨0, rfl, by omega, fun j s h => by omega⟩
  case round =>
    obtain ⟨k, rfl, hk, H⟩ := hrel
    by_cases hlt : k < n
    · obtain ⟨b, off, s, rfl, hs, hsz, hc⟩ := hl.at_ hlt
      have HS := Lib.hid hs
      clear hs
      cases h1 : lineB s
      · have H1 := Lib.hid h1
        have hf := Lib.hid (lineO_bad HS.out (show lineO s = false by simp [lineO, h1]))
        clear h1
        go_wp2_with (first | (go_at_call 144; refine (l1Line_any s _ hsz).mono ?_; rintro e w' ⟨rfl, rfl⟩; rw [H1.out]))
        go_ret
        exact ⟨ret_bool hf.out.symm, rfl⟩
      · have hp := (lineB_size h1).1
        have H1 := Lib.hid h1
        cases h2 : endsB s
        · have H2 := Lib.hid h2
          have hf := Lib.hid (lineO_bad HS.out (show lineO s = false by simp [lineO, h2]))
          clear h1 h2
          go_wp2_with (first | (go_at_call 144; refine (l1Line_any s _ hsz).mono ?_; rintro e w' ⟨rfl, rfl⟩; rw [H1.out]) | (go_at_call 135; refine (l1Ends_any s _ hsz hp).mono ?_; rintro e w' ⟨rfl, rfl⟩; rw [H2.out]))
          go_ret
          exact ⟨ret_bool hf.out.symm, rfl⟩
        · have H2 := Lib.hid h2
          cases h3 : decide (s = dotA)
          · have h4 : (s.toList == [46, 10]) = false := by rw [dot_bytes, h3]
            have hstep := Lib.hid (show lineO s = true by simp only [decide_eq_false_iff_not] at h3; simp [lineO, h1, h2, h3])
            clear h1 h2 h3
            go_wp2_with (first | (go_at_call 144; refine (l1Line_any s _ hsz).mono ?_; rintro e w' ⟨rfl, rfl⟩; rw [H1.out]) | (go_at_call 135; refine (l1Ends_any s _ hsz hp).mono ?_; rintro e w' ⟨rfl, rfl⟩; rw [H2.out]))
            go_round
            case rel =>
              refine ⟨k + 1, by go_num, by omega, fun j t hj ht => ?_⟩
              by_cases e : j = k
              · subst e; rw [HS.out] at ht; injection ht with ht; rw [← ht]; exact hstep.out
              · exact H.out j t (by omega) ht
            case measure => simp [intOf]; omega
          · have h4 : (s.toList == [46, 10]) = true := by rw [dot_bytes, h3]
            have hf := Lib.hid (lineO_bad HS.out (show lineO s = false by simp only [decide_eq_true_eq] at h3; simp [lineO, h3]))
            clear h1 h2 h3
            go_wp2_with (first | (go_at_call 144; refine (l1Line_any s _ hsz).mono ?_; rintro e w' ⟨rfl, rfl⟩; rw [H1.out]) | (go_at_call 135; refine (l1Ends_any s _ hsz hp).mono ?_; rintro e w' ⟨rfl, rfl⟩; rw [H2.out]))
            go_ret
            exact ⟨ret_bool hf.out.symm, rfl⟩
    · have hf := Lib.hid (lineO_all H.out (by rw [HL.out]; omega))
      go_wp2_with (go_at_call 175; refine (l1In_any _ _ _ _).mono ?_; rintro e w' ⟨rfl, rfl⟩)
      go_ret
      exact ⟨ret_bool (by rw [hf.out, HL.out, Bool.eq_iff_iff]; simp; omega), rfl⟩

set_option maxHeartbeats 1000000 in
theorem l9Order_any (x : Od) (A : Option Addr) (m c : Nat) (w : World) (hl : Strs w A m x.new) :
    Calls Tryz.prog 120 #[.agg #[.int .i64 x.kd, .int .i64 x.fr, .int .i64 x.to_, .slice A m c]] w fun e w' => e = .returned (.bool (orderB x)) ∧ Below w.heap.size w w' := by
  have hlim := hl.lim
  unfold maxLen at hlim
  have hb := below_alloc w (.cells #[.int .i64 x.kd, .int .i64 x.fr, .int .i64 x.to_, .slice A m c] 78)
  have HL := Lib.hid hl.len
  have HO := Lib.hid (show orderB x = ((decide (0 ≤ x.fr) && decide (x.fr ≤ 1000)) && (decide (x.fr ≤ x.to_) && decide (x.to_ ≤ 1000)) &&
    (if x.kd = 1 then decide (x.to_ = x.fr) && linesO x.new
     else if x.kd = 2 then decide (x.to_ = x.fr) && decide (1 ≤ x.fr) && linesO x.new
     else if x.kd = 3 then decide (1 ≤ x.fr) && linesO x.new
     else if x.kd = 4 then decide (1 ≤ x.fr) && decide (x.new.length = 0)
     else decide (x.kd = 5) && decide (1 ≤ x.fr) && decide (x.to_ = x.fr) && decide (x.new.length = 0))) from rfl)
  cases q1 : (decide (0 ≤ x.fr) && decide (x.fr ≤ 1000))
  · have hf := Lib.hid (show orderB x = false by rw [HO.out, q1]; rfl)
    go_enter Tryz.func120, Tryz.ntmps120
    go_wp2_with (go_at_call 175; refine (l1In_any _ _ _ _).mono ?_; rintro e w' ⟨rfl, rfl⟩; rw [q1])
    go_ret
    exact ⟨ret_bool hf.out.symm, hb⟩
  cases q2 : (decide (x.fr ≤ x.to_) && decide (x.to_ ≤ 1000))
  · have hf := Lib.hid (show orderB x = false by rw [HO.out, q1, q2]; rfl)
    go_enter Tryz.func120, Tryz.ntmps120
    go_wp2_with (go_at_call 175; refine (l1In_any _ _ _ _).mono ?_; rintro e w' ⟨rfl, rfl⟩; first | rw [q1] | rw [q2])
    go_ret
    exact ⟨ret_bool hf.out.symm, hb⟩
  have HO2 := Lib.hid (show orderB x = (if x.kd = 1 then decide (x.to_ = x.fr) && linesO x.new
     else if x.kd = 2 then decide (x.to_ = x.fr) && decide (1 ≤ x.fr) && linesO x.new
     else if x.kd = 3 then decide (1 ≤ x.fr) && linesO x.new
     else if x.kd = 4 then decide (1 ≤ x.fr) && decide (x.new.length = 0)
     else decide (x.kd = 5) && decide (1 ≤ x.fr) && decide (x.to_ = x.fr) && decide (x.new.length = 0)) by rw [HO.out, q1, q2]; rfl)
  obtain ⟨t, HT⟩ : ∃ t, Hid (decide (x.to_ = x.fr) = t) := ⟨_, rfl⟩
  obtain ⟨f, HF⟩ : ∃ f, Hid (decide (1 ≤ x.fr) = f) := ⟨_, rfl⟩
  obtain ⟨g, HG⟩ : ∃ g, Hid (linesO x.new = g) := ⟨_, rfl⟩
  have ht : (x.to_ == x.fr) = t := HT.out
  have hff : decide (1 ≤ x.fr) = f := HF.out
  by_cases k1 : x.kd = 1
  · have e1 : (x.kd == 1) = true := by simp [k1]
    have hf := Lib.hid (show orderB x = (t && g) by rw [HO2.out, if_pos k1, HT.out, HG.out])
    clear k1
    cases t <;> cases g
    all_goals
      go_enter Tryz.func120, Tryz.ntmps120
      go_wp2_with (first | (go_at_call 175; refine (l1In_any _ _ _ _).mono ?_; rintro e w' ⟨rfl, rfl⟩; first | rw [q1] | rw [q2]) | (go_at_call 176; refine (l9Lines_any A m c x.new _ (hl.below hb)).mono ?_; rintro e w' ⟨rfl, rfl⟩; rw [HG.out]))
      go_ret
      exact ⟨ret_bool hf.out.symm, hb⟩
  have e1 : (x.kd == 1) = false := by simp [k1]
  by_cases k2 : x.kd = 2
  · have e2 : (x.kd == 2) = true := by simp [k2]
    have hf := Lib.hid (show orderB x = (t && f && g) by rw [HO2.out, if_neg k1, if_pos k2, HT.out, HF.out, HG.out])
    clear k1 k2
    cases t <;> cases f <;> cases g
    all_goals
      go_enter Tryz.func120, Tryz.ntmps120
      go_wp2_with (first | (go_at_call 175; refine (l1In_any _ _ _ _).mono ?_; rintro e w' ⟨rfl, rfl⟩; first | rw [q1] | rw [q2]) | (go_at_call 176; refine (l9Lines_any A m c x.new _ (hl.below hb)).mono ?_; rintro e w' ⟨rfl, rfl⟩; rw [HG.out]))
      go_ret
      exact ⟨ret_bool hf.out.symm, hb⟩
  have e2 : (x.kd == 2) = false := by simp [k2]
  by_cases k3 : x.kd = 3
  · have e3 : (x.kd == 3) = true := by simp [k3]
    have hf := Lib.hid (show orderB x = (f && g) by rw [HO2.out, if_neg k1, if_neg k2, if_pos k3, HF.out, HG.out])
    clear k1 k2 k3
    cases f <;> cases g
    all_goals
      go_enter Tryz.func120, Tryz.ntmps120
      go_wp2_with (first | (go_at_call 175; refine (l1In_any _ _ _ _).mono ?_; rintro e w' ⟨rfl, rfl⟩; first | rw [q1] | rw [q2]) | (go_at_call 176; refine (l9Lines_any A m c x.new _ (hl.below hb)).mono ?_; rintro e w' ⟨rfl, rfl⟩; rw [HG.out]))
      go_ret
      exact ⟨ret_bool hf.out.symm, hb⟩
  have e3 : (x.kd == 3) = false := by simp [k3]
  obtain ⟨z, HZ⟩ : ∃ z, Hid (decide (x.new.length = 0) = z) := ⟨_, rfl⟩
  have hz : ((m : Int) == 0) = z := by rw [← HZ.out, HL.out, Bool.eq_iff_iff]; simp
  by_cases k4 : x.kd = 4
  · have e4 : (x.kd == 4) = true := by simp [k4]
    have hf := Lib.hid (show orderB x = (f && z) by rw [HO2.out, if_neg k1, if_neg k2, if_neg k3, if_pos k4, HF.out, HZ.out])
    clear k1 k2 k3 k4
    cases f <;> cases z
    all_goals
      go_enter Tryz.func120, Tryz.ntmps120
      go_wp2_with (first | (go_at_call 175; refine (l1In_any _ _ _ _).mono ?_; rintro e w' ⟨rfl, rfl⟩; first | rw [q1] | rw [q2]))
      go_ret
      exact ⟨ret_bool hf.out.symm, hb⟩
  have e4 : (x.kd == 4) = false := by simp [k4]
  obtain ⟨v, HV⟩ : ∃ v, Hid (decide (x.kd = 5) = v) := ⟨_, rfl⟩
  have e5 : (x.kd == 5) = v := HV.out
  have hf := Lib.hid (show orderB x = (v && f && t && z) by rw [HO2.out, if_neg k1, if_neg k2, if_neg k3, if_neg k4, HV.out, HF.out, HT.out, HZ.out])
  clear k1 k2 k3 k4
  cases v <;> cases f <;> cases t <;> cases z
  all_goals
    go_enter Tryz.func120, Tryz.ntmps120
    go_wp2_with (first | (go_at_call 175; refine (l1In_any _ _ _ _).mono ?_; rintro e w' ⟨rfl, rfl⟩; first | rw [q1] | rw [q2]))
    go_ret
    exact ⟨ret_bool hf.out.symm, hb⟩

set_option maxHeartbeats 1000000 in
theorem l9Good_any (a : Option Addr) (n c : Nat) (l : List Od) (w : World) (hl : Ods w a n l) :
    Calls Tryz.prog 63 #[.slice a n c] w fun e w' => e = .returned (.bool (ordersB l)) ∧ Below w.heap.size w w' := by
  have hlim := hl.lim
  unfold maxLen at hlim
  have HL := Lib.hid hl.len
  go_enter Tryz.func63, Tryz.ntmps63
  go_wp2
  go_loopw [7] (fun i w' => ∃ k : Nat, i = .int .i64 k ∧ k ≤ n ∧ Hid (∀ (j : Nat) x, j < k → l[j]? = some x → orderB x = true) ∧ Below w.heap.size w w') (fun i _ => n - (intOf i).toNat)
  case atStart => exact ⟨0, rfl, by omega, fun j s h => by omega, Below.refl _ _⟩
  case round =>
    obtain ⟨k, rfl, hk, H, hb⟩ := hrel
    by_cases hlt : k < n
    · obtain ⟨b, off, A, m, c', x, rfl, hx, c0, c1, c2, c3, hs, hmc, hok⟩ := (hl.below hb).at_ hlt
      have HX := Lib.hid hx
      have hb1 := below_alloc wr (.cells #[.int .i64 x.kd, .int .i64 x.fr, .int .i64 x.to_, .slice A m c'] 78)
      clear hx
      go_wp2_with fail
      refine (l9Order_any x A m c' _ (hs.below hb1)).mono ?_
      rintro e w2 ⟨rfl, b2⟩
      have hb2 := (hb.next hb1).next b2
      cases hq : orderB x
      · have hf := Lib.hid (show ordersB l = false by
          unfold ordersB
          rw [show l.all orderB = false by rw [List.all_eq_false]; exact ⟨x, List.mem_of_getElem? HX.out, by simp [hq]⟩, Bool.false_and])
        go_wp2
        go_ret
        exact ⟨ret_bool hf.out.symm, hb2⟩
      · have HQ := Lib.hid hq
        go_wp2
        go_roundw
        case rel =>
          refine ⟨k + 1, by go_num, by omega, fun j y hj hy => ?_, hb2⟩
          by_cases e : j = k
          · subst e; rw [HX.out] at hy; injection hy with hy; rw [← hy]; exact HQ.out
          · exact H.out j y (by omega) hy
        case measure => simp [intOf]; omega
    · have hf := Lib.hid (show ordersB l = decide (n ≤ 60) by
        unfold ordersB
        rw [show l.all orderB = true by
          rw [List.all_eq_true]; intro x hx
          obtain ⟨j, hj⟩ := List.mem_iff_getElem?.1 hx
          exact H.out j x (by have := (List.getElem?_eq_some_iff.1 hj).1; have := HL.out; omega) hj, Bool.true_and, HL.out])
      go_wp2
      go_ret
      exact ⟨ret_bool (by rw [hf.out]; simp; omega), hb⟩

end Go.Proofs.YtnnaigoomipklaaGreatDoor
