/-
  The rest of what the program does about differences.
-/
import Derived.Test.YtdejlepgihgfgaaDComI
import Derived.Test.YtdejlepgihgfgaaHCount
import Derived.Test.YtdejlepgihgfgaaHJoinI
set_option linter.unusedSimpArgs false
set_option linter.unusedVariables false
namespace Go.Proofs.Ytdejlepgihgfgaa
open Go.RowKit M

theorem common_lines (a b : List ByteArray) : commonOf a b = (((linesC a b).1.length : Int), (linesC a b).2) := by
  unfold commonOf linesC
  split
  · rw [pairs_count]
  · rfl
theorem linesC_len (a b : List ByteArray) : (linesC a b).1.length ≤ 40 := by
  unfold linesC
  split
  · next h =>
    have h1 := goodB_len (bothB_parts h).1
    have h2 := lcs_le_left a b
    dsimp only
    rw [pairs_count]
    omega
  · simp
theorem bothB_ok (a b : List ByteArray) : (linesC a b).2 = bothB a b := by unfold linesC; cases bothB a b <;> rfl

set_option maxHeartbeats 1000000 in
theorem implCommon_any (aA : Option Addr) (na ca : Nat) (la : List ByteArray) (bA : Option Addr) (nb cb : Nat) (lb : List ByteArray) (w : World) (ha : Strs w aA na la) (hbS : Strs w bA nb lb) :
    Calls Try.prog 25 #[.slice aA na ca, .slice bA nb cb] w fun e w' => e = .returned (.tuple #[.int .i64 (commonOf la lb).1, .bool (commonOf la lb).2]) ∧ Below w.heap.size w w' := by
  have hc := Lib.hid (common_lines la lb)
  go_enter Try.func25, Try.ntmps25
  go_wp2_with fail
  refine (implCommonLines_any aA na ca la bA nb cb lb _ ha hbS).mono ?_
  rintro e w1 ⟨v, gs, rfl, o1, b1⟩
  obtain ⟨q, Hq⟩ : ∃ q, Hid ((linesC la lb).1.length = q) := ⟨_, rfl⟩
  obtain ⟨A, cap, hv, _⟩ := o1.form Hq.out
  subst hv
  obtain ⟨y, Hy⟩ : ∃ y, Hid ((linesC la lb).2 = y) := ⟨_, rfl⟩
  rw [Hy.out]
  clear o1
  go_wp2
  go_ret2
  exact ⟨by rw [hc.out, Hq.out, Hy.out]; rfl, b1⟩

def hunksH (a b : List ByteArray) : List Hk := if bothB a b = true then diffH a b else []
theorem hunksH_len (a b : List ByteArray) : (hunksH a b).length ≤ 41 := by
  unfold hunksH
  split
  · next h => have h1 := goodB_len (bothB_parts h).1; have := diffH_len a b; omega
  · simp

set_option maxHeartbeats 1000000 in
theorem hunksBetween_any (aA : Option Addr) (na ca : Nat) (la : List ByteArray) (bA : Option Addr) (nb cb : Nat) (lb : List ByteArray) (w : World) (ha : Strs w aA na la) (hbS : Strs w bA nb lb) (hcb : nb ≤ cb) :
    Calls Try.prog 19 #[.slice aA na ca, .slice bA nb cb] w fun e w' => ∃ v vs, e = .returned (.tuple #[v, .bool (bothB la lb)]) ∧ OwnH w' w.heap.size v (hunksH la lb) vs ∧ Below w.heap.size w w' := by
  have HNA := Lib.hid ha.len
  have HNB := Lib.hid hbS.len
  have HB := Lib.hid hbS
  have ho := Lib.hid (bothB_ok la lb)
  have hll := linesC_len la lb
  cases hq : bothB la lb
  · have hf := Lib.hid (show hunksH la lb = [] by simp [hunksH, hq])
    go_enter Try.func19, Try.ntmps19
    go_wp2_with fail
    refine (implCommonLines_any aA na ca la bA nb cb lb _ ha hbS).mono ?_
    rintro e w1 ⟨v, gs, rfl, o1, b1⟩
    rw [ho.out, hq]
    clear o1
    go_wp2
    go_ret2
    exact ⟨_, [], rfl, by rw [hf.out]; exact OwnH.nil_, b1⟩
  · have hf := Lib.hid (show hunksH la lb = joinFrom lb 0 0 (pairsOf la lb ++ [(na, nb)]) by rw [hunksH, if_pos hq, ← HNA.out, ← HNB.out]; rfl)
    have hl := Lib.hid (linesC_yes hq)
    have HR := Lib.hid (show rises 0 0 (pairsOf la lb ++ [(na, nb)]) by rw [← HNA.out, ← HNB.out]; exact stopsD_rise la lb)
    have HLE := Lib.hid (show ∀ s ∈ pairsOf la lb ++ [(na, nb)], s.1 ≤ na ∧ s.2 ≤ nb by intro s hs; rw [← HNA.out, ← HNB.out] at hs ⊢; exact stopsD_le hs)
    have hna : na ≤ 40 := by rw [← HNA.out]; exact goodB_len (bothB_parts hq).1
    have hnb : nb ≤ 40 := by rw [← HNB.out]; exact goodB_len (bothB_parts hq).2
    go_enter Try.func19, Try.ntmps19
    go_wp2_with fail
    refine (implCommonLines_any aA na ca la bA nb cb lb _ ha hbS).mono ?_
    rintro e w1 ⟨v, gs, rfl, o1, b1⟩
    rw [ho.out, hq]
    rw [hl.out] at o1 hll
    dsimp only at o1 hll
    obtain ⟨q, Hq⟩ : ∃ q, Hid ((pairsOf la lb).length = q) := ⟨_, rfl⟩
    obtain ⟨A, cap, hv, hqc⟩ := o1.form Hq.out
    subst hv
    rw [Hq.out] at hll
    have HP1 := Lib.hid o1.prs
    clear o1
    go_wp2_with fail
    refine (hunksAround_any aA na ca bA nb cb lb A q cap (pairsOf la lb) _ (HB.out.below b1) hcb HP1.out hqc HR.out HLE.out hna hnb hll).mono ?_
    rintro e w2 ⟨v2, vs2, rfl, o2, b2⟩
    have HO2 := Lib.hid o2
    clear o2
    go_wp2
    go_ret2
    exact ⟨_, vs2, rfl, by rw [hf.out]; exact HO2.out.more b1.size, b1.next b2⟩

theorem diffOk_goodH {a b : List ByteArray} (h : bothB a b = true) : diffOk a b = goodH a.length (hunksH a b) := by
  unfold diffOk hunksH; rw [h, if_pos rfl]; rfl
theorem diffOf_yes {a b : List ByteArray} (h : diffOk a b = true) : diffOf a b = (diffH a b, true) := if_pos h
theorem diffOf_no {a b : List ByteArray} (h : diffOk a b = false) : diffOf a b = ([], false) := if_neg (by simp [h])
theorem diffOk_no {a b : List ByteArray} (h : bothB a b = false) : diffOk a b = false := by simp [diffOk, h]

set_option maxHeartbeats 1000000 in
theorem implDiffHunks_any (aA : Option Addr) (na ca : Nat) (la : List ByteArray) (bA : Option Addr) (nb cb : Nat) (lb : List ByteArray) (w : World) (ha : Strs w aA na la) (hbS : Strs w bA nb lb) (hcb : nb ≤ cb) :
    Calls Try.prog 6 #[.slice aA na ca, .slice bA nb cb] w fun e w' => ∃ v vs, e = .returned (.tuple #[v, .bool (diffOf la lb).2]) ∧ OwnH w' w.heap.size v (diffOf la lb).1 vs ∧ Below w.heap.size w w' := by
  have HNA := Lib.hid ha.len
  cases hq : bothB la lb
  · have hf := Lib.hid (diffOf_no (diffOk_no hq))
    go_enter Try.func6, Try.ntmps6
    go_wp2_with fail
    refine (hunksBetween_any aA na ca la bA nb cb lb _ ha hbS hcb).mono ?_
    rintro e w1 ⟨v, vs, rfl, o1, b1⟩
    rw [hq]
    clear o1
    go_wp2
    go_ret2
    exact ⟨_, [], by rw [hf.out]; rfl, by rw [hf.out]; exact OwnH.nil_, b1⟩
  · have hg := Lib.hid (diffOk_goodH hq)
    have hna : na ≤ 40 := by rw [← HNA.out]; exact goodB_len (bothB_parts hq).1
    have hh := Lib.hid (show hunksH la lb = diffH la lb by rw [hunksH, if_pos hq])
    obtain ⟨y, Hy⟩ : ∃ y, Hid (goodH la.length (hunksH la lb) = y) := ⟨_, rfl⟩
    go_enter Try.func6, Try.ntmps6
    go_wp2_with fail
    refine (hunksBetween_any aA na ca la bA nb cb lb _ ha hbS hcb).mono ?_
    rintro e w1 ⟨v, vs, rfl, o1, b1⟩
    rw [hq]
    obtain ⟨q, Hq⟩ : ∃ q, Hid ((hunksH la lb).length = q) := ⟨_, rfl⟩
    obtain ⟨A, cap, hv, hqc, _⟩ := o1.form Hq.out
    subst hv
    have HO := Lib.hid o1
    clear o1
    go_wp2_with fail
    refine (implGoodHunks_any (na : Int) A q cap (hunksH la lb) _ HO.out.hks ⟨by omega, by omega⟩).mono ?_
    rintro e w2 ⟨rfl, b2⟩
    rw [← HNA.out, Hy.out]
    cases y with
    | false =>
      have hf := Lib.hid (diffOf_no (hg.out.trans Hy.out))
      go_wp2
      go_ret2
      exact ⟨_, [], by rw [hf.out]; rfl, by rw [hf.out]; exact OwnH.nil_, b1.next b2⟩
    | true =>
      have hf := Lib.hid (diffOf_yes (hg.out.trans Hy.out))
      go_wp2
      go_ret2
      exact ⟨_, vs, by rw [hf.out]; rfl, by rw [hf.out, ← hh.out]; exact HO.out.below b2, b1.next b2⟩

set_option maxHeartbeats 1000000 in
theorem implNeedsHunks_any (aA : Option Addr) (na ca : Nat) (la : List ByteArray) (bA : Option Addr) (nb cb : Nat) (lb : List ByteArray) (w : World) (ha : Strs w aA na la) (hbS : Strs w bA nb lb) (hcb : nb ≤ cb) :
    Calls Try.prog 8 #[.slice aA na ca, .slice bA nb cb] w fun e w' => e = .returned (.tuple #[.int .i64 (needsOf la lb).1, .bool (needsOf la lb).2]) ∧ Below w.heap.size w w' := by
  have hf := Lib.hid (show needsOf la lb = (((hunksH la lb).length : Int), bothB la lb) by unfold needsOf hunksH; cases bothB la lb <;> rfl)
  go_enter Try.func8, Try.ntmps8
  go_wp2_with fail
  refine (hunksBetween_any aA na ca la bA nb cb lb _ ha hbS hcb).mono ?_
  rintro e w1 ⟨v, vs, rfl, o1, b1⟩
  obtain ⟨q, Hq⟩ : ∃ q, Hid ((hunksH la lb).length = q) := ⟨_, rfl⟩
  obtain ⟨A, cap, hv, hqc, _⟩ := o1.form Hq.out
  subst hv
  clear o1
  go_wp2
  go_ret2
  exact ⟨by rw [hf.out, Hq.out]; rfl, b1⟩

theorem commonOf_yes {a b : List ByteArray} (h : bothB a b = true) : commonOf a b = ((lcs a b : Int), true) := by simp [commonOf, h]
theorem commonOf_no {a b : List ByteArray} (h : bothB a b = false) : commonOf a b = (0, false) := by simp [commonOf, h]

set_option maxHeartbeats 1000000 in
theorem implFarApart_any (aA : Option Addr) (na ca : Nat) (la : List ByteArray) (bA : Option Addr) (nb cb : Nat) (lb : List ByteArray) (w : World) (ha : Strs w aA na la) (hbS : Strs w bA nb lb) :
    Calls Try.prog 13 #[.slice aA na ca, .slice bA nb cb] w fun e w' => e = .returned (.tuple #[.int .i64 (apartOf la lb).1, .bool (apartOf la lb).2]) ∧ Below w.heap.size w w' := by
  have HNA := Lib.hid ha.len
  have HNB := Lib.hid hbS.len
  cases hq : bothB la lb
  · have hf := Lib.hid (show apartOf la lb = (0, false) by simp [apartOf, hq])
    have hc := Lib.hid (commonOf_no hq)
    go_enter Try.func13, Try.ntmps13
    go_wp2_with fail
    refine (implCommon_any aA na ca la bA nb cb lb _ ha hbS).mono ?_
    rintro e w1 ⟨rfl, b1⟩
    rw [hc.out]
    go_wp2
    go_ret2
    exact ⟨by rw [hf.out]; rfl, b1⟩
  · have hf := Lib.hid (show apartOf la lb = ((na : Int) + nb - 2 * lcs la lb, true) by simp [apartOf, hq, apart, HNA.out, HNB.out])
    have hc := Lib.hid (commonOf_yes hq)
    have hna : na ≤ 40 := by rw [← HNA.out]; exact goodB_len (bothB_parts hq).1
    have hnb : nb ≤ 40 := by rw [← HNB.out]; exact goodB_len (bothB_parts hq).2
    have hl : lcs la lb ≤ 40 := by have := lcs_le_left la lb; rw [HNA.out] at this; omega
    obtain ⟨d, Hd⟩ : ∃ d, Hid (lcs la lb = d) := ⟨_, rfl⟩
    rw [Hd.out] at hl
    go_enter Try.func13, Try.ntmps13
    go_wp2_with fail
    refine (implCommon_any aA na ca la bA nb cb lb _ ha hbS).mono ?_
    rintro e w1 ⟨rfl, b1⟩
    rw [hc.out, Hd.out]
    go_wp2
    go_ret2
    exact ⟨by rw [hf.out, Hd.out]; rfl, b1⟩


theorem few_good {many : Int} {l : List Hk} (h : goodH many l = true) : few l := ⟨(goodH_parts h).2.2.1, fun x hx => by
  have := goodH_mem h hx
  omega⟩
theorem sums_few : ∀ {l : List Hk}, (∀ x ∈ l, 0 ≤ x.gone ∧ x.gone ≤ 1000 ∧ x.new.length ≤ 1000) → 0 ≤ goneSum l ∧ goneSum l ≤ 1000 * l.length ∧ 0 ≤ comeSum l ∧ comeSum l ≤ 1000 * l.length
  | [], _ => by simp [goneSum, comeSum]
  | x :: l, h => by
    have h1 := h x (by simp)
    have h2 := sums_few (l := l) (fun y hy => h y (by simp [hy]))
    rw [goneSum, comeSum, List.length_cons]
    omega
theorem apartOf_yes {a b : List ByteArray} (h : bothB a b = true) : apartOf a b = (apart a b, true) := by simp [apartOf, h]

set_option maxHeartbeats 1000000 in
theorem implIsLeast_any (aA : Option Addr) (na ca : Nat) (la : List ByteArray) (b0 : Option Addr) (n c : Nat) (hs : List Hk) (w : World) (ha : Strs w aA na la) (hca : na ≤ ca) (hh : Hks w b0 n hs) (hna : na ≤ 1048576) :
    Calls Try.prog 12 #[.slice aA na ca, .slice b0 n c] w fun e w' => e = .returned (.tuple #[.bool (leastOf la hs).1, .bool (leastOf la hs).2]) ∧ Below w.heap.size w w' := by
  have HA := Lib.hid ha
  have HH := Lib.hid hh
  cases hq : patchOk la hs
  · have hf := Lib.hid (show leastOf la hs = (false, false) by simp [leastOf, hq])
    have hp := Lib.hid (patchOf_no hq)
    go_enter Try.func12, Try.ntmps12
    go_wp2_with fail
    refine (implPatch_any aA na ca la b0 n c hs _ ha hca hh hna).mono ?_
    rintro e w1 ⟨v1, rfl, o1, d1⟩
    rw [hp.out]
    clear o1
    go_wp2
    go_ret2
    exact ⟨by rw [hf.out]; rfl, d1⟩
  · obtain ⟨g1, g2, g3⟩ := patchOk_parts hq
    have hp := Lib.hid (patchOf_yes hq)
    have HF := Lib.hid (few_good g2)
    have hsm := sums_few HF.out.2
    have hlen := HF.out.1
    have hbb : bothB la (patchH la hs) = true := by simp [bothB, g1, g3]
    have hap := Lib.hid (apartOf_yes hbb)
    obtain ⟨x, Hx⟩ : ∃ x, Hid (goneSum hs = x) := ⟨_, rfl⟩
    obtain ⟨y, Hy⟩ : ∃ y, Hid (comeSum hs = y) := ⟨_, rfl⟩
    obtain ⟨z, Hz⟩ : ∃ z, Hid (apart la (patchH la hs) = z) := ⟨_, rfl⟩
    rw [Hx.out, Hy.out] at hsm
    obtain ⟨s1, s2, s3, s4⟩ := hsm
    have s2' : x ≤ 20000 := by omega
    have s4' : y ≤ 20000 := by omega
    have hf := Lib.hid (show leastOf la hs = (decide (x + y = z), true) by unfold leastOf; rw [if_pos hq, Hx.out, Hy.out, Hz.out])
    clear s2 s4 hlen
    obtain ⟨q, Hq⟩ : ∃ q, Hid ((patchH la hs).length = q) := ⟨_, rfl⟩
    go_enter Try.func12, Try.ntmps12
    go_wp2_with fail
    refine (implPatch_any aA na ca la b0 n c hs _ ha hca hh hna).mono ?_
    rintro e w1 ⟨v1, rfl, o1, d1⟩
    rw [hp.out] at o1 ⊢
    dsimp only at o1 ⊢
    obtain ⟨A1, cap1, rfl, hc1, _⟩ := o1.form Hq.out
    have HO := Lib.hid o1
    clear o1
    go_wp2_with fail
    refine (implCountHunks_few b0 n c hs _ (HH.out.below d1) HF.out).mono ?_
    rintro e w2 ⟨rfl, d2⟩
    rw [Hx.out, Hy.out]
    go_wp2_with fail
    refine (implFarApart_any aA na ca la A1 q cap1 (patchH la hs) _ (HA.out.below (d1.next d2)) (HO.out.below d2).strs).mono ?_
    rintro e w3 ⟨rfl, d3⟩
    rw [hap.out, Hz.out]
    dsimp only
    go_wp2
    go_ret2
    exact ⟨by rw [hf.out]; first | rfl | (simp; rfl), (d1.next d2).next d3⟩

end Go.Proofs.Ytdejlepgihgfgaa
