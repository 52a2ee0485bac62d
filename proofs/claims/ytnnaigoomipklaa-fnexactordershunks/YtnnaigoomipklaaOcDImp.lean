/-
  The rest of what the program does about differences.
  Chapter 3 of the model.
  OrdersHunks, the model's.
  How long the answers are that are orders, or lines and hunks that orders make.
  OrdersHunks, the program's.
  The law FnExactOrdersHunks.
-/
import Derived.Test.YtnnaigoomipklaaOcDComI
import Derived.Test.YtnnaigoomipklaaOcHGoods
import Derived.Test.YtnnaigoomipklaaOcHBases
import Derived.Test.YtnnaigoomipklaaOcHJoins
import Derived.Test.YtnnaigoomipklaaOcDPairS
import Derived.Test.YtnnaigoomipklaaOcORunS
import Derived.Test.YtnnaigoomipklaaOcORun
import Derived.Test.YtnnaigoomipklaaOcORunI
import Derived.Test.YtnnaigoomipklaaOcOGoodK
import Derived.Test.YtnnaigoomipklaaProg
import Derived.Test.YtnnaigoomipklaaOcMemT
import Derived.Test.YtnnaigoomipklaaOcSMath
import Derived.Test.YtnnaigoomipklaaOcHPatch
import Derived.Test.YtnnaigoomipklaaOcOGoodS
import Derived.Test.YtnnaigoomipklaaOcHMems
import Derived.Test.YtnnaigoomipklaaOcWhole
import Derived.RangeFuncBox
import Derived.RangeFuncBound
import Derived.RangeFuncCalls
import Derived.RangeFuncLeaves
import Derived.RangeFuncNested
import Derived.Shelf.Abstract
import Derived.Shelf.RegionOpen
import Derived.WalkKit
import Derived.OwnWalkIn
import Derived.TacticsInMore
import Derived.LoopNIn
import Derived.LoopIn
import Derived.Maps.AppendAt
import Derived.Test.YtnnaigoomipklaaOcOLaws
set_option linter.unusedSimpArgs false
set_option linter.unusedVariables false
namespace Go.Proofs.Ytnnaigoomipklaa
open Go.RowKit M

theorem linesC_len (a b : List ByteArray) : (linesC a b).1.length ≤ 40 := by
  unfold linesC
  split
  · next h =>
    have h1 := goodB_len (bothB_parts h).1
    have h2 := lcs_le_left a b
    dsimp only
    rw [pairs_count]
    omega
  · simp
theorem bothB_ok (a b : List ByteArray) : (linesC a b).2 = bothB a b := by unfold linesC; cases bothB a b <;> rfl

def hunksH (a b : List ByteArray) : List Hk := if bothB a b = true then diffH a b else []

set_option maxHeartbeats 1000000 in
theorem hunksBetween_any (aA : Option Addr) (na ca : Nat) (la : List ByteArray) (bA : Option Addr) (nb cb : Nat) (lb : List ByteArray) (w : World) (ha : Strs w aA na la) (hbS : Strs w bA nb lb) (hcb : nb ≤ cb) :
    Calls Try.prog 71 #[.slice aA na ca, .slice bA nb cb] w fun e w' => ∃ v vs, e = .returned (.tuple #[v, .bool (bothB la lb)]) ∧ OwnH w' w.heap.size v (hunksH la lb) vs ∧ Below w.heap.size w w' := by
  have HNA := Lib.hid ha.len
  have HNB := Lib.hid hbS.len
  have HB := Lib.hid hbS
  have ho := Lib.hid (bothB_ok la lb)
  have hll := linesC_len la lb
  cases hq : bothB la lb
  · have hf := Lib.hid (show hunksH la lb = [] by simp [hunksH, hq])
    go_enter Try.func71, Try.ntmps71
    go_wp2_with fail
    refine (implCommonLines_any aA na ca la bA nb cb lb _ ha hbS).mono ?_
    rintro e w1 ⟨v, gs, rfl, o1, b1⟩
    rw [ho.out, hq]
    clear o1
    go_wp2
    go_ret2
    exact ⟨_, [], rfl, by rw [hf.out]; exact OwnH.nil_, b1⟩
  · have hf := Lib.hid (show hunksH la lb = joinFrom lb 0 0 (pairsOf la lb ++ [(na, nb)]) by rw [hunksH, if_pos hq, ← HNA.out, ← HNB.out]; rfl)
    have hl := Lib.hid (linesC_yes hq)
    have HR := Lib.hid (show rises 0 0 (pairsOf la lb ++ [(na, nb)]) by rw [← HNA.out, ← HNB.out]; exact stopsD_rise la lb)
    have HLE := Lib.hid (show ∀ s ∈ pairsOf la lb ++ [(na, nb)], s.1 ≤ na ∧ s.2 ≤ nb by intro s hs; rw [← HNA.out, ← HNB.out] at hs ⊢; exact stopsD_le hs)
    have hna : na ≤ 40 := by rw [← HNA.out]; exact goodB_len (bothB_parts hq).1
    have hnb : nb ≤ 40 := by rw [← HNB.out]; exact goodB_len (bothB_parts hq).2
    go_enter Try.func71, Try.ntmps71
    go_wp2_with fail
    refine (implCommonLines_any aA na ca la bA nb cb lb _ ha hbS).mono ?_
    rintro e w1 ⟨v, gs, rfl, o1, b1⟩
    rw [ho.out, hq]
    rw [hl.out] at o1 hll
    dsimp only at o1 hll
    obtain ⟨q, Hq⟩ : ∃ q, Hid ((pairsOf la lb).length = q) := ⟨_, rfl⟩
    obtain ⟨A, cap, hv, hqc⟩ := o1.form Hq.out
    subst hv
    rw [Hq.out] at hll
    have HP1 := Lib.hid o1.prs
    clear o1
    go_wp2_with fail
    refine (hunksAround_any aA na ca bA nb cb lb A q cap (pairsOf la lb) _ (HB.out.below b1) hcb HP1.out hqc HR.out HLE.out hna hnb hll).mono ?_
    rintro e w2 ⟨v2, vs2, rfl, o2, b2⟩
    have HO2 := Lib.hid o2
    clear o2
    go_wp2
    go_ret2
    exact ⟨_, vs2, rfl, by rw [hf.out]; exact HO2.out.more b1.size, b1.next b2⟩

theorem diffOk_goodH {a b : List ByteArray} (h : bothB a b = true) : diffOk a b = goodH a.length (hunksH a b) := by
  unfold diffOk hunksH; rw [h, if_pos rfl]; rfl
theorem diffOf_yes {a b : List ByteArray} (h : diffOk a b = true) : diffOf a b = (diffH a b, true) := if_pos h
theorem diffOf_no {a b : List ByteArray} (h : diffOk a b = false) : diffOf a b = ([], false) := if_neg (by simp [h])
theorem diffOk_no {a b : List ByteArray} (h : bothB a b = false) : diffOk a b = false := by simp [diffOk, h]

set_option maxHeartbeats 1000000 in
theorem implDiffHunks_any (aA : Option Addr) (na ca : Nat) (la : List ByteArray) (bA : Option Addr) (nb cb : Nat) (lb : List ByteArray) (w : World) (ha : Strs w aA na la) (hbS : Strs w bA nb lb) (hcb : nb ≤ cb) :
    Calls Try.prog 52 #[.slice aA na ca, .slice bA nb cb] w fun e w' => ∃ v vs, e = .returned (.tuple #[v, .bool (diffOf la lb).2]) ∧ OwnH w' w.heap.size v (diffOf la lb).1 vs ∧ Below w.heap.size w w' := by
  have HNA := Lib.hid ha.len
  cases hq : bothB la lb
  · have hf := Lib.hid (diffOf_no (diffOk_no hq))
    go_enter Try.func52, Try.ntmps52
    go_wp2_with fail
    refine (hunksBetween_any aA na ca la bA nb cb lb _ ha hbS hcb).mono ?_
    rintro e w1 ⟨v, vs, rfl, o1, b1⟩
    rw [hq]
    clear o1
    go_wp2
    go_ret2
    exact ⟨_, [], by rw [hf.out]; rfl, by rw [hf.out]; exact OwnH.nil_, b1⟩
  · have hg := Lib.hid (diffOk_goodH hq)
    have hna : na ≤ 40 := by rw [← HNA.out]; exact goodB_len (bothB_parts hq).1
    have hh := Lib.hid (show hunksH la lb = diffH la lb by rw [hunksH, if_pos hq])
    obtain ⟨y, Hy⟩ : ∃ y, Hid (goodH la.length (hunksH la lb) = y) := ⟨_, rfl⟩
    go_enter Try.func52, Try.ntmps52
    go_wp2_with fail
    refine (hunksBetween_any aA na ca la bA nb cb lb _ ha hbS hcb).mono ?_
    rintro e w1 ⟨v, vs, rfl, o1, b1⟩
    rw [hq]
    obtain ⟨q, Hq⟩ : ∃ q, Hid ((hunksH la lb).length = q) := ⟨_, rfl⟩
    obtain ⟨A, cap, hv, hqc, _⟩ := o1.form Hq.out
    subst hv
    have HO := Lib.hid o1
    clear o1
    go_wp2_with fail
    refine (implGoodHunks_any (na : Int) A q cap (hunksH la lb) _ HO.out.hks ⟨by omega, by omega⟩).mono ?_
    rintro e w2 ⟨rfl, b2⟩
    rw [← HNA.out, Hy.out]
    cases y with
    | false =>
      have hf := Lib.hid (diffOf_no (hg.out.trans Hy.out))
      go_wp2
      go_ret2
      exact ⟨_, [], by rw [hf.out]; rfl, by rw [hf.out]; exact OwnH.nil_, b1.next b2⟩
    | true =>
      have hf := Lib.hid (diffOf_yes (hg.out.trans Hy.out))
      go_wp2
      go_ret2
      exact ⟨_, vs, by rw [hf.out]; rfl, by rw [hf.out, ← hh.out]; exact HO.out.below b2, b1.next b2⟩

end Go.Proofs.Ytnnaigoomipklaa

namespace Go.Proofs.Ytnnaigoomipklaa
open Go.RowKit M

set_option maxHeartbeats 1000000 in
theorem l3Diff_any (aA : Option Addr) (na ca : Nat) (la : List ByteArray) (bA : Option Addr) (nb cb : Nat) (lb : List ByteArray) (w : World) (ha : Strs w aA na la) (hbS : Strs w bA nb lb) (hna : na ≤ 40) (hnb : nb ≤ 40) (hcb : nb ≤ cb) :
    Calls Try.prog 70 #[.slice aA na ca, .slice bA nb cb] w fun e w' => ∃ v vs, e = .returned v ∧ OwnH w' w.heap.size v (diffH la lb) vs ∧ Below w.heap.size w w' := by
  have hf := Lib.hid (show diffH la lb = joinFrom lb 0 0 (pairsOf la lb ++ [(na, nb)]) by rw [← ha.len, ← hbS.len]; rfl)
  have HR := Lib.hid (show rises 0 0 (pairsOf la lb ++ [(na, nb)]) by rw [← ha.len, ← hbS.len]; exact stopsD_rise la lb)
  have HLE := Lib.hid (show ∀ s ∈ pairsOf la lb ++ [(na, nb)], s.1 ≤ na ∧ s.2 ≤ nb by intro s hs; rw [← ha.len, ← hbS.len] at hs ⊢; exact stopsD_le hs)
  have hll : (pairsOf la lb).length ≤ 40 := by rw [pairs_count]; have := lcs_le_left la lb; rw [ha.len] at this; omega
  have HB := Lib.hid hbS
  go_enter Try.func70, Try.ntmps70
  go_wp2_with fail
  refine (l3Pairs_any aA na ca la bA nb cb lb _ ha hbS hna hnb).mono ?_
  rintro e w1 ⟨v, rfl, o1, b1⟩
  have HO := Lib.hid o1
  clear o1
  go_wp2_with fail
  refine (l2Join_any aA na ca bA nb cb lb w.heap.size v (pairsOf la lb) _ (fun w' g => HB.out.below (Below.grown b1 g b1.size (fun k e => (World.ownsRow.lt HO.out k e).1))) hcb HO.out b1.size HR.out HLE.out hna hnb hll).mono ?_
  rintro e w2 ⟨v2, vs2, rfl, o2, b2⟩
  have HO2 := Lib.hid o2
  clear o2
  go_wp2
  go_ret
  exact ⟨_, vs2, rfl, by rw [hf.out]; exact HO2.out.more b1.size, b1.trans b2⟩

theorem join_newD {last : List ByteArray} {x : Hk} : ∀ {L : List (Nat × Nat)} {i j : Nat}, x ∈ joinFrom last i j L → x.new.length ≤ last.length
  | [], i, j, h => by simp [joinFrom] at h
  | s :: L, i, j, h => by
    rw [joinFrom] at h
    split at h
    · rcases List.mem_cons.1 h with h | h
      · rw [h]; unfold joinOne; dsimp only; rw [seg_len]; omega
      · exact join_newD h
    · exact join_newD h

set_option maxHeartbeats 1000000 in
set_option maxRecDepth 100000 in
theorem specDiffHunks_any (aA : Option Addr) (na ca : Nat) (la : List ByteArray) (bA : Option Addr) (nb cb : Nat) (lb : List ByteArray) (w : World) (ha : Strs w aA na la) (hbS : Strs w bA nb lb) (hcb : nb ≤ cb) :
    Calls Try.prog 51 #[.slice aA na ca, .slice bA nb cb] w fun e w' => ∃ v vs, e = .returned (.tuple #[v, .bool (diffOf la lb).2]) ∧ OwnH w' w.heap.size v (diffOf la lb).1 vs ∧ Below w.heap.size w w' := by
  cases hq1 : goodB la
  · have hf := Lib.hid (diffOf_no (diffOk_no (b := lb) (bothB_no1 hq1)))
    go_enter Try.func51, Try.ntmps51
    go_wp2_with fail
    refine (l1Good_any aA na ca la _ ha).mono ?_
    rintro e w1 ⟨rfl, rfl⟩
    rw [hq1]
    go_wp2
    go_ret2
    exact ⟨_, [], by rw [hf.out]; rfl, by rw [hf.out]; exact OwnH.nil_, Below.refl _ _⟩
  cases hq2 : goodB lb
  · have hf := Lib.hid (diffOf_no (diffOk_no (a := la) (bothB_no2 hq2)))
    go_enter Try.func51, Try.ntmps51
    go_wp2_with fail
    refine (l1Good_any aA na ca la _ ha).mono ?_
    rintro e w1 ⟨rfl, rfl⟩
    rw [hq1]
    go_wp2_with fail
    refine (l1Good_any bA nb cb lb _ hbS).mono ?_
    rintro e w2 ⟨rfl, rfl⟩
    rw [hq2]
    go_wp2
    go_ret2
    exact ⟨_, [], by rw [hf.out]; rfl, by rw [hf.out]; exact OwnH.nil_, Below.refl _ _⟩
  have hbb : bothB la lb = true := by simp [bothB, hq1, hq2]
  have hna : na ≤ 40 := by rw [← ha.len]; exact goodB_len hq1
  have hnb : nb ≤ 40 := by rw [← hbS.len]; exact goodB_len hq2
  have HNA := Lib.hid ha.len
  have HNB := Lib.hid hbS.len
  have HA := Lib.hid ha
  have HB := Lib.hid hbS
  have hg := Lib.hid (show diffOk la lb = goodH la.length (diffH la lb) by simp [diffOk, hbb])
  have HNEW := Lib.hid (show ∀ x ∈ diffH la lb, x.new.length ≤ 1048576 from fun x hx => by have := join_newD hx; rw [HNB.out] at this; omega)
  obtain ⟨y, Hy⟩ : ∃ y, Hid (goodH la.length (diffH la lb) = y) := ⟨_, rfl⟩
  obtain ⟨q, Hq⟩ : ∃ q, Hid ((diffH la lb).length = q) := ⟨_, rfl⟩
  clear ha hbS
  go_enter Try.func51, Try.ntmps51
  go_wp2_with fail
  refine (l1Good_any aA na ca la _ HA.out).mono ?_
  rintro e w1 ⟨rfl, rfl⟩
  rw [hq1]
  go_wp2_with fail
  refine (l1Good_any bA nb cb lb _ HB.out).mono ?_
  rintro e w2 ⟨rfl, rfl⟩
  rw [hq2]
  go_wp2_with fail
  refine (l3Diff_any aA na ca la bA nb cb lb _ HA.out HB.out hna hnb hcb).mono ?_
  rintro e w1 ⟨v, vs, rfl, o1, b1⟩
  obtain ⟨A, cap, hv, hqc, _⟩ := o1.form Hq.out
  subst hv
  have HO := Lib.hid o1
  clear o1
  go_wp2_with fail
  refine (l2Hunks_any (na : Int) A q cap (diffH la lb) _ HO.out.hks ⟨by omega, by omega⟩ HNEW.out).mono ?_
  rintro e w2 ⟨rfl, b2⟩
  rw [← HNA.out, Hy.out]
  cases y with
  | false =>
    have hf := Lib.hid (diffOf_no (hg.out.trans Hy.out))
    go_wp2
    go_ret2
    exact ⟨_, [], by rw [hf.out]; rfl, by rw [hf.out]; exact OwnH.nil_, b1.next b2⟩
  | true =>
    have hf := Lib.hid (diffOf_yes (hg.out.trans Hy.out))
    have B2 := Lib.hid (b1.next b2)
    go_wp2_with fail
    rw [HNA.out]
    refine (l3Diff_any aA na ca la bA nb cb lb _ (HA.out.below B2.out) (HB.out.below B2.out) hna hnb hcb).mono ?_
    rintro e w3 ⟨v3, vs3, rfl, o3, b3⟩
    have HO3 := Lib.hid o3
    clear o3
    go_wp2
    go_ret2
    exact ⟨_, vs3, by rw [hf.out]; rfl, by rw [hf.out]; exact HO3.out.more B2.out.size, B2.out.next b3⟩

end Go.Proofs.Ytnnaigoomipklaa

namespace Go.Proofs.Ytnnaigoomipklaa
open Go.RowKit Go.ChangeShapes Go.WideShapes M

/-- What OrdersHunks answers. -/
def ordH (l : List ByteArray) (p : List Od) : List Hk × Int × Bool := ordersHunks (fun a b => (diffOf a b).1) l p

set_option maxHeartbeats 1000000 in
theorem specOrdersHunks_any (a : Option Addr) (n c : Nat) (l : List ByteArray) (b : Option Addr) (m d : Nat) (p : List Od) (w : World) (hl : Strs w a n l) (hp : Ods w b m p) :
    Calls Try.prog 27 #[.slice a n c, .slice b m d] w fun e w' => ∃ v vs, e = .returned (.tuple #[v, .int .i64 (ordH l p).2.1, .bool (ordH l p).2.2]) ∧ OwnH w' w.heap.size v (ordH l p).1 vs ∧ Below w.heap.size w w' := by
  cases hg : goodB l
  · have HG := Lib.hid hg
    have hf := Lib.hid (show ordH l p = ([], 0, false) from if_neg (by rw [hg]; simp))
    clear hg
    go_enter Try.func27, Try.ntmps27
    go_wp2_with fail
    refine (l1Good_any a n c l _ hl).mono ?_
    rintro e w1 ⟨rfl, rfl⟩
    rw [HG.out]
    go_wp2
    go_ret3
    exact ⟨_, [], by rw [hf.out]; rfl, by rw [hf.out]; exact OwnH.nil_, Below.refl _ _⟩
  have HG := Lib.hid hg
  cases hw : wholeB l
  · have HW := Lib.hid hw
    have hf := Lib.hid (show ordH l p = ([], 0, false) from if_neg (by rw [hw]; simp))
    clear hg hw
    go_enter Try.func27, Try.ntmps27
    go_wp2_with fail
    refine (l1Good_any a n c l _ hl).mono ?_
    rintro e w1 ⟨rfl, rfl⟩
    rw [HG.out]
    go_wp2_with fail
    refine (l1Whole_any a n c l _ hl HG.out).mono ?_
    rintro e w1 ⟨rfl, rfl⟩
    rw [HW.out]
    go_wp2
    go_ret3
    exact ⟨_, [], by rw [hf.out]; rfl, by rw [hf.out]; exact OwnH.nil_, Below.refl _ _⟩
  have HW := Lib.hid hw
  cases hgp : ordersB p
  · have HGP := Lib.hid hgp
    have hf := Lib.hid (show ordH l p = ([], 0, false) from if_neg (by rw [hgp]; simp))
    clear hg hgp hw
    go_enter Try.func27, Try.ntmps27
    go_wp2_with fail
    refine (l1Good_any a n c l _ hl).mono ?_
    rintro e w1 ⟨rfl, rfl⟩
    rw [HG.out]
    go_wp2_with fail
    refine (l1Whole_any a n c l _ hl HG.out).mono ?_
    rintro e w1 ⟨rfl, rfl⟩
    rw [HW.out]
    go_wp2_with fail
    refine (l9Good_any b m d p _ hp).mono ?_
    rintro e w2 ⟨rfl, b2⟩
    rw [HGP.out]
    go_wp2
    go_ret3
    exact ⟨_, [], by rw [hf.out]; rfl, by rw [hf.out]; exact OwnH.nil_, b2⟩
  have HGP := Lib.hid hgp
  obtain ⟨r, cc, HR⟩ : ∃ r cc, Hid (runO l p = (r, cc)) := ⟨_, _, rfl⟩
  have HC0 := Lib.hid (show cc = 0 ∨ 0 < cc by
    have h1 : (runO l p).2 = 0 ∨ 0 < (runO l p).2 := runO_code l p
    rw [HR.out] at h1
    exact h1)
  by_cases hc0 : cc = 0
  · have hgt : decide ((0 : Int) < cc) = false := by simp [hc0]
    have hf := Lib.hid (show ordH l p = ((diffOf l r).1, 0, true) by
      unfold ordH ordersHunks
      rw [if_pos ⟨hg, hw, hgp⟩, HR.out]
      simp only []
      rw [if_pos hc0])
    subst hc0
    clear hg hw hgp
    go_enter Try.func27, Try.ntmps27
    go_wp2_with fail
    refine (l1Good_any a n c l _ hl).mono ?_
    rintro e w1 ⟨rfl, rfl⟩
    rw [HG.out]
    go_wp2_with fail
    refine (l1Whole_any a n c l _ hl HG.out).mono ?_
    rintro e w1 ⟨rfl, rfl⟩
    rw [HW.out]
    go_wp2_with fail
    refine (l9Good_any b m d p _ hp).mono ?_
    rintro e w2 ⟨rfl, b2⟩
    rw [HGP.out]
    go_wp2_with fail
    refine (l9Run_any a n c l b m d p _ (hl.below b2) HG.out (hp.below b2) HGP.out).mono ?_
    rintro e w3 ⟨v, rfl, o3, b3⟩
    rw [HR.out] at o3 ⊢
    dsimp only at o3 ⊢
    obtain ⟨q, HQ⟩ : ∃ q, Hid (r.length = q) := ⟨_, rfl⟩
    obtain ⟨Aq, cq, rfl, hq1, hq2⟩ := o3.form HQ.out
    go_wp2_with fail
    refine (specDiffHunks_any a n c l Aq q cq r _ ((hl.below b2).below b3) o3.strs hq1).mono ?_
    rintro e w4 ⟨v4, vs, rfl, o4, b4⟩
    have HO4 := Lib.hid (o4.more (show w.heap.size ≤ w3.heap.size from (b2.next b3).size))
    have HB4 := Lib.hid ((b2.next b3).next b4)
    obtain ⟨q4, HQ4⟩ : ∃ q, Hid ((diffOf l r).1.length = q) := ⟨_, rfl⟩
    obtain ⟨A4, c4, rfl, h41, h42⟩ := o4.form HQ4.out
    clear o3 o4 b2 b3 b4
    go_wp2
    go_ret3
    exact ⟨_, vs, by rw [hf.out]; rfl, by rw [hf.out]; exact HO4.out, HB4.out⟩
  · have hgt : decide ((0 : Int) < cc) = true := by have := HC0.out; simp; omega
    have hf := Lib.hid (show ordH l p = ([], cc, true) by
      unfold ordH ordersHunks
      rw [if_pos ⟨hg, hw, hgp⟩, HR.out]
      simp only []
      rw [if_neg hc0])
    clear hg hw hgp hc0
    go_enter Try.func27, Try.ntmps27
    go_wp2_with fail
    refine (l1Good_any a n c l _ hl).mono ?_
    rintro e w1 ⟨rfl, rfl⟩
    rw [HG.out]
    go_wp2_with fail
    refine (l1Whole_any a n c l _ hl HG.out).mono ?_
    rintro e w1 ⟨rfl, rfl⟩
    rw [HW.out]
    go_wp2_with fail
    refine (l9Good_any b m d p _ hp).mono ?_
    rintro e w2 ⟨rfl, b2⟩
    rw [HGP.out]
    go_wp2_with fail
    refine (l9Run_any a n c l b m d p _ (hl.below b2) HG.out (hp.below b2) HGP.out).mono ?_
    rintro e w3 ⟨v, rfl, o3, b3⟩
    rw [HR.out] at o3 ⊢
    dsimp only at o3 ⊢
    obtain ⟨q, HQ⟩ : ∃ q, Hid (r.length = q) := ⟨_, rfl⟩
    obtain ⟨Aq, cq, rfl, hq1, hq2⟩ := o3.form HQ.out
    go_wp2
    go_ret3
    exact ⟨_, [], by rw [hf.out]; rfl, by rw [hf.out]; exact OwnH.nil_, b2.next b3⟩

end Go.Proofs.Ytnnaigoomipklaa

namespace Go.Proofs.Ytnnaigoomipklaa
open Go.RowKit Go.ChangeShapes Go.WideShapes M

theorem ordH_len (l : List ByteArray) (p : List Od) : (ordH l p).1.length + totalH (ordH l p).1 ≤ 30000 := by
  unfold ordH ordersHunks
  split
  · split
    · exact diffOf_len _ _
    · simp [totalH]
  · simp [totalH]

end Go.Proofs.Ytnnaigoomipklaa

namespace Go.Proofs.Ytnnaigoomipklaa
open Go.RowKit Go.ChangeShapes Go.WideShapes M

set_option maxHeartbeats 1000000 in
theorem implOrdersHunks_any (a : Option Addr) (n c : Nat) (l : List ByteArray) (b : Option Addr) (m d : Nat) (p : List Od) (w : World) (hl : Strs w a n l) (hp : Pods w b m p) :
    Calls Try.prog 28 #[.slice a n c, .slice b m d] w fun e w' => ∃ v vs, e = .returned (.tuple #[v, .int .i64 (ordH l p).2.1, .bool (ordH l p).2.2]) ∧ OwnH w' w.heap.size v (ordH l p).1 vs ∧ Below w.heap.size w w' := by
  obtain ⟨t, HT⟩ : ∃ t, Hid ((goodB l && wholeB l) = t) := ⟨_, rfl⟩
  obtain ⟨r, cc, ok, HR⟩ : ∃ r cc ok, Hid (runOrders l p = (r, cc, ok)) := ⟨_, _, _, rfl⟩
  obtain ⟨q, HQ⟩ : ∃ q, Hid (r.length = q) := ⟨_, rfl⟩
  cases t
  · have hf := Lib.hid (show ordH l p = ([], 0, false) from if_neg (fun h => by have := HT.out; rw [h.1, h.2.1] at this; cases this))
    go_enter Try.func28, Try.ntmps28
    go_wp2_with fail
    refine (areWhole_any a n c l _ hl).mono ?_
    rintro e w1 ⟨rfl, b1⟩
    rw [HT.out]
    go_wp2
    go_ret3
    exact ⟨_, [], by rw [hf.out]; rfl, by rw [hf.out]; exact OwnH.nil_, b1⟩
  have HG := Lib.hid (show goodB l = true ∧ wholeB l = true by have := HT.out; simpa using this)
  cases ok
  · have HO := Lib.hid (show ordersB p = false by
      cases h : ordersB p
      · rfl
      · have h1 := HR.out
        unfold runOrders at h1
        rw [if_pos ⟨HG.out.1, h⟩] at h1
        injection h1 with _ h1
        injection h1 with _ h1)
    have HC := Lib.hid (show cc = 0 by
      have h1 := HR.out
      unfold runOrders at h1
      rw [if_neg (by rw [HO.out]; simp)] at h1
      injection h1 with _ h1
      injection h1 with h1 _
      exact h1.symm)
    have hf := Lib.hid (show ordH l p = ([], cc, false) by rw [HC.out]; exact if_neg (by rw [HO.out]; simp))
    go_enter Try.func28, Try.ntmps28
    go_wp2_with fail
    refine (areWhole_any a n c l _ hl).mono ?_
    rintro e w1 ⟨rfl, b1⟩
    rw [HT.out]
    go_wp2_with fail
    refine (implRunOrders_any a n c l b m d p _ (hl.below b1) (hp.below b1)).mono ?_
    rintro e w2 ⟨v, rfl, o2, b2⟩
    rw [HR.out] at o2 ⊢
    dsimp only at o2 ⊢
    obtain ⟨Aq, cq, rfl, hq1, hq2⟩ := o2.form HQ.out
    go_wp2
    go_ret3
    exact ⟨_, [], by rw [hf.out]; rfl, by rw [hf.out]; exact OwnH.nil_, b1.next b2⟩
  have HO := Lib.hid (show ordersB p = true ∧ runO l p = (r, cc) by
    have h1 := HR.out
    unfold runOrders at h1
    split at h1
    · rename_i hc
      injection h1 with h2 h1
      injection h1 with h3 h4
      exact ⟨hc.2, by rw [← h2, ← h3]⟩
    · injection h1 with _ h1
      injection h1 with _ h1
      cases h1)
  by_cases hc0 : cc = 0
  · have hf := Lib.hid (show ordH l p = ((diffOf l r).1, 0, true) by
      unfold ordH ordersHunks
      rw [if_pos ⟨HG.out.1, HG.out.2, HO.out.1⟩, HO.out.2]
      simp only []
      rw [if_pos hc0])
    subst hc0
    obtain ⟨q4, HQ4⟩ : ∃ q, Hid ((diffOf l r).1.length = q) := ⟨_, rfl⟩
    go_enter Try.func28, Try.ntmps28
    go_wp2_with fail
    refine (areWhole_any a n c l _ hl).mono ?_
    rintro e w1 ⟨rfl, b1⟩
    rw [HT.out]
    go_wp2_with fail
    refine (implRunOrders_any a n c l b m d p _ (hl.below b1) (hp.below b1)).mono ?_
    rintro e w2 ⟨v, rfl, o2, b2⟩
    rw [HR.out] at o2 ⊢
    dsimp only at o2 ⊢
    obtain ⟨Aq, cq, rfl, hq1, hq2⟩ := o2.form HQ.out
    go_wp2_with fail
    refine (implDiffHunks_any a n c l Aq q cq r _ ((hl.below b1).below b2) o2.strs hq1).mono ?_
    rintro e w4 ⟨v4, vs, rfl, o4, b4⟩
    have HO4 := Lib.hid (o4.more (show w.heap.size ≤ w2.heap.size from (b1.next b2).size))
    have HB4 := Lib.hid ((b1.next b2).next b4)
    obtain ⟨A4, c4, rfl, h41, h42⟩ := o4.form HQ4.out
    clear o2 o4 b1 b2 b4
    go_wp2
    go_ret3
    exact ⟨_, vs, by rw [hf.out]; rfl, by rw [hf.out]; exact HO4.out, HB4.out⟩
  · have hne : (cc != 0) = true := by simp [hc0]
    have hf := Lib.hid (show ordH l p = ([], cc, true) by
      unfold ordH ordersHunks
      rw [if_pos ⟨HG.out.1, HG.out.2, HO.out.1⟩, HO.out.2]
      simp only []
      rw [if_neg hc0])
    clear hc0
    go_enter Try.func28, Try.ntmps28
    go_wp2_with fail
    refine (areWhole_any a n c l _ hl).mono ?_
    rintro e w1 ⟨rfl, b1⟩
    rw [HT.out]
    go_wp2_with fail
    refine (implRunOrders_any a n c l b m d p _ (hl.below b1) (hp.below b1)).mono ?_
    rintro e w2 ⟨v, rfl, o2, b2⟩
    rw [HR.out] at o2 ⊢
    dsimp only at o2 ⊢
    obtain ⟨Aq, cq, rfl, hq1, hq2⟩ := o2.form HQ.out
    go_wp2
    go_ret3
    exact ⟨_, [], by rw [hf.out]; rfl, by rw [hf.out]; exact OwnH.nil_, b1.next b2⟩

end Go.Proofs.Ytnnaigoomipklaa

namespace Go.Proofs.Ytnnaigoomipklaa
open Go.RowKit Go.ChangeShapes Go.WideShapes M

set_option maxHeartbeats 4000000 in
set_option maxRecDepth 100000 in
theorem FnExactOrdersHunks_any (w : World) (a0 : Option Addr) (n0 c0 : Nat) (l0 : List ByteArray) (h0 : Strs w a0 n0 l0) (a1 : Option Addr) (n1 c1 : Nat) (l1 : List Od) (h1 : Ods w a1 n1 l1) :
    Calls Try.prog 6 #[.slice a0 n0 c0, .slice a1 n1 c1] w fun e w' => e = .returned (.bool true) ∧ Below w.heap.size w w' := by
  have B0 := Below.refl w.heap.size w
  have HL0 := Lib.hid h0.len
  have HL1 := Lib.hid h1.len
  go_enter Try.func6, Try.ntmps6
  by_cases hbig0 : (1048576 : Int) < l0.length + total l0
  · go_wp2_with fail
    refine (sz_neg a0 n0 c0 l0 _ _ (h0.below B0) (by omega) (by omega) hbig0).mono ?_
    rintro e w1 ⟨rfl, rfl⟩
    go_wp2
    go_ret
    exact ⟨rfl, B0⟩
  have hbig0 : (l0.length : Int) + total l0 ≤ 1048576 := by omega
  have HN0 := Lib.hid (show l0.length + total l0 ≤ 1048576 by omega)
  have hn0 : n0 ≤ 1048576 := by have := HN0.out; have := HL0.out; omega
  go_wp2_with fail
  refine (szT_more a0 n0 c0 l0 _ _ (h0.below B0) (by omega) (by omega) hbig0).mono ?_
  rintro e w0x ⟨r0, hr00, hr01, HB0, rfl, rfl⟩
  clear hbig0
  by_cases hbig1 : (r0 : Int) < l1.length + totalO l1
  · go_wp2_with fail
    refine (szO_neg a1 n1 c1 l1 _ _ (h1.below B0) hr00 hr01 hbig1).mono ?_
    rintro e w1 ⟨rfl, b1⟩
    go_wp2
    go_ret
    exact ⟨rfl, B0.next b1⟩
  have hbig1 : (l1.length : Int) + totalO l1 ≤ r0 := by omega
  have HN1 := Lib.hid (show l1.length + totalO l1 ≤ 1048576 by omega)
  have hn1 : n1 ≤ 1048576 := by have := HN1.out; have := HL1.out; omega
  go_wp2_with fail
  refine (szO_more a1 n1 c1 l1 _ _ (h1.below B0) hr00 hr01 hbig1).mono ?_
  rintro e w1x ⟨r1, hr10, hr11, HB1, rfl, b1⟩
  replace B0 := B0.next b1
  clear b1
  clear hbig1
  obtain ⟨P, q1, q2, HP⟩ : ∃ P q1 q2, Hid (ordH l0 l1 = (P, q1, q2)) := ⟨_, _, _, rfl⟩
  have hbd := ordH_len l0 l1
  rw [HP.out] at hbd
  have HBD := Lib.hid hbd
  clear hbd
  obtain ⟨p, HPL⟩ : ∃ p, Hid (P.length = p) := ⟨_, rfl⟩
  have heqP := eqHS_refl P
  have hp : p ≤ 1048576 := by have := HBD.out; have := HPL.out; (try dsimp only at *); omega
  have heq0 := eqT_refl l0
  have heq1 := eqOS_refl l1
  go_wp2_with fail
  refine (toStringS_any a0 n0 c0 l0 _ (h0.below B0) hn0).mono ?_
  rintro e v1 ⟨rfl, s0, b1⟩
  replace B0 := B0.next b1
  clear b1
  go_wp2_with fail
  refine (toOrderS_any a1 n1 c1 l1 _ (h1.below B0) HN1.out).mono ?_
  rintro e v2 ⟨rfl, ⟨s1s, s1⟩, b1⟩
  replace B0 := B0.next b1
  replace s0 := s0.below b1
  clear b1
  go_wp2_with fail
  refine (specOrdersHunks_any _ n0 n0 l0 _ n1 n1 l1 _ s0.strs s1.ods).mono ?_
  rintro e v3 ⟨ov, os, rfl, o, b1⟩
  rw [HP.out] at o ⊢
  dsimp only at o ⊢
  obtain ⟨uA, oc, rfl, oh1, oh2⟩ := o.form HPL.out
  have HO := Lib.hid (show ∀ j, (Blk (Value.slice uA p oc) os) j → j < v3.heap.size from fun j e => (o.lt e).2)
  have hW2 := Lib.hid (B0.next b1).size
  replace B0 := B0.next b1
  replace s0 := s0.below b1
  replace s1 := s1.below b1
  clear b1
  go_wp2_with fail
  refine (toStringS_any a0 n0 c0 l0 _ (h0.below B0) hn0).mono ?_
  rintro e v4 ⟨rfl, x0, b1⟩
  have HX0 := Lib.hid (show ∀ j, (fun g => (Value.slice (some ⟨v3.heap.size, 0, none⟩) n0 n0).ownBlock = some g) j → w.heap.size ≤ j ∧ v3.heap.size ≤ j ∧ v3.heap.size ≤ j ∧ j < v4.heap.size from fun j e => by have h3 := (x0.lt e).1; have h4 := (x0.lt e).2; have h5 := hW2.out; have h6 := B0.size;  omega)
  have hzv4 := Lib.hid b1.size
  replace B0 := B0.next b1
  replace o := o.below b1
  clear b1
  go_wp2_with fail
  refine (toOrderS_any a1 n1 c1 l1 _ (h1.below B0) HN1.out).mono ?_
  rintro e v5 ⟨rfl, ⟨x1s, x1⟩, b1⟩
  have HX1 := Lib.hid (show ∀ j, (BlkR (Value.slice (some ⟨v4.heap.size, 0, none⟩) n1 n1) x1s) j → w.heap.size ≤ j ∧ v3.heap.size ≤ j ∧ v4.heap.size ≤ j ∧ j < v5.heap.size from fun j e => by have h3 := (x1.lt e).1; have h4 := (x1.lt e).2; have h5 := hW2.out; have h6 := B0.size; have := hzv4.out; omega)
  have hzv5 := Lib.hid b1.size
  replace B0 := B0.next b1
  replace o := o.below b1
  replace x0 := x0.below b1
  clear b1
  go_wp2_with fail
  refine (implOrdersHunks_any _ n0 n0 l0 _ n1 n1 l1 _ x0.strs x1.pods).mono ?_
  rintro e v6 ⟨gv, gs, rfl, g, b1⟩
  rw [HP.out] at g ⊢
  dsimp only at g ⊢
  obtain ⟨gA, gc, rfl, gh1, gh2⟩ := g.form HPL.out
  have HZ := Lib.hid (show True ∧ v3.heap.size ≤ v4.heap.size ∧ v4.heap.size ≤ v5.heap.size from ⟨trivial, hzv4.out, hzv5.out⟩)
  have HG := Lib.hid (show ∀ j, (Blk (Value.slice gA p gc) gs) j → v5.heap.size ≤ j from fun j e => (g.lt e).1)
  have HGW := Lib.hid (show ∀ j, (Blk (Value.slice gA p gc) gs) j → w.heap.size ≤ j from fun j e => Nat.le_trans B0.size (g.lt e).1)
  replace B0 := B0.next b1
  replace o := o.below b1
  replace x0 := x0.below b1
  replace x1 := x1.below b1
  clear b1
  go_wp2_with fail
  refine (eqHunkS_any _ _ p p gc oc P P _ g.hks o.hks).mono ?_
  rintro e v7 ⟨rfl, b1⟩
  replace B0 := B0.next b1
  replace o := o.below b1
  replace x0 := x0.below b1
  replace x1 := x1.below b1
  replace g := g.below b1
  clear b1
  go_wp2_with fail
  refine (toStringS_any a0 n0 c0 l0 _ (h0.below B0) hn0).mono ?_
  rintro e v8 ⟨rfl, y0, b1⟩
  replace B0 := B0.next b1
  replace o := o.below b1
  replace x0 := x0.below b1
  replace x1 := x1.below b1
  replace g := g.below b1
  clear b1
  go_wp2_with fail
  refine (eqStringS_any _ _ n0 n0 n0 n0 l0 l0 _ x0.strs y0.strs).mono ?_
  rintro e v9 ⟨rfl, d1⟩
  have b1 := d1.below
  clear d1
  replace B0 := B0.next b1
  replace o := o.below b1
  replace x0 := x0.below b1
  replace x1 := x1.below b1
  replace g := g.below b1
  replace y0 := y0.below b1
  clear b1
  go_wp2_with fail
  refine (toOrderS_any a1 n1 c1 l1 _ (h1.below B0) HN1.out).mono ?_
  rintro e v10 ⟨rfl, ⟨y1s, y1⟩, b1⟩
  replace B0 := B0.next b1
  replace o := o.below b1
  replace x0 := x0.below b1
  replace x1 := x1.below b1
  replace g := g.below b1
  clear b1
  go_wp2_with fail
  refine (eqOrderS_any _ _ n1 n1 n1 n1 l1 l1 _ x1.ods y1.ods).mono ?_
  rintro e v11 ⟨rfl, b1⟩
  replace B0 := B0.next b1
  replace o := o.below b1
  replace x0 := x0.below b1
  replace x1 := x1.below b1
  replace g := g.below b1
  replace y1 := y1.below b1
  clear b1
  go_wp2_with fail
  refine (markStrW_any _ n0 n0 _ (1) l0 _ x0 hn0 (by have := HB0.out; have := HL0.out; have := HB1.out; have := HL1.out; omega)).mono ?_
  rintro e v12 ⟨rfl, xm, g1⟩
  replace B0 := Wrote.below' B0 g1 (fun j e => (HX0.out j e).1)
  replace o := o.wrote g1 (fun j e e2 => by have h3 := HO.out j e; have h4 := (HX0.out j e2).2.1; omega)
  replace x1 := x1.wrote g1 (fun j e e2 => by have h3 := (HX1.out j e).2.2.1; have h4 := (HX0.out j e2).2.2.2; have h5 := HZ.out; omega)
  replace g := g.wrote g1 (fun j e e2 => by have h3 := HG.out j e; have h4 := (HX0.out j e2).2.2.2; have h5 := HZ.out; omega)
  clear g1 xm
  go_wp2_with fail
  refine (markOrderS_any _ n1 n1 _ (1 + n0) l1 _ _ x1 HN1.out (by have := HB0.out; have := HL0.out; have := HB1.out; have := HL1.out; omega)).mono ?_
  rintro e v13 ⟨rfl, ⟨xms, xm⟩, g1⟩
  replace B0 := Wrote.below' B0 g1 (fun j e => (HX1.out j e).1)
  replace o := o.wrote g1 (fun j e e2 => by have h3 := HO.out j e; have h4 := (HX1.out j e2).2.1; omega)
  replace g := g.wrote g1 (fun j e e2 => by have h3 := HG.out j e; have h4 := (HX1.out j e2).2.2.2; have h5 := HZ.out; omega)
  clear g1 xm
  have hz0 : decide (((endO (1 + n0) l1 : Nat) : Int) < 0) = false := by simp <;> omega
  go_wp2_with fail
  refine (eqHunkS_any _ _ p p gc oc P P _ g.hks o.hks).mono ?_
  rintro e v14 ⟨rfl, b1⟩
  replace B0 := B0.next b1
  replace o := o.below b1
  replace g := g.below b1
  clear b1
  go_wp2_with fail
  refine (markHunkS_any _ p gc _ 1 P _ _ g (by have := HBD.out; (try dsimp only at *); omega) (by have := HBD.out; (try dsimp only at *); omega)).mono ?_
  rintro e v15 ⟨rfl, gm, g1⟩
  replace B0 := Wrote.below' B0 g1 (fun j e => HGW.out j e)
  replace o := o.wrote g1 (fun j e e2 => by have h3 := HO.out j e; have h4 := HG.out j e2; have h5 := HZ.out; omega)
  clear g1
  have hz1 : decide (((endH 1 P : Nat) : Int) < 0) = false := by simp <;> omega
  have hz2 : (((endH 1 P : Nat) : Int) != ((endH 1 P : Nat) : Int)) = false := by simp
  go_wp2_with fail
  refine (heldHunkS_any _ p gc 1 P _ gm.hks (by have := HBD.out; (try dsimp only at *); omega) (by have := HBD.out; (try dsimp only at *); omega)).mono ?_
  rintro e v16 ⟨rfl, b1⟩
  replace B0 := B0.next b1
  replace o := o.below b1
  replace gm := gm.below b1
  clear b1
  go_wp2_with fail
  refine (toStringS_any a0 n0 c0 l0 _ (h0.below B0) hn0).mono ?_
  rintro e v17 ⟨rfl, t0, b1⟩
  replace B0 := B0.next b1
  replace o := o.below b1
  replace gm := gm.below b1
  clear b1
  go_wp2_with fail
  refine (toOrderS_any a1 n1 c1 l1 _ (h1.below B0) HN1.out).mono ?_
  rintro e v18 ⟨rfl, ⟨t1s, t1⟩, b1⟩
  replace B0 := B0.next b1
  replace o := o.below b1
  replace gm := gm.below b1
  replace t0 := t0.below b1
  clear b1
  go_wp2_with fail
  refine (implOrdersHunks_any _ n0 n0 l0 _ n1 n1 l1 _ t0.strs t1.pods).mono ?_
  rintro e v19 ⟨fv, fs, rfl, f, b1⟩
  rw [HP.out] at f ⊢
  dsimp only at f ⊢
  obtain ⟨fA, fc, rfl, fh1, fh2⟩ := f.form HPL.out
  replace B0 := B0.next b1
  replace o := o.below b1
  replace gm := gm.below b1
  replace t0 := t0.below b1
  replace t1 := t1.below b1
  clear b1
  go_wp2_with fail
  refine (eqHunkS_any _ _ p p fc oc P P _ f.hks o.hks).mono ?_
  rintro e v20 ⟨rfl, b1⟩
  replace B0 := B0.next b1
  replace o := o.below b1
  replace gm := gm.below b1
  replace f := f.below b1
  clear b1
  go_wp2_with fail
  refine (heldHunkS_any _ p gc 1 P _ gm.hks (by have := HBD.out; (try dsimp only at *); omega) (by have := HBD.out; (try dsimp only at *); omega)).mono ?_
  rintro e v21 ⟨rfl, b1⟩
  replace B0 := B0.next b1
  go_wp2
  go_ret
  exact ⟨rfl, B0⟩

end Go.Proofs.Ytnnaigoomipklaa
