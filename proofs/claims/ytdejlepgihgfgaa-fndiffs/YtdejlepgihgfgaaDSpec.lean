/-
  Chapter 3 of the model.
-/
import Derived.Test.YtdejlepgihgfgaaDPairS
import Derived.Test.YtdejlepgihgfgaaDImp
import Derived.Test.YtdejlepgihgfgaaHGoodS
set_option linter.unusedSimpArgs false
set_option linter.unusedVariables false
namespace Go.Proofs.Ytdejlepgihgfgaa
open Go.RowKit M

theorem tab_all (a b : List ByteArray) : tab a b 0 0 = lcs a b := rfl
theorem TabS.first {w : World} {g n1 m1 : Nat} {gs : List Nat} {T : Nat → Nat → Nat} (h : TabS w g (n1 + 1) (m1 + 1) (n1 + 1) gs T) : ∃ x, w.cell? ⟨g, 0, none⟩ = some (.slice (some ⟨x, 0, none⟩) (m1 + 1) (m1 + 1)) ∧ w.cell? ⟨x, 0, none⟩ = some (.int .i64 (T 0 0 : Int)) := by
  obtain ⟨x, hx⟩ := h.get (show 0 < n1 + 1 by omega)
  exact ⟨x, h.outer hx, h.cell hx (by omega)⟩


set_option maxHeartbeats 1000000 in
set_option maxRecDepth 100000 in
theorem l3Apart_any (aA : Option Addr) (na ca : Nat) (la : List ByteArray) (bA : Option Addr) (nb cb : Nat) (lb : List ByteArray) (w : World) (ha : Strs w aA na la) (hbS : Strs w bA nb lb) (hna : na ≤ 40) (hnb : nb ≤ 40) :
    Calls Try.prog 32 #[.slice aA na ca, .slice bA nb cb] w fun e w' => e = .returned (.int .i64 (apart la lb)) ∧ Below w.heap.size w w' := by
  have hl : lcs la lb ≤ 40 := by have := lcs_le_left la lb; rw [ha.len] at this; omega
  obtain ⟨d, Hd⟩ : ∃ d, Hid (lcs la lb = d) := ⟨_, rfl⟩
  have hf := Lib.hid (show apart la lb = (na : Int) + nb - 2 * (d : Int) by unfold apart; rw [ha.len, hbS.len, Hd.out])
  rw [Hd.out] at hl
  go_enter Try.func32, Try.ntmps32
  go_wp2_with fail
  refine (l3Table_any aA na ca la bA nb cb lb _ ha hbS hna hnb).mono ?_
  rintro e w1 ⟨g, gs, T, rfl, s1, t1, l1, b1⟩
  obtain ⟨x, c0, c1⟩ := s1.first
  rw [t1 0 0 (by omega) (by omega), tab_all, Hd.out] at c1
  clear s1 t1
  go_wp2
  go_ret
  exact ⟨ret_int hf.out.symm, b1⟩



set_option maxHeartbeats 1000000 in
theorem l3Diff_any (aA : Option Addr) (na ca : Nat) (la : List ByteArray) (bA : Option Addr) (nb cb : Nat) (lb : List ByteArray) (w : World) (ha : Strs w aA na la) (hbS : Strs w bA nb lb) (hna : na ≤ 40) (hnb : nb ≤ 40) (hcb : nb ≤ cb) :
    Calls Try.prog 23 #[.slice aA na ca, .slice bA nb cb] w fun e w' => ∃ v vs, e = .returned v ∧ OwnH w' w.heap.size v (diffH la lb) vs ∧ Below w.heap.size w w' := by
  have hf := Lib.hid (show diffH la lb = joinFrom lb 0 0 (pairsOf la lb ++ [(na, nb)]) by rw [← ha.len, ← hbS.len]; rfl)
  have HR := Lib.hid (show rises 0 0 (pairsOf la lb ++ [(na, nb)]) by rw [← ha.len, ← hbS.len]; exact stopsD_rise la lb)
  have HLE := Lib.hid (show ∀ s ∈ pairsOf la lb ++ [(na, nb)], s.1 ≤ na ∧ s.2 ≤ nb by intro s hs; rw [← ha.len, ← hbS.len] at hs ⊢; exact stopsD_le hs)
  have hll : (pairsOf la lb).length ≤ 40 := by rw [pairs_count]; have := lcs_le_left la lb; rw [ha.len] at this; omega
  have HB := Lib.hid hbS
  go_enter Try.func23, Try.ntmps23
  go_wp2_with fail
  refine (l3Pairs_any aA na ca la bA nb cb lb _ ha hbS hna hnb).mono ?_
  rintro e w1 ⟨v, rfl, o1, b1⟩
  have HO := Lib.hid o1
  clear o1
  go_wp2_with fail
  refine (l2Join_any aA na ca bA nb cb lb w.heap.size v (pairsOf la lb) _ (fun w' g => HB.out.below (Below.grown b1 g b1.size (fun k e => (World.ownsRow.lt HO.out k e).1))) hcb HO.out b1.size HR.out HLE.out hna hnb hll).mono ?_
  rintro e w2 ⟨v2, vs2, rfl, o2, b2⟩
  have HO2 := Lib.hid o2
  clear o2
  go_wp2
  go_ret
  exact ⟨_, vs2, rfl, by rw [hf.out]; exact HO2.out.more b1.size, b1.trans b2⟩

theorem join_newD {last : List ByteArray} {x : Hk} : ∀ {L : List (Nat × Nat)} {i j : Nat}, x ∈ joinFrom last i j L → x.new.length ≤ last.length
  | [], i, j, h => by simp [joinFrom] at h
  | s :: L, i, j, h => by
    rw [joinFrom] at h
    split at h
    · rcases List.mem_cons.1 h with h | h
      · rw [h]; unfold joinOne; dsimp only; rw [seg_len]; omega
      · exact join_newD h
    · exact join_newD h

set_option maxHeartbeats 1000000 in
set_option maxRecDepth 100000 in
theorem specDiffHunks_any (aA : Option Addr) (na ca : Nat) (la : List ByteArray) (bA : Option Addr) (nb cb : Nat) (lb : List ByteArray) (w : World) (ha : Strs w aA na la) (hbS : Strs w bA nb lb) (hcb : nb ≤ cb) :
    Calls Try.prog 7 #[.slice aA na ca, .slice bA nb cb] w fun e w' => ∃ v vs, e = .returned (.tuple #[v, .bool (diffOf la lb).2]) ∧ OwnH w' w.heap.size v (diffOf la lb).1 vs ∧ Below w.heap.size w w' := by
  cases hq1 : goodB la
  · have hf := Lib.hid (diffOf_no (diffOk_no (b := lb) (bothB_no1 hq1)))
    go_enter Try.func7, Try.ntmps7
    go_wp2_with fail
    refine (l1Good_any aA na ca la _ ha).mono ?_
    rintro e w1 ⟨rfl, rfl⟩
    rw [hq1]
    go_wp2
    go_ret2
    exact ⟨_, [], by rw [hf.out]; rfl, by rw [hf.out]; exact OwnH.nil_, Below.refl _ _⟩
  cases hq2 : goodB lb
  · have hf := Lib.hid (diffOf_no (diffOk_no (a := la) (bothB_no2 hq2)))
    go_enter Try.func7, Try.ntmps7
    go_wp2_with fail
    refine (l1Good_any aA na ca la _ ha).mono ?_
    rintro e w1 ⟨rfl, rfl⟩
    rw [hq1]
    go_wp2_with fail
    refine (l1Good_any bA nb cb lb _ hbS).mono ?_
    rintro e w2 ⟨rfl, rfl⟩
    rw [hq2]
    go_wp2
    go_ret2
    exact ⟨_, [], by rw [hf.out]; rfl, by rw [hf.out]; exact OwnH.nil_, Below.refl _ _⟩
  have hbb : bothB la lb = true := by simp [bothB, hq1, hq2]
  have hna : na ≤ 40 := by rw [← ha.len]; exact goodB_len hq1
  have hnb : nb ≤ 40 := by rw [← hbS.len]; exact goodB_len hq2
  have HNA := Lib.hid ha.len
  have HNB := Lib.hid hbS.len
  have HA := Lib.hid ha
  have HB := Lib.hid hbS
  have hg := Lib.hid (show diffOk la lb = goodH la.length (diffH la lb) by simp [diffOk, hbb])
  have HNEW := Lib.hid (show ∀ x ∈ diffH la lb, x.new.length ≤ 1048576 from fun x hx => by have := join_newD hx; rw [HNB.out] at this; omega)
  obtain ⟨y, Hy⟩ : ∃ y, Hid (goodH la.length (diffH la lb) = y) := ⟨_, rfl⟩
  obtain ⟨q, Hq⟩ : ∃ q, Hid ((diffH la lb).length = q) := ⟨_, rfl⟩
  clear ha hbS
  go_enter Try.func7, Try.ntmps7
  go_wp2_with fail
  refine (l1Good_any aA na ca la _ HA.out).mono ?_
  rintro e w1 ⟨rfl, rfl⟩
  rw [hq1]
  go_wp2_with fail
  refine (l1Good_any bA nb cb lb _ HB.out).mono ?_
  rintro e w2 ⟨rfl, rfl⟩
  rw [hq2]
  go_wp2_with fail
  refine (l3Diff_any aA na ca la bA nb cb lb _ HA.out HB.out hna hnb hcb).mono ?_
  rintro e w1 ⟨v, vs, rfl, o1, b1⟩
  obtain ⟨A, cap, hv, hqc, _⟩ := o1.form Hq.out
  subst hv
  have HO := Lib.hid o1
  clear o1
  go_wp2_with fail
  refine (l2Hunks_any (na : Int) A q cap (diffH la lb) _ HO.out.hks ⟨by omega, by omega⟩ HNEW.out).mono ?_
  rintro e w2 ⟨rfl, b2⟩
  rw [← HNA.out, Hy.out]
  cases y with
  | false =>
    have hf := Lib.hid (diffOf_no (hg.out.trans Hy.out))
    go_wp2
    go_ret2
    exact ⟨_, [], by rw [hf.out]; rfl, by rw [hf.out]; exact OwnH.nil_, b1.next b2⟩
  | true =>
    have hf := Lib.hid (diffOf_yes (hg.out.trans Hy.out))
    have B2 := Lib.hid (b1.next b2)
    go_wp2_with fail
    rw [HNA.out]
    refine (l3Diff_any aA na ca la bA nb cb lb _ (HA.out.below B2.out) (HB.out.below B2.out) hna hnb hcb).mono ?_
    rintro e w3 ⟨v3, vs3, rfl, o3, b3⟩
    have HO3 := Lib.hid o3
    clear o3
    go_wp2
    go_ret2
    exact ⟨_, vs3, by rw [hf.out]; rfl, by rw [hf.out]; exact HO3.out.more B2.out.size, B2.out.next b3⟩

set_option maxHeartbeats 1000000 in
set_option maxRecDepth 100000 in
theorem specNeedsHunks_any (aA : Option Addr) (na ca : Nat) (la : List ByteArray) (bA : Option Addr) (nb cb : Nat) (lb : List ByteArray) (w : World) (ha : Strs w aA na la) (hbS : Strs w bA nb lb) (hcb : nb ≤ cb) :
    Calls Try.prog 9 #[.slice aA na ca, .slice bA nb cb] w fun e w' => e = .returned (.tuple #[.int .i64 (needsOf la lb).1, .bool (needsOf la lb).2]) ∧ Below w.heap.size w w' := by
  cases hq1 : goodB la
  · have hf := Lib.hid (show needsOf la lb = (0, false) by simp [needsOf, bothB_no1 hq1])
    go_enter Try.func9, Try.ntmps9
    go_wp2_with fail
    refine (l1Good_any aA na ca la _ ha).mono ?_
    rintro e w1 ⟨rfl, rfl⟩
    rw [hq1]
    go_wp2
    go_ret2
    exact ⟨by rw [hf.out]; rfl, Below.refl _ _⟩
  cases hq2 : goodB lb
  · have hf := Lib.hid (show needsOf la lb = (0, false) by simp [needsOf, bothB_no2 hq2])
    go_enter Try.func9, Try.ntmps9
    go_wp2_with fail
    refine (l1Good_any aA na ca la _ ha).mono ?_
    rintro e w1 ⟨rfl, rfl⟩
    rw [hq1]
    go_wp2_with fail
    refine (l1Good_any bA nb cb lb _ hbS).mono ?_
    rintro e w2 ⟨rfl, rfl⟩
    rw [hq2]
    go_wp2
    go_ret2
    exact ⟨by rw [hf.out]; rfl, Below.refl _ _⟩
  have hna : na ≤ 40 := by rw [← ha.len]; exact goodB_len hq1
  have hnb : nb ≤ 40 := by rw [← hbS.len]; exact goodB_len hq2
  obtain ⟨q, Hq⟩ : ∃ q, Hid ((diffH la lb).length = q) := ⟨_, rfl⟩
  have hf := Lib.hid (show needsOf la lb = ((q : Int), true) by simp [needsOf, bothB, hq1, hq2, Hq.out])
  go_enter Try.func9, Try.ntmps9
  go_wp2_with fail
  refine (l1Good_any aA na ca la _ ha).mono ?_
  rintro e w1 ⟨rfl, rfl⟩
  rw [hq1]
  go_wp2_with fail
  refine (l1Good_any bA nb cb lb _ hbS).mono ?_
  rintro e w2 ⟨rfl, rfl⟩
  rw [hq2]
  go_wp2_with fail
  refine (l3Diff_any aA na ca la bA nb cb lb _ ha hbS hna hnb hcb).mono ?_
  rintro e w1 ⟨v, vs, rfl, o1, b1⟩
  obtain ⟨A, cap, hv, hqc, _⟩ := o1.form Hq.out
  subst hv
  clear o1
  go_wp2
  go_ret2
  exact ⟨by rw [hf.out]; rfl, b1⟩

set_option maxHeartbeats 1000000 in
theorem specIsLeast_any (aA : Option Addr) (na ca : Nat) (la : List ByteArray) (b0 : Option Addr) (n c : Nat) (hs : List Hk) (w : World) (ha : Strs w aA na la) (hca : na ≤ ca) (hh : Hks w b0 n hs) (hnew : ∀ x ∈ hs, x.new.length ≤ 1048576) (hna : na ≤ 1048576) :
    Calls Try.prog 17 #[.slice aA na ca, .slice b0 n c] w fun e w' => e = .returned (.tuple #[.bool (leastOf la hs).1, .bool (leastOf la hs).2]) ∧ Below w.heap.size w w' := by
  have HA := Lib.hid ha
  have HH := Lib.hid hh
  cases hq : patchOk la hs
  · have hf := Lib.hid (show leastOf la hs = (false, false) by simp [leastOf, hq])
    have hp := Lib.hid (patchOf_no hq)
    go_enter Try.func17, Try.ntmps17
    go_wp2_with fail
    refine (specPatch_any aA na ca la b0 n c hs _ ha hca hh hnew hna).mono ?_
    rintro e w1 ⟨v1, rfl, o1, d1⟩
    rw [hp.out]
    clear o1
    go_wp2
    go_ret2
    exact ⟨by rw [hf.out]; rfl, d1⟩
  · obtain ⟨g1, g2, g3⟩ := patchOk_parts hq
    have hp := Lib.hid (patchOf_yes hq)
    have HF := Lib.hid (few_good g2)
    have hsm := sums_few HF.out.2
    have hlen := HF.out.1
    have hna40 : na ≤ 40 := by rw [← ha.len]; exact goodB_len g1
    obtain ⟨x, Hx⟩ : ∃ x, Hid (goneSum hs = x) := ⟨_, rfl⟩
    obtain ⟨y, Hy⟩ : ∃ y, Hid (comeSum hs = y) := ⟨_, rfl⟩
    obtain ⟨z, Hz⟩ : ∃ z, Hid (apart la (patchH la hs) = z) := ⟨_, rfl⟩
    rw [Hx.out, Hy.out] at hsm
    obtain ⟨s1, s2, s3, s4⟩ := hsm
    have s2' : x ≤ 20000 := by omega
    have s4' : y ≤ 20000 := by omega
    have hf := Lib.hid (show leastOf la hs = (decide (x + y = z), true) by unfold leastOf; rw [if_pos hq, Hx.out, Hy.out, Hz.out])
    clear s2 s4 hlen
    obtain ⟨q, Hq⟩ : ∃ q, Hid ((patchH la hs).length = q) := ⟨_, rfl⟩
    have hq40 : q ≤ 40 := by rw [← Hq.out]; exact goodB_len g3
    go_enter Try.func17, Try.ntmps17
    go_wp2_with fail
    refine (specPatch_any aA na ca la b0 n c hs _ ha hca hh hnew hna).mono ?_
    rintro e w1 ⟨v1, rfl, o1, d1⟩
    rw [hp.out] at o1 ⊢
    dsimp only at o1 ⊢
    obtain ⟨A1, cap1, rfl, hc1, _⟩ := o1.form Hq.out
    have HO := Lib.hid o1
    clear o1
    go_wp2_with fail
    refine (specCountHunks_few b0 n c hs _ (HH.out.below d1) HF.out).mono ?_
    rintro e w2 ⟨rfl, d2⟩
    rw [Hx.out, Hy.out]
    go_wp2_with fail
    refine (l3Apart_any aA na ca la A1 q cap1 (patchH la hs) _ (HA.out.below (d1.next d2)) (HO.out.below d2).strs hna40 hq40).mono ?_
    rintro e w3 ⟨rfl, d3⟩
    rw [Hz.out]
    go_wp2
    go_ret2
    exact ⟨by rw [hf.out]; first | rfl | (simp; rfl), (d1.next d2).next d3⟩

end Go.Proofs.Ytdejlepgihgfgaa
