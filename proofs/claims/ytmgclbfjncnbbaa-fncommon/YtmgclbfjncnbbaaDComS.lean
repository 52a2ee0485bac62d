/-
  CommonLines of the model.
-/
import Derived.Test.YtmgclbfjncnbbaaDSpec
set_option linter.unusedSimpArgs false
set_option linter.unusedVariables false
namespace Go.Proofs.Ytmgclbfjncnbbaa
open Go.RowKit M

set_option maxHeartbeats 2000000 in
set_option maxRecDepth 100000 in
theorem specCommonLines_any (aA : Option Addr) (na ca : Nat) (la : List ByteArray) (bA : Option Addr) (nb cb : Nat) (lb : List ByteArray) (w : World) (ha : Strs w aA na la) (hbS : Strs w bA nb lb) :
    Calls Try.prog 28 #[.slice aA na ca, .slice bA nb cb] w fun e w' => ∃ v gs, e = .returned (.tuple #[v, .bool (linesC la lb).2]) ∧ OwnPP w' w.heap.size v (linesC la lb).1 gs ∧ Below w.heap.size w w' := by
  cases hq1 : goodB la
  · have hf := Lib.hid (linesC_no (b := lb) (bothB_no1 hq1))
    go_enter Try.func28, Try.ntmps28
    go_wp2_with fail
    refine (l1Good_any aA na ca la _ ha).mono ?_
    rintro e w1 ⟨rfl, rfl⟩
    rw [hq1]
    go_wp2
    go_ret2
    exact ⟨_, [], by rw [hf.out]; rfl, by rw [hf.out]; exact OwnPP.nil_, Below.refl _ _⟩
  cases hq2 : goodB lb
  · have hf := Lib.hid (linesC_no (a := la) (bothB_no2 hq2))
    go_enter Try.func28, Try.ntmps28
    go_wp2_with fail
    refine (l1Good_any aA na ca la _ ha).mono ?_
    rintro e w1 ⟨rfl, rfl⟩
    rw [hq1]
    go_wp2_with fail
    refine (l1Good_any bA nb cb lb _ hbS).mono ?_
    rintro e w2 ⟨rfl, rfl⟩
    rw [hq2]
    go_wp2
    go_ret2
    exact ⟨_, [], by rw [hf.out]; rfl, by rw [hf.out]; exact OwnPP.nil_, Below.refl _ _⟩
  have hf := Lib.hid (linesC_yes (a := la) (b := lb) (by simp [bothB, hq1, hq2]))
  have hna : na ≤ 40 := by rw [← ha.len]; exact goodB_len hq1
  have hnb : nb ≤ 40 := by rw [← hbS.len]; exact goodB_len hq2
  have hll : (pairsOf la lb).length ≤ 40 := by rw [pairs_count]; have := lcs_le_left la lb; rw [ha.len] at this; omega
  obtain ⟨T, HTT⟩ : ∃ T, Hid (pairsOf la lb = T) := ⟨_, rfl⟩
  obtain ⟨q, Hq⟩ : ∃ q, Hid (T.length = q) := ⟨_, rfl⟩
  rw [HTT.out, Hq.out] at hll
  go_enter Try.func28, Try.ntmps28
  go_wp2_with fail
  refine (l1Good_any aA na ca la _ ha).mono ?_
  rintro e w1 ⟨rfl, rfl⟩
  rw [hq1]
  go_wp2_with fail
  refine (l1Good_any bA nb cb lb _ hbS).mono ?_
  rintro e w2 ⟨rfl, rfl⟩
  rw [hq2]
  go_wp2_with fail
  refine (l3Pairs_any aA na ca la bA nb cb lb _ ha hbS hna hnb).mono ?_
  rintro e w1 ⟨v, rfl, o1, b1⟩
  rw [HTT.out] at o1
  obtain ⟨A, cap, hv, hqc⟩ := o1.form Hq.out
  subst hv
  have HO1 := Lib.hid o1
  have B1 := Lib.hid b1
  clear o1 b1
  go_wp2
  go_loopw [6, 21] (fun v i w' => ∃ k : Nat, ∃ gs, i = .int .i64 k ∧ k ≤ q ∧ OwnPP w' w1.heap.size v (T.take k) gs ∧ Below w1.heap.size w1 w') (fun _ i _ => q - (intOf i).toNat)
  case atStart => exact ⟨0, [], rfl, by omega, OwnPP.nil_, Below.refl _ _⟩
  case round =>
    obtain ⟨k, gs, rfl, hk, ho, hb⟩ := hrel
    by_cases hlt : k < q
    · obtain ⟨g, s, rfl, hg, hs, c0, c1⟩ := HO1.out.at_ hlt
      have c0 := cell_keep hb c0
      have c1 := cell_keep hb c1
      have HSG := Lib.hid hs
      have HOW := Lib.hid ho
      have HTK := Lib.hid (show T.take (k + 1) = T.take k ++ [s] from take_snoc hs)
      have htl : (T.take k).length ≤ 40 := by simp; omega
      clear hs ho
      obtain ⟨s0, s1⟩ := s
      dsimp only at c0 c1
      have b3 := Lib.hid (((below_alloc wr (.cells #[.int .i64 (s0 : Int), .int .i64 (s1 : Int)] 83)).next (below_alloc _ (.cells #[.int .i64 (s0 : Int), .int .i64 (s1 : Int)] 3))).next (below_alloc _ (.cells #[.slice (some ⟨wr.heap.size + 1, 0, none⟩) 2 2] 46)))
      have hg1 := Lib.hid (show (((wr.alloc (.cells #[.int .i64 (s0 : Int), .int .i64 (s1 : Int)] 83)).alloc (.cells #[.int .i64 (s0 : Int), .int .i64 (s1 : Int)] 3)).alloc (.cells #[.slice (some ⟨wr.heap.size + 1, 0, none⟩) 2 2] 46)).heap[wr.heap.size + 1]? = some (.cells #[.int .i64 (s0 : Int), .int .i64 (s1 : Int)] 3 (0, 0)) by
        rw [Below.heap_alloc _ _ _ (by simp)]; exact heap_at (by simp))
      have hg2 := Lib.hid (show (((wr.alloc (.cells #[.int .i64 (s0 : Int), .int .i64 (s1 : Int)] 83)).alloc (.cells #[.int .i64 (s0 : Int), .int .i64 (s1 : Int)] 3)).alloc (.cells #[.slice (some ⟨wr.heap.size + 1, 0, none⟩) 2 2] 46)).cell? ⟨wr.heap.size + 1 + 1, 0, none⟩ = some (.slice (some ⟨wr.heap.size + 1, 0, none⟩) 2 2) by
        have h : (((wr.alloc (.cells #[.int .i64 (s0 : Int), .int .i64 (s1 : Int)] 83)).alloc (.cells #[.int .i64 (s0 : Int), .int .i64 (s1 : Int)] 3)).alloc (.cells #[.slice (some ⟨wr.heap.size + 1, 0, none⟩) 2 2] 46)).heap[wr.heap.size + 1 + 1]? = some (.cells #[.slice (some ⟨wr.heap.size + 1, 0, none⟩) 2 2] 46 (0, 0)) := heap_at (by simp)
        simp only [World.cell?, h]
        rfl)
      have hz := hb.size
      go_wp2_with (first
        | (at_builtin; refine wpList_pp (.tmp 25) (.tmp 31) w1.heap.size u6 (T.take k) gs (HOW.out.below b3.out) (s0, s1) (wr.heap.size + 1 + 1) (wr.heap.size + 1) hg2.out hg1.out (by omega) (fun e => by have := (HOW.out.lt e).2; omega) (by omega) (by simp; omega) rfl rfl rfl rfl ?_
           intro v5 w5 o5 g5
           have HO5 := Lib.hid o5
           have B5 := Lib.hid (Below.grown (hb.next b3.out) g5 (Nat.le_trans hz b3.out.size) (fun k e => (HOW.out.lt (.inl e)).1))
           clear o5 g5)
        | fail)
      go_roundw
      case rel => exact ⟨k + 1, _, by go_num, by omega, by rw [HTK.out]; exact HO5.out, B5.out⟩
      case measure => simp [intOf]; omega
    · have HE := Lib.hid (show T.take k = T from List.take_of_length_le (by rw [Hq.out]; omega))
      rw [HE.out] at ho
      go_wp2
      go_ret2
      exact ⟨_, gs, by rw [hf.out]; rfl, by rw [hf.out, HTT.out]; exact ho.more B1.out.size, B1.out.next hb⟩

end Go.Proofs.Ytmgclbfjncnbbaa
