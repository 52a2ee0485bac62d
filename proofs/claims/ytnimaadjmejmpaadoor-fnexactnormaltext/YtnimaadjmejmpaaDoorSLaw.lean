/-
  The laws' own small functions on steps: counted, copied, compared.
-/
import Derived.Test.YtnimaadjmejmpaaDoorSMem
import Derived.Test.YtnimaadjmejmpaaDoorSBase2
set_option linter.unusedSimpArgs false
set_option linter.unusedVariables false
namespace Go.Proofs.YtnimaadjmejmpaaDoor
open Go.RowKit Go.ChangeShapes Go.WideShapes M

theorem szStep_any (A B : Option Addr) (m c m2 c2 : Nat) (x : Sp) (left : Int) (w : World) (hl : Strs w A m x.old) (hl2 : Strs w B m2 x.new) (h0 : 0 ≤ left) (h1 : left ≤ 1048576) :
    Calls Tryd.prog 23 #[.agg #[.int .i64 x.fr, .int .i64 x.to_, .slice A m c, .int .i64 x.at_, .int .i64 x.en, .slice B m2 c2], .int .i64 left] w fun e w' => e = .returned (.int .i64 (szP x left)) ∧ Below w.heap.size w w' := by
  by_cases hn : left < x.old.length + total x.old
  · have hf := Lib.hid (show szP x left = -1 from if_pos (by unfold bulk; omega))
    go_enter Tryd.func23, Tryd.ntmps23
    go_wp2_with fail
    refine (sz_neg A m c x.old left _ (hl.below (below_alloc _ _)) h0 h1 hn).mono ?_
    rintro e w1 ⟨rfl, rfl⟩
    go_wp2
    go_ret
    exact ⟨ret_int hf.out.symm, below_alloc _ _⟩
  · obtain ⟨r, HR, hr0, hr1⟩ : ∃ r, Hid (szS x.old left = r) ∧ 0 ≤ r ∧ r ≤ 1048576 := ⟨_, rfl, by unfold szS; rw [if_neg hn]; omega, by unfold szS; rw [if_neg hn]; omega⟩
    have HRV := Lib.hid (show r = left - x.old.length - total x.old by rw [← HR.out]; exact if_neg hn)
    by_cases hn2 : r < x.new.length + total x.new
    · have hf := Lib.hid (show szP x left = -1 from if_pos (by have := HRV.out; unfold bulk; omega))
      clear hn
      go_enter Tryd.func23, Tryd.ntmps23
      go_wp2_with fail
      refine (szStringS_any A m c x.old left _ (hl.below (below_alloc _ _)) h0 h1).mono ?_
      rintro e w1 ⟨rfl, rfl⟩
      rw [HR.out]
      go_wp2_with fail
      refine (sz_neg B m2 c2 x.new r _ (hl2.below (below_alloc _ _)) hr0 hr1 hn2).mono ?_
      rintro e w1 ⟨rfl, rfl⟩
      go_wp2
      go_ret
      exact ⟨ret_int hf.out.symm, below_alloc _ _⟩
    · obtain ⟨q, HQ, hq0, hq1⟩ : ∃ q, Hid (szS x.new r = q) ∧ 0 ≤ q ∧ q ≤ 1048576 := ⟨_, rfl, by unfold szS; rw [if_neg hn2]; omega, by unfold szS; rw [if_neg hn2]; omega⟩
      have hf := Lib.hid (show szP x left = q by
        have h2 : q = r - x.new.length - total x.new := by rw [← HQ.out]; exact if_neg hn2
        have h3 := HRV.out
        unfold szP bulk
        rw [if_neg (by omega)]
        omega)
      clear hn hn2
      go_enter Tryd.func23, Tryd.ntmps23
      go_wp2_with fail
      refine (szStringS_any A m c x.old left _ (hl.below (below_alloc _ _)) h0 h1).mono ?_
      rintro e w1 ⟨rfl, rfl⟩
      rw [HR.out]
      go_wp2_with fail
      refine (szStringS_any B m2 c2 x.new r _ (hl2.below (below_alloc _ _)) hr0 hr1).mono ?_
      rintro e w1 ⟨rfl, rfl⟩
      rw [HQ.out]
      go_wp2
      go_ret
      exact ⟨ret_int hf.out.symm, below_alloc _ _⟩

set_option maxHeartbeats 400000 in
theorem szStepS_any (a : Option Addr) (n c : Nat) (l : List Sp) (left : Int) (w : World) (hl : Sps w a n l) (h0 : 0 ≤ left) (h1 : left ≤ 1048576) :
    Calls Tryd.prog 13 #[.slice a n c, .int .i64 left] w fun e w' => e = .returned (.int .i64 (szPS l left)) ∧ Below w.heap.size w w' := by
  have hlim := hl.lim
  unfold maxLen at hlim
  have HL := Lib.hid hl.len
  by_cases hn : left < n
  · have hf := Lib.hid (show szPS l left = -1 from if_pos (by rw [HL.out]; omega))
    go_enter Tryd.func13, Tryd.ntmps13
    go_wp2
    go_ret
    exact ⟨ret_int hf.out.symm, Below.refl _ _⟩
  · go_enter Tryd.func13, Tryd.ntmps13
    go_wp2
    go_loopw [1, 5] (fun q i w' => ∃ k : Nat, ∃ r : Int, i = .int .i64 k ∧ q = .int .i64 r ∧ k ≤ n ∧ 0 ≤ r ∧ r ≤ 1048576 ∧ Hid (r + n + totalP (l.take k) = left) ∧ Below w.heap.size w w') (fun _ i _ => n - (intOf i).toNat)
    case atStart => exact ⟨0, left - n, rfl, rfl, by omega, by omega, by omega, show left - n + n + ((totalP (l.take 0) : Nat) : Int) = left by simp [totalP], Below.refl _ _⟩
    case round =>
      obtain ⟨k, r, rfl, rfl, hk, hr0, hr1, H, hb⟩ := hrel
      by_cases hlt : k < n
      · obtain ⟨b, off, A, m, c', B, m2, c2', x, rfl, hx, c0, c1, c2, c3, c4, c5, hs, hmc, hs2, hmc2, _⟩ := (hl.below hb).at_ hlt
        have HX := Lib.hid hx
        clear hx
        by_cases hq : r < bulk x
        · have hs1 := Lib.hid (show szP x r = -1 from if_pos hq)
          have hf := Lib.hid (show szPS l left = -1 from if_pos (by
            have h1 := totalP_take_succ HX.out; have h2 := totalP_take_le l (k + 1); have h3 := H.out; rw [HL.out]; omega))
          clear hq
          go_wp2_with fail
          refine (szStep_any A B m c' m2 c2' x r _ hs hs2 hr0 hr1).mono ?_
          rintro e w1 ⟨rfl, b1⟩
          rw [hs1.out]
          go_wp2
          go_ret
          exact ⟨ret_int hf.out.symm, hb.next b1⟩
        · have h1 := Lib.hid (totalP_take_succ HX.out)
          obtain ⟨r', hs1, hr'⟩ : ∃ r', Hid (szP x r = r') ∧ Hid (r' = r - bulk x) := ⟨_, rfl, if_neg hq⟩
          have hr2 : 0 ≤ r' ∧ r' ≤ 1048576 := by have := hr'.out; omega
          obtain ⟨hr2, hr3⟩ := hr2
          clear hq
          go_wp2_with fail
          refine (szStep_any A B m c' m2 c2' x r _ hs hs2 hr0 hr1).mono ?_
          rintro e w1 ⟨rfl, b1⟩
          rw [hs1.out]
          go_wp2
          go_roundw
          case rel => exact ⟨k + 1, r', by go_num, rfl, by omega, by omega, by omega, show _ = _ by have h1 := h1.out; have h3 := H.out; have h4 := hr'.out; omega, hb.next b1⟩
          case measure => simp [intOf]; omega
      · have hf := Lib.hid (show szPS l left = r by
          have h3 := H.out
          have h4 : l.take k = l := List.take_of_length_le (by rw [HL.out]; omega)
          rw [h4] at h3
          unfold szPS
          rw [if_neg (by rw [HL.out]; omega), HL.out]
          omega)
        go_wp2
        go_ret
        exact ⟨ret_int hf.out.symm, hb⟩

theorem szP_neg (a : Option Addr) (n c : Nat) (l : List Sp) (left : Int) (w : World) (hl : Sps w a n l) (h0 : 0 ≤ left) (h1 : left ≤ 1048576) (h : left < l.length + totalP l) :
    Calls Tryd.prog 13 #[.slice a n c, .int .i64 left] w fun e w' => e = .returned (.int .i64 (-1)) ∧ Below w.heap.size w w' := by
  have e : szPS l left = -1 := if_pos h
  rw [← e]
  exact szStepS_any a n c l left w hl h0 h1
theorem szP_more (a : Option Addr) (n c : Nat) (l : List Sp) (left : Int) (w : World) (hl : Sps w a n l) (h0 : 0 ≤ left) (h1 : left ≤ 1048576) (h : (l.length : Int) + totalP l ≤ left) :
    Calls Tryd.prog 13 #[.slice a n c, .int .i64 left] w fun e w' => ∃ r : Int, 0 ≤ r ∧ r ≤ 1048576 ∧ Hid (r + l.length + totalP l = left) ∧ e = .returned (.int .i64 r) ∧ Below w.heap.size w w' := by
  have e : szPS l left = left - l.length - totalP l := if_neg (by omega)
  refine (szStepS_any a n c l left w hl h0 h1).mono fun e' w' ⟨h1, h2⟩ => ⟨szPS l left, by omega, by omega, show _ = _ by omega, h1, h2⟩

theorem eqStep_any (A1 B1 A2 B2 : Option Addr) (m1 c1 n1 d1 m2 c2 n2 d2 : Nat) (x y : Sp) (w : World) (hx : Strs w A1 m1 x.old) (hx2 : Strs w B1 n1 x.new) (hy : Strs w A2 m2 y.old) (hy2 : Strs w B2 n2 y.new) :
    Calls Tryd.prog 33 #[.agg #[.int .i64 x.fr, .int .i64 x.to_, .slice A1 m1 c1, .int .i64 x.at_, .int .i64 x.en, .slice B1 n1 d1], .agg #[.int .i64 y.fr, .int .i64 y.to_, .slice A2 m2 c2, .int .i64 y.at_, .int .i64 y.en, .slice B2 n2 d2]] w fun e w' => e = .returned (.bool (eqP x y)) ∧ Below w.heap.size w w' := by
  obtain ⟨W, HW⟩ : ∃ W, Hid (W = (w.alloc (.cells #[.int .i64 x.fr, .int .i64 x.to_, .slice A1 m1 c1, .int .i64 x.at_, .int .i64 x.en, .slice B1 n1 d1] 54)).alloc (.cells #[.int .i64 y.fr, .int .i64 y.to_, .slice A2 m2 c2, .int .i64 y.at_, .int .i64 y.en, .slice B2 n2 d2] 54)) := ⟨_, rfl⟩
  have HB := Lib.hid (show Below w.heap.size w W by rw [HW.out]; exact (below_alloc w _).next (below_alloc _ _))
  have HC := Lib.hid (show W.cell? ⟨w.heap.size, 3, none⟩ = some (.int .i64 x.at_) ∧ W.cell? ⟨w.heap.size, 4, none⟩ = some (.int .i64 x.en) ∧ W.cell? ⟨w.heap.size, 5, none⟩ = some (.slice B1 n1 d1) ∧ W.cell? ⟨w.heap.size + 1, 3, none⟩ = some (.int .i64 y.at_) ∧ W.cell? ⟨w.heap.size + 1, 4, none⟩ = some (.int .i64 y.en) ∧ W.cell? ⟨w.heap.size + 1, 5, none⟩ = some (.slice B2 n2 d2) by
    have q0 : W.heap[w.heap.size]? = some (.cells #[.int .i64 x.fr, .int .i64 x.to_, .slice A1 m1 c1, .int .i64 x.at_, .int .i64 x.en, .slice B1 n1 d1] 54 (0, 0)) := by
      rw [HW.out, Below.heap_alloc _ _ _ (by simp)]; exact heap_at rfl
    have q1 : W.heap[w.heap.size + 1]? = some (.cells #[.int .i64 y.fr, .int .i64 y.to_, .slice A2 m2 c2, .int .i64 y.at_, .int .i64 y.en, .slice B2 n2 d2] 54 (0, 0)) := by
      rw [HW.out]; exact heap_at (by simp)
    simp [World.cell?, q0, q1])
  by_cases h1 : x.fr = y.fr
  case neg =>
    have q1 : (x.fr != y.fr) = true := by simp [h1]
    have hf := Lib.hid (show eqP x y = false by simp [eqP, h1])
    clear h1
    go_enter Tryd.func33, Tryd.ntmps33
    go_wp2
    go_ret
    exact ⟨ret_bool hf.out.symm, by rw [← HW.out]; exact HB.out⟩
  have q1 : (x.fr != y.fr) = false := by simp [h1]
  by_cases h2 : x.to_ = y.to_
  case neg =>
    have q2 : (x.to_ != y.to_) = true := by simp [h2]
    have hf := Lib.hid (show eqP x y = false by simp [eqP, h2])
    clear h1 h2
    go_enter Tryd.func33, Tryd.ntmps33
    go_wp2
    go_ret
    exact ⟨ret_bool hf.out.symm, by rw [← HW.out]; exact HB.out⟩
  have q2 : (x.to_ != y.to_) = false := by simp [h2]
  cases h3 : eqT x.old y.old
  case false =>
    have hf := Lib.hid (show eqP x y = false by simp [eqP, h3])
    have H3 := Lib.hid h3
    clear h1 h2 h3
    go_enter Tryd.func33, Tryd.ntmps33
    go_wp2_with fail
    rw [← HW.out]
    refine (eqStringS_any A1 A2 m1 m2 c1 c2 x.old y.old _ (hx.below HB.out) (hy.below HB.out)).mono ?_
    rintro e w1 ⟨rfl, dd1⟩
    have b1 := HB.out.next dd1.below
    have k0 := cell_keep dd1.below HC.out.1
    have k1 := cell_keep dd1.below HC.out.2.1
    have k3 := cell_keep dd1.below HC.out.2.2.2.1
    have k4 := cell_keep dd1.below HC.out.2.2.2.2.1
    rw [H3.out]
    go_wp2
    go_ret
    exact ⟨ret_bool hf.out.symm, b1⟩
  have H3 := Lib.hid h3
  by_cases h4 : x.at_ = y.at_
  case neg =>
    have q4 : (x.at_ != y.at_) = true := by simp [h4]
    have hf := Lib.hid (show eqP x y = false by simp [eqP, h4])
    clear h1 h2 h3 h4
    go_enter Tryd.func33, Tryd.ntmps33
    go_wp2_with fail
    rw [← HW.out]
    refine (eqStringS_any A1 A2 m1 m2 c1 c2 x.old y.old _ (hx.below HB.out) (hy.below HB.out)).mono ?_
    rintro e w1 ⟨rfl, dd1⟩
    have b1 := HB.out.next dd1.below
    have k0 := cell_keep dd1.below HC.out.1
    have k1 := cell_keep dd1.below HC.out.2.1
    have k3 := cell_keep dd1.below HC.out.2.2.2.1
    have k4 := cell_keep dd1.below HC.out.2.2.2.2.1
    rw [H3.out]
    go_wp2
    go_ret
    exact ⟨ret_bool hf.out.symm, b1⟩
  have q4 : (x.at_ != y.at_) = false := by simp [h4]
  by_cases h5 : x.en = y.en
  case neg =>
    have q5 : (x.en != y.en) = true := by simp [h5]
    have hf := Lib.hid (show eqP x y = false by simp [eqP, h5])
    clear h1 h2 h3 h4 h5
    go_enter Tryd.func33, Tryd.ntmps33
    go_wp2_with fail
    rw [← HW.out]
    refine (eqStringS_any A1 A2 m1 m2 c1 c2 x.old y.old _ (hx.below HB.out) (hy.below HB.out)).mono ?_
    rintro e w1 ⟨rfl, dd1⟩
    have b1 := HB.out.next dd1.below
    have k0 := cell_keep dd1.below HC.out.1
    have k1 := cell_keep dd1.below HC.out.2.1
    have k3 := cell_keep dd1.below HC.out.2.2.2.1
    have k4 := cell_keep dd1.below HC.out.2.2.2.2.1
    rw [H3.out]
    go_wp2
    go_ret
    exact ⟨ret_bool hf.out.symm, b1⟩
  have q5 : (x.en != y.en) = false := by simp [h5]
  have hf := Lib.hid (show eqP x y = eqT x.new y.new by simp [eqP, h1, h2, h3, h4, h5])
  clear h1 h2 h3 h4 h5
  go_enter Tryd.func33, Tryd.ntmps33
  go_wp2_with fail
  rw [← HW.out]
  refine (eqStringS_any A1 A2 m1 m2 c1 c2 x.old y.old _ (hx.below HB.out) (hy.below HB.out)).mono ?_
  rintro e w1 ⟨rfl, dd1⟩
  have b1 := HB.out.next dd1.below
  have k0 := cell_keep dd1.below HC.out.1
  have k1 := cell_keep dd1.below HC.out.2.1
  have k2 := cell_keep dd1.below HC.out.2.2.1
  have k3 := cell_keep dd1.below HC.out.2.2.2.1
  have k4 := cell_keep dd1.below HC.out.2.2.2.2.1
  have k5 := cell_keep dd1.below HC.out.2.2.2.2.2
  rw [H3.out]
  go_wp2_with fail
  refine (eqStringS_any B1 B2 n1 n2 _ _ x.new y.new _ (hx2.below b1) (hy2.below b1)).mono ?_
  rintro e w2 ⟨rfl, dd2⟩
  have b2 := b1.next dd2.below
  cases hq : eqT x.new y.new
  all_goals
    go_wp2
    go_ret
    exact ⟨ret_bool (by rw [hf.out, hq]), b2⟩

end Go.Proofs.YtnimaadjmejmpaaDoor
