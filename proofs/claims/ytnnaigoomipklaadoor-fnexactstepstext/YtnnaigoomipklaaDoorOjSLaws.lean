/-
  The laws' own small functions on steps: counted, copied, compared.
  The laws' own small functions on steps: compared, copied, marked.
  The laws' own small functions on steps: copied, marked.
  The laws' own small functions on lists of steps: copied, marked.
  The laws' own small functions on lists of steps: marked, held.
-/
import Derived.Test.YtnnaigoomipklaaDoorOjSMem
import Derived.Test.YtnnaigoomipklaaDoorOjSMath
set_option linter.unusedSimpArgs false
set_option linter.unusedVariables false
namespace Go.Proofs.YtnnaigoomipklaaDoor
open Go.RowKit Go.ChangeShapes Go.WideShapes M

theorem szStep_any (A B : Option Addr) (m c m2 c2 : Nat) (x : Sp) (left : Int) (w : World) (hl : Strs w A m x.old) (hl2 : Strs w B m2 x.new) (h0 : 0 ≤ left) (h1 : left ≤ 1048576) :
    Calls Tryd.prog 44 #[.agg #[.int .i64 x.fr, .int .i64 x.to_, .slice A m c, .int .i64 x.at_, .int .i64 x.en, .slice B m2 c2], .int .i64 left] w fun e w' => e = .returned (.int .i64 (szP x left)) ∧ Below w.heap.size w w' := by
  by_cases hn : left < x.old.length + total x.old
  · have hf := Lib.hid (show szP x left = -1 from if_pos (by unfold bulk; omega))
    go_enter Tryd.func44, Tryd.ntmps44
    go_wp2_with fail
    refine (sz_neg A m c x.old left _ (hl.below (below_alloc _ _)) h0 h1 hn).mono ?_
    rintro e w1 ⟨rfl, rfl⟩
    go_wp2
    go_ret
    exact ⟨ret_int hf.out.symm, below_alloc _ _⟩
  · obtain ⟨r, HR, hr0, hr1⟩ : ∃ r, Hid (szS x.old left = r) ∧ 0 ≤ r ∧ r ≤ 1048576 := ⟨_, rfl, by unfold szS; rw [if_neg hn]; omega, by unfold szS; rw [if_neg hn]; omega⟩
    have HRV := Lib.hid (show r = left - x.old.length - total x.old by rw [← HR.out]; exact if_neg hn)
    by_cases hn2 : r < x.new.length + total x.new
    · have hf := Lib.hid (show szP x left = -1 from if_pos (by have := HRV.out; unfold bulk; omega))
      clear hn
      go_enter Tryd.func44, Tryd.ntmps44
      go_wp2_with fail
      refine (szStringS_any A m c x.old left _ (hl.below (below_alloc _ _)) h0 h1).mono ?_
      rintro e w1 ⟨rfl, rfl⟩
      rw [HR.out]
      go_wp2_with fail
      refine (sz_neg B m2 c2 x.new r _ (hl2.below (below_alloc _ _)) hr0 hr1 hn2).mono ?_
      rintro e w1 ⟨rfl, rfl⟩
      go_wp2
      go_ret
      exact ⟨ret_int hf.out.symm, below_alloc _ _⟩
    · obtain ⟨q, HQ, hq0, hq1⟩ : ∃ q, Hid (szS x.new r = q) ∧ 0 ≤ q ∧ q ≤ 1048576 := ⟨_, rfl, by unfold szS; rw [if_neg hn2]; omega, by unfold szS; rw [if_neg hn2]; omega⟩
      have hf := Lib.hid (show szP x left = q by
        have h2 : q = r - x.new.length - total x.new := by rw [← HQ.out]; exact if_neg hn2
        have h3 := HRV.out
        unfold szP bulk
        rw [if_neg (by omega)]
        omega)
      clear hn hn2
      go_enter Tryd.func44, Tryd.ntmps44
      go_wp2_with fail
      refine (szStringS_any A m c x.old left _ (hl.below (below_alloc _ _)) h0 h1).mono ?_
      rintro e w1 ⟨rfl, rfl⟩
      rw [HR.out]
      go_wp2_with fail
      refine (szStringS_any B m2 c2 x.new r _ (hl2.below (below_alloc _ _)) hr0 hr1).mono ?_
      rintro e w1 ⟨rfl, rfl⟩
      rw [HQ.out]
      go_wp2
      go_ret
      exact ⟨ret_int hf.out.symm, below_alloc _ _⟩

set_option maxHeartbeats 400000 in
theorem szStepS_any (a : Option Addr) (n c : Nat) (l : List Sp) (left : Int) (w : World) (hl : Sps w a n l) (h0 : 0 ≤ left) (h1 : left ≤ 1048576) :
    Calls Tryd.prog 22 #[.slice a n c, .int .i64 left] w fun e w' => e = .returned (.int .i64 (szPS l left)) ∧ Below w.heap.size w w' := by
  have hlim := hl.lim
  unfold maxLen at hlim
  have HL := Lib.hid hl.len
  by_cases hn : left < n
  · have hf := Lib.hid (show szPS l left = -1 from if_pos (by rw [HL.out]; omega))
    go_enter Tryd.func22, Tryd.ntmps22
    go_wp2
    go_ret
    exact ⟨ret_int hf.out.symm, Below.refl _ _⟩
  · go_enter Tryd.func22, Tryd.ntmps22
    go_wp2
    go_loopw [1, 5] (fun q i w' => ∃ k : Nat, ∃ r : Int, i = .int .i64 k ∧ q = .int .i64 r ∧ k ≤ n ∧ 0 ≤ r ∧ r ≤ 1048576 ∧ Hid (r + n + totalP (l.take k) = left) ∧ Below w.heap.size w w') (fun _ i _ => n - (intOf i).toNat)
    case atStart => exact ⟨0, left - n, rfl, rfl, by omega, by omega, by omega, show left - n + n + ((totalP (l.take 0) : Nat) : Int) = left by simp [totalP], Below.refl _ _⟩
    case round =>
      obtain ⟨k, r, rfl, rfl, hk, hr0, hr1, H, hb⟩ := hrel
      by_cases hlt : k < n
      · obtain ⟨b, off, A, m, c', B, m2, c2', x, rfl, hx, c0, c1, c2, c3, c4, c5, hs, hmc, hs2, hmc2, _⟩ := (hl.below hb).at_ hlt
        have HX := Lib.hid hx
        clear hx
        by_cases hq : r < bulk x
        · have hs1 := Lib.hid (show szP x r = -1 from if_pos hq)
          have hf := Lib.hid (show szPS l left = -1 from if_pos (by
            have h1 := totalP_take_succ HX.out; have h2 := totalP_take_le l (k + 1); have h3 := H.out; rw [HL.out]; omega))
          clear hq
          go_wp2_with fail
          refine (szStep_any A B m c' m2 c2' x r _ hs hs2 hr0 hr1).mono ?_
          rintro e w1 ⟨rfl, b1⟩
          rw [hs1.out]
          go_wp2
          go_ret
          exact ⟨ret_int hf.out.symm, hb.next b1⟩
        · have h1 := Lib.hid (totalP_take_succ HX.out)
          obtain ⟨r', hs1, hr'⟩ : ∃ r', Hid (szP x r = r') ∧ Hid (r' = r - bulk x) := ⟨_, rfl, if_neg hq⟩
          have hr2 : 0 ≤ r' ∧ r' ≤ 1048576 := by have := hr'.out; omega
          obtain ⟨hr2, hr3⟩ := hr2
          clear hq
          go_wp2_with fail
          refine (szStep_any A B m c' m2 c2' x r _ hs hs2 hr0 hr1).mono ?_
          rintro e w1 ⟨rfl, b1⟩
          rw [hs1.out]
          go_wp2
          go_roundw
          case rel => exact ⟨k + 1, r', by go_num, rfl, by omega, by omega, by omega, show _ = _ by have h1 := h1.out; have h3 := H.out; have h4 := hr'.out; omega, hb.next b1⟩
          case measure => simp [intOf]; omega
      · have hf := Lib.hid (show szPS l left = r by
          have h3 := H.out
          have h4 : l.take k = l := List.take_of_length_le (by rw [HL.out]; omega)
          rw [h4] at h3
          unfold szPS
          rw [if_neg (by rw [HL.out]; omega), HL.out]
          omega)
        go_wp2
        go_ret
        exact ⟨ret_int hf.out.symm, hb⟩

theorem szP_neg (a : Option Addr) (n c : Nat) (l : List Sp) (left : Int) (w : World) (hl : Sps w a n l) (h0 : 0 ≤ left) (h1 : left ≤ 1048576) (h : left < l.length + totalP l) :
    Calls Tryd.prog 22 #[.slice a n c, .int .i64 left] w fun e w' => e = .returned (.int .i64 (-1)) ∧ Below w.heap.size w w' := by
  have e : szPS l left = -1 := if_pos h
  rw [← e]
  exact szStepS_any a n c l left w hl h0 h1
theorem szP_more (a : Option Addr) (n c : Nat) (l : List Sp) (left : Int) (w : World) (hl : Sps w a n l) (h0 : 0 ≤ left) (h1 : left ≤ 1048576) (h : (l.length : Int) + totalP l ≤ left) :
    Calls Tryd.prog 22 #[.slice a n c, .int .i64 left] w fun e w' => ∃ r : Int, 0 ≤ r ∧ r ≤ 1048576 ∧ Hid (r + l.length + totalP l = left) ∧ e = .returned (.int .i64 r) ∧ Below w.heap.size w w' := by
  have e : szPS l left = left - l.length - totalP l := if_neg (by omega)
  refine (szStepS_any a n c l left w hl h0 h1).mono fun e' w' ⟨h1, h2⟩ => ⟨szPS l left, by omega, by omega, show _ = _ by omega, h1, h2⟩

theorem eqStep_any (A1 B1 A2 B2 : Option Addr) (m1 c1 n1 d1 m2 c2 n2 d2 : Nat) (x y : Sp) (w : World) (hx : Strs w A1 m1 x.old) (hx2 : Strs w B1 n1 x.new) (hy : Strs w A2 m2 y.old) (hy2 : Strs w B2 n2 y.new) :
    Calls Tryd.prog 51 #[.agg #[.int .i64 x.fr, .int .i64 x.to_, .slice A1 m1 c1, .int .i64 x.at_, .int .i64 x.en, .slice B1 n1 d1], .agg #[.int .i64 y.fr, .int .i64 y.to_, .slice A2 m2 c2, .int .i64 y.at_, .int .i64 y.en, .slice B2 n2 d2]] w fun e w' => e = .returned (.bool (eqP x y)) ∧ Below w.heap.size w w' := by
  obtain ⟨W, HW⟩ : ∃ W, Hid (W = (w.alloc (.cells #[.int .i64 x.fr, .int .i64 x.to_, .slice A1 m1 c1, .int .i64 x.at_, .int .i64 x.en, .slice B1 n1 d1] 83)).alloc (.cells #[.int .i64 y.fr, .int .i64 y.to_, .slice A2 m2 c2, .int .i64 y.at_, .int .i64 y.en, .slice B2 n2 d2] 83)) := ⟨_, rfl⟩
  have HB := Lib.hid (show Below w.heap.size w W by rw [HW.out]; exact (below_alloc w _).next (below_alloc _ _))
  have HC := Lib.hid (show W.cell? ⟨w.heap.size, 3, none⟩ = some (.int .i64 x.at_) ∧ W.cell? ⟨w.heap.size, 4, none⟩ = some (.int .i64 x.en) ∧ W.cell? ⟨w.heap.size, 5, none⟩ = some (.slice B1 n1 d1) ∧ W.cell? ⟨w.heap.size + 1, 3, none⟩ = some (.int .i64 y.at_) ∧ W.cell? ⟨w.heap.size + 1, 4, none⟩ = some (.int .i64 y.en) ∧ W.cell? ⟨w.heap.size + 1, 5, none⟩ = some (.slice B2 n2 d2) by
    have q0 : W.heap[w.heap.size]? = some (.cells #[.int .i64 x.fr, .int .i64 x.to_, .slice A1 m1 c1, .int .i64 x.at_, .int .i64 x.en, .slice B1 n1 d1] 83 (0, 0)) := by
      rw [HW.out, Below.heap_alloc _ _ _ (by simp)]; exact heap_at rfl
    have q1 : W.heap[w.heap.size + 1]? = some (.cells #[.int .i64 y.fr, .int .i64 y.to_, .slice A2 m2 c2, .int .i64 y.at_, .int .i64 y.en, .slice B2 n2 d2] 83 (0, 0)) := by
      rw [HW.out]; exact heap_at (by simp)
    simp [World.cell?, q0, q1])
  by_cases h1 : x.fr = y.fr
  case neg =>
    have q1 : (x.fr != y.fr) = true := by simp [h1]
    have hf := Lib.hid (show eqP x y = false by simp [eqP, h1])
    clear h1
    go_enter Tryd.func51, Tryd.ntmps51
    go_wp2
    go_ret
    exact ⟨ret_bool hf.out.symm, by rw [← HW.out]; exact HB.out⟩
  have q1 : (x.fr != y.fr) = false := by simp [h1]
  by_cases h2 : x.to_ = y.to_
  case neg =>
    have q2 : (x.to_ != y.to_) = true := by simp [h2]
    have hf := Lib.hid (show eqP x y = false by simp [eqP, h2])
    clear h1 h2
    go_enter Tryd.func51, Tryd.ntmps51
    go_wp2
    go_ret
    exact ⟨ret_bool hf.out.symm, by rw [← HW.out]; exact HB.out⟩
  have q2 : (x.to_ != y.to_) = false := by simp [h2]
  cases h3 : eqT x.old y.old
  case false =>
    have hf := Lib.hid (show eqP x y = false by simp [eqP, h3])
    have H3 := Lib.hid h3
    clear h1 h2 h3
    go_enter Tryd.func51, Tryd.ntmps51
    go_wp2_with fail
    rw [← HW.out]
    refine (eqStringS_any A1 A2 m1 m2 c1 c2 x.old y.old _ (hx.below HB.out) (hy.below HB.out)).mono ?_
    rintro e w1 ⟨rfl, dd1⟩
    have b1 := HB.out.next dd1.below
    have k0 := cell_keep dd1.below HC.out.1
    have k1 := cell_keep dd1.below HC.out.2.1
    have k3 := cell_keep dd1.below HC.out.2.2.2.1
    have k4 := cell_keep dd1.below HC.out.2.2.2.2.1
    rw [H3.out]
    go_wp2
    go_ret
    exact ⟨ret_bool hf.out.symm, b1⟩
  have H3 := Lib.hid h3
  by_cases h4 : x.at_ = y.at_
  case neg =>
    have q4 : (x.at_ != y.at_) = true := by simp [h4]
    have hf := Lib.hid (show eqP x y = false by simp [eqP, h4])
    clear h1 h2 h3 h4
    go_enter Tryd.func51, Tryd.ntmps51
    go_wp2_with fail
    rw [← HW.out]
    refine (eqStringS_any A1 A2 m1 m2 c1 c2 x.old y.old _ (hx.below HB.out) (hy.below HB.out)).mono ?_
    rintro e w1 ⟨rfl, dd1⟩
    have b1 := HB.out.next dd1.below
    have k0 := cell_keep dd1.below HC.out.1
    have k1 := cell_keep dd1.below HC.out.2.1
    have k3 := cell_keep dd1.below HC.out.2.2.2.1
    have k4 := cell_keep dd1.below HC.out.2.2.2.2.1
    rw [H3.out]
    go_wp2
    go_ret
    exact ⟨ret_bool hf.out.symm, b1⟩
  have q4 : (x.at_ != y.at_) = false := by simp [h4]
  by_cases h5 : x.en = y.en
  case neg =>
    have q5 : (x.en != y.en) = true := by simp [h5]
    have hf := Lib.hid (show eqP x y = false by simp [eqP, h5])
    clear h1 h2 h3 h4 h5
    go_enter Tryd.func51, Tryd.ntmps51
    go_wp2_with fail
    rw [← HW.out]
    refine (eqStringS_any A1 A2 m1 m2 c1 c2 x.old y.old _ (hx.below HB.out) (hy.below HB.out)).mono ?_
    rintro e w1 ⟨rfl, dd1⟩
    have b1 := HB.out.next dd1.below
    have k0 := cell_keep dd1.below HC.out.1
    have k1 := cell_keep dd1.below HC.out.2.1
    have k3 := cell_keep dd1.below HC.out.2.2.2.1
    have k4 := cell_keep dd1.below HC.out.2.2.2.2.1
    rw [H3.out]
    go_wp2
    go_ret
    exact ⟨ret_bool hf.out.symm, b1⟩
  have q5 : (x.en != y.en) = false := by simp [h5]
  have hf := Lib.hid (show eqP x y = eqT x.new y.new by simp [eqP, h1, h2, h3, h4, h5])
  clear h1 h2 h3 h4 h5
  go_enter Tryd.func51, Tryd.ntmps51
  go_wp2_with fail
  rw [← HW.out]
  refine (eqStringS_any A1 A2 m1 m2 c1 c2 x.old y.old _ (hx.below HB.out) (hy.below HB.out)).mono ?_
  rintro e w1 ⟨rfl, dd1⟩
  have b1 := HB.out.next dd1.below
  have k0 := cell_keep dd1.below HC.out.1
  have k1 := cell_keep dd1.below HC.out.2.1
  have k2 := cell_keep dd1.below HC.out.2.2.1
  have k3 := cell_keep dd1.below HC.out.2.2.2.1
  have k4 := cell_keep dd1.below HC.out.2.2.2.2.1
  have k5 := cell_keep dd1.below HC.out.2.2.2.2.2
  rw [H3.out]
  go_wp2_with fail
  refine (eqStringS_any B1 B2 n1 n2 _ _ x.new y.new _ (hx2.below b1) (hy2.below b1)).mono ?_
  rintro e w2 ⟨rfl, dd2⟩
  have b2 := b1.next dd2.below
  cases hq : eqT x.new y.new
  all_goals
    go_wp2
    go_ret
    exact ⟨ret_bool (by rw [hf.out, hq]), b2⟩

end Go.Proofs.YtnnaigoomipklaaDoor

namespace Go.Proofs.YtnnaigoomipklaaDoor
open Go.RowKit Go.ChangeShapes Go.WideShapes M

set_option maxHeartbeats 1000000 in
theorem eqStepS_any (a b : Option Addr) (n m c d : Nat) (l r : List Sp) (w : World) (hl : Sps w a n l) (hr : Sps w b m r) :
    Calls Tryd.prog 26 #[.slice a n c, .slice b m d] w fun e w' => e = .returned (.bool (eqPS l r)) ∧ Below w.heap.size w w' := by
  have HL := Lib.hid hl.len
  have HR := Lib.hid hr.len
  have hlim := hl.lim
  unfold maxLen at hlim
  by_cases hnm : n = m
  · subst hnm
    have hq : ((n : Int) != (n : Int)) = false := by simp
    go_enter Tryd.func26, Tryd.ntmps26
    go_wp2
    go_loopw [5] (fun i w' => ∃ k : Nat, i = .int .i64 k ∧ k ≤ n ∧ Hid (∀ j s t, j < k → l[j]? = some s → r[j]? = some t → eqP s t = true) ∧ Below w.heap.size w w') (fun i _ => n - (intOf i).toNat)
    case atStart => exact ⟨0, rfl, by omega, fun j s t h => by omega, Below.refl _ _⟩
    case round =>
      obtain ⟨k, rfl, hk, H, hb⟩ := hrel
      by_cases hlt : k < n
      · obtain ⟨b1, off1, A1, m1, c1, B1, n1, f1, x, rfl, hx, d0, d1, d2, d3, d4, d5, hs1, _, ht1, _, _⟩ := (hl.below hb).at_ hlt
        obtain ⟨b2, off2, A2, m2, c2, B2, n2, f2, y, rfl, hy, e0, e1, e2, e3, e4, e5, hs2, _, ht2, _, _⟩ := (hr.below hb).at_ hlt
        have HX := Lib.hid hx
        have HY := Lib.hid hy
        clear hx hy
        have hi0 : (0 : Int) ≤ (k : Int) := by omega
        have hi1 : (k : Int) < (n : Int) := by omega
        go_wp2
        go_region_held3 (fun w' => w'.cell? ⟨b1, off1 + k * 6, none⟩ = some (.int .i64 x.fr) ∧ w'.cell? ⟨b1, off1 + k * 6 + 1, none⟩ = some (.int .i64 x.to_) ∧ w'.cell? ⟨b1, off1 + k * 6 + 2, none⟩ = some (.slice A1 m1 c1) ∧ w'.cell? ⟨b1, off1 + k * 6 + 3, none⟩ = some (.int .i64 x.at_) ∧ w'.cell? ⟨b1, off1 + k * 6 + 4, none⟩ = some (.int .i64 x.en) ∧ w'.cell? ⟨b1, off1 + k * 6 + 5, none⟩ = some (.slice B1 n1 f1)
            ∧ w'.cell? ⟨b2, off2 + k * 6, none⟩ = some (.int .i64 y.fr) ∧ w'.cell? ⟨b2, off2 + k * 6 + 1, none⟩ = some (.int .i64 y.to_) ∧ w'.cell? ⟨b2, off2 + k * 6 + 2, none⟩ = some (.slice A2 m2 c2) ∧ w'.cell? ⟨b2, off2 + k * 6 + 3, none⟩ = some (.int .i64 y.at_) ∧ w'.cell? ⟨b2, off2 + k * 6 + 4, none⟩ = some (.int .i64 y.en) ∧ w'.cell? ⟨b2, off2 + k * 6 + 5, none⟩ = some (.slice B2 n2 f2))
          (first | exact ⟨d0, d1, d2, d3, d4, d5, e0, e1, e2, e3, e4, e5⟩ | exact ⟨cell_keep q1 d0, cell_keep q1 d1, cell_keep q1 d2, cell_keep q1 d3, cell_keep q1 d4, cell_keep q1 d5, cell_keep q1 e0, cell_keep q1 e1, cell_keep q1 e2, cell_keep q1 e3, cell_keep q1 e4, cell_keep q1 e5⟩ | go_keep)
          (first | (go_at_call 51; refine (eqStep_any A1 B1 A2 B2 m1 c1 n1 f1 m2 c2 n2 f2 x y _ (hs1.below (Below.refl _ _).drew) (ht1.below (Below.refl _ _).drew) (hs2.below (Below.refl _ _).drew) (ht2.below (Below.refl _ _).drew)).mono ?_; rintro e w1 ⟨rfl, q1⟩) | fail)
        have hbq := hb.drew.next q1
        cases hq2 : eqP x y
        · have hf := Lib.hid (eqPS_at HX.out HY.out hq2)
          go_wp2
          go_ret
          exact ⟨ret_bool hf.out.symm, hbq⟩
        · have HST := Lib.hid hq2
          go_wp2
          go_roundw
          case rel => exact ⟨k + 1, by go_num, by omega, eqP_step H.out HX.out HY.out HST.out, hbq⟩
          case measure => simp [intOf]; omega
      · have hf := Lib.hid (eqPS_all (fun j s t h1 h2 => H.out j s t (by have := (List.getElem?_eq_some_iff.1 h1).1; have := HL.out; omega) h1 h2) (HL.out.trans HR.out.symm))
        go_wp2
        go_ret
        exact ⟨ret_bool hf.out.symm, hb⟩
  · have hq : ((n : Int) != (m : Int)) = true := by simp; omega
    have hf := Lib.hid (eqPS_len (l := l) (r := r) (by rw [HL.out, HR.out]; exact hnm))
    go_enter Tryd.func26, Tryd.ntmps26
    go_wp2
    go_ret
    exact ⟨ret_bool hf.out.symm, Below.refl _ _⟩

theorem sp_info : (Tryd.prog.info? 83).map (fun i => (i.zero, i.size, i.bytes)) = some (some (.agg #[.int .i64 0, .int .i64 0, .slice none 0 0, .int .i64 0, .int .i64 0, .slice none 0 0]), 6, 80) := by kernel_rfl
def blankSt (n : Nat) : Array Value := madeCells #[.int .i64 0, .int .i64 0, .slice none 0 0, .int .i64 0, .int .i64 0, .slice none 0 0] (n * 6)
theorem make_sps (n : Nat) (hn : n ≤ 1048576) (w : World) :
    (Instr.makeSlice 44 (.int .i64 (n : Int)) (.int .i64 (n : Int))).run Tryd.prog w = .ok (.slice (some ⟨w.heap.size, 0, none⟩) n n) (w.alloc (.cells (blankSt n) 83)) := by
  obtain ⟨i, h1, h2, h3, h4⟩ := info_parts sp_info
  have hr := run_make (P := Tryd.prog) w 44 83 i _ Tryd.underlying44 h1 h2 .i64 .i64 n n (by omega) (by omega) (by rw [h4]; omega) (by omega)
  rw [h3] at hr
  simpa [blankSt, Value.cells] using hr
def blankRow : List D := spRow blankP (.slice none 0 0) (.slice none 0 0)
theorem blank_rows (n : Nat) : ((List.replicate n blankRow).flatten).map D.val = (blankSt n).toList := by
  apply List.ext_getElem?
  intro j
  have hw : ∀ r ∈ List.replicate n blankRow, r.length = 6 := fun r hr => by rw [List.eq_of_mem_replicate hr]; rfl
  by_cases hj : j < n * 6
  · have hdm := Nat.div_add_mod j 6
    have hj6 : j % 6 < 6 := Nat.mod_lt _ (by omega)
    have e : (List.replicate n blankRow)[j / 6]? = some blankRow := by rw [List.getElem?_replicate, if_pos (by omega)]
    have h1 := flat_get hw e hj6
    rw [show j / 6 * 6 + j % 6 = j by omega] at h1
    rw [List.getElem?_map, h1]
    rw [blankSt, madeCells, Array.toList_map, Array.toList_range, List.getElem?_map, List.getElem?_range hj]
    show Option.map D.val blankRow[j % 6]? = some ((#[.int .i64 0, .int .i64 0, .slice none 0 0, .int .i64 0, .int .i64 0, .slice none 0 0] : Array Value)[j % 6]!)
    generalize j % 6 = q at hj6
    match q, hj6 with
    | 0, _ => rfl
    | 1, _ => rfl
    | 2, _ => rfl
    | 3, _ => rfl
    | 4, _ => rfl
    | 5, _ => rfl
  · rw [List.getElem?_eq_none (by rw [List.length_map, flat_len hw, List.length_replicate]; omega), List.getElem?_eq_none (by simp [blankSt, madeCells]; omega)]
theorem blank_own (w : World) (base n : Nat) : D.ownL w base (List.replicate n blankRow).flatten ∧ D.blocksL (List.replicate n blankRow).flatten = [] := by
  induction n with
  | zero => exact ⟨trivial, rfl⟩
  | succ n ih =>
    rw [List.replicate_succ, List.flatten_cons, D.ownL_append, D.blocksL_append, ih.2]
    refine ⟨⟨⟨rfl, rfl, ⟨?_, trivial⟩, rfl, rfl, ⟨?_, trivial⟩, trivial⟩, ih.1⟩, rfl⟩
    · exact w.ownsRow_nil base _ _
    · exact w.ownsRow_nil base _ _
theorem OwnSt.made (w : World) (n : Nat) (hn : n ≤ 1048576) : OwnSt (w.alloc (.cells (blankSt n) 83)) w.heap.size (.slice (some ⟨w.heap.size, 0, none⟩) n n) (List.replicate n blankP) (List.replicate n blankRow) := by
  have hs : (blankSt n).size = n * 6 := by simp [blankSt, madeCells]
  have hw : ∀ r ∈ List.replicate n blankRow, r.length = 6 := fun r hr => by rw [List.eq_of_mem_replicate hr]; rfl
  have hb := blank_own (w.alloc (.cells (blankSt n) 83)) w.heap.size n
  refine ⟨by simp, ⟨⟨⟨?_, hb.1⟩, ?_⟩, hw⟩, fun k r x hr hx => ?_, fun x hx => ?_⟩
  · rw [blank_rows, List.length_replicate]
    exact ⟨by simp [hs], .inr ⟨w.heap.size, n, blankSt n, rfl, Nat.le_refl _, heap_alloc_new w _, Nat.le_refl _, by unfold maxLen; omega, hs, List.take_of_length_le (by simp [hs])⟩⟩
  · rw [D.blocks, hb.2]; simp [Value.ownBlock]
  · rw [List.eq_of_mem_replicate (List.mem_of_getElem? hr), List.eq_of_mem_replicate (List.mem_of_getElem? hx)]
    exact ⟨_, _, rfl⟩
  · rw [List.eq_of_mem_replicate hx]
    exact ⟨⟨by decide, by decide⟩, ⟨by decide, by decide⟩, ⟨by decide, by decide⟩, ⟨by decide, by decide⟩, fun s h => by simp [blankP] at h, fun s h => by simp [blankP] at h⟩

end Go.Proofs.YtnnaigoomipklaaDoor

namespace Go.Proofs.YtnnaigoomipklaaDoor
open Go.RowKit Go.ChangeShapes Go.WideShapes M

theorem heap_set_other {w : World} {a : Addr} {u : Value} {k : Nat} {o : Obj} (h : w.heap[k]? = some o) (hne : a.block ≠ k) : (w.setCell a u).heap[k]? = some o := by rw [Below.heap_setCell _ _ _ _ (fun e => hne e.symm)]; exact h
theorem heap_set_same {w : World} {k j : Nat} {c : Array Value} {t : TypeId} {u : Value} (h : w.heap[k]? = some (.cells c t (0, 0))) : (w.setCell ⟨k, j, none⟩ u).heap[k]? = some (.cells (c.setIfInBounds j u) t (0, 0)) := by
  simp [World.setCell, Array.getElem?_modify, h]

set_option maxHeartbeats 1000000 in
theorem toStep_any (A B : Option Addr) (m c m2 c2 : Nat) (x : Sp) (w : World) (hl : Strs w A m x.old) (hl2 : Strs w B m2 x.new) (hm : m ≤ 1048576) (hm2 : m2 ≤ 1048576) :
    Calls Tryd.prog 47 #[.agg #[.int .i64 x.fr, .int .i64 x.to_, .slice A m c, .int .i64 x.at_, .int .i64 x.en, .slice B m2 c2]] w fun e w' => ∃ b b2, w.heap.size ≤ b ∧ b < b2 ∧ b2 < w'.heap.size ∧ e = .returned (.agg #[.int .i64 x.fr, .int .i64 x.to_, .slice (some ⟨b, 0, none⟩) m m, .int .i64 x.at_, .int .i64 x.en, .slice (some ⟨b2, 0, none⟩) m2 m2]) ∧ OwnV w' w.heap.size (.slice (some ⟨b, 0, none⟩) m m) x.old ∧ OwnV w' w.heap.size (.slice (some ⟨b2, 0, none⟩) m2 m2) x.new ∧ Below w.heap.size w w' := by
  obtain ⟨W, HW⟩ : ∃ W, Hid (W = (((w.alloc (.cells #[.int .i64 x.fr, .int .i64 x.to_, .slice A m c, .int .i64 x.at_, .int .i64 x.en, .slice B m2 c2] 80)).alloc (.cells #[.int .i64 0, .int .i64 0, .slice none 0 0, .int .i64 0, .int .i64 0, .slice none 0 0] 83)).alloc (.cells #[.int .i64 x.fr, .int .i64 x.to_, .slice none 0 0, .int .i64 0, .int .i64 0, .slice none 0 0] 83))) := ⟨_, rfl⟩
  have HB := Lib.hid (show Below w.heap.size w W by rw [HW.out]; exact ((below_alloc w _).next (below_alloc _ _)).next (below_alloc _ _))
  have HSZ := Lib.hid (show W.heap.size = w.heap.size + 3 by rw [HW.out]; simp)
  have H0 := Lib.hid (show W.heap[w.heap.size]? = some (.cells #[.int .i64 x.fr, .int .i64 x.to_, .slice A m c, .int .i64 x.at_, .int .i64 x.en, .slice B m2 c2] 80 (0, 0)) by
    rw [HW.out, Below.heap_alloc _ _ _ (by simp; omega), Below.heap_alloc _ _ _ (by simp)]; exact heap_at rfl)
  have H1 := Lib.hid (show W.heap[w.heap.size + 1]? = some (.cells #[.int .i64 0, .int .i64 0, .slice none 0 0, .int .i64 0, .int .i64 0, .slice none 0 0] 83 (0, 0)) by
    rw [HW.out, Below.heap_alloc _ _ _ (by simp)]; exact heap_at (by simp))
  have H2 := Lib.hid (show W.heap[w.heap.size + 1 + 1]? = some (.cells #[.int .i64 x.fr, .int .i64 x.to_, .slice none 0 0, .int .i64 0, .int .i64 0, .slice none 0 0] 83 (0, 0)) by
    rw [HW.out]; exact heap_at (by simp))
  go_enter Tryd.func47, Tryd.ntmps47
  go_wp2_with fail
  rw [← HW.out]
  refine (toStringS_any A m c x.old _ (hl.below HB.out) hm).mono ?_
  rintro e w1 ⟨rfl, o1, b1⟩
  rw [HSZ.out] at o1 b1 ⊢
  have q0 : w1.heap[w.heap.size]? = some (.cells #[.int .i64 x.fr, .int .i64 x.to_, .slice A m c, .int .i64 x.at_, .int .i64 x.en, .slice B m2 c2] 80 (0, 0)) := (b1.block _ (by omega)).trans H0.out
  have q1 : w1.heap[w.heap.size + 1]? = some (.cells #[.int .i64 0, .int .i64 0, .slice none 0 0, .int .i64 0, .int .i64 0, .slice none 0 0] 83 (0, 0)) := (b1.block _ (by omega)).trans H1.out
  have q2 : w1.heap[w.heap.size + 1 + 1]? = some (.cells #[.int .i64 x.fr, .int .i64 x.to_, .slice none 0 0, .int .i64 0, .int .i64 0, .slice none 0 0] 83 (0, 0)) := (b1.block _ (by omega)).trans H2.out
  have c3 : w1.cell? ⟨w.heap.size, 3, none⟩ = some (.int .i64 x.at_) := by simp [World.cell?, q0]
  have c4 : w1.cell? ⟨w.heap.size, 4, none⟩ = some (.int .i64 x.en) := by simp [World.cell?, q0]
  have c5 : w1.cell? ⟨w.heap.size, 5, none⟩ = some (.slice B m2 c2) := by simp [World.cell?, q0]
  have d2 : w1.cell? ⟨w.heap.size + 1 + 1, 2, none⟩ = some (.slice none 0 0) := by simp [World.cell?, q2]
  have d3 : w1.cell? ⟨w.heap.size + 1 + 1, 3, none⟩ = some (.int .i64 0) := by simp [World.cell?, q2]
  have d4 : w1.cell? ⟨w.heap.size + 1 + 1, 4, none⟩ = some (.int .i64 0) := by simp [World.cell?, q2]
  have f2 : ∀ j, w1.frozen? ⟨w.heap.size + 1 + 1, j, none⟩ = false := fun j => by simp [World.frozen?, q2]
  obtain ⟨W2, HW2⟩ : ∃ W2, Hid (W2 = ((w1.setCell ⟨w.heap.size + 1 + 1, 2, none⟩ (.slice (some ⟨w.heap.size + 3, 0, none⟩) m m)).setCell ⟨w.heap.size + 1 + 1, 3, none⟩ (.int .i64 x.at_)).setCell ⟨w.heap.size + 1 + 1, 4, none⟩ (.int .i64 x.en)) := ⟨_, rfl⟩
  have O1 := Lib.hid (show OwnV W2 (w.heap.size + 3) (.slice (some ⟨w.heap.size + 3, 0, none⟩) m m) x.old by
    rw [HW2.out]; exact ((o1.setBelow (by simp) _).setBelow (by simp) _).setBelow (by simp) _)
  have HB2 := Lib.hid (show Below w.heap.size w W2 by
    rw [HW2.out]
    exact (((HB.out.trans (b1.mono (by omega))).setCell (by simp <;> omega) _).setCell (by simp <;> omega) _).setCell (by simp <;> omega) _)
  have HS2 := Lib.hid (show W2.heap.size = w1.heap.size by rw [HW2.out]; simp [World.setCell])
  have HZ1 := Lib.hid (show w.heap.size + 3 ≤ w1.heap.size from by have := b1.size; have := HSZ.out; omega)
  have Q1 := Lib.hid (show W2.heap[w.heap.size + 1]? = some (.cells #[.int .i64 0, .int .i64 0, .slice none 0 0, .int .i64 0, .int .i64 0, .slice none 0 0] 83 (0, 0)) by
    rw [HW2.out]; exact heap_set_other (heap_set_other (heap_set_other q1 (by simp)) (by simp)) (by simp))
  have Q2 := Lib.hid (show W2.heap[w.heap.size + 1 + 1]? = some (.cells #[.int .i64 x.fr, .int .i64 x.to_, .slice (some ⟨w.heap.size + 3, 0, none⟩) m m, .int .i64 x.at_, .int .i64 x.en, .slice none 0 0] 83 (0, 0)) by
    rw [HW2.out]; exact heap_set_same (heap_set_same (heap_set_same q2)))
  clear q0 q1 q2
  go_wp2_with fail
  rw [← HW2.out]
  refine (toStringS_any B m2 c2 x.new _ (hl2.below HB2.out) hm2).mono ?_
  rintro e w2 ⟨rfl, o2, b2⟩
  clear c3 c4 c5 d2 d3 d4 f2
  have hz2 : w.heap.size + 3 ≤ W2.heap.size := by have := HS2.out; have := HZ1.out; omega
  have q1 : w2.heap[w.heap.size + 1]? = some (.cells #[.int .i64 0, .int .i64 0, .slice none 0 0, .int .i64 0, .int .i64 0, .slice none 0 0] 83 (0, 0)) := (b2.block _ (by omega)).trans Q1.out
  have q2 : w2.heap[w.heap.size + 1 + 1]? = some (.cells #[.int .i64 x.fr, .int .i64 x.to_, .slice (some ⟨w.heap.size + 3, 0, none⟩) m m, .int .i64 x.at_, .int .i64 x.en, .slice none 0 0] 83 (0, 0)) := (b2.block _ (by omega)).trans Q2.out
  have c10 : w2.cell? ⟨w.heap.size + 1, 0, none⟩ = some (.int .i64 0) := by simp [World.cell?, q1]
  have c11 : w2.cell? ⟨w.heap.size + 1, 1, none⟩ = some (.int .i64 0) := by simp [World.cell?, q1]
  have c12 : w2.cell? ⟨w.heap.size + 1, 2, none⟩ = some (.slice none 0 0) := by simp [World.cell?, q1]
  have c13 : w2.cell? ⟨w.heap.size + 1, 3, none⟩ = some (.int .i64 0) := by simp [World.cell?, q1]
  have c14 : w2.cell? ⟨w.heap.size + 1, 4, none⟩ = some (.int .i64 0) := by simp [World.cell?, q1]
  have c15 : w2.cell? ⟨w.heap.size + 1, 5, none⟩ = some (.slice none 0 0) := by simp [World.cell?, q1]
  have f1 : ∀ j, w2.frozen? ⟨w.heap.size + 1, j, none⟩ = false := fun j => by simp [World.frozen?, q1]
  have c20 : w2.cell? ⟨w.heap.size + 1 + 1, 0, none⟩ = some (.int .i64 x.fr) := by simp [World.cell?, q2]
  have c21 : w2.cell? ⟨w.heap.size + 1 + 1, 1, none⟩ = some (.int .i64 x.to_) := by simp [World.cell?, q2]
  have c22 : w2.cell? ⟨w.heap.size + 1 + 1, 2, none⟩ = some (.slice (some ⟨w.heap.size + 3, 0, none⟩) m m) := by simp [World.cell?, q2]
  have c23 : w2.cell? ⟨w.heap.size + 1 + 1, 3, none⟩ = some (.int .i64 x.at_) := by simp [World.cell?, q2]
  have c24 : w2.cell? ⟨w.heap.size + 1 + 1, 4, none⟩ = some (.int .i64 x.en) := by simp [World.cell?, q2]
  have c25 : w2.cell? ⟨w.heap.size + 1 + 1, 5, none⟩ = some (.slice none 0 0) := by simp [World.cell?, q2]
  have f2 : ∀ j, w2.frozen? ⟨w.heap.size + 1 + 1, j, none⟩ = false := fun j => by simp [World.frozen?, q2]
  clear q1 q2
  have HO1 := Lib.hid (O1.out.below b2)
  have HLT := Lib.hid (o2.lt (g := W2.heap.size) rfl).2
  have HL1 := Lib.hid (O1.out.lt (g := w.heap.size + 3) rfl).2
  go_wp2
  (try simp only [Exit.inBlock, Exit.then])
  refine bodyPost_ret (v := .agg #[.int .i64 x.fr, .int .i64 x.to_, .slice (some ⟨w.heap.size + 3, 0, none⟩) m m, .int .i64 x.at_, .int .i64 x.en, .slice (some ⟨W2.heap.size, 0, none⟩) m2 m2]) (by simp [results, Tryd.results47, go_sem, c10, c11, c12, c13, c14, c15]) rfl ?_
  refine ⟨w.heap.size + 3, W2.heap.size, by omega, HL1.out, by have := HLT.out; simpa [World.setCell] using this, rfl, ?_, ?_, ?_⟩
  · exact (((((((HO1.out.setBelow (by simp <;> omega) _).setBelow (by simp <;> omega) _).setBelow (by simp <;> omega) _).setBelow (by simp <;> omega) _).setBelow (by simp <;> omega) _).setBelow (by simp <;> omega) _).setBelow (by simp <;> omega) _).more (by omega)
  · exact (((((((o2.setBelow (by simp <;> omega) _).setBelow (by simp <;> omega) _).setBelow (by simp <;> omega) _).setBelow (by simp <;> omega) _).setBelow (by simp <;> omega) _).setBelow (by simp <;> omega) _).setBelow (by simp <;> omega) _).more (by omega)
  · exact ((((((((HB2.out.next b2).setCell (by simp <;> omega) _).setCell (by simp <;> omega) _).setCell (by simp <;> omega) _).setCell (by simp <;> omega) _).setCell (by simp <;> omega) _).setCell (by simp <;> omega) _).setCell (by simp <;> omega) _)

end Go.Proofs.YtnnaigoomipklaaDoor

namespace Go.Proofs.YtnnaigoomipklaaDoor
open Go.RowKit Go.ChangeShapes Go.WideShapes M

set_option maxHeartbeats 1000000 in
theorem toStepS_any (a : Option Addr) (n c : Nat) (l : List Sp) (w : World) (hl : Sps w a n l) (hn : l.length + totalP l ≤ 1048576) :
    Calls Tryd.prog 24 #[.slice a n c] w fun e w' => e = .returned (.slice (some ⟨w.heap.size, 0, none⟩) n n) ∧ (∃ vs, OwnSt w' w.heap.size (.slice (some ⟨w.heap.size, 0, none⟩) n n) l vs) ∧ Below w.heap.size w w' := by
  have HL := Lib.hid hl.len
  have hn1 : n ≤ 1048576 := by rw [← hl.len]; omega
  have hmk := make_sps n hn1
  have HN := Lib.hid hn
  clear hn
  go_enter Tryd.func24, Tryd.ntmps24
  go_wp2
  go_loopw [4] (fun i w' => ∃ k : Nat, i = .int .i64 k ∧ k ≤ n ∧ (∃ vs, OwnSt w' w.heap.size (.slice (some ⟨w.heap.size, 0, none⟩) n n) (fillP l k) vs) ∧ Below w.heap.size w w') (fun i _ => n - (intOf i).toNat)
  case atStart =>
    refine ⟨0, rfl, by omega, ?_, (Below.refl _ _).alloc (Nat.le_refl _) _⟩
    rw [fillP_zero, HL.out]
    exact ⟨_, OwnSt.made w n hn1⟩
  case round =>
    obtain ⟨k, rfl, hk, ⟨vs, ho⟩, hb⟩ := hrel
    by_cases hlt : k < n
    · obtain ⟨b, off, A, m, c', B, m2, c2', x, rfl, hx, c0, c1, c2, c3, c4, c5, hs, hmc, hs2, hmc2, hok⟩ := (hl.below hb).at_ hlt
      have HX := Lib.hid hx
      have hm : m ≤ 1048576 ∧ m2 ≤ 1048576 := by have := totalP_mem (List.mem_of_getElem? hx); have := HN.out; have := hs.len; have := hs2.len; unfold bulk at this; constructor <;> (unfold bulk at *; omega)
      obtain ⟨hm, hm2⟩ := hm
      clear hx
      go_wp2_with fail
      refine (toStep_any A B m c' m2 c2' x _ hs hs2 hm hm2).mono ?_
      rintro e w1 ⟨g, g2, hg1, hg12, hg2, rfl, o1, o2, b1⟩
      have ho1 := ho.below b1
      have hold : ∀ g', BlkR (.slice (some ⟨w.heap.size, 0, none⟩) n n) vs g' → g' < wr.heap.size := fun g' e => (ho.lt e).2
      obtain ⟨g0, x0, a1, m1, c1', a2, m2', c2'', hg0, hb0, hl0, hx0, hr0, d0, d1, d2, d3, d4, d5, ho0, hmc0, ho02, hmc02, hok0, hfz⟩ := ho1.at_ hlt
      injection hg0 with hg0
      injection hg0 with hg0
      subst hg0
      have hput := ho1.put hlt x hok _ _ (o1.more (show w.heap.size ≤ wr.heap.size from hb.size)) (o2.more (show w.heap.size ≤ wr.heap.size from hb.size)) (fun g' e e2 => by have := hold g' e2; injection e with e; simp at e; omega) (fun g' e e2 => by have := hold g' e2; injection e with e; simp at e; omega) (fun g' e e2 => by injection e with e; injection e2 with e2; simp at e e2; omega)
      clear hx0 hr0
      go_wp2
      go_roundw
      case rel =>
        refine ⟨k + 1, by go_num, by omega, ⟨_, by rw [← fillP_set HX.out]; exact hput⟩, ?_⟩
        exact ((((((hb.next b1).setCell (Nat.le_refl _) _).setCell (Nat.le_refl _) _).setCell (Nat.le_refl _) _).setCell (Nat.le_refl _) _).setCell (Nat.le_refl _) _).setCell (Nat.le_refl _) _
      case measure => simp [intOf]; omega
    · have hf := Lib.hid (fillP_all l (k := k) (by rw [HL.out]; omega))
      go_wp2
      go_ret
      exact ⟨rfl, ⟨vs, by rw [hf.out] at ho; exact ho⟩, hb⟩

end Go.Proofs.YtnnaigoomipklaaDoor

namespace Go.Proofs.YtnnaigoomipklaaDoor
open Go.RowKit Go.ChangeShapes Go.WideShapes M

theorem sides_small {l : List Sp} (h : l.length + totalP l ≤ 1048576) : ∀ x ∈ l, x.old.length ≤ 1048576 ∧ x.new.length ≤ 1048576 := by
  intro x hx
  have := totalP_mem hx
  unfold bulk at this
  omega

end Go.Proofs.YtnnaigoomipklaaDoor
