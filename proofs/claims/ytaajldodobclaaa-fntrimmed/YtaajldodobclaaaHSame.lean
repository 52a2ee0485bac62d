/-
  SameHunks, the program's and the model's, and its law.
-/
import Derived.Test.YtaajldodobclaaaHGoodS
set_option linter.unusedSimpArgs false
set_option linter.unusedVariables false
namespace Go.Proofs.Ytaajldodobclaaa
open Go.RowKit M

set_option maxHeartbeats 400000 in
theorem slicesEqual_any (a b : Option Addr) (n m c d : Nat) (l r : List ByteArray) (w : World) (hl : Strs w a n l) (hr : Strs w b m r) :
    Calls Try.prog 66 #[.slice a n c, .slice b m d] w fun e w' => e = .returned (.bool (eqT l r)) ∧ Drawn w w' := by
  have HL := Lib.hid hl.len
  have HR := Lib.hid hr.len
  have hlim := hl.lim
  unfold maxLen at hlim
  by_cases hnm : n = m
  · subst hnm
    have hq : ((n : Int) != (n : Int)) = false := by simp
    go_enter Try.func66, Try.ntmps66
    go_wp2
    go_loopw [13] (fun i w' => ∃ k : Nat, i = .int .i64 k ∧ k ≤ n ∧ Hid (∀ j s t, j < k → l[j]? = some s → r[j]? = some t → s = t) ∧ Drawn w w') (fun i _ => n - (intOf i).toNat)
    case atStart => exact ⟨0, rfl, by omega, fun j s t h => by omega, Drawn.refl _⟩
    case round =>
      obtain ⟨k, rfl, hk, H, hb⟩ := hrel
      by_cases hlt : k < n
      · obtain ⟨b1, off1, s, rfl, hs, hsz, hc1⟩ := (hl.below hb.below).at_ hlt
        obtain ⟨b2, off2, t, rfl, ht, htz, hc2⟩ := (hr.below hb.below).at_ hlt
        have HS := Lib.hid hs
        have HT := Lib.hid ht
        clear hs ht
        have hi0 : (0 : Int) ≤ (k : Int) := by omega
        have hi1 : (k : Int) < (n : Int) := by omega
        by_cases hst : s = t
        · have hb2 : (s.toList == t.toList) = true := by rw [hst]; simp
          have HST := Lib.hid hst
          clear hst
          go_wp2
          go_quiet (fail)
          go_wp2
          go_roundw
          case rel => exact ⟨k + 1, by go_num, by omega, eq_step H.out HS.out HT.out HST.out, hb.more _⟩
          case measure => simp [intOf]; omega
        · have hb2 := beq_other hst
          have hf := Lib.hid (eqT_at HS.out HT.out hst)
          clear hst
          go_wp2
          go_quiet (fail)
          go_wp2
          go_ret
          exact ⟨ret_bool hf.out.symm, hb.more _⟩
      · have hf := Lib.hid (eqT_all (fun j s t h1 h2 => H.out j s t (by have := (List.getElem?_eq_some_iff.1 h1).1; have := HL.out; omega) h1 h2) (HL.out.trans HR.out.symm))
        go_wp2
        go_ret
        exact ⟨ret_bool hf.out.symm, hb⟩
  · have hq : ((n : Int) != (m : Int)) = true := by simp; omega
    have hf := Lib.hid (eqT_len (l := l) (r := r) (by rw [HL.out, HR.out]; exact hnm))
    go_enter Try.func66, Try.ntmps66
    go_wp2
    go_ret
    exact ⟨ret_bool hf.out.symm, Drawn.refl _⟩

theorem same1_any (A B : Option Addr) (m n c d : Nat) (x y : Hk) (w : World) (hx : Strs w A m x.new) (hy : Strs w B n y.new) :
    Calls Try.prog 65 #[.agg #[.int .i64 x.at_, .int .i64 x.gone, .slice A m c], .agg #[.int .i64 y.at_, .int .i64 y.gone, .slice B n d]] w fun e w' => e = .returned (.bool (eqH x y)) ∧ Below w.heap.size w w' := by
  have hb2 : Below w.heap.size w ((w.alloc (.cells #[.int .i64 x.at_, .int .i64 x.gone, .slice A m c] 63)).alloc (.cells #[.int .i64 y.at_, .int .i64 y.gone, .slice B n d] 63)) := (below_alloc w _).next (below_alloc _ _)
  by_cases h1 : x.at_ = y.at_
  · have q1 : (x.at_ == y.at_) = true := by simp [h1]
    by_cases h2 : x.gone = y.gone
    · have q2 : (x.gone == y.gone) = true := by simp [h2]
      have hf := Lib.hid (show eqH x y = eqT x.new y.new by simp [eqH, h1, h2])
      clear h1 h2
      go_enter Try.func65, Try.ntmps65
      go_wp2_with fail
      refine (slicesEqual_any A B m n c d x.new y.new _ (hx.below hb2) (hy.below hb2)).mono ?_
      rintro e w1 ⟨rfl, d1⟩
      have b1 := hb2.next d1.below
      go_wp2
      go_ret
      exact ⟨ret_bool hf.out.symm, b1⟩
    · have q2 : (x.gone == y.gone) = false := by simp [h2]
      have hf := Lib.hid (show eqH x y = false by simp [eqH, h2])
      clear h1 h2
      go_enter Try.func65, Try.ntmps65
      go_wp2
      go_ret
      exact ⟨ret_bool hf.out.symm, hb2⟩
  · have q1 : (x.at_ == y.at_) = false := by simp [h1]
    have hf := Lib.hid (show eqH x y = false by simp [eqH, h1])
    clear h1
    go_enter Try.func65, Try.ntmps65
    go_wp2
    go_ret
    exact ⟨ret_bool hf.out.symm, hb2⟩

set_option maxHeartbeats 1000000 in
theorem equalFunc_any (a b : Option Addr) (n m c d : Nat) (l r : List Hk) (w : World) (hl : Hks w a n l) (hr : Hks w b m r) :
    Calls Try.prog 64 #[.slice a n c, .slice b m d, .func (.func 65) #[] #[]] w fun e w' => e = .returned (.bool (eqHS l r)) ∧ Below w.heap.size w w' := by
  have HL := Lib.hid hl.len
  have HR := Lib.hid hr.len
  have hlim := hl.lim
  unfold maxLen at hlim
  by_cases hnm : n = m
  · subst hnm
    have hq : ((n : Int) != (n : Int)) = false := by simp
    go_enter Try.func64, Try.ntmps64
    go_wp2
    go_loopw [17] (fun i w' => ∃ k : Nat, i = .int .i64 k ∧ k ≤ n ∧ Hid (∀ j s t, j < k → l[j]? = some s → r[j]? = some t → eqH s t = true) ∧ Below w.heap.size w w') (fun i _ => n - (intOf i).toNat)
    case atStart => exact ⟨0, rfl, by omega, fun j s t h => by omega, Below.refl _ _⟩
    case round =>
      obtain ⟨k, rfl, hk, H, hb⟩ := hrel
      by_cases hlt : k < n
      · obtain ⟨b1, off1, A1, m1, c1, x, rfl, hx, d0, d1, d2, hs1, _, _, _⟩ := (hl.below hb).at_ hlt
        obtain ⟨b2, off2, A2, m2, c2, y, rfl, hy, e0, e1, e2, hs2, _, _, _⟩ := (hr.below hb).at_ hlt
        have HX := Lib.hid hx
        have HY := Lib.hid hy
        clear hx hy
        have hp0 : ∀ o, (wr.alloc o).cell? ⟨b2, off2 + k * 3, none⟩ = some (.int .i64 y.at_) := fun o => cell_keep (below_alloc wr o) e0
        have hp1 : ∀ o, (wr.alloc o).cell? ⟨b2, off2 + k * 3 + 1, none⟩ = some (.int .i64 y.gone) := fun o => cell_keep (below_alloc wr o) e1
        have hp2 : ∀ o, (wr.alloc o).cell? ⟨b2, off2 + k * 3 + 2, none⟩ = some (.slice A2 m2 c2) := fun o => cell_keep (below_alloc wr o) e2
        have hbb : Below wr.heap.size wr ((wr.alloc (.cells #[.int .i64 x.at_, .int .i64 x.gone, .slice A1 m1 c1] 63)).alloc (.cells #[.int .i64 y.at_, .int .i64 y.gone, .slice A2 m2 c2] 63)) := (below_alloc wr _).next (below_alloc _ _)
        go_wp2_with fail
        refine (same1_any A1 A2 m1 m2 c1 c2 x y _ (hs1.below hbb) (hs2.below hbb)).mono ?_
        rintro e w1 ⟨rfl, q1⟩
        have hbq := (hb.next hbb).next q1
        cases hq2 : eqH x y
        · have hf := Lib.hid (eqHS_at HX.out HY.out hq2)
          go_wp2
          go_ret
          exact ⟨ret_bool hf.out.symm, hbq⟩
        · have HST := Lib.hid hq2
          go_wp2
          go_roundw
          case rel => exact ⟨k + 1, by go_num, by omega, eqH_step H.out HX.out HY.out HST.out, hbq⟩
          case measure => simp [intOf]; omega
      · have hf := Lib.hid (eqHS_all (fun j s t h1 h2 => H.out j s t (by have := (List.getElem?_eq_some_iff.1 h1).1; have := HL.out; omega) h1 h2) (HL.out.trans HR.out.symm))
        go_wp2
        go_ret
        exact ⟨ret_bool hf.out.symm, hb⟩
  · have hq : ((n : Int) != (m : Int)) = true := by simp; omega
    have hf := Lib.hid (eqHS_len (l := l) (r := r) (by rw [HL.out, HR.out]; exact hnm))
    go_enter Try.func64, Try.ntmps64
    go_wp2
    go_ret
    exact ⟨ret_bool hf.out.symm, Below.refl _ _⟩

theorem implSameHunks_any (a b : Option Addr) (n m c d : Nat) (l r : List Hk) (w : World) (hl : Hks w a n l) (hr : Hks w b m r) :
    Calls Try.prog 28 #[.slice a n c, .slice b m d] w fun e w' => e = .returned (.bool (eqHS l r)) ∧ Below w.heap.size w w' := by
  go_enter Try.func28, Try.ntmps28
  go_wp2_with fail
  refine (equalFunc_any a b n m c d l r _ hl hr).mono ?_
  rintro e w1 ⟨rfl, b1⟩
  go_wp2
  go_ret
  exact ⟨rfl, b1⟩

set_option maxHeartbeats 400000 in
theorem l1SameT_any (a b : Option Addr) (n m c d : Nat) (l r : List ByteArray) (w : World) (hl : Strs w a n l) (hr : Strs w b m r) :
    Calls Try.prog 67 #[.slice a n c, .slice b m d] w fun e w' => e = .returned (.bool (eqT l r)) ∧ Drawn w w' := by
  have HL := Lib.hid hl.len
  have HR := Lib.hid hr.len
  have hlim := hl.lim
  unfold maxLen at hlim
  by_cases hnm : n = m
  · subst hnm
    have hq : ((n : Int) != (n : Int)) = false := by simp
    go_enter Try.func67, Try.ntmps67
    go_wp2
    go_loopw [13] (fun i w' => ∃ k : Nat, i = .int .i64 k ∧ k ≤ n ∧ Hid (∀ j s t, j < k → l[j]? = some s → r[j]? = some t → s = t) ∧ Drawn w w') (fun i _ => n - (intOf i).toNat)
    case atStart => exact ⟨0, rfl, by omega, fun j s t h => by omega, Drawn.refl _⟩
    case round =>
      obtain ⟨k, rfl, hk, H, hb⟩ := hrel
      by_cases hlt : k < n
      · obtain ⟨b1, off1, s, rfl, hs, hsz, hc1⟩ := (hl.below hb.below).at_ hlt
        obtain ⟨b2, off2, t, rfl, ht, htz, hc2⟩ := (hr.below hb.below).at_ hlt
        have HS := Lib.hid hs
        have HT := Lib.hid ht
        clear hs ht
        have hi0 : (0 : Int) ≤ (k : Int) := by omega
        have hi1 : (k : Int) < (n : Int) := by omega
        by_cases hst : s = t
        · have hb2 : (s.toList == t.toList) = true := by rw [hst]; simp
          have HST := Lib.hid hst
          clear hst
          go_wp2
          go_quiet (fail)
          go_wp2
          go_roundw
          case rel => exact ⟨k + 1, by go_num, by omega, eq_step H.out HS.out HT.out HST.out, hb.more _⟩
          case measure => simp [intOf]; omega
        · have hb2 := beq_other hst
          have hf := Lib.hid (eqT_at HS.out HT.out hst)
          clear hst
          go_wp2
          go_quiet (fail)
          go_wp2
          go_ret
          exact ⟨ret_bool hf.out.symm, hb.more _⟩
      · have hf := Lib.hid (eqT_all (fun j s t h1 h2 => H.out j s t (by have := (List.getElem?_eq_some_iff.1 h1).1; have := HL.out; omega) h1 h2) (HL.out.trans HR.out.symm))
        go_wp2
        go_ret
        exact ⟨ret_bool hf.out.symm, hb⟩
  · have hq : ((n : Int) != (m : Int)) = true := by simp; omega
    have hf := Lib.hid (eqT_len (l := l) (r := r) (by rw [HL.out, HR.out]; exact hnm))
    go_enter Try.func67, Try.ntmps67
    go_wp2
    go_ret
    exact ⟨ret_bool hf.out.symm, Drawn.refl _⟩

set_option maxHeartbeats 2000000 in
theorem specSameHunks_any (a b : Option Addr) (n m c d : Nat) (l r : List Hk) (w : World) (hl : Hks w a n l) (hr : Hks w b m r) :
    Calls Try.prog 29 #[.slice a n c, .slice b m d] w fun e w' => e = .returned (.bool (eqHS l r)) ∧ Below w.heap.size w w' := by
  have HL := Lib.hid hl.len
  have HR := Lib.hid hr.len
  have hlim := hl.lim
  unfold maxLen at hlim
  by_cases hnm : n = m
  · subst hnm
    have hq : ((n : Int) != (n : Int)) = false := by simp
    go_enter Try.func29, Try.ntmps29
    go_wp2
    go_loopw [14] (fun i w' => ∃ k : Nat, i = .int .i64 k ∧ k ≤ n ∧ Hid (∀ j s t, j < k → l[j]? = some s → r[j]? = some t → eqH s t = true) ∧ Below w.heap.size w w') (fun i _ => n - (intOf i).toNat)
    case atStart => exact ⟨0, rfl, by omega, fun j s t h => by omega, Below.refl _ _⟩
    case round =>
      obtain ⟨k, rfl, hk, H, hb⟩ := hrel
      by_cases hlt : k < n
      · obtain ⟨b1, off1, A1, m1, c1, x, rfl, hx, d0, d1, d2, hs1, _, _, _⟩ := (hl.below hb).at_ hlt
        obtain ⟨b2, off2, A2, m2, c2, y, rfl, hy, e0, e1, e2, hs2, _, _, _⟩ := (hr.below hb).at_ hlt
        have HX := Lib.hid hx
        have HY := Lib.hid hy
        clear hx hy
        have hi0 : (0 : Int) ≤ (k : Int) := by omega
        have hi1 : (k : Int) < (n : Int) := by omega
        have hp0 : ∀ o, (wr.alloc o).cell? ⟨b2, off2 + k * 3, none⟩ = some (.int .i64 y.at_) := fun o => cell_keep (below_alloc wr o) e0
        have hp1 : ∀ o, (wr.alloc o).cell? ⟨b2, off2 + k * 3 + 1, none⟩ = some (.int .i64 y.gone) := fun o => cell_keep (below_alloc wr o) e1
        have hp2 : ∀ o, (wr.alloc o).cell? ⟨b2, off2 + k * 3 + 2, none⟩ = some (.slice A2 m2 c2) := fun o => cell_keep (below_alloc wr o) e2
        have hbn := hb.next (below_alloc wr (.cells #[.int .i64 x.at_, .int .i64 x.gone, .slice A1 m1 c1] 63))
        by_cases h1 : x.at_ = y.at_
        · have q1 : (x.at_ != y.at_) = false := by simp [h1]
          by_cases h2 : x.gone = y.gone
          · have q2 : (x.gone != y.gone) = false := by simp [h2]
            have hf := Lib.hid (show eqH x y = eqT x.new y.new by simp [eqH, h1, h2])
            clear h1 h2
            cases hq2 : eqT x.new y.new
            · have hf := Lib.hid (eqHS_at HX.out HY.out (by rw [hf.out]; exact hq2))
              go_wp2
              go_quiet (first | (go_at_call 67; refine Calls.quiet_of (l1SameT_any A1 A2 m1 m2 c1 c2 x.new y.new _ ?_ ?_); exact hs1.below (below_drewN (below_alloc _ _) _); exact hs2.below (below_drewN (below_alloc _ _) _)))
              go_wp2
              go_ret
              exact ⟨ret_bool hf.out.symm, below_drewN hbn _⟩
            · have HST := Lib.hid (hf.out.trans hq2)
              go_wp2
              go_quiet (first | (go_at_call 67; refine Calls.quiet_of (l1SameT_any A1 A2 m1 m2 c1 c2 x.new y.new _ ?_ ?_); exact hs1.below (below_drewN (below_alloc _ _) _); exact hs2.below (below_drewN (below_alloc _ _) _)))
              go_wp2
              go_roundw
              case rel => exact ⟨k + 1, by go_num, by omega, eqH_step H.out HX.out HY.out HST.out, below_drewN hbn _⟩
              case measure => simp [intOf]; omega
          · have q2 : (x.gone != y.gone) = true := by simp [h2]
            have hf := Lib.hid (eqHS_at HX.out HY.out (show eqH x y = false by simp [eqH, h2]))
            clear h1 h2
            go_wp2
            go_quiet (fail)
            go_wp2
            go_ret
            exact ⟨ret_bool hf.out.symm, below_drewN hbn _⟩
        · have q1 : (x.at_ != y.at_) = true := by simp [h1]
          have hf := Lib.hid (eqHS_at HX.out HY.out (show eqH x y = false by simp [eqH, h1]))
          clear h1
          go_wp2
          go_quiet (fail)
          go_wp2
          go_ret
          exact ⟨ret_bool hf.out.symm, below_drewN hbn _⟩
      · have hf := Lib.hid (eqHS_all (fun j s t h1 h2 => H.out j s t (by have := (List.getElem?_eq_some_iff.1 h1).1; have := HL.out; omega) h1 h2) (HL.out.trans HR.out.symm))
        go_wp2
        go_ret
        exact ⟨ret_bool hf.out.symm, hb⟩
  · have hq : ((n : Int) != (m : Int)) = true := by simp; omega
    have hf := Lib.hid (eqHS_len (l := l) (r := r) (by rw [HL.out, HR.out]; exact hnm))
    go_enter Try.func29, Try.ntmps29
    go_wp2
    go_ret
    exact ⟨ret_bool hf.out.symm, Below.refl _ _⟩

set_option maxHeartbeats 1000000 in
theorem FnExactSameHunks_any (w : World) (a : Option Addr) (n c : Nat) (l : List Hk) (hl : Hks w a n l) (b : Option Addr) (m d : Nat) (r : List Hk) (hr : Hks w b m r) :
    Calls Try.prog 11 #[.slice a n c, .slice b m d] w fun e w' => e = .returned (.bool true) ∧ Below w.heap.size w w' := by
  by_cases hbig : (1048576 : Int) < l.length + totalH l
  · go_enter Try.func11, Try.ntmps11
    go_wp2_with fail
    refine (szH_neg a n c l _ _ hl (by omega) (by omega) hbig).mono ?_
    rintro e w1 ⟨rfl, b1⟩
    go_wp2
    go_ret
    exact ⟨rfl, b1⟩
  · have hbig : (l.length : Int) + totalH l ≤ 1048576 := by omega
    have hn : l.length + totalH l ≤ 1048576 := by omega
    have HN := Lib.hid hn
    have heq := eqHS_refl l
    have heq2 := eqHS_refl r
    go_enter Try.func11, Try.ntmps11
    go_wp2_with fail
    refine (szH_pos a n c l _ _ hl (by omega) (by omega) hbig).mono ?_
    rintro e w0 ⟨q, hq0, hq1, rfl, b0⟩
    clear hn hbig
    by_cases hbig2 : q < r.length + totalH r
    · go_wp2_with fail
      refine (szH_neg b m d r _ _ (hr.below b0) hq0 hq1 hbig2).mono ?_
      rintro e w1 ⟨rfl, b1⟩
      go_wp2
      go_ret
      exact ⟨rfl, b0.next b1⟩
    · have hbig2 : (r.length : Int) + totalH r ≤ q := by omega
      have HN2 := Lib.hid (show r.length + totalH r ≤ 1048576 by omega)
      go_wp2_with fail
      refine (szH_pos b m d r _ _ (hr.below b0) hq0 hq1 hbig2).mono ?_
      rintro e w1 ⟨q2, hq20, hq21, rfl, b1⟩
      clear hbig2
      have B1 := b0.next b1
      go_wp2_with fail
      refine (toHunkS_any a n c l _ (hl.below B1) HN.out).mono ?_
      rintro e w2 ⟨rfl, ⟨vs2, o2⟩, b2⟩
      have B2 := B1.next b2
      go_wp2_with fail
      refine (toHunkS_any b m d r _ (hr.below B2) HN2.out).mono ?_
      rintro e w3 ⟨rfl, ⟨vs3, o3⟩, b3⟩
      go_wp2_with fail
      refine (specSameHunks_any _ _ n m n m l r _ (o2.below b3).hks o3.hks).mono ?_
      rintro e w4 ⟨rfl, b4⟩
      have B4 := (B2.next b3).next b4
      go_wp2_with fail
      refine (toHunkS_any a n c l _ (hl.below B4) HN.out).mono ?_
      rintro e w5 ⟨rfl, ⟨vs5, o5⟩, b5⟩
      have B5 := B4.next b5
      go_wp2_with fail
      refine (toHunkS_any b m d r _ (hr.below B5) HN2.out).mono ?_
      rintro e w6 ⟨rfl, ⟨vs6, o6⟩, b6⟩
      go_wp2_with fail
      refine (implSameHunks_any _ _ n m n m l r _ (o5.below b6).hks o6.hks).mono ?_
      rintro e w7 ⟨rfl, b7⟩
      have B7 := (B5.next b6).next b7
      go_wp2_with fail
      refine (toHunkS_any a n c l _ (hl.below B7) HN.out).mono ?_
      rintro e w8 ⟨rfl, ⟨vs8, o8⟩, b8⟩
      go_wp2_with fail
      refine (eqHunkS_any _ _ n n n n l l _ ((o5.below ((b6.next b7).next b8)).hks) o8.hks).mono ?_
      rintro e w9 ⟨rfl, b9⟩
      have B9 := (B7.next b8).next b9
      go_wp2_with fail
      refine (toHunkS_any b m d r _ (hr.below B9) HN2.out).mono ?_
      rintro e w10 ⟨rfl, ⟨vs10, o10⟩, b10⟩
      go_wp2_with fail
      refine (eqHunkS_any _ _ m m m m r r _ ((o6.below (((b7.next b8).next b9).next b10)).hks) o10.hks).mono ?_
      rintro e w11 ⟨rfl, b11⟩
      go_wp2
      go_ret
      exact ⟨rfl, (B9.next b10).next b11⟩

end Go.Proofs.Ytaajldodobclaaa
