/-
  container/heap over the program's heap: up, down.
-/
import Derived.Test.YtnnaigoomipklaaOcDHp1
set_option linter.unusedSimpArgs false
set_option linter.unusedVariables false
namespace Go.Proofs.Ytnnaigoomipklaa
open Go.RowKit M

theorem meth_less (a : Addr) (w : World) : (method 275 128 (.pointer (some a)) "Less").run Try.prog w = .ok (137, .pointer (some a)) w := by kernel_rfl
theorem meth_swap (a : Addr) (w : World) : (method 275 128 (.pointer (some a)) "Swap").run Try.prog w = .ok (140, .pointer (some a)) w := by kernel_rfl
theorem meth_len (a : Addr) (w : World) : (method 275 128 (.pointer (some a)) "Len").run Try.prog w = .ok (93, .pointer (some a)) w := by kernel_rfl
theorem meth_push (a : Addr) (w : World) : (method 275 128 (.pointer (some a)) "Push").run Try.prog w = .ok (139, .pointer (some a)) w := by kernel_rfl
theorem meth_pop (a : Addr) (w : World) : (method 275 128 (.pointer (some a)) "Pop").run Try.prog w = .ok (138, .pointer (some a)) w := by kernel_rfl

set_option maxHeartbeats 1000000 in
set_option maxRecDepth 100000 in
theorem up_any (hb base : Nat) (A : Option Addr) (n cap : Nat) (L : List Pr) (j : Nat) (w : World) (h : HeapQ w base hb (.slice A n cap) L) (hn : n ≤ 100000) (hj : j < n) (hu : upOk L n j) :
    Calls Try.prog 106 #[.iface 128 (.pointer (some ⟨hb, 0, none⟩)), .int .i64 (j : Int)] w fun e w' => e = .returned (.tuple #[]) ∧ ∃ L', HeapQ w' base hb (.slice A n cap) L' ∧ L'.Perm L ∧ isHeap L' n ∧ Wrote (fun g => (Value.slice A n cap).ownBlock = some g) w w' := by
  have HU := Lib.hid hu
  clear hu
  have m1 := meth_less
  have m2 := meth_swap
  go_enter Try.func106, Try.ntmps106
  go_wp2
  go_loopw [1] (fun x w' => ∃ k : Nat, ∃ L', x = .int .i64 k ∧ k < n ∧ HeapQ w' base hb (.slice A n cap) L' ∧ Hid (L'.Perm L) ∧ Hid (upOk L' n k) ∧ Hid (Wrote (fun g => (Value.slice A n cap).ownBlock = some g) w w')) (fun x _ => (intOf x).toNat)
  case atStart => exact ⟨j, L, rfl, hj, h, List.Perm.refl _, HU, Wrote.refl _ _⟩
  case round =>
    obtain ⟨k, L', rfl, hk, hq, HP, HK, HW⟩ := hrel
    by_cases hk0 : k = 0
    · subst hk0
      go_wp2_with fail
      go_end0
      exact ⟨rfl, L', hq, HP.out, up_end HK.out (.inl rfl), HW.out⟩
    · obtain ⟨i, Hi⟩ : ∃ i, Hid (i = (k - 1) / 2) := ⟨_, rfl⟩
      have hi : i < k := by rw [Hi.out]; omega
      have hdiv : ((k : Int) - 1) / 2 = (i : Int) := by rw [Hi.out]; omega
      have hne : ((i : Int) == (k : Int)) = false := by simp; omega
      obtain ⟨y, Hy⟩ : ∃ y, Hid (ltQ (at_ L' k) (at_ L' i) = y) := ⟨_, rfl⟩
      have HQ := Lib.hid hq
      have HLL := Lib.hid hq.own.len
      clear hq
      go_wp2_with fail
      refine (less_any hb base A n cap L' k i _ HQ.out hk (by omega) hn).mono ?_
      rintro e w1 ⟨rfl, b1⟩
      rw [Hy.out]
      cases y with
      | false =>
        have HE := Lib.hid (up_end HK.out (.inr (by rw [← Hi.out]; exact Hy.out)))
        go_wp2_with fail
        go_end0
        exact ⟨rfl, L', HQ.out.below b1, HP.out, HE.out, HW.out.next b1⟩
      | true =>
        have HE := Lib.hid (up_step HK.out (by rw [HLL.out]; exact Nat.le_refl _) hk (by omega) (by rw [← Hi.out]; exact Hy.out))
        have HP2 := Lib.hid ((swap_perm (L := L') (i := i) (j := k) (by rw [HLL.out]; omega) (by rw [HLL.out]; exact hk)).trans HP.out)
        go_wp2_with fail
        refine (swap_any hb base A n cap L' i k _ (HQ.out.below b1) (by omega) hk hn).mono ?_
        rintro e w2 ⟨rfl, q2, g2⟩
        have HG := Lib.hid ((HW.out.next b1).trans g2 (fun _ _ e => e))
        clear g2 b1
        go_wp2_with fail
        go_roundw
        case rel => exact ⟨i, swapL L' i k, rfl, by omega, q2, HP2, by rw [Hi.out]; exact HE, HG⟩
        case measure => simp [intOf]; omega

set_option maxHeartbeats 2000000 in
set_option maxRecDepth 100000 in
theorem down_any (hb base : Nat) (A : Option Addr) (N n cap : Nat) (L : List Pr) (w : World) (h : HeapQ w base hb (.slice A N cap) L) (hN : N ≤ 100000) (hnN : n ≤ N) (hu : dnOk L n 0) :
    Calls Try.prog 107 #[.iface 128 (.pointer (some ⟨hb, 0, none⟩)), .int .i64 0, .int .i64 (n : Int)] w fun e w' => ∃ y L', e = .returned (.bool y) ∧ HeapQ w' base hb (.slice A N cap) L' ∧ L'.Perm L ∧ isHeap L' n ∧ (∀ m, n ≤ m → at_ L' m = at_ L m) ∧ Wrote (fun g => (Value.slice A N cap).ownBlock = some g) w w' := by
  have HU := Lib.hid hu
  clear hu
  have m1 := meth_less
  have m2 := meth_swap
  have h0n : 0 < N ∨ n = 0 := by omega
  go_enter Try.func107, Try.ntmps107
  go_wp2
  go_loopw [7] (fun x w' => ∃ k : Nat, ∃ L', x = .int .i64 k ∧ k ≤ N ∧ HeapQ w' base hb (.slice A N cap) L' ∧ Hid (L'.Perm L) ∧ Hid (dnOk L' n k) ∧ Hid (∀ m, n ≤ m → at_ L' m = at_ L m) ∧ Hid (Wrote (fun g => (Value.slice A N cap).ownBlock = some g) w w')) (fun x _ => N - (intOf x).toNat)
  case atStart => exact ⟨0, L, rfl, by omega, h, List.Perm.refl _, HU, fun _ _ => rfl, Wrote.refl _ _⟩
  case round =>
    obtain ⟨k, L', rfl, hk, hq, HP, HK, HT, HW⟩ := hrel
    obtain ⟨j1, Hj1⟩ : ∃ j1, Hid (j1 = 2 * k + 1) := ⟨_, rfl⟩
    have hj1 : 2 * (k : Int) + 1 = (j1 : Int) := by rw [Hj1.out]; omega
    have hkj : k < j1 := by rw [Hj1.out]; omega
    have HQ := Lib.hid hq
    have HLL := Lib.hid hq.own.len
    clear hq
    by_cases ha : n ≤ j1
    · have HE := Lib.hid (dn_end (j := 0) HK.out (.inl (by have := Hj1.out; omega)))
      have hd : decide (n ≤ j1) = true := by simpa using ha
      go_wp2_with fail
      go_ret
      exact ⟨_, L', rfl, HQ.out, HP.out, HE.out, HT.out, HW.out⟩
    have hd : decide (n ≤ j1) = false := by simpa using ha
    have ha : j1 < n := by omega
    have hj0 : ((j1 : Int) < 0) = False := by simp
    obtain ⟨j2, Hj2⟩ : ∃ j2, Hid (j2 = j1 + 1) := ⟨_, rfl⟩
    have hj2 : (j1 : Int) + 1 = (j2 : Int) := by rw [Hj2.out]; omega
    have hjj : j1 < j2 ∧ j2 ≤ j1 + 1 := by have := Hj2.out; omega
    obtain ⟨hjj, hjj'⟩ := hjj
    by_cases hb2 : j2 < n
    · obtain ⟨z, Hz⟩ : ∃ z, Hid (ltQ (at_ L' j2) (at_ L' j1) = z) := ⟨_, rfl⟩
      go_wp2_with fail
      refine (less_any hb base A N cap L' j2 j1 _ HQ.out (by omega) (by omega) hN).mono ?_
      rintro e w1 ⟨rfl, b1⟩
      rw [Hz.out]
      have HQ1 := Lib.hid (HQ.out.below b1)
      have HW1 := Lib.hid (HW.out.next b1)
      clear b1
      cases z with
      | true =>
        have HM := Lib.hid (show ∀ m, 0 < m → m < n → (m - 1) / 2 = k → leQ (at_ L' j2) (at_ L' m) by
          have e1 := Hj1.out; have e2 := Hj2.out; have e3 := Hz.out
          rw [e2, e1] at e3 ⊢; exact child_right e3)
        obtain ⟨y, Hy⟩ : ∃ y, Hid (ltQ (at_ L' j2) (at_ L' k) = y) := ⟨_, rfl⟩
        go_wp2_with fail
        refine (less_any hb base A N cap L' j2 k _ HQ1.out (by omega) (by omega) hN).mono ?_
        rintro e w2 ⟨rfl, b2⟩
        rw [Hy.out]
        cases y with
        | false =>
          have HE := Lib.hid (dn_end (j := j2) HK.out (.inr ⟨HM.out, Hy.out⟩))
          go_wp2_with fail
          go_ret
          exact ⟨_, L', rfl, HQ1.out.below b2, HP.out, HE.out, HT.out, HW1.out.next b2⟩
        | true =>
          have HE := Lib.hid (dn_step HK.out (by rw [HLL.out]; omega) (show j2 < n by omega) (by have := Hj1.out; omega) (by have := Hj1.out; omega) HM.out Hy.out)
          have HP2 := Lib.hid ((swap_perm (L := L') (i := k) (j := j2) (by rw [HLL.out]; omega) (by rw [HLL.out]; omega)).trans HP.out)
          have HT2 := Lib.hid (show ∀ m, n ≤ m → at_ (swapL L' k j2) m = at_ L m from fun m hm => by rw [swap_at (by rw [HLL.out]; omega) (by rw [HLL.out]; omega), if_neg (by omega), if_neg (by omega)]; exact HT.out m hm)
          go_wp2_with fail
          refine (swap_any hb base A N cap L' k j2 _ (HQ1.out.below b2) (by omega) (by omega) hN).mono ?_
          rintro e w3 ⟨rfl, q3, g3⟩
          have HG := Lib.hid ((HW1.out.next b2).trans g3 (fun _ _ e => e))
          clear g3 b2
          go_wp2_with fail
          go_roundw
          case rel => exact ⟨j2, swapL L' k j2, rfl, by omega, q3, HP2, HE, HT2, HG⟩
          case measure => simp [intOf]; omega
      | false =>
        have HM := Lib.hid (show ∀ m, 0 < m → m < n → (m - 1) / 2 = k → leQ (at_ L' j1) (at_ L' m) by
          have e1 := Hj1.out; have e2 := Hj2.out; have e3 := Hz.out
          rw [e2, e1] at e3; rw [e1]; exact child_left e3)
        obtain ⟨y, Hy⟩ : ∃ y, Hid (ltQ (at_ L' j1) (at_ L' k) = y) := ⟨_, rfl⟩
        go_wp2_with fail
        refine (less_any hb base A N cap L' j1 k _ HQ1.out (by omega) (by omega) hN).mono ?_
        rintro e w2 ⟨rfl, b2⟩
        rw [Hy.out]
        cases y with
        | false =>
          have HE := Lib.hid (dn_end (j := j1) HK.out (.inr ⟨HM.out, Hy.out⟩))
          go_wp2_with fail
          go_ret
          exact ⟨_, L', rfl, HQ1.out.below b2, HP.out, HE.out, HT.out, HW1.out.next b2⟩
        | true =>
          have HE := Lib.hid (dn_step HK.out (by rw [HLL.out]; omega) (show j1 < n by omega) (by have := Hj1.out; omega) (by have := Hj1.out; omega) HM.out Hy.out)
          have HP2 := Lib.hid ((swap_perm (L := L') (i := k) (j := j1) (by rw [HLL.out]; omega) (by rw [HLL.out]; omega)).trans HP.out)
          have HT2 := Lib.hid (show ∀ m, n ≤ m → at_ (swapL L' k j1) m = at_ L m from fun m hm => by rw [swap_at (by rw [HLL.out]; omega) (by rw [HLL.out]; omega), if_neg (by omega), if_neg (by omega)]; exact HT.out m hm)
          go_wp2_with fail
          refine (swap_any hb base A N cap L' k j1 _ (HQ1.out.below b2) (by omega) (by omega) hN).mono ?_
          rintro e w3 ⟨rfl, q3, g3⟩
          have HG := Lib.hid ((HW1.out.next b2).trans g3 (fun _ _ e => e))
          clear g3 b2
          go_wp2_with fail
          go_roundw
          case rel => exact ⟨j1, swapL L' k j1, rfl, by omega, q3, HP2, HE, HT2, HG⟩
          case measure => simp [intOf]; omega
    · have hd2 : decide (j2 < n) = false := by simpa using hb2
      have HM := Lib.hid (show ∀ m, 0 < m → m < n → (m - 1) / 2 = k → leQ (at_ L' j1) (at_ L' m) by
          have e1 := Hj1.out; have e2 := Hj2.out
          rw [e1]; exact child_one (by omega))
      obtain ⟨y, Hy⟩ : ∃ y, Hid (ltQ (at_ L' j1) (at_ L' k) = y) := ⟨_, rfl⟩
      go_wp2_with fail
      refine (less_any hb base A N cap L' j1 k _ HQ.out (by omega) (by omega) hN).mono ?_
      rintro e w2 ⟨rfl, b2⟩
      rw [Hy.out]
      cases y with
      | false =>
        have HE := Lib.hid (dn_end (j := j1) HK.out (.inr ⟨HM.out, Hy.out⟩))
        go_wp2_with fail
        go_ret
        exact ⟨_, L', rfl, HQ.out.below b2, HP.out, HE.out, HT.out, HW.out.next b2⟩
      | true =>
        have HE := Lib.hid (dn_step HK.out (by rw [HLL.out]; omega) (show j1 < n by omega) (by have := Hj1.out; omega) (by have := Hj1.out; omega) HM.out Hy.out)
        have HP2 := Lib.hid ((swap_perm (L := L') (i := k) (j := j1) (by rw [HLL.out]; omega) (by rw [HLL.out]; omega)).trans HP.out)
        have HT2 := Lib.hid (show ∀ m, n ≤ m → at_ (swapL L' k j1) m = at_ L m from fun m hm => by rw [swap_at (by rw [HLL.out]; omega) (by rw [HLL.out]; omega), if_neg (by omega), if_neg (by omega)]; exact HT.out m hm)
        go_wp2_with fail
        refine (swap_any hb base A N cap L' k j1 _ (HQ.out.below b2) (by omega) (by omega) hN).mono ?_
        rintro e w3 ⟨rfl, q3, g3⟩
        have HG := Lib.hid ((HW.out.next b2).trans g3 (fun _ _ e => e))
        clear g3 b2
        go_wp2_with fail
        go_roundw
        case rel => exact ⟨j1, swapL L' k j1, rfl, by omega, q3, HP2, HE, HT2, HG⟩
        case measure => simp [intOf]; omega

end Go.Proofs.Ytnnaigoomipklaa
