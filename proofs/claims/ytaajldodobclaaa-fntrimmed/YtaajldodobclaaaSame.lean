/-
  SameAhead and SameBehind, the program's and the model's.
-/
import Derived.Test.YtaajldodobclaaaGood
import Derived.Test.YtaajldodobclaaaLawT
set_option linter.unusedSimpArgs false
set_option linter.unusedVariables false
namespace Go.Proofs.Ytaajldodobclaaa
open Go.RowKit M

theorem ahead_stop {l r : List ByteArray} {n m k : Nat} (hn : l.length = n) (hm : r.length = m) (H : ∀ j, j < k → aheadP l r j = true) (h1 : k ≤ n) (h2 : k ≤ m) (h : k = n ∨ k = m ∨ aheadP l r k = false) : aheadT l r = k := by
  unfold aheadT
  refine upto_is (by omega) H ?_
  rcases h with h | h | h
  · exact .inl (by omega)
  · exact .inl (by omega)
  · exact .inr h
theorem ahead_step {l r : List ByteArray} {k : Nat} {s t : ByteArray} (H : ∀ j, j < k → aheadP l r j = true) (hs : l[k]? = some s) (ht : r[k]? = some t) (h : s = t) : ∀ j, j < k + 1 → aheadP l r j = true := by
  intro j hj
  by_cases e : j = k
  · subst e; simp [aheadP, hs, ht, h]
  · exact H j (by omega)
theorem ahead_no {l r : List ByteArray} {k : Nat} {s t : ByteArray} (hs : l[k]? = some s) (ht : r[k]? = some t) (h : s ≠ t) : aheadP l r k = false := by
  simp [aheadP, hs, ht, h]

set_option maxHeartbeats 400000 in
theorem l1Ahead_any (a b : Option Addr) (n m c d : Nat) (l r : List ByteArray) (w : World) (hl : Strs w a n l) (hr : Strs w b m r) :
    Calls Try.prog 90 #[.slice a n c, .slice b m d] w fun e w' => e = .returned (.int .i64 (aheadT l r)) ∧ Drawn w w' := by
  have HL := Lib.hid hl.len
  have HR := Lib.hid hr.len
  have hlim := hl.lim
  unfold maxLen at hlim
  have hlim2 := hr.lim
  unfold maxLen at hlim2
  go_enter Try.func90, Try.ntmps90
  go_wp2
  go_loopw [5] (fun i w' => ∃ k : Nat, i = .int .i64 k ∧ k ≤ n ∧ k ≤ m ∧ Hid (∀ j, j < k → aheadP l r j = true) ∧ Drawn w w') (fun i _ => n - (intOf i).toNat)
  case atStart => exact ⟨0, rfl, by omega, by omega, fun j h => by omega, Drawn.refl _⟩
  case round =>
    obtain ⟨k, rfl, hk, hk2, H, hb⟩ := hrel
    by_cases h1 : k < n
    · have d1 : decide ((k : Int) < (n : Int)) = true := by simp; omega
      by_cases h2 : k < m
      · have d2 : decide ((k : Int) < (m : Int)) = true := by simp; omega
        obtain ⟨b1, off1, s, rfl, hs, hsz, hc1⟩ := (hl.below hb.below).at_ h1
        obtain ⟨b2, off2, t, rfl, ht, htz, hc2⟩ := (hr.below hb.below).at_ h2
        have HS := Lib.hid hs
        have HT := Lib.hid ht
        clear hs ht
        have hi0 : (0 : Int) ≤ (k : Int) := by omega
        have hi1 : (k : Int) < (n : Int) := by omega
        have hi2 : (k : Int) < (m : Int) := by omega
        by_cases hst : s = t
        · have hb2 : (s.toList == t.toList) = true := by rw [hst]; simp
          have HST := Lib.hid hst
          clear hst
          go_wp2
          go_quiet (fail)
          go_wp2
          go_roundw
          case rel => exact ⟨k + 1, by go_num, by omega, by omega, ahead_step H.out HS.out HT.out HST.out, hb.more _⟩
          case measure => simp [intOf]; omega
        · have hb2 := beq_other hst
          have hf := Lib.hid (ahead_stop HL.out HR.out H.out hk hk2 (.inr (.inr (ahead_no HS.out HT.out hst))))
          clear hst
          go_wp2
          go_quiet (fail)
          go_wp2
          go_ret
          exact ⟨ret_int (by rw [hf.out]), hb.more _⟩
      · have d2 : decide ((k : Int) < (m : Int)) = false := by simp; omega
        have hf := Lib.hid (ahead_stop HL.out HR.out H.out hk hk2 (.inr (.inl (by omega))))
        go_wp2
        go_quiet (fail)
        go_wp2
        go_ret
        exact ⟨ret_int (by rw [hf.out]), hb.more _⟩
    · have d1 : decide ((k : Int) < (n : Int)) = false := by simp; omega
      have hf := Lib.hid (ahead_stop HL.out HR.out H.out hk hk2 (.inl (by omega)))
      go_wp2
      go_quiet (fail)
      go_wp2
      go_ret
      exact ⟨ret_int (by rw [hf.out]), hb.more _⟩

/-- The two answers of SameAhead and of SameBehind. -/
def sameAhead (l r : List ByteArray) : Nat × Bool := if goodB l && goodB r then (aheadT l r, true) else (0, false)
def sameBehind (l r : List ByteArray) : Nat × Bool := if goodB l && goodB r then (behindT l r, true) else (0, false)

set_option maxHeartbeats 1000000 in
theorem implSameAhead_any (a b : Option Addr) (n m c d : Nat) (l r : List ByteArray) (w : World) (hl : Strs w a n l) (hr : Strs w b m r) :
    Calls Try.prog 88 #[.slice a n c, .slice b m d] w fun e w' => e = .returned (.tuple #[.int .i64 (sameAhead l r).1, .bool (sameAhead l r).2]) ∧ Below w.heap.size w w' := by
  have HL := Lib.hid hl.len
  have HR := Lib.hid hr.len
  by_cases hg : goodB l = true
  · by_cases hg2 : goodB r = true
    · have H0 := Lib.hid (show sameAhead l r = (aheadT l r, true) from if_pos (by simp [hg, hg2]))
      have hn : n ≤ 40 := by rw [← hl.len]; exact goodB_len hg
      have hm : m ≤ 40 := by rw [← hr.len]; exact goodB_len hg2
      go_enter Try.func88, Try.ntmps88
      go_wp2_with fail
      refine (implGoodLines_any a n c l _ hl).mono ?_
      rintro e w1 ⟨rfl, b1⟩
      go_wp2_with fail
      refine (implGoodLines_any b m d r _ (hr.below b1)).mono ?_
      rintro e w2 ⟨rfl, b2⟩
      have b12 := b1.next b2
      go_wp2
      go_loopw [6] (fun i w' => ∃ k : Nat, i = .int .i64 k ∧ k ≤ n ∧ k ≤ m ∧ Hid (∀ j, j < k → aheadP l r j = true) ∧ Below w.heap.size w w') (fun i _ => n - (intOf i).toNat)
      case atStart => exact ⟨0, rfl, by omega, by omega, fun j h => by omega, b12⟩
      case round =>
        obtain ⟨k, rfl, hk, hk2, H, hb⟩ := hrel
        by_cases h1 : k < n ∧ k < m
        · obtain ⟨h1, h2⟩ := h1
          obtain ⟨b1, off1, s, rfl, hs, hsz, hc1⟩ := (hl.below hb).at_ h1
          obtain ⟨b2, off2, t, rfl, ht, htz, hc2⟩ := (hr.below hb).at_ h2
          have HS := Lib.hid hs
          have HT := Lib.hid ht
          clear hs ht
          have hd : decide ((k : Int) < if m < n then (m : Int) else (n : Int)) = true := by split <;> simp <;> omega
          have hi0 : (0 : Int) ≤ (k : Int) := by omega
          have hi1 : (k : Int) < (n : Int) := by omega
          have hi2 : (k : Int) < (m : Int) := by omega
          by_cases hst : s = t
          · have hb2 : (s.toList == t.toList) = true := by rw [hst]; simp
            have HST := Lib.hid hst
            clear hst
            go_wp2
            go_quiet (fail)
            go_wp2
            go_roundw
            case rel => exact ⟨k + 1, by go_num, by omega, by omega, ahead_step H.out HS.out HT.out HST.out, below_drewN hb _⟩
            case measure => simp [intOf]; omega
          · have hb2 := beq_other hst
            have hf := Lib.hid (ahead_stop HL.out HR.out H.out hk hk2 (.inr (.inr (ahead_no HS.out HT.out hst))))
            clear hst
            go_wp2
            go_quiet (fail)
            go_wp2
            all_goals (go_ret2; exact ⟨by rw [H0.out, hf.out]; rfl, below_drewN hb _⟩)
        · have hd : decide ((k : Int) < if m < n then (m : Int) else (n : Int)) = false := by split <;> simp <;> omega
          have hf := Lib.hid (ahead_stop HL.out HR.out H.out hk hk2 (by omega))
          go_wp2
          go_quiet (fail)
          go_wp2
          all_goals (go_ret2; exact ⟨by rw [H0.out, hf.out]; rfl, below_drewN hb _⟩)
    · have hg2 : goodB r = false := by simpa using hg2
      have H := Lib.hid (show sameAhead l r = (0, false) from if_neg (by simp [hg2]))
      go_enter Try.func88, Try.ntmps88
      go_wp2_with fail
      refine (implGoodLines_any a n c l _ hl).mono ?_
      rintro e w1 ⟨rfl, b1⟩
      go_wp2_with fail
      refine (implGoodLines_any b m d r _ (hr.below b1)).mono ?_
      rintro e w2 ⟨rfl, b2⟩
      go_wp2
      go_ret2
      exact ⟨by rw [H.out]; rfl, b1.next b2⟩
  · have hg : goodB l = false := by simpa using hg
    have H := Lib.hid (show sameAhead l r = (0, false) from if_neg (by simp [hg]))
    go_enter Try.func88, Try.ntmps88
    go_wp2_with fail
    refine (implGoodLines_any a n c l _ hl).mono ?_
    rintro e w1 ⟨rfl, b1⟩
    go_wp2
    go_ret2
    exact ⟨by rw [H.out]; rfl, b1⟩

set_option maxHeartbeats 400000 in
theorem l1Least_any (x y q : Nat) (w : World) (hq : q = min x y) :
    Calls Try.prog 94 #[.int .i64 x, .int .i64 y] w fun e w' => e = .returned (.int .i64 q) ∧ w = w' := by
  by_cases h : x < y
  · have H := Lib.hid (show q = x by omega)
    clear hq
    go_enter Try.func94, Try.ntmps94
    go_wp2
    go_ret
    exact ⟨ret_int (by rw [H.out]), rfl⟩
  · have H := Lib.hid (show q = y by omega)
    clear hq
    go_enter Try.func94, Try.ntmps94
    go_wp2
    go_ret
    exact ⟨ret_int (by rw [H.out]), rfl⟩

theorem behind_stop {l r : List ByteArray} {n m p k : Nat} (hn : l.length = n) (hm : r.length = m) (hp : aheadT l r = p) (H : ∀ j, j < k → behindP l r j = true) (h1 : k ≤ min n m - p) (h : k = min n m - p ∨ behindP l r k = false) : behindT l r = k := by
  unfold behindT
  rw [hn, hm, hp]
  exact upto_is h1 H h
theorem behind_step {l r : List ByteArray} {n m k : Nat} {s t : ByteArray} (hn : l.length = n) (hm : r.length = m) (H : ∀ j, j < k → behindP l r j = true) (hs : l[n - 1 - k]? = some s) (ht : r[m - 1 - k]? = some t) (h : s = t) : ∀ j, j < k + 1 → behindP l r j = true := by
  intro j hj
  by_cases e : j = k
  · subst e; subst hn; subst hm; simp [behindP, hs, ht, h]
  · exact H j (by omega)
theorem behind_no {l r : List ByteArray} {n m k : Nat} {s t : ByteArray} (hn : l.length = n) (hm : r.length = m) (hs : l[n - 1 - k]? = some s) (ht : r[m - 1 - k]? = some t) (h : s ≠ t) : behindP l r k = false := by
  subst hn; subst hm; simp [behindP, hs, ht, h]

set_option maxHeartbeats 1000000 in
theorem l1Behind_any (a b : Option Addr) (n m c d : Nat) (l r : List ByteArray) (w : World) (hl : Strs w a n l) (hr : Strs w b m r) (hn : n ≤ 1048576) (hm : m ≤ 1048576) :
    Calls Try.prog 91 #[.slice a n c, .slice b m d] w fun e w' => e = .returned (.int .i64 (behindT l r)) ∧ Drawn w w' := by
  have HL := Lib.hid hl.len
  have HR := Lib.hid hr.len
  obtain ⟨p, HP, hp1, hp2⟩ : ∃ p, Hid (aheadT l r = p) ∧ p ≤ n ∧ p ≤ m := ⟨_, rfl, by rw [← hl.len]; exact (ahead_le l r).1, by rw [← hr.len]; exact (ahead_le l r).2⟩
  obtain ⟨q, HQ, hq1, hq2⟩ : ∃ q, Hid (q = min n m) ∧ q ≤ n ∧ q ≤ m := ⟨_, rfl, by omega, by omega⟩
  have hpq : p ≤ q := by have := HQ.out; omega
  go_enter Try.func91, Try.ntmps91
  go_wp2_with fail
  refine (l1Least_any n m q _ HQ.out).mono ?_
  rintro e w' ⟨rfl, rfl⟩
  go_wp2_with fail
  refine (l1Ahead_any a b n m c d l r _ hl hr).mono ?_
  rintro e w1 ⟨rfl, d1⟩
  rw [HP.out]
  go_wp2
  go_loopw [6] (fun i w' => ∃ k : Nat, i = .int .i64 k ∧ k ≤ q - p ∧ Hid (∀ j, j < k → behindP l r j = true) ∧ Drawn w w') (fun i _ => q - (intOf i).toNat)
  case atStart => exact ⟨0, rfl, by omega, fun j h => by omega, d1⟩
  case round =>
    obtain ⟨k, rfl, hk, H, hb⟩ := hrel
    by_cases h1 : k < q - p
    · have hd : decide ((k : Int) < (q : Int) - (p : Int)) = true := by simp; omega
      obtain ⟨b1, off1, s, rfl, hs, hsz, hc1⟩ := (hl.below hb.below).at_ (show n - 1 - k < n by omega)
      obtain ⟨b2, off2, t, rfl, ht, htz, hc2⟩ := (hr.below hb.below).at_ (show m - 1 - k < m by omega)
      have HS := Lib.hid hs
      have HT := Lib.hid ht
      clear hs ht
      have hi1 : (0 : Int) ≤ (n : Int) - 1 - (k : Int) := by omega
      have hi2 : (0 : Int) ≤ (m : Int) - 1 - (k : Int) := by omega
      have hi3 : (n : Int) - 1 - (k : Int) < (n : Int) := by omega
      have hi4 : (m : Int) - 1 - (k : Int) < (m : Int) := by omega
      by_cases hst : s = t
      · have hb2 : (s.toList == t.toList) = true := by rw [hst]; simp
        have HST := Lib.hid hst
        clear hst
        go_wp2
        go_quiet (fail)
        go_wp2
        go_roundw
        case rel => exact ⟨k + 1, by go_num, by omega, behind_step HL.out HR.out H.out HS.out HT.out HST.out, hb.more _⟩
        case measure => simp [intOf]; omega
      · have hb2 := beq_other hst
        have hf := Lib.hid (behind_stop HL.out HR.out HP.out H.out (by have := HQ.out; omega) (.inr (behind_no HL.out HR.out HS.out HT.out hst)))
        clear hst
        go_wp2
        go_quiet (fail)
        go_wp2
        go_ret; exact ⟨ret_int (by rw [hf.out]), hb.more _⟩
    · have hd : decide ((k : Int) < (q : Int) - (p : Int)) = false := by simp; omega
      have hf := Lib.hid (behind_stop HL.out HR.out HP.out H.out (by have := HQ.out; omega) (.inl (by have := HQ.out; omega)))
      go_wp2
      go_quiet (fail)
      go_wp2
      go_ret; exact ⟨ret_int (by rw [hf.out]), hb.more _⟩

set_option maxHeartbeats 1000000 in
theorem implSameBehind_lt (a b : Option Addr) (n m c d : Nat) (l r : List ByteArray) (w : World) (hl : Strs w a n l) (hr : Strs w b m r) (hmn : m < n) (hg : goodB l = true) (hg2 : goodB r = true) :
    Calls Try.prog 89 #[.slice a n c, .slice b m d] w fun e w' => e = .returned (.tuple #[.int .i64 (sameBehind l r).1, .bool (sameBehind l r).2]) ∧ Below w.heap.size w w' := by
  have HL := Lib.hid hl.len
  have HR := Lib.hid hr.len
  have H0 := Lib.hid (show sameBehind l r = (behindT l r, true) from if_pos (by simp [hg, hg2]))
  have H1 := Lib.hid (show sameAhead l r = (aheadT l r, true) from if_pos (by simp [hg, hg2]))
  have hn : n ≤ 40 := by rw [← hl.len]; exact goodB_len hg
  have hm : m ≤ 40 := by rw [← hr.len]; exact goodB_len hg2
  obtain ⟨p, HP, hp1, hp2⟩ : ∃ p, Hid (aheadT l r = p) ∧ p ≤ n ∧ p ≤ m := ⟨_, rfl, by rw [← hl.len]; exact (ahead_le l r).1, by rw [← hr.len]; exact (ahead_le l r).2⟩
  have HQ := Lib.hid (show m = min n m by omega)
  go_enter Try.func89, Try.ntmps89
  go_wp2_with fail
  refine (implSameAhead_any a b n m c d l r _ hl hr).mono ?_
  rintro e w1 ⟨rfl, d1⟩
  rw [H1.out]
  dsimp only
  rw [HP.out]
  go_wp2
  go_loopw [9] (fun i w' => ∃ k : Nat, i = .int .i64 k ∧ k ≤ m - p ∧ Hid (∀ j, j < k → behindP l r j = true) ∧ Below w.heap.size w w') (fun i _ => m - (intOf i).toNat)
  case atStart => exact ⟨0, rfl, by omega, fun j h => by omega, d1⟩
  case round =>
    obtain ⟨k, rfl, hk, H, hb⟩ := hrel
    by_cases h1 : k < m - p
    · have hd : decide ((k : Int) < (m : Int) - (p : Int)) = true := by simp; omega
      obtain ⟨b1, off1, s, rfl, hs, hsz, hc1⟩ := (hl.below hb).at_ (show n - 1 - k < n by omega)
      obtain ⟨b2, off2, t, rfl, ht, htz, hc2⟩ := (hr.below hb).at_ (show m - 1 - k < m by omega)
      have HS := Lib.hid hs
      have HT := Lib.hid ht
      clear hs ht
      have hi1 : (0 : Int) ≤ (n : Int) - 1 - (k : Int) := by omega
      have hi2 : (0 : Int) ≤ (m : Int) - 1 - (k : Int) := by omega
      have hi3 : (n : Int) - 1 - (k : Int) < (n : Int) := by omega
      have hi4 : (m : Int) - 1 - (k : Int) < (m : Int) := by omega
      by_cases hst : s = t
      · have hb2 : (s.toList == t.toList) = true := by rw [hst]; simp
        have HST := Lib.hid hst
        clear hst
        go_wp2
        go_quiet (fail)
        go_wp2
        go_roundw
        case rel => exact ⟨k + 1, by go_num, by omega, behind_step HL.out HR.out H.out HS.out HT.out HST.out, below_drewN hb _⟩
        case measure => simp [intOf]; omega
      · have hb2 := beq_other hst
        have hf := Lib.hid (behind_stop HL.out HR.out HP.out H.out (by have := HQ.out; omega) (.inr (behind_no HL.out HR.out HS.out HT.out hst)))
        clear hst
        go_wp2
        go_quiet (fail)
        go_wp2
        go_ret2; exact ⟨by rw [H0.out, hf.out]; rfl, below_drewN hb _⟩
    · have hd : decide ((k : Int) < (m : Int) - (p : Int)) = false := by simp; omega
      have hf := Lib.hid (behind_stop HL.out HR.out HP.out H.out (by have := HQ.out; omega) (.inl (by have := HQ.out; omega)))
      go_wp2
      go_quiet (fail)
      go_wp2
      go_ret2; exact ⟨by rw [H0.out, hf.out]; rfl, below_drewN hb _⟩

set_option maxHeartbeats 1000000 in
theorem implSameBehind_ge (a b : Option Addr) (n m c d : Nat) (l r : List ByteArray) (w : World) (hl : Strs w a n l) (hr : Strs w b m r) (hmn : ¬ m < n) (hg : goodB l = true) (hg2 : goodB r = true) :
    Calls Try.prog 89 #[.slice a n c, .slice b m d] w fun e w' => e = .returned (.tuple #[.int .i64 (sameBehind l r).1, .bool (sameBehind l r).2]) ∧ Below w.heap.size w w' := by
  have HL := Lib.hid hl.len
  have HR := Lib.hid hr.len
  have H0 := Lib.hid (show sameBehind l r = (behindT l r, true) from if_pos (by simp [hg, hg2]))
  have H1 := Lib.hid (show sameAhead l r = (aheadT l r, true) from if_pos (by simp [hg, hg2]))
  have hn : n ≤ 40 := by rw [← hl.len]; exact goodB_len hg
  have hm : m ≤ 40 := by rw [← hr.len]; exact goodB_len hg2
  obtain ⟨p, HP, hp1, hp2⟩ : ∃ p, Hid (aheadT l r = p) ∧ p ≤ n ∧ p ≤ m := ⟨_, rfl, by rw [← hl.len]; exact (ahead_le l r).1, by rw [← hr.len]; exact (ahead_le l r).2⟩
  have HQ := Lib.hid (show n = min n m by omega)
  go_enter Try.func89, Try.ntmps89
  go_wp2_with fail
  refine (implSameAhead_any a b n m c d l r _ hl hr).mono ?_
  rintro e w1 ⟨rfl, d1⟩
  rw [H1.out]
  dsimp only
  rw [HP.out]
  go_wp2
  go_loopw [9] (fun i w' => ∃ k : Nat, i = .int .i64 k ∧ k ≤ n - p ∧ Hid (∀ j, j < k → behindP l r j = true) ∧ Below w.heap.size w w') (fun i _ => n - (intOf i).toNat)
  case atStart => exact ⟨0, rfl, by omega, fun j h => by omega, d1⟩
  case round =>
    obtain ⟨k, rfl, hk, H, hb⟩ := hrel
    by_cases h1 : k < n - p
    · have hd : decide ((k : Int) < (n : Int) - (p : Int)) = true := by simp; omega
      obtain ⟨b1, off1, s, rfl, hs, hsz, hc1⟩ := (hl.below hb).at_ (show n - 1 - k < n by omega)
      obtain ⟨b2, off2, t, rfl, ht, htz, hc2⟩ := (hr.below hb).at_ (show m - 1 - k < m by omega)
      have HS := Lib.hid hs
      have HT := Lib.hid ht
      clear hs ht
      have hi1 : (0 : Int) ≤ (n : Int) - 1 - (k : Int) := by omega
      have hi2 : (0 : Int) ≤ (m : Int) - 1 - (k : Int) := by omega
      have hi3 : (n : Int) - 1 - (k : Int) < (n : Int) := by omega
      have hi4 : (m : Int) - 1 - (k : Int) < (m : Int) := by omega
      by_cases hst : s = t
      · have hb2 : (s.toList == t.toList) = true := by rw [hst]; simp
        have HST := Lib.hid hst
        clear hst
        go_wp2
        go_quiet (fail)
        go_wp2
        go_roundw
        case rel => exact ⟨k + 1, by go_num, by omega, behind_step HL.out HR.out H.out HS.out HT.out HST.out, below_drewN hb _⟩
        case measure => simp [intOf]; omega
      · have hb2 := beq_other hst
        have hf := Lib.hid (behind_stop HL.out HR.out HP.out H.out (by have := HQ.out; omega) (.inr (behind_no HL.out HR.out HS.out HT.out hst)))
        clear hst
        go_wp2
        go_quiet (fail)
        go_wp2
        go_ret2; exact ⟨by rw [H0.out, hf.out]; rfl, below_drewN hb _⟩
    · have hd : decide ((k : Int) < (n : Int) - (p : Int)) = false := by simp; omega
      have hf := Lib.hid (behind_stop HL.out HR.out HP.out H.out (by have := HQ.out; omega) (.inl (by have := HQ.out; omega)))
      go_wp2
      go_quiet (fail)
      go_wp2
      go_ret2; exact ⟨by rw [H0.out, hf.out]; rfl, below_drewN hb _⟩

set_option maxHeartbeats 400000 in
theorem implSameBehind_any (a b : Option Addr) (n m c d : Nat) (l r : List ByteArray) (w : World) (hl : Strs w a n l) (hr : Strs w b m r) :
    Calls Try.prog 89 #[.slice a n c, .slice b m d] w fun e w' => e = .returned (.tuple #[.int .i64 (sameBehind l r).1, .bool (sameBehind l r).2]) ∧ Below w.heap.size w w' := by
  by_cases hg : (goodB l && goodB r) = true
  · have hg' : goodB l = true ∧ goodB r = true := by simpa using hg
    by_cases hmn : m < n
    · exact implSameBehind_lt a b n m c d l r w hl hr hmn hg'.1 hg'.2
    · exact implSameBehind_ge a b n m c d l r w hl hr hmn hg'.1 hg'.2
  · have H := Lib.hid (show sameBehind l r = (0, false) from if_neg hg)
    have H1 := Lib.hid (show sameAhead l r = (0, false) from if_neg hg)
    clear hg
    go_enter Try.func89, Try.ntmps89
    go_wp2_with fail
    refine (implSameAhead_any a b n m c d l r _ hl hr).mono ?_
    rintro e w1 ⟨rfl, d1⟩
    rw [H1.out]
    dsimp only
    go_wp2
    go_ret2
    exact ⟨by rw [H.out]; rfl, d1⟩

end Go.Proofs.Ytaajldodobclaaa
