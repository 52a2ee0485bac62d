/-
  SameHunks, the program's and the model's, and its law.
-/
import Derived.Test.YtkamenidgkjodaaHGoods
set_option linter.unusedSimpArgs false
set_option linter.unusedVariables false
namespace Go.Proofs.Ytkamenidgkjodaa
open Go.RowKit M

set_option maxHeartbeats 400000 in
theorem slicesEqual_any (a b : Option Addr) (n m c d : Nat) (l r : List ByteArray) (w : World) (hl : Strs w a n l) (hr : Strs w b m r) :
    Calls Try.prog 56 #[.slice a n c, .slice b m d] w fun e w' => e = .returned (.bool (eqT l r)) ∧ Drawn w w' := by
  have HL := Lib.hid hl.len
  have HR := Lib.hid hr.len
  have hlim := hl.lim
  unfold maxLen at hlim
  by_cases hnm : n = m
  · subst hnm
    have hq : ((n : Int) != (n : Int)) = false := by simp
    go_enter Try.func56, Try.ntmps56
    go_wp2
    go_loopw [13] (fun i w' => ∃ k : Nat, i = .int .i64 k ∧ k ≤ n ∧ Hid (∀ j s t, j < k → l[j]? = some s → r[j]? = some t → s = t) ∧ Drawn w w') (fun i _ => n - (intOf i).toNat)
    case atStart => exact ⟨0, rfl, by omega, fun j s t h => by omega, Drawn.refl _⟩
    case round =>
      obtain ⟨k, rfl, hk, H, hb⟩ := hrel
      by_cases hlt : k < n
      · obtain ⟨b1, off1, s, rfl, hs, hsz, hc1⟩ := (hl.below hb.below).at_ hlt
        obtain ⟨b2, off2, t, rfl, ht, htz, hc2⟩ := (hr.below hb.below).at_ hlt
        have HS := Lib.hid hs
        have HT := Lib.hid ht
        clear hs ht
        have hi0 : (0 : Int) ≤ (k : Int) := by omega
        have hi1 : (k : Int) < (n : Int) := by omega
        by_cases hst : s = t
        · have hb2 : (s.toList == t.toList) = true := by rw [hst]; simp
          have HST := Lib.hid hst
          clear hst
          go_wp2
          go_quiet (fail)
          go_wp2
          go_roundw
          case rel => exact ⟨k + 1, by go_num, by omega, eq_step H.out HS.out HT.out HST.out, hb.more _⟩
          case measure => simp [intOf]; omega
        · have hb2 := beq_other hst
          have hf := Lib.hid (eqT_at HS.out HT.out hst)
          clear hst
          go_wp2
          go_quiet (fail)
          go_wp2
          go_ret
          exact ⟨ret_bool hf.out.symm, hb.more _⟩
      · have hf := Lib.hid (eqT_all (fun j s t h1 h2 => H.out j s t (by have := (List.getElem?_eq_some_iff.1 h1).1; have := HL.out; omega) h1 h2) (HL.out.trans HR.out.symm))
        go_wp2
        go_ret
        exact ⟨ret_bool hf.out.symm, hb⟩
  · have hq : ((n : Int) != (m : Int)) = true := by simp; omega
    have hf := Lib.hid (eqT_len (l := l) (r := r) (by rw [HL.out, HR.out]; exact hnm))
    go_enter Try.func56, Try.ntmps56
    go_wp2
    go_ret
    exact ⟨ret_bool hf.out.symm, Drawn.refl _⟩

set_option maxHeartbeats 400000 in
theorem l1SameT_any (a b : Option Addr) (n m c d : Nat) (l r : List ByteArray) (w : World) (hl : Strs w a n l) (hr : Strs w b m r) :
    Calls Try.prog 48 #[.slice a n c, .slice b m d] w fun e w' => e = .returned (.bool (eqT l r)) ∧ Drawn w w' := by
  have HL := Lib.hid hl.len
  have HR := Lib.hid hr.len
  have hlim := hl.lim
  unfold maxLen at hlim
  by_cases hnm : n = m
  · subst hnm
    have hq : ((n : Int) != (n : Int)) = false := by simp
    go_enter Try.func48, Try.ntmps48
    go_wp2
    go_loopw [13] (fun i w' => ∃ k : Nat, i = .int .i64 k ∧ k ≤ n ∧ Hid (∀ j s t, j < k → l[j]? = some s → r[j]? = some t → s = t) ∧ Drawn w w') (fun i _ => n - (intOf i).toNat)
    case atStart => exact ⟨0, rfl, by omega, fun j s t h => by omega, Drawn.refl _⟩
    case round =>
      obtain ⟨k, rfl, hk, H, hb⟩ := hrel
      by_cases hlt : k < n
      · obtain ⟨b1, off1, s, rfl, hs, hsz, hc1⟩ := (hl.below hb.below).at_ hlt
        obtain ⟨b2, off2, t, rfl, ht, htz, hc2⟩ := (hr.below hb.below).at_ hlt
        have HS := Lib.hid hs
        have HT := Lib.hid ht
        clear hs ht
        have hi0 : (0 : Int) ≤ (k : Int) := by omega
        have hi1 : (k : Int) < (n : Int) := by omega
        by_cases hst : s = t
        · have hb2 : (s.toList == t.toList) = true := by rw [hst]; simp
          have HST := Lib.hid hst
          clear hst
          go_wp2
          go_quiet (fail)
          go_wp2
          go_roundw
          case rel => exact ⟨k + 1, by go_num, by omega, eq_step H.out HS.out HT.out HST.out, hb.more _⟩
          case measure => simp [intOf]; omega
        · have hb2 := beq_other hst
          have hf := Lib.hid (eqT_at HS.out HT.out hst)
          clear hst
          go_wp2
          go_quiet (fail)
          go_wp2
          go_ret
          exact ⟨ret_bool hf.out.symm, hb.more _⟩
      · have hf := Lib.hid (eqT_all (fun j s t h1 h2 => H.out j s t (by have := (List.getElem?_eq_some_iff.1 h1).1; have := HL.out; omega) h1 h2) (HL.out.trans HR.out.symm))
        go_wp2
        go_ret
        exact ⟨ret_bool hf.out.symm, hb⟩
  · have hq : ((n : Int) != (m : Int)) = true := by simp; omega
    have hf := Lib.hid (eqT_len (l := l) (r := r) (by rw [HL.out, HR.out]; exact hnm))
    go_enter Try.func48, Try.ntmps48
    go_wp2
    go_ret
    exact ⟨ret_bool hf.out.symm, Drawn.refl _⟩

end Go.Proofs.Ytkamenidgkjodaa
