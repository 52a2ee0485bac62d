/-
  The law FnCommon.
-/
import Derived.Test.YtmgclbfjncnbbaaDLaw
import Derived.Test.YtmgclbfjncnbbaaDrawS
set_option linter.unusedSimpArgs false
set_option linter.unusedVariables false
namespace Go.Proofs.Ytmgclbfjncnbbaa.M

theorem bothB_swap (a b : List ByteArray) : bothB b a = bothB a b := by unfold bothB; exact Bool.and_comm _ _
theorem common_swap (a b : List ByteArray) : commonOf b a = commonOf a b := by unfold commonOf; rw [bothB_swap, lcs_swap]
theorem apart_bd (a b : List ByteArray) : 0 ≤ apart a b ∧ apart a b ≤ (a.length : Int) + b.length := by
  have h1 := lcs_le_left a b
  have h2 := lcs_le_right a b
  unfold apart
  omega
theorem apartOf_bd (a b : List ByteArray) : 0 ≤ (apartOf a b).1 ∧ (apartOf a b).1 ≤ (a.length : Int) + b.length := by
  unfold apartOf
  split
  · exact apart_bd a b
  · dsimp only; omega
theorem apart_three (a b c : List ByteArray) : apart a c ≤ apart a b + apart b c := by
  have h := lcs_three a b c
  unfold apart
  omega
theorem apartOf_on {a b : List ByteArray} (h : (apartOf a b).2 = true) : bothB a b = true := by
  unfold apartOf at h
  cases hq : bothB a b
  · rw [hq] at h; simp at h
  · rfl
theorem alike_bd (a b : List ByteArray) : 0 ≤ alike a b ∧ alike a b ≤ 100 := by
  have h1 := lcs_le_left a b
  have h2 := lcs_le_right a b
  unfold alike
  split
  · omega
  · have hp : 0 < (a.length : Int) + b.length := by omega
    exact ⟨Int.ediv_nonneg (by omega) (by omega), by
      apply Int.le_of_lt_add_one
      rw [Int.ediv_lt_iff_lt_mul hp]
      omega⟩
theorem alike_eq (a b : List ByteArray) : (alike a b == 100) = eqT a b := by
  have h1 := lcs_le_left a b
  have h2 := lcs_le_right a b
  have hb := alike_bd a b
  rw [Bool.eq_iff_iff]
  unfold eqT
  rw [beq_iff_eq, decide_eq_true_eq]
  constructor
  · intro h
    by_cases h0 : a.length + b.length = 0
    · rw [List.eq_nil_of_length_eq_zero (show a.length = 0 by omega), List.eq_nil_of_length_eq_zero (show b.length = 0 by omega)]
    · unfold alike at h
      rw [if_neg h0] at h
      have hp : 0 < (a.length : Int) + b.length := by omega
      have h3 : 100 ≤ 200 * (lcs a b : Int) / ((a.length : Int) + b.length) := by omega
      rw [Int.le_ediv_iff_mul_le hp] at h3
      exact lcs_full a b (by omega) (by omega)
  · intro h
    subst h
    unfold alike
    split
    · rfl
    · next h0 =>
      rw [lcs_self, show 200 * (a.length : Int) = 100 * ((a.length : Int) + a.length) from by omega]
      exact Int.mul_ediv_cancel _ (by omega)
theorem rises_at : ∀ {L : List (Nat × Nat)} {i j k : Nat} {r s : Nat × Nat}, rises i j L → L[k]? = some r → L[k + 1]? = some s → r.1 < s.1 ∧ r.2 < s.2
  | [], i, j, k, r, s, _, h, _ => by simp at h
  | t :: L, i, j, 0, r, s, hr, h1, h2 => by
    simp at h1
    subst h1
    cases L with
    | nil => simp at h2
    | cons u L =>
      simp at h2
      subst h2
      obtain ⟨_, _, h3, h4, _⟩ := hr
      omega
  | t :: L, i, j, k + 1, r, s, hr, h1, h2 => rises_at hr.2.2 (by simpa using h1) (by simpa using h2)

end Go.Proofs.Ytmgclbfjncnbbaa.M
namespace Go.Proofs.Ytmgclbfjncnbbaa
open Go.RowKit M

set_option maxHeartbeats 1000000 in
theorem DrawCommonLines_any (a : Option Addr) (n c : Nat) (w : World) (h : Bytes w a n) (hn : n ≤ 1048576) :
    Calls Try.prog 26 #[.slice a n c] w fun e w' => ∃ A n1 c1 l B n2 c2 l2, e = .returned (.tuple #[.slice A n1 c1, .slice B n2 c2]) ∧ Strs w' A n1 l ∧ n1 ≤ c1 ∧ Strs w' B n2 l2 ∧ n2 ≤ c2 ∧ n1 ≤ 9 ∧ n2 ≤ 12 ∧ Below w.heap.size w w' := by
  go_enter Try.func26, Try.ntmps26
  go_wp2_with fail
  refine (DrawSameAhead_any a n c _ h hn).mono ?_
  rintro e w1 ⟨v, v2, l, l2, rfl, o1, o2, h1, h2, b1⟩
  obtain ⟨A, c1, rfl, q1, _⟩ := o1.form rfl
  obtain ⟨B, c2, rfl, q2, _⟩ := o2.form rfl
  have HE := Lib.hid (show Strs w1 A l.length l ∧ l.length ≤ c1 ∧ Strs w1 B l2.length l2 ∧ l2.length ≤ c2 ∧ l.length ≤ 9 ∧ l2.length ≤ 12 ∧ Below w.heap.size w w1 from ⟨o1.strs, q1, o2.strs, q2, h1, h2, b1⟩)
  obtain ⟨n1, Hn1⟩ : ∃ n1, Hid (l.length = n1) := ⟨_, rfl⟩
  obtain ⟨n2, Hn2⟩ : ∃ n2, Hid (l2.length = n2) := ⟨_, rfl⟩
  rw [Hn1.out, Hn2.out] at HE ⊢
  clear o1 o2 q1 q2 h1 h2 b1
  go_wp2
  go_ret2
  exact ⟨A, n1, c1, l, B, n2, c2, l2, rfl, HE.out⟩

set_option maxHeartbeats 1000000 in
theorem DrawAlikeOf_any (a : Option Addr) (n c : Nat) (w : World) (h : Bytes w a n) (hn : n ≤ 1048576) :
    Calls Try.prog 33 #[.slice a n c] w fun e w' => ∃ A n1 c1 l B n2 c2 l2, e = .returned (.tuple #[.slice A n1 c1, .slice B n2 c2]) ∧ Strs w' A n1 l ∧ n1 ≤ c1 ∧ Strs w' B n2 l2 ∧ n2 ≤ c2 ∧ n1 ≤ 9 ∧ n2 ≤ 12 ∧ Below w.heap.size w w' := by
  go_enter Try.func33, Try.ntmps33
  go_wp2_with fail
  refine (DrawSameAhead_any a n c _ h hn).mono ?_
  rintro e w1 ⟨v, v2, l, l2, rfl, o1, o2, h1, h2, b1⟩
  obtain ⟨A, c1, rfl, q1, _⟩ := o1.form rfl
  obtain ⟨B, c2, rfl, q2, _⟩ := o2.form rfl
  have HE := Lib.hid (show Strs w1 A l.length l ∧ l.length ≤ c1 ∧ Strs w1 B l2.length l2 ∧ l2.length ≤ c2 ∧ l.length ≤ 9 ∧ l2.length ≤ 12 ∧ Below w.heap.size w w1 from ⟨o1.strs, q1, o2.strs, q2, h1, h2, b1⟩)
  obtain ⟨n1, Hn1⟩ : ∃ n1, Hid (l.length = n1) := ⟨_, rfl⟩
  obtain ⟨n2, Hn2⟩ : ∃ n2, Hid (l2.length = n2) := ⟨_, rfl⟩
  rw [Hn1.out, Hn2.out] at HE ⊢
  clear o1 o2 q1 q2 h1 h2 b1
  go_wp2
  go_ret2
  exact ⟨A, n1, c1, l, B, n2, c2, l2, rfl, HE.out⟩

set_option maxHeartbeats 1000000 in
theorem sameInts_same (g1 g2 : Nat) (s : Nat × Nat) (w : World) (h1 : Two w g1 s) (h2 : Two w g2 s) :
    Calls Try.prog 70 #[.slice (some ⟨g1, 0, none⟩) 2 2, .slice (some ⟨g2, 0, none⟩) 2 2] w fun e w' => e = .returned (.bool true) ∧ ∃ m, w' = w.drewN m := by
  go_enter Try.func70, Try.ntmps70
  go_wp2
  go_loopw [13] (fun i w' => ∃ k : Nat, i = .int .i64 k ∧ k ≤ 2 ∧ Drawn w w') (fun i _ => 2 - (intOf i).toNat)
  case atStart => exact ⟨0, rfl, by omega, Drawn.refl _⟩
  case round =>
    obtain ⟨k, rfl, hk, hd⟩ := hrel
    by_cases hlt : k < 2
    · have c1 := (h1.drawn hd).at_ hlt
      have c2 := (h2.drawn hd).at_ hlt
      obtain ⟨x, Hx⟩ : ∃ x, Hid ((if k = 0 then s.1 else s.2) = x) := ⟨_, rfl⟩
      rw [Hx.out] at c1 c2
      go_wp2
      go_quiet (fail)
      go_wp2
      go_roundw
      case rel => exact ⟨k + 1, by go_num, by omega, hd.more _⟩
      case measure => simp [intOf]; omega
    · go_wp2
      go_ret
      exact ⟨rfl, hd⟩

set_option maxHeartbeats 1000000 in
theorem sameLists_s (a b : Option Addr) (n m c d : Nat) (l : List (Nat × Nat)) (w : World) (hl : Prs w a n l) (hr : Prs w b m l) (hn : n ≤ 1000) :
    Calls Try.prog 31 #[.slice a n c, .slice b m d] w fun e w' => e = .returned (.bool true) ∧ Drawn w w' := by
  obtain rfl : n = m := hl.len.symm.trans hr.len
  have HL := Lib.hid hl
  have HR := Lib.hid hr
  clear hl hr
  go_enter Try.func31, Try.ntmps31
  go_wp2
  go_loopw [13] (fun i w' => ∃ k : Nat, i = .int .i64 k ∧ k ≤ n ∧ Drawn w w') (fun i _ => n - (intOf i).toNat)
  case atStart => exact ⟨0, rfl, by omega, Drawn.refl _⟩
  case round =>
    obtain ⟨k, rfl, hk, hd⟩ := hrel
    by_cases hlt : k < n
    · obtain ⟨b1, o1, g1, s1, rfl, hs1, c1, t1⟩ := (HL.out.below hd.below).two hlt
      obtain ⟨b2, o2, g2, s2, rfl, hs2, c2, t2⟩ := (HR.out.below hd.below).two hlt
      rw [hs1] at hs2
      injection hs2 with hs2
      subst hs2
      have HT1 := Lib.hid t1
      have HT2 := Lib.hid t2
      clear hs1 t1 t2
      go_wp2
      go_quiet ((go_at_call 70; exact Calls.quiet_of (sameInts_same g1 g2 s1 _ (HT1.out.drawn ⟨_, rfl⟩) (HT2.out.drawn ⟨_, rfl⟩))))
      go_wp2
      go_roundw
      case rel => exact ⟨k + 1, by go_num, by omega, hd.more _⟩
      case measure => simp [intOf]; omega
    · go_wp2
      go_ret
      exact ⟨rfl, hd⟩

set_option maxHeartbeats 8000000 in
set_option maxRecDepth 100000 in
theorem FnCommon_any (w : World) (a : Option Addr) (n c : Nat) (ha : Bytes w a n) (b : Option Addr) (m d : Nat) (hb : Bytes w b m) :
    Calls Try.prog 4 #[.slice a n c, .slice b m d] w fun e w' => e = .returned (.bool true) ∧ Below w.heap.size w w' := by
  by_cases hbig : 1048576 < n + m
  · have hd : decide (1048576 < n + m) = true := by simpa using hbig
    go_enter Try.func4, Try.ntmps4
    go_wp2_with fail
    refine (big_any a b n m c d _ ha.1 hb.1).mono ?_
    rintro e w1 ⟨rfl, rfl⟩
    rw [hd]
    go_wp2
    go_ret
    exact ⟨rfl, Below.refl _ _⟩
  · have hd : decide (1048576 < n + m) = false := by simpa using hbig
    go_enter Try.func4, Try.ntmps4
    go_wp2_with fail
    refine (big_any a b n m c d _ ha.1 hb.1).mono ?_
    rintro e w1 ⟨rfl, rfl⟩
    rw [hd]
    go_wp2_with fail
    refine (DrawCommonLines_any a n c _ ha (by omega)).mono ?_
    rintro e w1 ⟨A, na, ca, la, B, nb, cb, lb, rfl, sa, hca, sb, hcb, hna, hnb, b1⟩
    have SA := Lib.hid sa
    have SB := Lib.hid sb
    have HNA := Lib.hid sa.len
    have HNB := Lib.hid sb.len
    have B1 := Lib.hid b1
    clear sa sb b1
    obtain ⟨P, ok, HP⟩ : ∃ P ok, Hid (linesC la lb = (P, ok)) := ⟨_, _, rfl⟩
    obtain ⟨np, HNP⟩ : ∃ np, Hid (P.length = np) := ⟨_, rfl⟩
    have HCM := Lib.hid (show commonOf la lb = ((np : Int), ok) by rw [common_lines, HP.out, HNP.out])
    have HCB := Lib.hid (show commonOf lb la = ((np : Int), ok) by rw [common_swap]; exact HCM.out)
    have hnp40 : np ≤ 40 := by have := linesC_len la lb; rw [HP.out] at this; dsimp only at this; rw [HNP.out] at this; exact this
    go_wp2_with fail
    refine (implCommonLines_any A na ca la B nb cb lb _ SA.out SB.out).mono ?_
    rintro e w2 ⟨v2, gs2, rfl, o2, b2⟩
    rw [HP.out] at o2 ⊢
    dsimp only at o2 ⊢
    obtain ⟨AL, cl, rfl, _⟩ := o2.form HNP.out
    have PL := Lib.hid o2.prs
    have B2 := Lib.hid b2
    clear o2 b2
    go_wp2_with fail
    refine (specCommonLines_any A na ca la B nb cb lb _ (SA.out.below B2.out) (SB.out.below B2.out)).mono ?_
    rintro e w3 ⟨v3, gs3, rfl, o3, b3⟩
    rw [HP.out] at o3 ⊢
    dsimp only at o3 ⊢
    obtain ⟨AW, cw, rfl, _⟩ := o3.form HNP.out
    have PW := Lib.hid o3.prs
    have B3 := Lib.hid (B2.out.next b3)
    have PL3 := Lib.hid (PL.out.below b3)
    clear o3 b3
    go_wp2_with fail
    refine (implCommon_any A na ca la B nb cb lb _ (SA.out.below B3.out) (SB.out.below B3.out)).mono ?_
    rintro e w4 ⟨rfl, b4⟩
    rw [HCM.out]
    dsimp only
    have B4 := Lib.hid (B3.out.next b4)
    have PL4 := Lib.hid (PL3.out.below b4)
    have PW4 := Lib.hid (PW.out.below b4)
    clear b4
    go_wp2_with fail
    refine (specCommon_any A na ca la B nb cb lb _ (SA.out.below B4.out) (SB.out.below B4.out)).mono ?_
    rintro e w5 ⟨rfl, b5⟩
    rw [HCM.out]
    dsimp only
    have B5 := Lib.hid (B4.out.next b5)
    have PL5 := Lib.hid (PL4.out.below b5)
    have PW5 := Lib.hid (PW4.out.below b5)
    clear b5
    go_wp2_with fail
    refine (implCommon_any B nb cb lb A na ca la _ (SB.out.below B5.out) (SA.out.below B5.out)).mono ?_
    rintro e w6 ⟨rfl, b6⟩
    rw [HCB.out]
    dsimp only
    have B6 := Lib.hid (B5.out.next b6)
    have PL6 := Lib.hid (PL5.out.below b6)
    have PW6 := Lib.hid (PW5.out.below b6)
    clear b6
    have hok : (ok != ok) = false := by simp
    have hnn : (np != np) = false := by simp
    go_wp2_with fail
    refine (sameLists_s AL AW np np cl cw P _ PL6.out PW6.out (by omega)).mono ?_
    rintro e w7 ⟨rfl, d7⟩
    have B7 := Lib.hid (B6.out.next d7.below)
    have PL7 := Lib.hid (PL6.out.below d7.below)
    clear d7
    cases ok with
    | false =>
      have hp0 : np = 0 := by
        have h1 := HP.out
        unfold linesC at h1
        split at h1
        · cases h1
        · injection h1 with h1 h2; rw [← HNP.out, ← h1]; rfl
      subst hp0
      have BX := Lib.hid (B1.out.next B7.out)
      go_wp2_with fail
      go_loopw [122] (fun x w' => x = .int .i64 0 ∧ Drawn w7 w') (fun _ _ => 0)
      case atStart => exact ⟨rfl, Drawn.refl _⟩
      case round =>
        obtain ⟨rfl, hdr⟩ := hrel
        have BY := BX.out.next hdr.below
        go_wp2_with fail
        refine (DrawAlikeOf_any b m d _ (hb.below BY) (by omega)).mono ?_
        rintro e t1 ⟨D1, p1, e1, x1, D2, p2, e2, x2, rfl, r1, r2, r3, r4, r5, r6, r7⟩
        have R := Lib.hid (BY.next r7)
        obtain ⟨k5, y5, H5⟩ : ∃ k5 y5, Hid (alikeOf x1 x2 = (k5, y5)) := ⟨_, _, rfl⟩
        obtain ⟨k6, y6, H6⟩ : ∃ k6 y6, Hid (apartOf x1 x2 = (k6, y6)) := ⟨_, _, rfl⟩
        go_wp2_with fail
        refine (implAlikeOf_any D1 p1 e1 x1 D2 p2 e2 x2 _ r1 r3).mono ?_
        rintro e t2 ⟨rfl, v2⟩
        rw [H5.out]
        dsimp only
        go_wp2_with fail
        refine (specAlikeOf_any D1 p1 e1 x1 D2 p2 e2 x2 _ (r1.below v2) (r3.below v2)).mono ?_
        rintro e t3 ⟨rfl, v3⟩
        rw [H5.out]
        dsimp only
        go_wp2_with fail
        refine (implFarApart_any D1 p1 e1 x1 D2 p2 e2 x2 _ (r1.below (v2.next v3)) (r3.below (v2.next v3))).mono ?_
        rintro e t4 ⟨rfl, v4⟩
        rw [H6.out]
        dsimp only
        go_wp2_with fail
        refine (specFarApart_any D1 p1 e1 x1 D2 p2 e2 x2 _ (r1.below ((v2.next v3).next v4)) (r3.below ((v2.next v3).next v4))).mono ?_
        rintro e t5 ⟨rfl, v5⟩
        rw [H6.out]
        dsimp only
        have h55 : (y5 == y5) = true := by simp
        have h66 : (y6 == y6) = true := by simp
        go_wp2
        go_ret
        exact ⟨rfl, R.out.next (((v2.next v3).next v4).next v5)⟩
    | true =>
      have hbb : bothB la lb = true := by
        have h1 := HP.out
        unfold linesC at h1
        split at h1
        · assumption
        · cases h1
      have HPP := Lib.hid (show P = pairsOf la lb by
        have h1 := HP.out; rw [linesC_yes hbb] at h1; injection h1 with h1 h2; exact h1.symm)
      have BX := Lib.hid (B1.out.next B7.out)
      go_wp2_with fail
      go_loopw [122] (fun x w' => ∃ k : Nat, x = .int .i64 k ∧ k ≤ np ∧ Drawn w7 w') (fun x _ => np - (intOf x).toNat)
      case atStart => exact ⟨0, rfl, by omega, Drawn.refl _⟩
      case round =>
        obtain ⟨k, rfl, hk, hdr⟩ := hrel
        by_cases hlt : k < np
        · obtain ⟨b1, o1, g1, s1, rfl, hs1, c1, t1⟩ := (PL7.out.below hdr.below).two hlt
          have hs2 : (pairsOf la lb)[k]? = some s1 := by rw [← HPP.out]; exact hs1
          obtain ⟨i1, i2, i3⟩ := pairs_mem (a := la) (b := lb) (i := 0) (j := 0) (List.mem_of_getElem? hs2)
          rw [HNA.out] at i1
          rw [HNB.out] at i2
          obtain ⟨s0, s1'⟩ := s1
          dsimp only at i1 i2 i3
          have BW := Lib.hid (B7.out.next hdr.below)
          obtain ⟨b3, o3, sl, rfl, hsl, _, csl⟩ := (SA.out.below BW.out).at_ i1
          obtain ⟨b4, o4, sr, rfl, hsr, _, csr⟩ := (SB.out.below BW.out).at_ i2
          obtain rfl : sl = sr := by rw [hsl, hsr] at i3; injection i3
          have hbq := beq_same sl
          obtain ⟨e0, e1⟩ := t1
          dsimp only at e0 e1
          have f0 : decide (na ≤ s0) = false := by simp; omega
          have f1 : decide (nb ≤ s1') = false := by simp; omega
          have f0i : decide ((na : Int) ≤ (s0 : Int)) = false := by simp; omega
          have f1i : decide ((nb : Int) ≤ (s1' : Int)) = false := by simp; omega
          have f0n : decide ((s0 : Int) < 0) = false := by simp
          have f1n : decide ((s1' : Int) < 0) = false := by simp
          have hbn : (sl.toList != sl.toList) = false := by simp
          have BR := Lib.hid (BX.out.next hdr.below)
          by_cases hk0 : k = 0
          · have hkd : decide (0 < k) = false := by simp; omega
            have hkdi : decide ((0 : Int) < (k : Int)) = false := by simp; omega
            clear hk0 hs1 hs2 hsl hsr
            go_wp2_with fail
            (try simp only [List.append_eq, List.cons_append, List.nil_append])
            go_big_quiet (fail)
            go_wp2_with fail
            go_roundw
            case rel => exact ⟨k + 1, by go_num, by omega, hdr.more _⟩
            case measure => simp [intOf]; omega
          · obtain ⟨k1, Hk1⟩ : ∃ k1, Hid (k = k1 + 1) := ⟨k - 1, show _ = _ by omega⟩
            have hkd : decide (0 < k) = true := by simp; omega
            have hkdi : decide ((0 : Int) < (k : Int)) = true := by simp; omega
            have hk1n : k1 < np := by have := Hk1.out; omega
            have hkI : IntKind.i64.wrap ((k : Int) - 1) = (k1 : Int) := by have := Hk1.out; rw [IntKind.wrap_i64]; omega
            obtain ⟨b1x, o1x, g2, s2, ex, hs3, c2, t2⟩ := (PL7.out.below hdr.below).two hk1n
            injection ex with ex
            injection ex with ex1 ex2
            subst ex1 ex2
            have hs4 : (pairsOf la lb)[k1]? = some s2 := by rw [← HPP.out]; exact hs3
            obtain ⟨j1, j2⟩ := rises_at (pairs_rise la lb) hs4 (by rw [← Hk1.out]; exact hs2)
            obtain ⟨r0, r1⟩ := s2
            dsimp only at j1 j2
            obtain ⟨e2, e3⟩ := t2
            dsimp only at e2 e3
            have f2 : decide (s0 ≤ r0) = false := by simp; omega
            have f3 : decide (s1' ≤ r1) = false := by simp; omega
            have f2i : decide ((s0 : Int) ≤ (r0 : Int)) = false := by simp; omega
            have f3i : decide ((s1' : Int) ≤ (r1 : Int)) = false := by simp; omega
            clear hk0 hs1 hs2 hsl hsr hs3 hs4
            go_wp2_with fail
            (try simp only [List.append_eq, List.cons_append, List.nil_append])
            go_big_quiet (fail)
            go_wp2_with fail
            go_roundw
            case rel => exact ⟨k + 1, by go_num, by omega, hdr.more _⟩
            case measure => simp [intOf]; omega
        · have BY := Lib.hid (BX.out.next hdr.below)
          have BZ := Lib.hid (B7.out.next hdr.below)
          obtain ⟨x, Hx⟩ : ∃ x, Hid (apart la lb = x) := ⟨_, rfl⟩
          have hap := Lib.hid (show apartOf la lb = (x, true) by rw [apartOf_yes hbb, Hx.out])
          have hxb := apart_bd la lb
          rw [Hx.out, HNA.out, HNB.out] at hxb
          obtain ⟨hx0, hx1⟩ := hxb
          obtain ⟨kk, Hkk⟩ : ∃ kk, Hid (alike la lb = kk) := ⟨_, rfl⟩
          have hal := Lib.hid (show alikeOf la lb = (kk, true) by unfold alikeOf; rw [if_pos hbb, Hkk.out])
          have hkb := alike_bd la lb
          have hke := alike_eq la lb
          rw [Hkk.out] at hkb hke
          obtain ⟨hk0, hk1⟩ := hkb
          obtain ⟨yt, Hyt⟩ : ∃ yt, Hid (eqT la lb = yt) := ⟨_, rfl⟩
          rw [Hyt.out] at hke
          have g0 : decide (kk < 0) = false := by simp; omega
          have g1 : decide (100 < kk) = false := by simp; omega
          have hyy : (yt != yt) = false := by simp
          go_wp2_with fail
          refine (DrawCommonLines_any b m d _ (hb.below BY.out) (by omega)).mono ?_
          rintro e q1 ⟨C, nc, cc, lc, C2, nc2, cc2, lc2, rfl, sc, _, _, _, hnc, _, v1⟩
          have SC := Lib.hid sc
          have HNC := Lib.hid sc.len
          have V1 := Lib.hid v1
          have Z1 := Lib.hid (BZ.out.next v1)
          clear sc v1
          obtain ⟨y, oy, HY⟩ : ∃ y oy, Hid (apartOf lb lc = (y, oy)) := ⟨_, _, rfl⟩
          obtain ⟨z, oz, HZ⟩ : ∃ z oz, Hid (apartOf la lc = (z, oz)) := ⟨_, _, rfl⟩
          have hyb := apartOf_bd lb lc
          have hzb := apartOf_bd la lc
          rw [HY.out, HNB.out, HNC.out] at hyb
          rw [HZ.out, HNA.out, HNC.out] at hzb
          dsimp only at hyb hzb
          obtain ⟨hy0, hy1⟩ := hyb
          obtain ⟨hz0, hz1⟩ := hzb
          have HTR := Lib.hid (show oy = true → oz = true → z ≤ x + y from fun h1 h2 => by
            have k1 : bothB lb lc = true := apartOf_on (by rw [HY.out]; exact h1)
            have k2 : bothB la lc = true := apartOf_on (by rw [HZ.out]; exact h2)
            have k3 := HY.out; rw [apartOf_yes k1] at k3; injection k3 with k3
            have k4 := HZ.out; rw [apartOf_yes k2] at k4; injection k4 with k4
            have := apart_three la lb lc
            rw [Hx.out, k3, k4] at this
            exact this)
          go_wp2_with fail
          refine (implFarApart_any A na ca la B nb cb lb _ (SA.out.below Z1.out) (SB.out.below Z1.out)).mono ?_
          rintro e q2 ⟨rfl, v2⟩
          rw [hap.out]
          dsimp only
          have Z2 := Lib.hid (Z1.out.next v2)
          have V2 := Lib.hid (V1.out.next v2)
          have SC2 := Lib.hid (SC.out.below v2)
          clear v2
          go_wp2_with fail
          refine (implFarApart_any B nb cb lb C nc cc lc _ (SB.out.below Z2.out) SC2.out).mono ?_
          rintro e q3 ⟨rfl, v3⟩
          rw [HY.out]
          dsimp only
          have Z3 := Lib.hid (Z2.out.next v3)
          have V3 := Lib.hid (V2.out.next v3)
          have SC3 := Lib.hid (SC2.out.below v3)
          clear v3
          go_wp2_with fail
          refine (implFarApart_any A na ca la C nc cc lc _ (SA.out.below Z3.out) SC3.out).mono ?_
          rintro e q4 ⟨rfl, v4⟩
          rw [HZ.out]
          dsimp only
          have Z4 := Lib.hid (Z3.out.next v4)
          have V4 := Lib.hid (V3.out.next v4)
          clear v4
          have htest : oy = true → oz = true → decide (x + y < z) = false := fun h1 h2 => by have := HTR.out h1 h2; simp; omega
          have HTE := Lib.hid htest
          clear htest
          have rest : True := trivial
          cases oy with
          | false =>
            go_wp2_with fail
            refine (implAlikeOf_any A na ca la B nb cb lb _ (SA.out.below Z4.out) (SB.out.below Z4.out)).mono ?_
            rintro e q5 ⟨rfl, v5⟩
            rw [hal.out]
            dsimp only
            have Z5 := Lib.hid (Z4.out.next v5)
            have V5 := Lib.hid (V4.out.next v5)
            clear v5
            go_wp2_with fail
            refine (sameTexts_any A B na nb ca cb la lb _ (SA.out.below Z5.out) (SB.out.below Z5.out)).mono ?_
            rintro e q6 ⟨rfl, d6⟩
            rw [Hyt.out]
            have BW := (BY.out.next V5.out).next d6.below
            clear d6
            go_wp2_with fail
            refine (DrawAlikeOf_any b m d _ (hb.below BW) (by omega)).mono ?_
            rintro e t1 ⟨D1, p1, e1, x1, D2, p2, e2, x2, rfl, r1, r2, r3, r4, r5, r6, r7⟩
            have R := Lib.hid (BW.next r7)
            obtain ⟨k5, y5, H5⟩ : ∃ k5 y5, Hid (alikeOf x1 x2 = (k5, y5)) := ⟨_, _, rfl⟩
            obtain ⟨k6, y6, H6⟩ : ∃ k6 y6, Hid (apartOf x1 x2 = (k6, y6)) := ⟨_, _, rfl⟩
            go_wp2_with fail
            refine (implAlikeOf_any D1 p1 e1 x1 D2 p2 e2 x2 _ r1 r3).mono ?_
            rintro e t2 ⟨rfl, v2⟩
            rw [H5.out]
            dsimp only
            go_wp2_with fail
            refine (specAlikeOf_any D1 p1 e1 x1 D2 p2 e2 x2 _ (r1.below v2) (r3.below v2)).mono ?_
            rintro e t3 ⟨rfl, v3⟩
            rw [H5.out]
            dsimp only
            go_wp2_with fail
            refine (implFarApart_any D1 p1 e1 x1 D2 p2 e2 x2 _ (r1.below (v2.next v3)) (r3.below (v2.next v3))).mono ?_
            rintro e t4 ⟨rfl, v4⟩
            rw [H6.out]
            dsimp only
            go_wp2_with fail
            refine (specFarApart_any D1 p1 e1 x1 D2 p2 e2 x2 _ (r1.below ((v2.next v3).next v4)) (r3.below ((v2.next v3).next v4))).mono ?_
            rintro e t5 ⟨rfl, v5⟩
            rw [H6.out]
            dsimp only
            have h55 : (y5 == y5) = true := by simp
            have h66 : (y6 == y6) = true := by simp
            go_wp2
            go_ret
            exact ⟨rfl, R.out.next (((v2.next v3).next v4).next v5)⟩
          | true =>
            cases oz with
            | false =>
              go_wp2_with fail
              refine (implAlikeOf_any A na ca la B nb cb lb _ (SA.out.below Z4.out) (SB.out.below Z4.out)).mono ?_
              rintro e q5 ⟨rfl, v5⟩
              rw [hal.out]
              dsimp only
              have Z5 := Lib.hid (Z4.out.next v5)
              have V5 := Lib.hid (V4.out.next v5)
              clear v5
              go_wp2_with fail
              refine (sameTexts_any A B na nb ca cb la lb _ (SA.out.below Z5.out) (SB.out.below Z5.out)).mono ?_
              rintro e q6 ⟨rfl, d6⟩
              rw [Hyt.out]
              have BW := (BY.out.next V5.out).next d6.below
              clear d6
              go_wp2_with fail
              refine (DrawAlikeOf_any b m d _ (hb.below BW) (by omega)).mono ?_
              rintro e t1 ⟨D1, p1, e1, x1, D2, p2, e2, x2, rfl, r1, r2, r3, r4, r5, r6, r7⟩
              have R := Lib.hid (BW.next r7)
              obtain ⟨k5, y5, H5⟩ : ∃ k5 y5, Hid (alikeOf x1 x2 = (k5, y5)) := ⟨_, _, rfl⟩
              obtain ⟨k6, y6, H6⟩ : ∃ k6 y6, Hid (apartOf x1 x2 = (k6, y6)) := ⟨_, _, rfl⟩
              go_wp2_with fail
              refine (implAlikeOf_any D1 p1 e1 x1 D2 p2 e2 x2 _ r1 r3).mono ?_
              rintro e t2 ⟨rfl, v2⟩
              rw [H5.out]
              dsimp only
              go_wp2_with fail
              refine (specAlikeOf_any D1 p1 e1 x1 D2 p2 e2 x2 _ (r1.below v2) (r3.below v2)).mono ?_
              rintro e t3 ⟨rfl, v3⟩
              rw [H5.out]
              dsimp only
              go_wp2_with fail
              refine (implFarApart_any D1 p1 e1 x1 D2 p2 e2 x2 _ (r1.below (v2.next v3)) (r3.below (v2.next v3))).mono ?_
              rintro e t4 ⟨rfl, v4⟩
              rw [H6.out]
              dsimp only
              go_wp2_with fail
              refine (specFarApart_any D1 p1 e1 x1 D2 p2 e2 x2 _ (r1.below ((v2.next v3).next v4)) (r3.below ((v2.next v3).next v4))).mono ?_
              rintro e t5 ⟨rfl, v5⟩
              rw [H6.out]
              dsimp only
              have h55 : (y5 == y5) = true := by simp
              have h66 : (y6 == y6) = true := by simp
              go_wp2
              go_ret
              exact ⟨rfl, R.out.next (((v2.next v3).next v4).next v5)⟩
            | true =>
              have htt : decide (x + y < z) = false := HTE.out rfl rfl
              go_wp2_with fail
              refine (implAlikeOf_any A na ca la B nb cb lb _ (SA.out.below Z4.out) (SB.out.below Z4.out)).mono ?_
              rintro e q5 ⟨rfl, v5⟩
              rw [hal.out]
              dsimp only
              have Z5 := Lib.hid (Z4.out.next v5)
              have V5 := Lib.hid (V4.out.next v5)
              clear v5
              go_wp2_with fail
              refine (sameTexts_any A B na nb ca cb la lb _ (SA.out.below Z5.out) (SB.out.below Z5.out)).mono ?_
              rintro e q6 ⟨rfl, d6⟩
              rw [Hyt.out]
              have BW := (BY.out.next V5.out).next d6.below
              clear d6
              go_wp2_with fail
              refine (DrawAlikeOf_any b m d _ (hb.below BW) (by omega)).mono ?_
              rintro e t1 ⟨D1, p1, e1, x1, D2, p2, e2, x2, rfl, r1, r2, r3, r4, r5, r6, r7⟩
              have R := Lib.hid (BW.next r7)
              obtain ⟨k5, y5, H5⟩ : ∃ k5 y5, Hid (alikeOf x1 x2 = (k5, y5)) := ⟨_, _, rfl⟩
              obtain ⟨k6, y6, H6⟩ : ∃ k6 y6, Hid (apartOf x1 x2 = (k6, y6)) := ⟨_, _, rfl⟩
              go_wp2_with fail
              refine (implAlikeOf_any D1 p1 e1 x1 D2 p2 e2 x2 _ r1 r3).mono ?_
              rintro e t2 ⟨rfl, v2⟩
              rw [H5.out]
              dsimp only
              go_wp2_with fail
              refine (specAlikeOf_any D1 p1 e1 x1 D2 p2 e2 x2 _ (r1.below v2) (r3.below v2)).mono ?_
              rintro e t3 ⟨rfl, v3⟩
              rw [H5.out]
              dsimp only
              go_wp2_with fail
              refine (implFarApart_any D1 p1 e1 x1 D2 p2 e2 x2 _ (r1.below (v2.next v3)) (r3.below (v2.next v3))).mono ?_
              rintro e t4 ⟨rfl, v4⟩
              rw [H6.out]
              dsimp only
              go_wp2_with fail
              refine (specFarApart_any D1 p1 e1 x1 D2 p2 e2 x2 _ (r1.below ((v2.next v3).next v4)) (r3.below ((v2.next v3).next v4))).mono ?_
              rintro e t5 ⟨rfl, v5⟩
              rw [H6.out]
              dsimp only
              have h55 : (y5 == y5) = true := by simp
              have h66 : (y6 == y6) = true := by simp
              go_wp2
              go_ret
              exact ⟨rfl, R.out.next (((v2.next v3).next v4).next v5)⟩

end Go.Proofs.Ytmgclbfjncnbbaa
