/-
  The law FnJoined.
-/
import Derived.Test.YtaajldodobclaaaHDrawD
import Derived.Test.YtaajldodobclaaaHBase9
import Derived.Test.YtaajldodobclaaaLHJoin
set_option linter.unusedSimpArgs false
set_option linter.unusedVariables false
namespace Go.Proofs.Ytaajldodobclaaa
open Go.RowKit M

theorem patch_true {l : List ByteArray} {hs : List Hk} (h : patchOk l hs = true) : patchOf l hs = (patchH l hs, true) := if_pos h
theorem join_true {l : List ByteArray} {a b J : List Hk} (h : joinOf l a b = (J, true)) : joinOk l a b = true ∧ J = joinH l a b := by
  unfold joinOf at h
  split at h
  · next q => injection h with h1 h2; exact ⟨q, h1.symm⟩
  · injection h with h1 h2; cases h2

set_option maxHeartbeats 4000000 in
set_option maxRecDepth 100000 in
theorem FnJoined_any (w : World) (a : Option Addr) (n c : Nat) (ha : Bytes w a n) (b : Option Addr) (m d : Nat) (hb : Bytes w b m) :
    Calls Try.prog 5 #[.slice a n c, .slice b m d] w fun e w' => e = .returned (.bool true) ∧ Below w.heap.size w w' := by
  by_cases hbig : 1048576 < n + m
  · have hd : decide (1048576 < n + m) = true := by simpa using hbig
    go_enter Try.func5, Try.ntmps5
    go_wp2_with fail
    refine (big_any a b n m c d _ ha.1 hb.1).mono ?_
    rintro e w1 ⟨rfl, rfl⟩
    rw [hd]
    go_wp2
    go_ret
    exact ⟨rfl, Below.refl _ _⟩
  · have hd : decide (1048576 < n + m) = false := by simpa using hbig
    go_enter Try.func5, Try.ntmps5
    go_wp2_with fail
    refine (big_any a b n m c d _ ha.1 hb.1).mono ?_
    rintro e w1 ⟨rfl, rfl⟩
    rw [hd]
    go_wp2_with fail
    refine (DrawJoinHunks_any a n c _ ha (by omega)).mono ?_
    rintro e w1 ⟨A, n1, c1, l, A2, n2, c2, ha1, A3, n3, c3, hb1, rfl, D, d10, d11, d12⟩
    obtain ⟨d1, d2, d3, d4, d5, d6, d7, d8, d9⟩ := D
    have D8 := Lib.hid (new_of d8)
    have D12 := Lib.hid (new_of d12)
    have HL := Lib.hid d1.len
    clear d4 d8 d12
    obtain ⟨J, ok, HJo⟩ : ∃ J ok, Hid (joinOf l ha1 hb1 = (J, ok)) := ⟨_, _, rfl⟩
    obtain ⟨nj, HNJ⟩ : ∃ nj, Hid (J.length = nj) := ⟨_, rfl⟩
    have heq := eqHS_refl J
    go_wp2_with fail
    refine (implJoinHunks_any A n1 c1 l A2 n2 c2 ha1 A3 n3 c3 hb1 _ d1 d2 d5 d10 (by omega)).mono ?_
    rintro e w2 ⟨v2, vs2, rfl, o2, b2⟩
    rw [HJo.out] at o2 ⊢
    dsimp only at o2 ⊢
    obtain ⟨AJ, cj, rfl, hj1, hj2⟩ := o2.form HNJ.out
    go_wp2_with fail
    refine (specJoinHunks_any A n1 c1 l A2 n2 c2 ha1 A3 n3 c3 hb1 _ (d1.below b2) d2 (d5.below b2) (d10.below b2) D8.out D12.out (by omega)).mono ?_
    rintro e w3 ⟨v3, vs3, rfl, o3, b3⟩
    rw [HJo.out] at o3 ⊢
    dsimp only at o3 ⊢
    obtain ⟨AK, ck, rfl, hk1, hk2⟩ := o3.form HNJ.out
    go_wp2_with fail
    refine (sameHunks_any AJ AK nj nj cj ck J J _ (o2.below b3).hks o3.hks).mono ?_
    rintro e w4 ⟨rfl, b4⟩
    have B4 := ((d9.next b2).next b3).next b4
    have hl4 := d1.below ((b2.next b3).next b4)
    have ha4 := d5.below ((b2.next b3).next b4)
    have hb4 := d10.below ((b2.next b3).next b4)
    have hj4 := (o2.below b3).hks.below b4
    clear o2 o3 b2 b3 b4 d1 d5 d9 d10
    cases ok with
    | false =>
      go_wp2_with fail
      refine (DrawPatch_any b m d _ (hb.below B4) (by omega)).mono ?_
      rintro e wa ⟨AA, na, ca, la, AB, nb, cb, hsb, rfl, t1, t2, t3, t4, t5, t6, t7, t8, t9⟩
      have T8 := Lib.hid (new_of t8)
      clear t4 t8
      obtain ⟨PP, oq, HPP⟩ : ∃ PP oq, Hid (patchOf la hsb = (PP, oq)) := ⟨_, _, rfl⟩
      obtain ⟨np, HNP⟩ : ∃ np, Hid (PP.length = np) := ⟨_, rfl⟩
      have teq := eqT_refl PP
      go_wp2_with fail
      refine (implPatch_any AA na ca la AB nb cb hsb _ t1 t2 t5 (by omega)).mono ?_
      rintro e wb ⟨vp, rfl, op, bp⟩
      rw [HPP.out] at op ⊢
      dsimp only at op ⊢
      obtain ⟨AP, cp, rfl, hp1, hp2⟩ := op.form HNP.out
      go_wp2_with fail
      refine (specPatch_any AA na ca la AB nb cb hsb _ (t1.below bp) t2 (t5.below bp) T8.out (by omega)).mono ?_
      rintro e wc ⟨vq, rfl, oq2, bq⟩
      rw [HPP.out] at oq2 ⊢
      dsimp only at oq2 ⊢
      obtain ⟨AQ, cq, rfl, hq1, hq2⟩ := oq2.form HNP.out
      go_wp2_with fail
      refine (sameTexts_any AP AQ np np cp cq _ _ _ (op.below bq).strs oq2.strs).mono ?_
      rintro e wd ⟨rfl, dd⟩
      go_wp2
      go_ret
      exact ⟨rfl, (((B4.next t9).next bp).next bq).next dd.below⟩
    | true =>
      obtain ⟨hjk, hJ⟩ := join_true HJo.out
      obtain ⟨j1, j2, j3, j4⟩ := join_ok hjk
      rw [← hJ] at j3 j4
      obtain ⟨P, HP⟩ : ∃ P, Hid (patchH l ha1 = P) := ⟨_, rfl⟩
      obtain ⟨Q, HQ⟩ : ∃ Q, Hid (patchH P hb1 = Q) := ⟨_, rfl⟩
      have E1 := Lib.hid (show patchOf l ha1 = (P, true) by rw [← HP.out]; exact patch_true j1)
      have E2 := Lib.hid (show patchOf P hb1 = (Q, true) by rw [← HQ.out, ← HP.out]; exact patch_true j2)
      have E3 := Lib.hid (show patchOf l J = (Q, true) by rw [← HQ.out, ← HP.out, ← j4]; exact patch_true j3)
      have L1 := Lib.hid (show ∀ (k : Nat) s, l[k]? = some s → (placeOf ha1 n1 k).2 = true → ∃ p : Nat, (placeOf ha1 n1 k).1 = p ∧ p < P.length ∧ P[p]? = some s from fun k s hk hp => by
        rw [← HL.out] at hp ⊢; rw [← HP.out]; exact place_line j1 hk hp)
      have L2 := Lib.hid (show ∀ (k : Nat) s, l[k]? = some s → (placeOf J n1 k).2 = true → ∃ p : Nat, (placeOf J n1 k).1 = p ∧ p < Q.length ∧ Q[p]? = some s from fun k s hk hp => by
        rw [← HL.out] at hp ⊢; rw [← HQ.out, ← HP.out, ← j4]; exact place_line j3 hk hp)
      obtain ⟨npp, HNPP, hnpp⟩ : ∃ np, Hid (P.length = np) ∧ np ≤ 40 := ⟨_, rfl, by rw [← HP.out]; exact goodB_len (patchOk_parts j1).2.2⟩
      obtain ⟨nq, HNQ, hnq⟩ : ∃ np, Hid (Q.length = np) ∧ np ≤ 40 := ⟨_, rfl, by rw [← HQ.out, ← HP.out]; exact goodB_len (patchOk_parts j2).2.2⟩
      have heq2 := eqT_refl Q
      clear j1 j2 j3 j4 hJ hjk HJo
      go_wp2_with fail
      refine (implPatch_any A n1 c1 l A2 n2 c2 ha1 _ hl4 d2 ha4 (by omega)).mono ?_
      rintro e w5 ⟨v5, rfl, o5, b5⟩
      rw [E1.out] at o5 ⊢
      dsimp only at o5 ⊢
      obtain ⟨AP, cp, rfl, hp1, hp2⟩ := o5.form HNPP.out
      go_wp2_with fail
      refine (implPatch_any AP npp cp P A3 n3 c3 hb1 _ o5.strs hp1 (hb4.below b5) (by omega)).mono ?_
      rintro e w6 ⟨v6, rfl, o6, b6⟩
      rw [E2.out] at o6 ⊢
      dsimp only at o6 ⊢
      obtain ⟨AQ0, cq0, rfl, hq01, hq02⟩ := o6.form HNQ.out
      go_wp2_with fail
      refine (implPatch_any A n1 c1 l AJ nj cj J _ (hl4.below (b5.next b6)) d2 (hj4.below (b5.next b6)) (by omega)).mono ?_
      rintro e w7 ⟨v7, rfl, o7, b7⟩
      rw [E3.out] at o7 ⊢
      dsimp only at o7 ⊢
      obtain ⟨AQ, cq, rfl, hq1, hq2⟩ := o7.form HNQ.out
      go_wp2_with fail
      refine (sameTexts_any AQ0 AQ nq nq cq0 cq _ _ _ (o6.below b7).strs o7.strs).mono ?_
      rintro e w8 ⟨rfl, d8⟩
      have b8 := d8.below
      have HL7 := Lib.hid (hl4.below (((b5.next b6).next b7).next b8))
      have HA7 := Lib.hid (ha4.below (((b5.next b6).next b7).next b8))
      have HJ7 := Lib.hid (hj4.below (((b5.next b6).next b7).next b8))
      have HP7 := Lib.hid (o5.strs.below ((b6.next b7).next b8))
      have HQ7 := Lib.hid (o7.strs.below b8)
      have B8 := (((B4.next b5).next b6).next b7).next b8
      clear hl4 ha4 hb4 hj4 o5 o6 o7 b5 b6 b7 b8 d8 E1 E2 E3
      go_wp2
      go_loopw [99] (fun i w' => ∃ k : Nat, i = .int .i64 k ∧ k ≤ n1 ∧ Below w8.heap.size w8 w') (fun i _ => n1 - (intOf i).toNat)
      case atStart => exact ⟨0, rfl, by omega, Below.refl _ _⟩
      case round =>
        obtain ⟨k, rfl, hk, hbr⟩ := hrel
        have b8X := hbr
        by_cases hlt : k < n1
        · obtain ⟨b0, off0, s, eA, hs, hsz, hc⟩ := (HL7.out.below hbr).at_ hlt
          subst eA
          have HS := Lib.hid hs
          clear hs
          have hi0 : (0 : Int) ≤ (k : Int) := by omega
          have hi1 : (k : Int) < (n1 : Int) := by omega
          have hbq := beq_same s
          go_wp2_with fail
          refine (implPlaceOf_any A2 n2 c2 ha1 n1 k _ (HA7.out.below hbr) (by unfold i64ok; omega)).mono ?_
          rintro e w10 ⟨rfl, b10⟩
          cases hy : (placeOf ha1 n1 k).2
          ·
            go_wp2_with fail
            refine (implPlaceOf_any AJ nj cj J n1 k _ (HJ7.out.below (b8X.next b10)) (by unfold i64ok; omega)).mono ?_
            rintro e w11 ⟨rfl, b11⟩
            cases hz : (placeOf J n1 k).2
            ·
              go_wp2
              go_roundw
              case rel => exact ⟨k + 1, by go_num, by omega, (hbr.next b10).next b11⟩
              case measure => simp [intOf]; omega
            · obtain ⟨q, hq, hq1, hq2⟩ := L2.out k s HS.out hz
              have hqn : q < nq := by rw [← HNQ.out]; exact hq1
              obtain ⟨bz, offz, sz, eAQ, hs3, hsz3, hc3⟩ := (HQ7.out.below ((b8X.next b10).next b11)).at_ hqn
              obtain rfl : s = sz := by rw [hq2] at hs3; injection hs3
              rw [hq]
              subst eAQ
              have hi2 : (0 : Int) ≤ (q : Int) := by omega
              have hi3 : (q : Int) < (nq : Int) := by omega
              clear hq hs3 hz hq2
              go_wp2
              go_roundw
              case rel => exact ⟨k + 1, by go_num, by omega, (hbr.next b10).next b11⟩
              case measure => simp [intOf]; omega
          · obtain ⟨p, hp, hp1, hp2⟩ := L1.out k s HS.out hy
            have hpn : p < npp := by rw [← HNPP.out]; exact hp1
            obtain ⟨by0, offy, sy, eAP, hs2, hsz2, hc2⟩ := (HP7.out.below (b8X.next b10)).at_ hpn
            obtain rfl : s = sy := by rw [hp2] at hs2; injection hs2
            rw [hp]
            subst eAP
            have hi4 : (0 : Int) ≤ (p : Int) := by omega
            have hi5 : (p : Int) < (npp : Int) := by omega
            clear hp hs2 hy hp2
            go_wp2_with fail
            refine (implPlaceOf_any AJ nj cj J n1 k _ (HJ7.out.below (b8X.next b10)) (by unfold i64ok; omega)).mono ?_
            rintro e w11 ⟨rfl, b11⟩
            cases hz : (placeOf J n1 k).2
            ·
              go_wp2
              go_roundw
              case rel => exact ⟨k + 1, by go_num, by omega, (hbr.next b10).next b11⟩
              case measure => simp [intOf]; omega
            · obtain ⟨q, hq, hq1, hq2⟩ := L2.out k s HS.out hz
              have hqn : q < nq := by rw [← HNQ.out]; exact hq1
              obtain ⟨bz, offz, sz, eAQ, hs3, hsz3, hc3⟩ := (HQ7.out.below ((b8X.next b10).next b11)).at_ hqn
              obtain rfl : s = sz := by rw [hq2] at hs3; injection hs3
              rw [hq]
              subst eAQ
              have hi2 : (0 : Int) ≤ (q : Int) := by omega
              have hi3 : (q : Int) < (nq : Int) := by omega
              clear hq hs3 hz hq2
              go_wp2
              go_roundw
              case rel => exact ⟨k + 1, by go_num, by omega, (hbr.next b10).next b11⟩
              case measure => simp [intOf]; omega
        · have BT := B8.next hbr
          go_wp2_with fail
          refine (DrawPatch_any b m d _ (hb.below BT) (by omega)).mono ?_
          rintro e wa ⟨AA, na, ca, la, AB, nb, cb, hsb, rfl, t1, t2, t3, t4, t5, t6, t7, t8, t9⟩
          have T8 := Lib.hid (new_of t8)
          clear t4 t8
          obtain ⟨PP, oq, HPP⟩ : ∃ PP oq, Hid (patchOf la hsb = (PP, oq)) := ⟨_, _, rfl⟩
          obtain ⟨np, HNP⟩ : ∃ np, Hid (PP.length = np) := ⟨_, rfl⟩
          have teq := eqT_refl PP
          go_wp2_with fail
          refine (implPatch_any AA na ca la AB nb cb hsb _ t1 t2 t5 (by omega)).mono ?_
          rintro e wb ⟨vp, rfl, op, bp⟩
          rw [HPP.out] at op ⊢
          dsimp only at op ⊢
          obtain ⟨AP, cp, rfl, hp1, hp2⟩ := op.form HNP.out
          go_wp2_with fail
          refine (specPatch_any AA na ca la AB nb cb hsb _ (t1.below bp) t2 (t5.below bp) T8.out (by omega)).mono ?_
          rintro e wc ⟨vq, rfl, oq2, bq⟩
          rw [HPP.out] at oq2 ⊢
          dsimp only at oq2 ⊢
          obtain ⟨AQ, cq, rfl, hq1, hq2⟩ := oq2.form HNP.out
          go_wp2_with fail
          refine (sameTexts_any AP AQ np np cp cq _ _ _ (op.below bq).strs oq2.strs).mono ?_
          rintro e wd ⟨rfl, dd⟩
          go_wp2
          go_ret
          exact ⟨rfl, (((BT.next t9).next bp).next bq).next dd.below⟩

end Go.Proofs.Ytaajldodobclaaa
