/-
  The law FnPatches.
-/
import Derived.Test.YtaajldodobclaaaHDrawE
import Derived.Test.YtaajldodobclaaaHBase7
import Derived.Test.YtaajldodobclaaaHSame
import Derived.Test.YtaajldodobclaaaLHBack
import Derived.Test.YtaajldodobclaaaLHPatch
set_option linter.unusedSimpArgs false
set_option linter.unusedVariables false
namespace Go.Proofs.Ytaajldodobclaaa
open Go.RowKit M

theorem patch_two (l : List ByteArray) (hs : List Hk) : ∃ P K ok, patchOf l hs = (P, ok) ∧ backOf l hs = (K, ok) ∧ (ok = true → patchOk l hs = true ∧ P = patchH l hs ∧ K = backH l hs) := by
  by_cases h : patchOk l hs = true
  · exact ⟨_, _, true, if_pos h, if_pos h, fun _ => ⟨h, rfl, rfl⟩⟩
  · exact ⟨_, _, false, if_neg h, if_neg h, fun e => by cases e⟩
theorem sums_le : ∀ {l : List Hk}, (∀ x ∈ l, 0 ≤ x.gone ∧ x.gone ≤ 1000 ∧ x.new.length ≤ 1000) → 0 ≤ goneSum l ∧ goneSum l ≤ 1000 * (l.length : Int) ∧ 0 ≤ comeSum l ∧ comeSum l ≤ 1000 * (l.length : Int)
  | [], _ => by simp [goneSum, comeSum]
  | x :: l, h => by
    have ih := sums_le (l := l) (fun y hy => h y (List.mem_cons_of_mem _ hy))
    have hx := h x (List.mem_cons_self ..)
    rw [goneSum, comeSum, List.length_cons]
    omega
theorem few_sums {l : List Hk} (h : few l) : 0 ≤ goneSum l ∧ goneSum l ≤ 20000 ∧ 0 ≤ comeSum l ∧ comeSum l ≤ 20000 := by
  have h1 := sums_le h.2
  have h2 := h.1
  omega

set_option maxHeartbeats 4000000 in
set_option maxRecDepth 100000 in
theorem FnPatches_any (w : World) (a : Option Addr) (n c : Nat) (ha : Bytes w a n) (b : Option Addr) (m d : Nat) (hb : Bytes w b m) :
    Calls Try.prog 3 #[.slice a n c, .slice b m d] w fun e w' => e = .returned (.bool true) ∧ Below w.heap.size w w' := by
  by_cases hbig : 1048576 < n + m
  · have hd : decide (1048576 < n + m) = true := by simpa using hbig
    go_enter Try.func3, Try.ntmps3
    go_wp2_with fail
    refine (big_any a b n m c d _ ha.1 hb.1).mono ?_
    rintro e w1 ⟨rfl, rfl⟩
    rw [hd]
    go_wp2
    go_ret
    exact ⟨rfl, Below.refl _ _⟩
  · have hd : decide (1048576 < n + m) = false := by simpa using hbig
    go_enter Try.func3, Try.ntmps3
    go_wp2_with fail
    refine (big_any a b n m c d _ ha.1 hb.1).mono ?_
    rintro e w1 ⟨rfl, rfl⟩
    rw [hd]
    go_wp2_with fail
    refine (DrawBackHunks_any a n c _ ha (by omega)).mono ?_
    rintro e w1 ⟨A, n1, c1, l, A2, n2, c2, hs, rfl, d1, d2, d3, d4, d5, d6, d7, d8, d9⟩
    have D8 := Lib.hid (new_of d8)
    have HF1 := Lib.hid (few_of (by rw [d5.len]; exact d7) d8)
    have HL := Lib.hid d1.len
    have HL2 := Lib.hid d5.len
    clear d4 d8
    obtain ⟨P, K, ok, hP, hK, hok⟩ := patch_two l hs
    have HPo := Lib.hid hP
    have HKo := Lib.hid hK
    have HOK := Lib.hid hok
    clear hP hK hok
    obtain ⟨np, HNP⟩ : ∃ np, Hid (P.length = np) := ⟨_, rfl⟩
    obtain ⟨nk, HNK⟩ : ∃ nk, Hid (K.length = nk) := ⟨_, rfl⟩
    obtain ⟨gv1, HGV1⟩ : ∃ gv, Hid (goodH n1 hs = gv) := ⟨_, rfl⟩
    have heq := eqHS_refl K
    have teq := eqT_refl P
    go_wp2_with fail
    refine (implPatch_any A n1 c1 l A2 n2 c2 hs _ d1 d2 d5 (by omega)).mono ?_
    rintro e w2 ⟨v2, rfl, o2, b2⟩
    rw [HPo.out] at o2 ⊢
    dsimp only at o2 ⊢
    obtain ⟨AP, cp, rfl, hp1, hp2⟩ := o2.form HNP.out
    go_wp2_with fail
    refine (specPatch_any A n1 c1 l A2 n2 c2 hs _ (d1.below b2) d2 (d5.below b2) D8.out (by omega)).mono ?_
    rintro e w3 ⟨v3, rfl, o3, b3⟩
    rw [HPo.out] at o3 ⊢
    dsimp only at o3 ⊢
    obtain ⟨AQ, cq, rfl, hq1, hq2⟩ := o3.form HNP.out
    have B3 := b2.next b3
    go_wp2_with fail
    refine (implBackHunks_any A n1 c1 l A2 n2 c2 hs _ (d1.below B3) d2 (d5.below B3) (by omega)).mono ?_
    rintro e w4 ⟨v4, vs4, rfl, o4, b4⟩
    rw [HKo.out] at o4 ⊢
    dsimp only at o4 ⊢
    obtain ⟨AK, ck, rfl, hk1, hk2⟩ := o4.form HNK.out
    have B4 := B3.next b4
    go_wp2_with fail
    refine (specBackHunks_any A n1 c1 l A2 n2 c2 hs _ (d1.below B4) d2 (d5.below B4) D8.out (by omega)).mono ?_
    rintro e w5 ⟨v5, vs5, rfl, o5, b5⟩
    rw [HKo.out] at o5 ⊢
    dsimp only at o5 ⊢
    obtain ⟨AM, cm, rfl, hm1, hm2⟩ := o5.form HNK.out
    have B5 := B4.next b5
    go_wp2_with fail
    refine (sameTexts_any AP AQ np np cp cq P P _ (o2.strs.below ((b3.next b4).next b5)) (o3.strs.below (b4.next b5))).mono ?_
    rintro e w6 ⟨rfl, d6'⟩
    have b6 := d6'.below
    go_wp2_with fail
    refine (sameHunks_any AK AM nk nk ck cm K K _ (o4.hks.below (b5.next b6)) (o5.hks.below b6)).mono ?_
    rintro e w7 ⟨rfl, b7⟩
    have B7 := (B5.next b6).next b7
    go_wp2_with fail
    refine (implGoodHunks_any n1 A2 n2 c2 hs _ (d5.below B7) ⟨by omega, by omega⟩).mono ?_
    rintro e w8 ⟨rfl, b8⟩
    rw [HGV1.out]
    go_wp2_with fail
    refine (specGoodHunks_any n1 A2 n2 c2 hs _ (d5.below (B7.next b8)) ⟨by omega, by omega⟩ D8.out).mono ?_
    rintro e w9 ⟨rfl, b9⟩
    rw [HGV1.out]
    have C9 := (((((b3.next b4).next b5).next b6).next b7).next b8).next b9
    have D9 := ((((b5.next b6).next b7).next b8)).next b9
    have B9 := (B7.next b8).next b9
    have hl9 := d1.below B9
    have hh9 := d5.below B9
    have hp9 := o2.strs.below C9
    have hk9 := o4.hks.below D9
    have BW := d9.next B9
    clear o2 o3 o4 o5 b2 b3 b4 b5 b6 b7 b8 b9 B3 B4 B5 B7 B9 C9 D9 d1 d5 d9 d6' HPo HKo
    cases ok with
    | false =>
      go_wp2_with fail
      refine (DrawGoodHunks_any b m d _ (hb.below BW) (by omega)).mono ?_
      rintro e x1 ⟨many, G, ng, cg, gs0, rfl, hm0, hm1, y1, y2, y3, y4⟩
      have Y3 := Lib.hid (new_of y3)
      clear y3
      go_wp2_with fail
      refine (DrawCountHunks_any b m d _ (hb.below (BW.next y4)) (by omega)).mono ?_
      rintro e x2 ⟨C, nc, cc, cs0, rfl, z1, z2, z3, z4⟩
      have HF := Lib.hid (few_of (by rw [z1.len]; exact z2) z3)
      clear z3
      obtain ⟨sg, sc, HSG, HSC⟩ : ∃ sg sc, Hid (goneSum cs0 = sg) ∧ Hid (comeSum cs0 = sc) := ⟨_, _, rfl, rfl⟩
      go_wp2_with fail
      refine (implCountHunks_few C nc cc cs0 _ z1 HF.out).mono ?_
      rintro e x3 ⟨rfl, z5⟩
      rw [HSG.out, HSC.out]
      go_wp2_with fail
      refine (specCountHunks_few C nc cc cs0 _ (z1.below z5) HF.out).mono ?_
      rintro e x4 ⟨rfl, z6⟩
      rw [HSG.out, HSC.out]
      have X4 := (((BW.next y4).next z4).next z5).next z6
      go_wp2_with fail
      refine (DrawSameHunks_any b m d _ (hb.below X4) (by omega)).mono ?_
      rintro e x5 ⟨D1, nd, cd, ds, E1, ne, ce, es, rfl, u1, u2, u3⟩
      obtain ⟨gv, HGV⟩ : ∃ gv, Hid (goodH many gs0 = gv) := ⟨_, rfl⟩
      obtain ⟨ev, HEV⟩ : ∃ ev, Hid (eqHS ds es = ev) := ⟨_, rfl⟩
      have hG5 := y1.below (((z4.next z5).next z6).next u3)
      go_wp2_with fail
      refine (implGoodHunks_any many G ng cg gs0 _ hG5 ⟨by omega, by omega⟩).mono ?_
      rintro e x6 ⟨rfl, u4⟩
      rw [HGV.out]
      go_wp2_with fail
      refine (specGoodHunks_any many G ng cg gs0 _ (hG5.below u4) ⟨by omega, by omega⟩ Y3.out).mono ?_
      rintro e x7 ⟨rfl, u5⟩
      rw [HGV.out]
      have U7 := u4.next u5
      go_wp2_with fail
      refine (implSameHunks_any D1 E1 nd ne cd ce ds es _ (u1.below U7) (u2.below U7)).mono ?_
      rintro e x8 ⟨rfl, u6⟩
      rw [HEV.out]
      have U8 := U7.next u6
      go_wp2_with fail
      refine (specSameHunks_any D1 E1 nd ne cd ce ds es _ (u1.below U8) (u2.below U8)).mono ?_
      rintro e x9 ⟨rfl, u7⟩
      rw [HEV.out]
      have U9 := U8.next u7
      go_wp2_with fail
      refine (implSameHunks_any D1 E1 nd ne cd ce ds es _ (u1.below U9) (u2.below U9)).mono ?_
      rintro e x10 ⟨rfl, u8⟩
      rw [HEV.out]
      have U10 := U9.next u8
      go_wp2_with fail
      refine (sameHunks_any D1 E1 nd ne cd ce ds es _ (u1.below U10) (u2.below U10)).mono ?_
      rintro e x11 ⟨rfl, u9⟩
      rw [HEV.out]
      go_wp2
      go_ret
      exact ⟨rfl, (((X4.next u3).next U10).next u9)⟩
    | true =>
      obtain ⟨hpk, hPe, hKe⟩ := HOK.out rfl
      obtain ⟨p1, p2, p3, p4⟩ := patch_back hpk
      obtain ⟨hgl, hgh, hgp⟩ := patchOk_parts hpk
      have hlen0 : ((patchH l hs).length : Int) = l.length - (0 : Nat) - goneSum hs + comeSum hs := patch_len (p := 0) (rest_start hgh) (Nat.zero_le _)
      rw [← hPe, ← hKe] at p1 p2 p3 p4
      rw [← hPe, HNP.out, HL.out] at hlen0
      rw [HNP.out] at p4
      have hnp40 : np ≤ 40 := by rw [← HNP.out, hPe]; exact goodB_len hgp
      have E1 := Lib.hid (show patchOf P K = (l, true) by unfold patchOf; rw [if_pos p1, p2])
      have E2 := Lib.hid (show backOf P K = (hs, true) by unfold backOf; rw [if_pos p1, p3])
      have E3 := Lib.hid p4
      obtain ⟨gs1, HGS⟩ : ∃ gs1, Hid (goneSum hs = gs1) := ⟨_, rfl⟩
      obtain ⟨cs1, HCS⟩ : ∃ cs1, Hid (comeSum hs = cs1) := ⟨_, rfl⟩
      have hfs := few_sums HF1.out
      rw [HGS.out, HCS.out] at hfs hlen0
      obtain ⟨f1, f2, f3, f4⟩ := hfs
      have hlq : ((np : Int) != (n1 : Int) - gs1 + cs1) = false := by simp; omega
      have heq3 := eqT_refl l
      have heq4 := eqHS_refl hs
      clear hpk hPe hKe p1 p2 p3 p4 hgl hgh hgp hlen0 heq teq
      go_wp2_with fail
      refine (implPatch_any AP np cp P AK nk ck K _ hp9 hp1 hk9 (by omega)).mono ?_
      rintro e w10 ⟨v10, rfl, o10, b10⟩
      rw [E1.out] at o10 ⊢
      dsimp only at o10 ⊢
      obtain ⟨AX, cx, rfl, hx1, hx2⟩ := o10.form HL.out
      go_wp2_with fail
      refine (implCountHunks_few A2 n2 c2 hs _ (hh9.below b10) HF1.out).mono ?_
      rintro e w11 ⟨rfl, b11⟩
      rw [HGS.out, HCS.out]
      have B11 := b10.next b11
      go_wp2_with fail
      refine (implBackHunks_any AP np cp P AK nk ck K _ (hp9.below B11) hp1 (hk9.below B11) (by omega)).mono ?_
      rintro e w12 ⟨v12, vs12, rfl, o12, b12⟩
      rw [E2.out] at o12 ⊢
      dsimp only at o12 ⊢
      obtain ⟨AY, cy, rfl, hy1, hy2⟩ := o12.form HL2.out
      have B12 := B11.next b12
      go_wp2_with fail
      refine (sameTexts_any AX A n1 n1 cx c1 l l _ (o10.strs.below (b11.next b12)) (hl9.below B12)).mono ?_
      rintro e w13 ⟨rfl, d13⟩
      have b13 := d13.below
      have B13 := B12.next b13
      go_wp2_with fail
      refine (sameHunks_any AY A2 n2 n2 cy c2 hs hs _ (o12.hks.below b13) (hh9.below B13)).mono ?_
      rintro e w14 ⟨rfl, b14⟩
      have B14 := B13.next b14
      go_wp2_with fail
      refine (implGoodHunks_any np AK nk ck K _ (hk9.below B14) ⟨by omega, by omega⟩).mono ?_
      rintro e w15 ⟨rfl, b15⟩
      rw [E3.out]
      have BZ := BW.next (B14.next b15)
      clear o10 o12 b10 b11 b12 b13 b14 b15 B11 B12 B13 B14 d13 hl9 hh9 hp9 hk9
      go_wp2_with fail
      refine (DrawGoodHunks_any b m d _ (hb.below BZ) (by omega)).mono ?_
      rintro e x1 ⟨many, G, ng, cg, gs0, rfl, hm0, hm1, y1, y2, y3, y4⟩
      have Y3 := Lib.hid (new_of y3)
      clear y3
      go_wp2_with fail
      refine (DrawCountHunks_any b m d _ (hb.below (BZ.next y4)) (by omega)).mono ?_
      rintro e x2 ⟨C, nc, cc, cs0, rfl, z1, z2, z3, z4⟩
      have HF := Lib.hid (few_of (by rw [z1.len]; exact z2) z3)
      clear z3
      obtain ⟨sg, sc, HSG, HSC⟩ : ∃ sg sc, Hid (goneSum cs0 = sg) ∧ Hid (comeSum cs0 = sc) := ⟨_, _, rfl, rfl⟩
      go_wp2_with fail
      refine (implCountHunks_few C nc cc cs0 _ z1 HF.out).mono ?_
      rintro e x3 ⟨rfl, z5⟩
      rw [HSG.out, HSC.out]
      go_wp2_with fail
      refine (specCountHunks_few C nc cc cs0 _ (z1.below z5) HF.out).mono ?_
      rintro e x4 ⟨rfl, z6⟩
      rw [HSG.out, HSC.out]
      have X4 := (((BZ.next y4).next z4).next z5).next z6
      go_wp2_with fail
      refine (DrawSameHunks_any b m d _ (hb.below X4) (by omega)).mono ?_
      rintro e x5 ⟨D1, nd, cd, ds, E1, ne, ce, es, rfl, u1, u2, u3⟩
      obtain ⟨gv, HGV⟩ : ∃ gv, Hid (goodH many gs0 = gv) := ⟨_, rfl⟩
      obtain ⟨ev, HEV⟩ : ∃ ev, Hid (eqHS ds es = ev) := ⟨_, rfl⟩
      have hG5 := y1.below (((z4.next z5).next z6).next u3)
      go_wp2_with fail
      refine (implGoodHunks_any many G ng cg gs0 _ hG5 ⟨by omega, by omega⟩).mono ?_
      rintro e x6 ⟨rfl, u4⟩
      rw [HGV.out]
      go_wp2_with fail
      refine (specGoodHunks_any many G ng cg gs0 _ (hG5.below u4) ⟨by omega, by omega⟩ Y3.out).mono ?_
      rintro e x7 ⟨rfl, u5⟩
      rw [HGV.out]
      have U7 := u4.next u5
      go_wp2_with fail
      refine (implSameHunks_any D1 E1 nd ne cd ce ds es _ (u1.below U7) (u2.below U7)).mono ?_
      rintro e x8 ⟨rfl, u6⟩
      rw [HEV.out]
      have U8 := U7.next u6
      go_wp2_with fail
      refine (specSameHunks_any D1 E1 nd ne cd ce ds es _ (u1.below U8) (u2.below U8)).mono ?_
      rintro e x9 ⟨rfl, u7⟩
      rw [HEV.out]
      have U9 := U8.next u7
      go_wp2_with fail
      refine (implSameHunks_any D1 E1 nd ne cd ce ds es _ (u1.below U9) (u2.below U9)).mono ?_
      rintro e x10 ⟨rfl, u8⟩
      rw [HEV.out]
      have U10 := U9.next u8
      go_wp2_with fail
      refine (sameHunks_any D1 E1 nd ne cd ce ds es _ (u1.below U10) (u2.below U10)).mono ?_
      rintro e x11 ⟨rfl, u9⟩
      rw [HEV.out]
      go_wp2
      go_ret
      exact ⟨rfl, (((X4.next u3).next U10).next u9)⟩

end Go.Proofs.Ytaajldodobclaaa
