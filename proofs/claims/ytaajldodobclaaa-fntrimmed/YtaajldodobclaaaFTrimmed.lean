/-
  The law FnTrimmed.
-/
import Derived.Test.YtaajldodobclaaaHDrawF
import Derived.Test.YtaajldodobclaaaHBase8
import Derived.Test.YtaajldodobclaaaHPlace
import Derived.Test.YtaajldodobclaaaHTrimL
import Derived.Test.YtaajldodobclaaaLHTrim
set_option linter.unusedSimpArgs false
set_option linter.unusedVariables false
namespace Go.Proofs.Ytaajldodobclaaa
open Go.RowKit M

theorem trim_two (l : List ByteArray) (hs : List Hk) : ∃ T ok, trimOf l hs = (T, ok) ∧ (ok = true → patchOk l hs = true ∧ T = trimH l hs) := by
  by_cases h : patchOk l hs = true
  · exact ⟨_, true, if_pos h, fun _ => ⟨h, rfl⟩⟩
  · exact ⟨_, false, if_neg h, fun e => by cases e⟩
theorem sumsT_le : ∀ {l : List Hk}, (∀ x ∈ l, 0 ≤ x.gone ∧ x.gone ≤ 1000 ∧ x.new.length ≤ 1000) → 0 ≤ goneSum l ∧ goneSum l ≤ 1000 * (l.length : Int) ∧ 0 ≤ comeSum l ∧ comeSum l ≤ 1000 * (l.length : Int)
  | [], _ => by simp [goneSum, comeSum]
  | x :: l, h => by
    have ih := sumsT_le (l := l) (fun y hy => h y (List.mem_cons_of_mem _ hy))
    have hx := h x (List.mem_cons_self ..)
    rw [goneSum, comeSum, List.length_cons]
    omega
theorem fewT_sums {l : List Hk} (h : few l) : 0 ≤ goneSum l ∧ goneSum l ≤ 20000 ∧ 0 ≤ comeSum l ∧ comeSum l ≤ 20000 := by
  have h1 := sumsT_le h.2
  have h2 := h.1
  omega
theorem few_t {hs : List Hk} (h1 : hs.length ≤ 6) (h2 : ∀ x ∈ hs, smallT x) : few hs :=
  ⟨by omega, fun x hx => by obtain ⟨a, b, c⟩ := h2 x hx; exact ⟨a, by omega, by omega⟩⟩
theorem few_good {many : Int} {hs : List Hk} (h : goodH many hs = true) : few hs :=
  ⟨(goodH_parts h).2.2.1, fun x hx => by obtain ⟨a, b, c, d, e⟩ := goodH_mem h hx; exact ⟨b, by omega, by omega⟩⟩

set_option maxHeartbeats 4000000 in
set_option maxRecDepth 100000 in
theorem FnTrimmed_any (w : World) (a : Option Addr) (n c : Nat) (ha : Bytes w a n) (b : Option Addr) (m d : Nat) (hb : Bytes w b m) :
    Calls Try.prog 4 #[.slice a n c, .slice b m d] w fun e w' => e = .returned (.bool true) ∧ Below w.heap.size w w' := by
  by_cases hbig : 1048576 < n + m
  · have hd : decide (1048576 < n + m) = true := by simpa using hbig
    go_enter Try.func4, Try.ntmps4
    go_wp2_with fail
    refine (big_any a b n m c d _ ha.1 hb.1).mono ?_
    rintro e w1 ⟨rfl, rfl⟩
    rw [hd]
    go_wp2
    go_ret
    exact ⟨rfl, Below.refl _ _⟩
  · have hd : decide (1048576 < n + m) = false := by simpa using hbig
    go_enter Try.func4, Try.ntmps4
    go_wp2_with fail
    refine (big_any a b n m c d _ ha.1 hb.1).mono ?_
    rintro e w1 ⟨rfl, rfl⟩
    rw [hd]
    go_wp2_with fail
    refine (DrawTrimHunks_any a n c _ ha (by omega)).mono ?_
    rintro e w1 ⟨A, n1, c1, l, A2, n2, c2, hs, rfl, d1, d2, d3, d5, d7, d8, d9⟩
    have HF1 := Lib.hid (few_t (by rw [d5.len]; exact d7) d8)
    have D8 := Lib.hid (show ∀ x ∈ hs, x.new.length ≤ 1048576 from fun x hx => by have := (d8 x hx).2.2; omega)
    have HL := Lib.hid d1.len
    clear d8
    obtain ⟨T, ok, hT, hok⟩ := trim_two l hs
    have HTo := Lib.hid hT
    have HOK := Lib.hid hok
    clear hT hok
    obtain ⟨nt, HNT⟩ : ∃ nt, Hid (T.length = nt) := ⟨_, rfl⟩
    have heq := eqHS_refl T
    go_wp2_with fail
    refine (implTrimHunks_any A n1 c1 l A2 n2 c2 hs _ d1 d2 d5 (by omega)).mono ?_
    rintro e w2 ⟨v2, vs2, rfl, o2, b2⟩
    rw [HTo.out] at o2 ⊢
    dsimp only at o2 ⊢
    obtain ⟨AT, ct, rfl, ht1, ht2⟩ := o2.form HNT.out
    go_wp2_with fail
    refine (specTrimHunks_any A n1 c1 l A2 n2 c2 hs _ (d1.below b2) d2 (d5.below b2) D8.out (by omega)).mono ?_
    rintro e w3 ⟨v3, vs3, rfl, o3, b3⟩
    rw [HTo.out] at o3 ⊢
    dsimp only at o3 ⊢
    obtain ⟨AU, cu, rfl, hu1, hu2⟩ := o3.form HNT.out
    go_wp2_with fail
    refine (sameHunks_any AT AU nt nt ct cu T T _ (o2.hks.below b3) o3.hks).mono ?_
    rintro e w4 ⟨rfl, b4⟩
    have B4 := (b2.next b3).next b4
    have hl4 := d1.below B4
    have hh4 := d5.below B4
    have ht4 := o2.hks.below (b3.next b4)
    have BW := d9.next B4
    clear o2 o3 b2 b3 b4 B4 d1 d5 d9
    cases ok with
    | false =>
      go_wp2_with fail
      refine (DrawPlaceOf_any b m d _ (hb.below BW) (by omega)).mono ?_
      rintro e x1 ⟨many, kk, G, ng, cg, gs0, rfl, hm0, hm1, hm2, hm3, y1, y2, y3, y4⟩
      have Y3 := Lib.hid (new_of y3)
      clear y3
      obtain ⟨pv, pb, HPV⟩ : ∃ pv pb, Hid (placeOf gs0 many kk = (pv, pb)) := ⟨_, _, rfl⟩
      go_wp2_with fail
      refine (implPlaceOf_any G ng cg gs0 many kk _ y1 ⟨by omega, by omega⟩).mono ?_
      rintro e x2 ⟨rfl, z1⟩
      rw [HPV.out]
      dsimp only
      go_wp2_with fail
      refine (specPlaceOf_any G ng cg gs0 many kk _ (y1.below z1) ⟨by omega, by omega⟩ Y3.out).mono ?_
      rintro e x3 ⟨rfl, z2⟩
      rw [HPV.out]
      dsimp only
      go_wp2
      go_ret
      exact ⟨rfl, ((BW.next y4).next z1).next z2⟩
    | true =>
      obtain ⟨hpk, hTe⟩ := HOK.out rfl
      obtain ⟨t1, t2, t3, t4, t5, t6, t7⟩ := trim_ok hpk
      rw [← hTe] at t1 t2 t3 t4 t5 t6 t7
      have HF2 := Lib.hid (few_good (patchOk_parts t1).2.1)
      obtain ⟨P, HP⟩ : ∃ P, Hid (patchH l hs = P) := ⟨_, rfl⟩
      obtain ⟨np, HNP⟩ : ∃ np, Hid (P.length = np) := ⟨_, rfl⟩
      have E1 := Lib.hid (show patchOf l hs = (P, true) by unfold patchOf; rw [if_pos hpk, HP.out])
      have E2 := Lib.hid (show patchOf l T = (P, true) by unfold patchOf; rw [if_pos t1, t2, HP.out])
      have E3 := Lib.hid (show trimOf l T = (T, true) by unfold trimOf; rw [if_pos t1, t3])
      obtain ⟨gs1, HGS⟩ : ∃ gs1, Hid (goneSum hs = gs1) := ⟨_, rfl⟩
      obtain ⟨cs1, HCS⟩ : ∃ cs1, Hid (comeSum hs = cs1) := ⟨_, rfl⟩
      obtain ⟨gt1, HGT⟩ : ∃ gs1, Hid (goneSum T = gs1) := ⟨_, rfl⟩
      obtain ⟨ct1, HCT⟩ : ∃ cs1, Hid (comeSum T = cs1) := ⟨_, rfl⟩
      have hfs := fewT_sums HF1.out
      have hft := fewT_sums HF2.out
      rw [HGS.out, HCS.out] at hfs
      rw [HGT.out, HCT.out] at hft
      rw [HGT.out] at t4
      rw [HGT.out, HGS.out] at t5
      rw [HCT.out, HCS.out] at t6
      rw [HGT.out, HGS.out, HCT.out, HCS.out] at t7
      obtain ⟨f1, f2, f3, f4⟩ := hfs
      obtain ⟨f5, f6, f7, f8⟩ := hft
      have q1 : decide (gs1 < gt1) = false := by simp; omega
      have q2 : decide (cs1 < ct1) = false := by simp; omega
      have q3 : (gs1 - gt1 != cs1 - ct1) = false := by simp; omega
      have teq := eqT_refl P
      clear hpk hTe t1 t2 t3
      go_wp2_with fail
      refine (implPatch_any A n1 c1 l A2 n2 c2 hs _ hl4 d2 hh4 (by omega)).mono ?_
      rintro e w5 ⟨v5, rfl, o5, b5⟩
      rw [E1.out] at o5 ⊢
      dsimp only at o5 ⊢
      obtain ⟨AP, cp, rfl, hp1, hp2⟩ := o5.form HNP.out
      go_wp2_with fail
      refine (implPatch_any A n1 c1 l AT nt ct T _ (hl4.below b5) d2 (ht4.below b5) (by omega)).mono ?_
      rintro e w6 ⟨v6, rfl, o6, b6⟩
      rw [E2.out] at o6 ⊢
      dsimp only at o6 ⊢
      obtain ⟨AQ, cq, rfl, hq1, hq2⟩ := o6.form HNP.out
      have B6 := b5.next b6
      go_wp2_with fail
      refine (implTrimHunks_any A n1 c1 l AT nt ct T _ (hl4.below B6) d2 (ht4.below B6) (by omega)).mono ?_
      rintro e w7 ⟨v7, vs7, rfl, o7, b7⟩
      rw [E3.out] at o7 ⊢
      dsimp only at o7 ⊢
      obtain ⟨AV, cv, rfl, hv1, hv2⟩ := o7.form HNT.out
      have B7 := B6.next b7
      go_wp2_with fail
      refine (implCountHunks_few AT nt ct T _ (ht4.below B7) HF2.out).mono ?_
      rintro e w8 ⟨rfl, b8⟩
      rw [HGT.out, HCT.out]
      have B8 := B7.next b8
      go_wp2_with fail
      refine (implCountHunks_few A2 n2 c2 hs _ (hh4.below B8) HF1.out).mono ?_
      rintro e w9 ⟨rfl, b9⟩
      rw [HGS.out, HCS.out]
      have B9 := B8.next b9
      go_wp2_with fail
      refine (sameTexts_any AP AQ np np cp cq P P _ (o5.strs.below (((b6.next b7).next b8).next b9)) (o6.strs.below ((b7.next b8).next b9))).mono ?_
      rintro e w10 ⟨rfl, d10⟩
      have b10 := d10.below
      have B10 := B9.next b10
      go_wp2_with fail
      refine (sameHunks_any AV AT nt nt cv ct T T _ (o7.hks.below ((b8.next b9).next b10)) (ht4.below B10)).mono ?_
      rintro e w11 ⟨rfl, b11⟩
      have BZ := BW.next (B10.next b11)
      clear o5 o6 o7 b5 b6 b7 b8 b9 b10 b11 B6 B7 B8 B9 B10 d10 hl4 hh4 ht4
      go_wp2_with fail
      refine (DrawPlaceOf_any b m d _ (hb.below BZ) (by omega)).mono ?_
      rintro e x1 ⟨many, kk, G, ng, cg, gs0, rfl, hm0, hm1, hm2, hm3, y1, y2, y3, y4⟩
      have Y3 := Lib.hid (new_of y3)
      clear y3
      obtain ⟨pv, pb, HPV⟩ : ∃ pv pb, Hid (placeOf gs0 many kk = (pv, pb)) := ⟨_, _, rfl⟩
      go_wp2_with fail
      refine (implPlaceOf_any G ng cg gs0 many kk _ y1 ⟨by omega, by omega⟩).mono ?_
      rintro e x2 ⟨rfl, z1⟩
      rw [HPV.out]
      dsimp only
      go_wp2_with fail
      refine (specPlaceOf_any G ng cg gs0 many kk _ (y1.below z1) ⟨by omega, by omega⟩ Y3.out).mono ?_
      rintro e x3 ⟨rfl, z2⟩
      rw [HPV.out]
      dsimp only
      go_wp2
      go_ret
      exact ⟨rfl, ((BZ.next y4).next z1).next z2⟩

end Go.Proofs.Ytaajldodobclaaa
