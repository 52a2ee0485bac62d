/-
  PartOf of the program, and the law on it.
-/
import Derived.Test.YtlkodgkagjldaaaPart
set_option linter.unusedSimpArgs false
set_option linter.unusedVariables false
namespace Go.Proofs.Ytlkodgkagjldaaa
open Go.RowKit M

set_option maxHeartbeats 400000 in
theorem copyOf1_any (a : Option Addr) (n c : Nat) (l : List ByteArray) (w : World) (hl : Strs w a n l) (hn : n ≤ 1048576) :
    Calls Try.prog 55 #[.slice a n c] w fun e w' => ∃ v, e = .returned v ∧ OwnV w' w.heap.size v l ∧ Below w.heap.size w w' := by
  have hmk := make_strs n hn
  have HL := Lib.hid hl.len
  go_enter Try.func55, Try.ntmps55
  go_wp2_with (refine copy_own (.tmp 7) (.tmp 8) _ _ _ _ l (hl.below (below_alloc _ _)) w.heap.size (Own.new w _) w.heap.size w (below_alloc _ _) (Nat.le_refl _) (by simp) (by omega) rfl rfl rfl rfl ?_; intro w2 o2 b2)
  go_ret
  have o3 := o2.ownV (Nat.le_refl _) (by rw [hl.len]; unfold maxLen; omega) hl.small
  rw [hl.len] at o3
  exact ⟨_, rfl, o3, b2⟩

set_option maxHeartbeats 1000000 in
theorem implPartOf_any (a : Option Addr) (n c : Nat) (l : List ByteArray) (fr to : Int) (w : World) (hl : Strs w a n l) (hc : n ≤ c) :
    Calls Try.prog 26 #[.slice a n c, .int .i64 fr, .int .i64 to] w fun e w' => ∃ v, e = .returned (.tuple #[v, .bool (partOf l fr to).2]) ∧ OwnV w' w.heap.size v (partOf l fr to).1 ∧ Below w.heap.size w w' := by
  have HL := Lib.hid hl.len
  by_cases hok : partOk l fr to = true
  · obtain ⟨hg, lo, hi, rfl, rfl, h1, h2⟩ := partOk_cases hok
    have H := Lib.hid (show partOf l lo hi = ((l.take hi).drop lo, true) from if_pos hok)
    have hn : n ≤ 40 := by rw [← hl.len]; exact goodB_len hg
    have hin : hi ≤ n := by rw [← HL.out]; exact h2
    have hcut := cut_strs a n c lo hi h1 (by omega)
    clear hok h2
    have hd1 : decide ((hi : Int) < (lo : Int)) = false := by simp; omega
    have hd2 : decide ((lo : Int) < 0) = false := by simp
    have hd3 : decide ((n : Int) < (hi : Int)) = false := by simp; omega
    go_enter Try.func26, Try.ntmps26
    go_wp2_with fail
    refine (implGoodLines_any a n c l _ hl).mono ?_
    rintro e w1 ⟨rfl, b1⟩
    go_wp2_with fail
    refine (copyOf1_any _ _ _ ((l.take hi).drop lo) _ ((hl.below b1).cut h1 hin hc) (by omega)).mono ?_
    rintro e w2 ⟨v, rfl, o2, b2⟩
    go_wp2
    go_ret2
    exact ⟨v, by rw [H.out]; rfl, by rw [H.out]; exact o2.more b1.size, b1.next b2⟩
  · have H := Lib.hid (show partOf l fr to = ([], false) from if_neg hok)
    by_cases hg : goodB l = true
    · by_cases h0 : fr < 0
      · clear hok
        have hd2 : decide (fr < 0) = true := by simpa using h0
        go_enter Try.func26, Try.ntmps26
        go_wp2_with fail
        refine (implGoodLines_any a n c l _ hl).mono ?_
        rintro e w1 ⟨rfl, b1⟩
        go_wp2
        go_ret2
        exact ⟨_, by rw [H.out]; rfl, by rw [H.out]; exact OwnV.nil_, b1⟩
      · have hd2 : decide (fr < 0) = false := by simpa using h0
        by_cases h1 : to < fr
        · clear hok
          have hd3 : decide (to < fr) = true := by simpa using h1
          go_enter Try.func26, Try.ntmps26
          go_wp2_with fail
          refine (implGoodLines_any a n c l _ hl).mono ?_
          rintro e w1 ⟨rfl, b1⟩
          go_wp2
          go_ret2
          exact ⟨_, by rw [H.out]; rfl, by rw [H.out]; exact OwnV.nil_, b1⟩
        · have hd3 : decide (to < fr) = false := by simpa using h1
          have hgt : (n : Int) < to := by
            simp [partOk, hg] at hok
            have := hok (by omega) (by omega)
            rw [HL.out] at this
            simpa using this
          have hd4 : decide ((n : Int) < to) = true := by simpa using hgt
          clear hok
          go_enter Try.func26, Try.ntmps26
          go_wp2_with fail
          refine (implGoodLines_any a n c l _ hl).mono ?_
          rintro e w1 ⟨rfl, b1⟩
          go_wp2
          go_ret2
          exact ⟨_, by rw [H.out]; rfl, by rw [H.out]; exact OwnV.nil_, b1⟩
    · have hg : goodB l = false := by simpa using hg
      clear hok
      go_enter Try.func26, Try.ntmps26
      go_wp2_with fail
      refine (implGoodLines_any a n c l _ hl).mono ?_
      rintro e w1 ⟨rfl, b1⟩
      go_wp2
      go_ret2
      exact ⟨_, by rw [H.out]; rfl, by rw [H.out]; exact OwnV.nil_, b1⟩

set_option maxHeartbeats 4000000 in
set_option maxRecDepth 100000 in
theorem FnExactPartOf_any (w : World) (a : Option Addr) (n c : Nat) (l : List ByteArray) (hl : Strs w a n l) (fr : Int) (_hfr : -9223372036854775808 ≤ fr ∧ fr ≤ 9223372036854775807) (to : Int) (_hto : -9223372036854775808 ≤ to ∧ to ≤ 9223372036854775807) :
    Calls Try.prog 11 #[.slice a n c, .int .i64 fr, .int .i64 to] w fun e w' => e = .returned (.bool true) ∧ Below w.heap.size w w' := by
  by_cases hbig : (1048576 : Int) < l.length + total l
  · go_enter Try.func11, Try.ntmps11
    go_wp2_with fail
    refine (sz_neg a n c l _ _ hl (by omega) (by omega) hbig).mono ?_
    rintro e w1 ⟨rfl, rfl⟩
    go_wp2
    go_ret
    exact ⟨rfl, Below.refl _ _⟩
  · have hbig : (l.length : Int) + total l ≤ 1048576 := by omega
    have HL := Lib.hid hl.len
    have hn : n ≤ 1048576 := by rw [← hl.len]; omega
    have hplen := partOf_len l fr to
    obtain ⟨P, q, HP⟩ : ∃ P q, Hid (partOf l fr to = (P, q)) := ⟨_, _, rfl⟩
    obtain ⟨p, HPL, hp⟩ : ∃ p, Hid (P.length = p) ∧ p ≤ 1048576 := ⟨_, rfl, by rw [HP.out] at hplen; have := HL.out; simp at hplen; omega⟩
    clear hplen
    have heq := eqT_refl l
    have heqP := eqT_refl P
    go_enter Try.func11, Try.ntmps11
    go_wp2_with fail
    refine (sz_pos a n c l _ _ hl (by omega) (by omega) hbig).mono ?_
    rintro e w1 ⟨r, hr0, hr1, rfl, rfl⟩
    go_wp2_with fail
    refine (toStringS_any a n c l _ hl hn).mono ?_
    rintro e w1 ⟨rfl, o1, b1⟩
    go_wp2_with fail
    refine (specPartOf_any _ n n l fr to _ o1.strs (Nat.le_refl _)).mono ?_
    rintro e w2 ⟨v0, rfl, o2, b2⟩
    rw [HP.out] at o2 ⊢
    dsimp only at o2 ⊢
    obtain ⟨A0, c0, rfl, hc0, hm0⟩ := o2.form HPL.out
    have hold0 : ∀ g, (Value.slice A0 p c0).ownBlock = some g → g < w2.heap.size := fun g e => (o2.lt e).2
    have B2 := b1.next b2
    go_wp2_with fail
    refine (toStringS_any a n c l _ (hl.below B2) hn).mono ?_
    rintro e w3 ⟨rfl, o3, b3⟩
    go_wp2_with fail
    refine (implPartOf_any _ n n l fr to _ o3.strs (Nat.le_refl _)).mono ?_
    rintro e w4 ⟨v1, rfl, o4, b4⟩
    rw [HP.out] at o4 ⊢
    dsimp only at o4 ⊢
    obtain ⟨A1, c1, rfl, hc1, hm1⟩ := o4.form HPL.out
    have hnew1 : ∀ g, (Value.slice A1 p c1).ownBlock = some g → w3.heap.size ≤ g := fun g e => (o4.lt e).1
    have h23 : w2.heap.size < w3.heap.size := o3.lt (g := w2.heap.size) rfl |>.2
    have z1 := b1.size
    have z2 := b2.size
    have B4 := (B2.next b3).next b4
    have o0 := o2.below (b3.next b4)
    have x0 := o3.below b4
    clear o2 o3
    go_wp2_with fail
    refine (eqStringS_any _ _ p p c1 c0 P P _ o4.strs o0.strs).mono ?_
    rintro e w5 ⟨rfl, d5⟩
    have b5 := d5.below
    go_wp2_with fail
    refine (toStringS_any a n c l _ (hl.below (B4.next b5)) hn).mono ?_
    rintro e w6 ⟨rfl, o6, b6⟩
    go_wp2_with fail
    refine (eqStringS_any _ _ n n n n l l _ (x0.below (b5.next b6)).strs o6.strs).mono ?_
    rintro e w7 ⟨rfl, d7⟩
    have b7 := (b5.next b6).next d7.below
    have B7 := B4.next b7
    have o0 := o0.below b7
    have x0 := x0.below b7
    have o4 := o4.below b7
    clear b5 b6 d5 d7 o6 b7
    go_wp2_with fail
    refine (markStringS_any _ n n _ 1 l _ x0 hn (by omega)).mono ?_
    rintro e w8 ⟨rfl, x8, g8⟩
    have o0 := o0.kept g8 (fun g e h => by have := hold0 g h; simp [Value.ownBlock] at e; omega)
    have o4 := o4.behind g8 (fun g e => by simp [Value.ownBlock] at e; omega)
    have B8 := B7.grown g8 B7.size (fun g e => by simp [Value.ownBlock] at e; omega)
    go_wp2_with fail
    refine (eqStringS_any _ _ p p c1 c0 P P _ o4.strs o0.strs).mono ?_
    rintro e w9 ⟨rfl, d9⟩
    have B9 := B8.next d9.below
    have o0 := o0.below d9.below
    have o4 := o4.below d9.below
    go_wp2_with fail
    refine (markStringS_any _ p c1 _ 1 P _ o4 hp (by omega)).mono ?_
    rintro e w10 ⟨rfl, x10, g10⟩
    have o0 := o0.kept g10 (fun g e h => by have := hold0 g h; have := hnew1 g e; omega)
    have B10 := B9.grown g10 B9.size (fun g e => by have := hnew1 g e; omega)
    go_wp2_with fail
    refine (heldStringS_any _ p c1 1 _ x10.strs hp (by omega)).mono ?_
    rintro e w11 ⟨rfl, b11⟩
    have hz : ((1 : Int) + (p : Int) < 0) = False := by simp; omega
    go_wp2_with fail
    refine (toStringS_any a n c l _ (hl.below (B10.next b11)) hn).mono ?_
    rintro e w12 ⟨rfl, o12, b12⟩
    go_wp2_with fail
    refine (implPartOf_any _ n n l fr to _ o12.strs (Nat.le_refl _)).mono ?_
    rintro e w13 ⟨v2, rfl, o13, b13⟩
    rw [HP.out] at o13 ⊢
    dsimp only at o13 ⊢
    obtain ⟨A2, c2, rfl, hc2, hm2⟩ := o13.form HPL.out
    have b14 := (b11.next b12).next b13
    go_wp2_with fail
    refine (eqStringS_any _ _ p p c2 c0 P P _ o13.strs (o0.below b14).strs).mono ?_
    rintro e w15 ⟨rfl, d15⟩
    have b15 := b14.next d15.below
    go_wp2_with fail
    refine (heldStringS_any _ p c1 1 _ (x10.below b15).strs hp (by omega)).mono ?_
    rintro e w16 ⟨rfl, b16⟩
    go_wp2
    go_ret
    exact ⟨rfl, (B10.next b15).next b16⟩

end Go.Proofs.Ytlkodgkagjldaaa
