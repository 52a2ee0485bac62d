/-
  The law FnCutInTwo.
-/
import Derived.Test.YtlkodgkagjldaaaPartI
import Derived.Test.YtlkodgkagjldaaaDraw
set_option linter.unusedSimpArgs false
set_option linter.unusedVariables false
namespace Go.Proofs.Ytlkodgkagjldaaa
open Go.RowKit M

theorem part_ok {l : List ByteArray} {lo hi : Nat} (hg : goodB l = true) (h1 : lo ≤ hi) (h2 : hi ≤ l.length) : partOf l lo hi = ((l.take hi).drop lo, true) := by
  unfold partOf
  rw [if_pos (by simp [partOk, hg]; omega)]
  simp
theorem three_parts (l : List ByteArray) {lo hi n : Nat} (h1 : lo ≤ hi) (h2 : hi ≤ n) (hn : l.length = n) : [] ++ (l.take lo).drop 0 ++ (l.take hi).drop lo ++ (l.take n).drop hi = l := by
  rw [List.take_of_length_le (show l.length ≤ n by omega), List.nil_append, List.drop_zero]
  have e : (l.take lo) = (l.take hi).take lo := by rw [List.take_take, Nat.min_eq_left h1]
  rw [e, List.take_append_drop, List.take_append_drop]

theorem part_true {l P : List ByteArray} {fr to : Int} (h : partOf l fr to = (P, true)) : goodB l = true ∧ ∃ lo hi : Nat, fr = lo ∧ to = hi ∧ lo ≤ hi ∧ hi ≤ l.length ∧ P = (l.take hi).drop lo := by
  by_cases hok : partOk l fr to = true
  · obtain ⟨hg, lo, hi, rfl, rfl, h1, h2⟩ := partOk_cases hok
    refine ⟨hg, lo, hi, rfl, rfl, h1, h2, ?_⟩
    rw [part_ok hg h1 h2] at h
    injection h with h
    exact h.symm
  · unfold partOf at h
    rw [if_neg hok] at h
    injection h with _ h
    cases h

set_option maxHeartbeats 4000000 in
set_option maxRecDepth 100000 in
theorem FnCutInTwo_any (w : World) (a : Option Addr) (n c : Nat) (ha : Bytes w a n) (b : Option Addr) (m d : Nat) (hb : Bytes w b m) :
    Calls Try.prog 4 #[.slice a n c, .slice b m d] w fun e w' => e = .returned (.bool true) ∧ Below w.heap.size w w' := by
  by_cases hbig : 1048576 < n + m
  · have hd : decide (1048576 < n + m) = true := by simpa using hbig
    go_enter Try.func4, Try.ntmps4
    go_wp2_with fail
    refine (big_any a b n m c d _ ha.1 hb.1).mono ?_
    rintro e w1 ⟨rfl, rfl⟩
    rw [hd]
    go_wp2
    go_ret
    exact ⟨rfl, Below.refl _ _⟩
  · have hd : decide (1048576 < n + m) = false := by simpa using hbig
    go_enter Try.func4, Try.ntmps4
    go_wp2_with fail
    refine (big_any a b n m c d _ ha.1 hb.1).mono ?_
    rintro e w1 ⟨rfl, rfl⟩
    rw [hd]
    go_wp2_with fail
    refine (DrawPartOf_any a n c _ ha (by omega)).mono ?_
    rintro e w1 ⟨v, l, fr, to, rfl, o1, hl9, hsm, hf1, hf2, ht1, ht2, b1⟩
    have HSM := Lib.hid hsm
    clear hsm
    obtain ⟨q, HN⟩ : ∃ q, Hid (l.length = q) := ⟨_, rfl⟩
    obtain ⟨A, cap, rfl, hn1, hn2⟩ := o1.form HN.out
    have hq9 : q ≤ 9 := by rw [← HN.out]; exact hl9
    clear hl9
    have hs1 := o1.strs
    have hplen := partOf_len l fr to
    obtain ⟨P, ok, HPo⟩ : ∃ P ok, Hid (partOf l fr to = (P, ok)) := ⟨_, _, rfl⟩
    obtain ⟨p, HP, hp9⟩ : ∃ p, Hid (P.length = p) ∧ p ≤ 9 := ⟨_, rfl, by rw [HPo.out] at hplen; have := HN.out; simp at hplen; omega⟩
    clear hplen
    have heq := eqT_refl P
    go_wp2_with fail
    refine (implPartOf_any _ q cap l fr to _ hs1 hn1).mono ?_
    rintro e w2 ⟨v2, rfl, o2, b2⟩
    rw [HPo.out] at o2 ⊢
    dsimp only at o2 ⊢
    obtain ⟨A2, cap2, rfl, hn21, hn22⟩ := o2.form HP.out
    go_wp2_with fail
    refine (specPartOf_any _ q cap l fr to _ (hs1.below b2) hn1).mono ?_
    rintro e w3 ⟨v3, rfl, o3, b3⟩
    rw [HPo.out] at o3 ⊢
    dsimp only at o3 ⊢
    obtain ⟨A3, cap3, rfl, hn31, hn32⟩ := o3.form HP.out
    go_wp2_with fail
    refine (sameTexts_any _ _ p p cap2 cap3 _ _ _ (o2.below b3).strs o3.strs).mono ?_
    rintro e w4 ⟨rfl, d4⟩
    have B4 := ((b1.next b2).next b3).next d4.below
    have hp4 := (o2.below b3).strs.below d4.below
    have hl4 := hs1.below ((b2.next b3).next d4.below)
    clear o1 o2 o3 b1 b2 b3 d4 hs1
    cases ok with
    | false =>
      go_wp2_with fail
      refine (DrawPlainOf_any b m d _ (hb.below B4) (by omega)).mono ?_
      rintro e w5 ⟨s, rfl, hs9, b5⟩
      have hsx : s.size ≤ maxLen := by unfold maxLen; omega
      have hbq := beq_same (plainOf s).1
      go_wp2_with fail
      refine (implPlainOf_any s _ hsx).mono ?_
      rintro e w6 ⟨rfl, b6⟩
      go_wp2_with fail
      refine (specPlainOf_any s _ hsx).mono ?_
      rintro e w7 ⟨rfl, rfl⟩
      go_wp2
      go_ret
      exact ⟨rfl, (B4.next b5).next b6⟩
    | true =>
      obtain ⟨hg, lo, hi, rfl, rfl, h1, h2, hPe⟩ := part_true HPo.out
      have hin : hi ≤ q := by rw [← HN.out]; exact h2
      have HPe := Lib.hid hPe
      have HA := Lib.hid (part_ok (lo := 0) hg (Nat.zero_le _) (Nat.le_trans h1 h2))
      have HB := Lib.hid (part_ok (hi := q) hg hin (by rw [HN.out]; exact Nat.le_refl _))
      clear h2 hPe HPo
      go_wp2_with fail
      refine (implPartOf_any _ q cap l 0 lo _ hl4 hn1).mono ?_
      rintro e w5 ⟨v5, rfl, o5, b5⟩
      have hA2 : partOf l 0 lo = ((l.take lo).drop 0, true) := HA.out
      rw [hA2] at o5 ⊢
      dsimp only at o5 ⊢
      clear hA2
      obtain ⟨pa, HPA⟩ : ∃ pa, Hid (pa = (l.take lo).drop 0) := ⟨_, rfl⟩
      rw [← HPA.out] at o5
      obtain ⟨na, HNA, hna⟩ : ∃ na, Hid (pa.length = na) ∧ na ≤ 9 := ⟨_, rfl, by rw [HPA.out]; simp; have := HN.out; omega⟩
      obtain ⟨A5, cap5, rfl, hn51, hn52⟩ := o5.form HNA.out
      have hl5 := hl4.below b5
      have hp5 := hp4.below b5
      have B5 := B4.next b5
      go_wp2_with fail
      refine (implPartOf_any _ q cap l hi q _ hl5 hn1).mono ?_
      rintro e w6 ⟨v6, rfl, o6, b6⟩
      rw [HB.out] at o6 ⊢
      dsimp only at o6 ⊢
      obtain ⟨pb, HPB⟩ : ∃ pb, Hid (pb = (l.take q).drop hi) := ⟨_, rfl⟩
      rw [← HPB.out] at o6
      obtain ⟨nb, HNB, hnb⟩ : ∃ nb, Hid (pb.length = nb) ∧ nb ≤ 9 := ⟨_, rfl, by rw [HPB.out]; simp; have := HN.out; omega⟩
      obtain ⟨A6, cap6, rfl, hn61, hn62⟩ := o6.form HNB.out
      have hl6 := hl5.below b6
      have hp6 := hp5.below b6
      have B6 := B5.next b6
      have ha6 := o5.strs.below b6
      have hb6 := o6.strs
      clear hl5 hp5 hl4 hp4 o5 o6
      have hal := Lib.hid (three_parts l h1 hin HN.out)
      have hrow : ∀ (W : World) (V : Value) (L : List ByteArray), OwnV W w6.heap.size V L → ∀ k, V.ownBlock = some k → w6.heap.size ≤ k := fun W V L o k e => (o.lt e).1
      have HR := Lib.hid hrow
      clear hrow
      go_wp2_with (first
        | (at_builtin; refine app_strs (.tmp 80) (.tmp 81) w6.heap.size (.slice (some ⟨w6.heap.size, 0, none⟩) 0 0) [] (OwnV.lit w6 _ (Nat.le_refl _) [] (by simp) (by simp)) A5 na cap5 pa (ha6.below (below_alloc _ _)) (by simp; omega) (by simp) rfl rfl rfl rfl ?_
           intro v7 w7 o7 g7 p7
           have b7 : Below w6.heap.size w6 w7 := (below_alloc w6 _).grown g7 (by simp) (fun k hk => by simp [Value.ownBlock] at hk; omega))
        | (at_builtin; refine app_strs (.tmp 82) (.tmp 83) w6.heap.size v7 ([] ++ pa) o7 A2 p cap2 P (hp6.below b7) (by simp [HNA.out]; omega) b7.size rfl rfl rfl rfl ?_
           intro v8 w8 o8 g8 p8
           have b8 : Below w6.heap.size w6 w8 := b7.grown g8 b7.size (HR.out _ _ _ o7))
        | (at_builtin; refine app_strs (.tmp 84) (.tmp 85) w6.heap.size v8 ([] ++ pa ++ P) o8 A6 nb cap6 pb (hb6.below b8) (by simp [HNA.out, HP.out]; omega) b8.size rfl rfl rfl rfl ?_
           intro v9 w9 o9 g9 p9
           have b9 : Below w6.heap.size w6 w9 := b8.grown g9 b8.size (HR.out _ _ _ o8))
        | fail)
      have o9 : OwnV w9 w6.heap.size v9 l := by
        have h := hal.out
        rw [← HPA.out, ← HPe.out, ← HPB.out] at h
        rw [h] at o9
        exact o9
      obtain ⟨A9, cap9, rfl, hn91, hn92⟩ := o9.form HN.out
      have heql := eqT_refl l
      refine (sameTexts_any _ _ q q cap9 cap _ _ _ o9.strs (hl6.below b9)).mono ?_
      rintro e w10 ⟨rfl, d10⟩
      have hp10 := hp6.below (b9.next d10.below)
      have B10 := B6.next (b9.next d10.below)
      have HG := Lib.hid (show ∀ (k : Nat) s, P[k]? = some s → lineB s = true ∧ s.size ≤ 30 from fun k s hs => by
        have hm : s ∈ l := by
          have := List.mem_of_getElem? hs
          rw [HPe.out] at this
          exact List.mem_of_mem_take (List.mem_of_mem_drop this)
        obtain ⟨j, hj⟩ := List.mem_iff_getElem?.1 hm
        have h := (goodB_at hg hj).1
        exact ⟨h, (lineB_size h).2⟩)
      clear g7 g8 g9 p7 p8 p9 o7 o8 o9 b7 b8 b9 b5 b6 hl6 hp6 ha6 hb6 d10 HR HA HB HPA HNA HPB HNB hal hg HSM
      go_wp2
      go_loopw [93] (fun i w' => ∃ k : Nat, i = .int .i64 k ∧ k ≤ p ∧ Below w10.heap.size w10 w') (fun i _ => p - (intOf i).toNat)
      case atStart => exact ⟨0, rfl, by omega, Below.refl _ _⟩
      case round =>
        obtain ⟨k, rfl, hk, hbr⟩ := hrel
        by_cases hlt : k < p
        · obtain ⟨bs, offs, s, rfl, hs, hsz, hc⟩ := (hp10.below hbr).at_ hlt
          obtain ⟨hls, hs30⟩ := HG.out k s hs
          clear hs
          have HT := Lib.hid (show plainOf s = (plain s, true) from if_pos hls)
          have HNO := Lib.hid (fun j hj => plain_no10 (s := s) hls j hj)
          go_wp2_with fail
          refine (implPlainOf_any s _ hsz).mono ?_
          rintro e w11 ⟨rfl, b11⟩
          rw [HT.out]
          dsimp only
          have hps : (plain s).size ≤ 30 := by
            cases he : endsB s with
            | true => rw [plain_size he]; omega
            | false => rw [plain_same he]; exact hs30
          obtain ⟨t, Ht⟩ : ∃ t, Hid (t = plain s) := ⟨_, rfl⟩
          rw [← Ht.out] at hps ⊢
          have HNO : Hid (∀ j (hj : j < t.size), (t[j]'hj).toNat ≠ 10) := by rw [Ht.out]; exact HNO.out
          have hcmp : (t.toList == s.toList) = true ∨ ((t.toList == s.toList) = false ∧ ((t ++ (⟨#[10]⟩ : ByteArray)).toList == s.toList) = true) := by
            rw [Ht.out]
            cases he : endsB s with
            | true => exact .inr ⟨beq_other (plain_ne he), by rw [plain_add he]; exact beq_same s⟩
            | false => exact .inl (by rw [plain_same he]; exact beq_same s)
          have hsum : t.size + 1 ≤ 31 := by omega
          rcases hcmp with h1 | ⟨h1, h2⟩
          · go_wp2
            go_loopw [20] (fun _ w' => ∃ pos, w' = w11.iter t pos ∧ pos ≤ t.size) (fun _ w' => t.size - w'.iterPos w11.heap.size)
            case atStart => exact ⟨0, rfl, by omega⟩
            case round =>
              obtain ⟨pos, rfl, hp⟩ := hrel
              by_cases hlp : pos < t.size
              · have hnx : ∀ ty, (Instr.next (.pointer (some ⟨w11.heap.size, 0, none⟩)) true ty).run Try.prog (w11.iter t pos) = _ := fun ty => run_next_any w11 t pos ty hlp
                have hne : ((t[pos]'hlp).toNat : Int) ≠ 10 := by have := HNO.out pos hlp; omega
                have d2 := (decode_ten t pos hlp).2.1
                have d3 := (decode_ten t pos hlp).2.2.1
                go_wp2
                go_roundw
                case rel => exact ⟨_, rfl, by omega⟩
                case measure => simp; omega
              · have hnx : ∀ ty, (Instr.next (.pointer (some ⟨w11.heap.size, 0, none⟩)) true ty).run Try.prog (w11.iter t pos) = _ := fun ty => run_next_end w11 t pos ty hlp
                go_wp2
                go_roundw
                case rel => exact ⟨k + 1, by go_num, by omega, (hbr.next b11).next (below_alloc _ _)⟩
                case measure => simp [intOf]; omega
          · go_wp2
            go_loopw [20] (fun _ w' => ∃ pos, w' = w11.iter t pos ∧ pos ≤ t.size) (fun _ w' => t.size - w'.iterPos w11.heap.size)
            case atStart => exact ⟨0, rfl, by omega⟩
            case round =>
              obtain ⟨pos, rfl, hp⟩ := hrel
              by_cases hlp : pos < t.size
              · have hnx : ∀ ty, (Instr.next (.pointer (some ⟨w11.heap.size, 0, none⟩)) true ty).run Try.prog (w11.iter t pos) = _ := fun ty => run_next_any w11 t pos ty hlp
                have hne : ((t[pos]'hlp).toNat : Int) ≠ 10 := by have := HNO.out pos hlp; omega
                have d2 := (decode_ten t pos hlp).2.1
                have d3 := (decode_ten t pos hlp).2.2.1
                go_wp2
                go_roundw
                case rel => exact ⟨_, rfl, by omega⟩
                case measure => simp; omega
              · have hnx : ∀ ty, (Instr.next (.pointer (some ⟨w11.heap.size, 0, none⟩)) true ty).run Try.prog (w11.iter t pos) = _ := fun ty => run_next_end w11 t pos ty hlp
                go_wp2
                go_roundw
                case rel => exact ⟨k + 1, by go_num, by omega, (hbr.next b11).next (below_alloc _ _)⟩
                case measure => simp [intOf]; omega
        · go_wp2_with fail
          have B11 := B10.next hbr
          refine (DrawPlainOf_any b m d _ (hb.below B11) (by omega)).mono ?_
          rintro e w12 ⟨s, rfl, hs9, b12⟩
          have hsx : s.size ≤ maxLen := by unfold maxLen; omega
          have hbq := beq_same (plainOf s).1
          go_wp2_with fail
          refine (implPlainOf_any s _ hsx).mono ?_
          rintro e w13 ⟨rfl, b13⟩
          go_wp2_with fail
          refine (specPlainOf_any s _ hsx).mono ?_
          rintro e w14 ⟨rfl, rfl⟩
          go_wp2
          go_ret
          exact ⟨rfl, (B11.next b12).next b13⟩

end Go.Proofs.Ytlkodgkagjldaaa
