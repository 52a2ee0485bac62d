/-
  Good groups: the program's GoodGroups, OldOf, NewOf.
-/
import Derived.Test.YtkamenidgkjodaaGreatDoorQcGIs
set_option linter.unusedSimpArgs false
set_option linter.unusedVariables false
namespace Go.Proofs.YtkamenidgkjodaaGreatDoor
open Go.RowKit Go.ChangeShapes Go.WideShapes M

set_option maxHeartbeats 4000000 in
set_option maxRecDepth 100000 in
theorem implGoodGroups_any (a : Option Addr) (n c : Nat) (l : List Gp) (w : World) (hl : Gps w a n l) :
    Calls Tryz.prog 10 #[.slice a n c] w fun e w' => e = .returned (.bool (goodG l)) ∧ Below w.heap.size w w' := by
  have HL := Lib.hid hl.len
  have hlim := hl.lim
  unfold maxLen at hlim
  by_cases hn : n ≤ 20
  case neg =>
    have hd : decide ((20 : Int) < (n : Int)) = true := by simp; omega
    have hf := Lib.hid (show goodG l = false by unfold goodG; rw [HL.out, decide_eq_false hn]; rfl)
    clear hn
    go_enter Tryz.func10, Tryz.ntmps10
    go_wp2
    go_ret
    exact ⟨ret_bool hf.out.symm, Below.refl _ _⟩
  have hf := Lib.hid (show goodG l = goodGF 0 0 l by unfold goodG; rw [HL.out, decide_eq_true hn]; rfl)
  go_enter Tryz.func10, Tryz.ntmps10
  go_wp2
  go_loopw [3, 4, 12] (fun p q i w' => ∃ k : Nat, ∃ A T : Int, i = .int .i64 k ∧ p = .int .i64 A ∧ q = .int .i64 T ∧ k ≤ n ∧ Hid (goodGF A T (l.drop k) = goodGF 0 0 l) ∧ Below w.heap.size w w') (fun _ _ i _ => n - (intOf i).toNat)
  case atStart => exact ⟨0, 0, 0, rfl, rfl, rfl, by omega, rfl, Below.refl _ _⟩
  case round =>
    obtain ⟨k, A, T, rfl, rfl, rfl, hk, H, hb⟩ := hrel
    by_cases hlt : k < n
    · obtain ⟨b, off, A1, m, c1, x, rfl, hx, d0, d1, d2, hs, hmc, hok⟩ := (hl.below hb).at_ hlt
      have HS := Lib.hid (show goodGF A T (l.drop k) = (groupB x && (decide (A ≤ x.at_) && decide (T ≤ x.to_)) && goodGF (x.at_ + (lw 3 x.rows).length) (x.to_ + (lw 2 x.rows).length) (l.drop (k + 1))) by rw [drop_at hx]; rfl)
      have HLX := Lib.hid hs.len
      clear hx
      cases hg : groupB x
      · have hf2 := Lib.hid (show goodG l = false by rw [hf.out, ← H.out, HS.out, hg]; rfl)
        have HG := Lib.hid hg
        clear hg
        go_wp2_with fail
        refine (isGroup_any b (off + k * 3) A1 m c1 x _ d0 d1 d2 hs hok.at_ hok.to_).mono ?_
        rintro e w1 ⟨rfl, b1⟩
        rw [HG.out]
        go_wp2
        go_ret
        exact ⟨ret_bool hf2.out.symm, hb.next b1⟩
      · have HG := Lib.hid hg
        have hgl := groupB_len hg
        obtain ⟨hm80, ha0, ha1, ht0, ht1, h3, h2⟩ := hgl
        have hm : m ≤ 1048576 := by have := HLX.out; omega
        clear hg
        by_cases q1 : A ≤ x.at_
        case neg =>
          have hd1 : decide (x.at_ < A) = true := by simp; omega
          have hf2 := Lib.hid (show goodG l = false by rw [hf.out, ← H.out, HS.out, decide_eq_false q1]; simp)
          clear q1
          go_wp2_with fail
          refine (isGroup_any b (off + k * 3) A1 m c1 x _ d0 d1 d2 hs hok.at_ hok.to_).mono ?_
          rintro e w1 ⟨rfl, b1⟩
          rw [HG.out]
          have e0 := cell_keep b1 d0
          go_wp2
          go_ret
          exact ⟨ret_bool hf2.out.symm, hb.next b1⟩
        have hd1 : decide (x.at_ < A) = false := by simp; omega
        by_cases q2 : T ≤ x.to_
        case neg =>
          have hd2 : decide (x.to_ < T) = true := by simp; omega
          have hf2 := Lib.hid (show goodG l = false by rw [hf.out, ← H.out, HS.out, decide_eq_false q2]; simp)
          clear q1 q2
          go_wp2_with fail
          refine (isGroup_any b (off + k * 3) A1 m c1 x _ d0 d1 d2 hs hok.at_ hok.to_).mono ?_
          rintro e w1 ⟨rfl, b1⟩
          rw [HG.out]
          have e0 := cell_keep b1 d0
          have e1 := cell_keep b1 d1
          go_wp2
          go_ret
          exact ⟨ret_bool hf2.out.symm, hb.next b1⟩
        have hd2 : decide (x.to_ < T) = false := by simp; omega
        obtain ⟨m3, H3⟩ : ∃ m3, Hid ((lw 3 x.rows).length = m3) := ⟨_, rfl⟩
        obtain ⟨m2, H2⟩ : ∃ m2, Hid ((lw 2 x.rows).length = m2) := ⟨_, rfl⟩
        have hN := Lib.hid (show goodGF (x.at_ + (m3 : Int)) (x.to_ + (m2 : Int)) (l.drop (k + 1)) = goodGF 0 0 l by
          rw [← H.out, HS.out, HG.out, decide_eq_true q1, decide_eq_true q2, H3.out, H2.out]; simp)
        have hm3 : m3 ≤ 40 := by rw [← H3.out]; exact h3
        have hm2 : m2 ≤ 40 := by rw [← H2.out]; exact h2
        have hw3 : IntKind.i64.wrap (x.at_ + (m3 : Int)) = x.at_ + (m3 : Int) := by rw [IntKind.wrap_i64]; omega
        have hw2 : IntKind.i64.wrap (x.to_ + (m2 : Int)) = x.to_ + (m2 : Int) := by rw [IntKind.wrap_i64]; omega
        clear q1 q2 h3 h2
        go_wp2_with fail
        refine (isGroup_any b (off + k * 3) A1 m c1 x _ d0 d1 d2 hs hok.at_ hok.to_).mono ?_
        rintro e w1 ⟨rfl, b1⟩
        rw [HG.out]
        have e0 := cell_keep b1 d0
        have e1 := cell_keep b1 d1
        have e2 := cell_keep b1 d2
        have hs1 := hs.below b1
        have B1 := Lib.hid (hb.next b1)
        clear d0 d1 d2 hs b1
        go_wp2
        refine wp_region_held_drew (S := fun w' => w'.cell? ⟨b, off + k * 3, none⟩ = some (.int .i64 x.at_) ∧ w'.cell? ⟨b, off + k * 3 + 1, none⟩ = some (.int .i64 x.to_) ∧ w'.cell? ⟨b, off + k * 3 + 2, none⟩ = some (.slice A1 m c1)) (by kernel_rfl) ?_ (fun hHeld => ?_)
        · exact ⟨e0, e1, e2⟩
        refine wpAnyH_take (i := 0) (v := ?_) (by simp only [List.getElem?_toArray, List.getElem?_cons_succ, List.getElem?_cons_zero]; rfl) (by kernel_rfl) (by kernel_rfl) (by kernel_rfl) (by exact fun _ _ _ h => h) (Or.inl ⟨by rfl, ?_⟩) hHeld ?_
        rotate_left 1
        · (intro w hSw; (try dsimp only at hSw); go_simp; (try with_reducible rfl))
        (try simp only [Act.put, List.setIfInBounds_toArray, List.set_cons_zero, List.set_cons_succ])
        refine wpAnyH_take (i := 1) (v := ?_) (by simp only [List.getElem?_toArray, List.getElem?_cons_succ, List.getElem?_cons_zero]; rfl) (by kernel_rfl) (by kernel_rfl) (by kernel_rfl) (by exact fun _ _ _ h => h) (Or.inl ⟨by rfl, ?_⟩) hHeld ?_
        rotate_left 1
        · (intro w hSw; (try dsimp only at hSw); go_simp; (try with_reducible rfl))
        (try simp only [Act.put, List.setIfInBounds_toArray, List.set_cons_zero, List.set_cons_succ])
        refine wpAnyH_take (i := 2) (v := ?_) (by simp only [List.getElem?_toArray, List.getElem?_cons_succ, List.getElem?_cons_zero]; rfl) (by kernel_rfl) (by kernel_rfl) (by kernel_rfl) (by exact fun _ _ _ h => h) (Or.inl ⟨by rfl, ?_⟩) hHeld ?_
        rotate_left 1
        · (intro w hSw; (try dsimp only at hSw); go_simp; (try with_reducible rfl))
        (try simp only [Act.put, List.setIfInBounds_toArray, List.set_cons_zero, List.set_cons_succ])
        refine wpAnyH_take (i := 3) (v := ?_) (by simp only [List.getElem?_toArray, List.getElem?_cons_succ, List.getElem?_cons_zero]; rfl) (by kernel_rfl) (by kernel_rfl) (by kernel_rfl) (by exact fun _ _ _ h => h) (Or.inl ⟨by rfl, ?_⟩) hHeld ?_
        rotate_left 1
        · (intro w hSw; (try dsimp only at hSw); go_simp; (try with_reducible rfl))
        (try simp only [Act.put, List.setIfInBounds_toArray, List.set_cons_zero, List.set_cons_succ])
        refine wpAnyH_take (i := 4) (v := ?_) (by simp only [List.getElem?_toArray, List.getElem?_cons_succ, List.getElem?_cons_zero]; rfl) (by kernel_rfl) (by kernel_rfl) (by kernel_rfl) (by exact fun _ _ _ h => h) (Or.inl ⟨by rfl, ?_⟩) hHeld ?_
        rotate_left 1
        · (intro w hSw; (try dsimp only at hSw); go_simp; (try with_reducible rfl))
        (try simp only [Act.put, List.setIfInBounds_toArray, List.set_cons_zero, List.set_cons_succ])
        refine wpAnyH_take (i := 8) (v := ?_) (by simp only [List.getElem?_toArray, List.getElem?_cons_succ, List.getElem?_cons_zero]; rfl) (by kernel_rfl) (by kernel_rfl) (by kernel_rfl) (by exact fun _ _ _ h => h) (Or.inl ⟨by rfl, ?_⟩) hHeld ?_
        rotate_left 1
        · (intro w hSw; (try dsimp only at hSw); go_simp; (try with_reducible rfl))
        (try simp only [Act.put, List.setIfInBounds_toArray, List.set_cons_zero, List.set_cons_succ])
        refine wpAnyH_take (i := 9) (v := ?_) (by simp only [List.getElem?_toArray, List.getElem?_cons_succ, List.getElem?_cons_zero]; rfl) (by kernel_rfl) (by kernel_rfl) (by kernel_rfl) (by exact fun _ _ _ h => h) (Or.inl ⟨by rfl, ?_⟩) hHeld ?_
        rotate_left 1
        · (intro w hSw; (try dsimp only at hSw); go_simp; (try with_reducible rfl))
        (try simp only [Act.put, List.setIfInBounds_toArray, List.set_cons_zero, List.set_cons_succ])
        refine wpAnyH_take (i := 10) (v := ?_) (by simp only [List.getElem?_toArray, List.getElem?_cons_succ, List.getElem?_cons_zero]; rfl) (by kernel_rfl) (by kernel_rfl) (by kernel_rfl) (by exact fun _ _ _ h => h) (Or.inl ⟨by rfl, ?_⟩) hHeld ?_
        rotate_left 1
        · (intro w hSw; (try dsimp only at hSw); go_simp; (try with_reducible rfl))
        (try simp only [Act.put, List.setIfInBounds_toArray, List.set_cons_zero, List.set_cons_succ])
        refine wpAnyH_take (i := 11) (v := ?_) (by simp only [List.getElem?_toArray, List.getElem?_cons_succ, List.getElem?_cons_zero]; rfl) (by kernel_rfl) (by kernel_rfl) (by kernel_rfl) (by exact fun _ _ _ h => h) (Or.inl ⟨by rfl, ?_⟩) hHeld ?_
        rotate_left 1
        · (intro w hSw; (try dsimp only at hSw); go_simp; (try with_reducible rfl))
        (try simp only [Act.put, List.setIfInBounds_toArray, List.set_cons_zero, List.set_cons_succ])
        refine wpAnyH_take (i := 12) (v := ?_) (by simp only [List.getElem?_toArray, List.getElem?_cons_succ, List.getElem?_cons_zero]; rfl) (by kernel_rfl) (by kernel_rfl) (by kernel_rfl) (by exact fun _ _ _ h => h) (Or.inl ⟨by rfl, ?_⟩) hHeld ?_
        rotate_left 1
        · (intro w hSw; (try dsimp only at hSw); go_simp; (try with_reducible rfl))
        (try simp only [Act.put, List.setIfInBounds_toArray, List.set_cons_zero, List.set_cons_succ])
        refine wpAnyH_ready (rs := [5]) (by kernel_rfl) (by simp) ?_
        refine AllReadyH.cons (by simp only [List.getElem?_toArray, List.getElem?_cons_succ, List.getElem?_cons_zero]; rfl) (fun K hK => ?_) AllReadyH.nil
        go_simp
        go_at_call 38
        refine (oldIn_any b (off + k * 3) A1 m c1 x.rows _ (cell_keep (Below.refl _ w1).drew e2) (hs1.below (Below.refl _ w1).drew) hm).mono ?_
        rintro e w2 ⟨v5, rfl, o5, b1⟩
        obtain ⟨A5, k5, rfl, hk5, _⟩ := o5.form H3.out
        have D2 := Lib.hid (show Below w1.heap.size w1 w2 from (Below.refl _ w1).drew.next b1)
        clear b1 o5
        refine hK.out _ _ ?_ (fun hHeld => ?_)
        · exact ⟨cell_keep D2.out e0, cell_keep D2.out e1, cell_keep D2.out e2⟩
        clear hK K
        (try simp only [Act.put, List.setIfInBounds_toArray, List.set_cons_zero, List.set_cons_succ])
        refine wpAnyH_take (i := 6) (v := ?_) (by simp only [List.getElem?_toArray, List.getElem?_cons_succ, List.getElem?_cons_zero]; rfl) (by kernel_rfl) (by kernel_rfl) (by kernel_rfl) (by exact fun _ _ _ h => h) (Or.inl ⟨by rfl, ?_⟩) hHeld ?_
        rotate_left 1
        · (intro w hSw; (try dsimp only at hSw); go_simp; (try with_reducible rfl))
        (try simp only [Act.put, List.setIfInBounds_toArray, List.set_cons_zero, List.set_cons_succ])
        refine wpAnyH_take (i := 7) (v := ?_) (by simp only [List.getElem?_toArray, List.getElem?_cons_succ, List.getElem?_cons_zero]; rfl) (by kernel_rfl) (by kernel_rfl) (by kernel_rfl) (by exact fun _ _ _ h => h) (Or.inl ⟨by rfl, ?_⟩) hHeld ?_
        rotate_left 1
        · (intro w hSw; (try dsimp only at hSw); go_simp; (try with_reducible rfl))
        (try simp only [Act.put, List.setIfInBounds_toArray, List.set_cons_zero, List.set_cons_succ])
        refine wpAnyH_ready (rs := [13]) (by kernel_rfl) (by simp) ?_
        refine AllReadyH.cons (by simp only [List.getElem?_toArray, List.getElem?_cons_succ, List.getElem?_cons_zero]; rfl) (fun K hK => ?_) AllReadyH.nil
        go_simp
        go_at_call 39
        refine (newIn_any b (off + k * 3) A1 m c1 x.rows _ (cell_keep D2.out e2) (hs1.below D2.out) hm).mono ?_
        rintro e w3 ⟨v6, rfl, o6, b1⟩
        obtain ⟨A6, k6, rfl, hk6, _⟩ := o6.form H2.out
        have D3 := Lib.hid (show Below w1.heap.size w1 w3 from D2.out.next b1)
        clear b1 o6
        refine hK.out _ _ ?_ (fun hHeld => ?_)
        · exact ⟨cell_keep D3.out e0, cell_keep D3.out e1, cell_keep D3.out e2⟩
        clear hK K
        (try simp only [Act.put, List.setIfInBounds_toArray, List.set_cons_zero, List.set_cons_succ])
        refine wpAnyH_take (i := 14) (v := ?_) (by simp only [List.getElem?_toArray, List.getElem?_cons_succ, List.getElem?_cons_zero]; rfl) (by kernel_rfl) (by kernel_rfl) (by kernel_rfl) (by exact fun _ _ _ h => h) (Or.inl ⟨by rfl, ?_⟩) hHeld ?_
        rotate_left 1
        · (intro w hSw; (try dsimp only at hSw); go_simp; (try with_reducible rfl))
        (try simp only [Act.put, List.setIfInBounds_toArray, List.set_cons_zero, List.set_cons_succ])
        refine wpAnyH_take (i := 15) (v := ?_) (by simp only [List.getElem?_toArray, List.getElem?_cons_succ, List.getElem?_cons_zero]; rfl) (by kernel_rfl) (by kernel_rfl) (by kernel_rfl) (by exact fun _ _ _ h => h) (Or.inl ⟨by rfl, ?_⟩) hHeld ?_
        rotate_left 1
        · (intro w hSw; (try dsimp only at hSw); go_simp; (try with_reducible rfl))
        (try simp only [Act.put, List.setIfInBounds_toArray, List.set_cons_zero, List.set_cons_succ])
        refine wpAnyH_take (i := 16) (v := ?_) (by simp only [List.getElem?_toArray, List.getElem?_cons_succ, List.getElem?_cons_zero]; rfl) (by kernel_rfl) (by kernel_rfl) (by kernel_rfl) (by exact fun _ _ _ h => h) (Or.inl ⟨by rfl, ?_⟩) hHeld ?_
        rotate_left 1
        · (intro w hSw; (try dsimp only at hSw); go_simp; (try with_reducible rfl))
        (try simp only [Act.put, List.setIfInBounds_toArray, List.set_cons_zero, List.set_cons_succ])
        refine wpAnyH_take (i := 17) (v := ?_) (by simp only [List.getElem?_toArray, List.getElem?_cons_succ, List.getElem?_cons_zero]; rfl) (by kernel_rfl) (by kernel_rfl) (by kernel_rfl) (by exact fun _ _ _ h => h) (Or.inl ⟨by rfl, ?_⟩) hHeld ?_
        rotate_left 1
        · (intro w hSw; (try dsimp only at hSw); go_simp; (try with_reducible rfl))
        (try simp only [Act.put, List.setIfInBounds_toArray, List.set_cons_zero, List.set_cons_succ])
        refine wpAnyH_done (by kernel_rfl) ?_ _
        have B3 := Lib.hid (B1.out.next D3.out)
        go_wp2
        go_roundw
        case rel => exact ⟨k + 1, x.at_ + (m3 : Int), x.to_ + (m2 : Int), by go_num, rfl, rfl, by omega, hN.out, B3.out⟩
        case measure => simp [intOf]; omega
    · have hf2 := Lib.hid (show goodG l = true by rw [hf.out, ← H.out, List.drop_eq_nil_of_le (by rw [HL.out]; omega)]; rfl)
      go_wp2
      go_ret
      exact ⟨ret_bool hf2.out.symm, hb⟩

end Go.Proofs.YtkamenidgkjodaaGreatDoor
