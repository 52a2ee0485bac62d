/-
  PlaceOf, the program's and the model's, and its law.
-/
import Derived.Test.YtkamenidgkjodaaGreatDoorHGoods
set_option linter.unusedSimpArgs false
set_option linter.unusedVariables false
namespace Go.Proofs.YtkamenidgkjodaaGreatDoor
open Go.RowKit M

set_option maxHeartbeats 1000000 in
theorem implPlaceOf_any (a : Option Addr) (n c : Nat) (l : List Hk) (many k : Int) (w : World) (hl : Hks w a n l) (hmany : i64ok many) :
    Calls Tryz.prog 99 #[.slice a n c, .int .i64 many, .int .i64 k] w fun e w' => e = .returned (.tuple #[.int .i64 (placeOf l many k).1, .bool (placeOf l many k).2]) ∧ Below w.heap.size w w' := by
  by_cases hg : goodH many l = true
  · by_cases hk0 : k < 0
    · have hf := Lib.hid (show placeOf l many k = (0, false) from if_neg (by omega))
      have q0 : decide (k < 0) = true := by simpa using hk0
      clear hk0
      go_enter Tryz.func99, Tryz.ntmps99
      go_wp2_with fail
      refine (implGoodHunks_any many a n c l _ hl hmany).mono ?_
      rintro e w1 ⟨rfl, b1⟩
      rw [hg]
      go_wp2
      go_ret2
      exact ⟨by rw [hf.out]; rfl, b1⟩
    · have q0 : decide (k < 0) = false := by simpa using hk0
      by_cases hk1 : many < k
      · have hf := Lib.hid (show placeOf l many k = (0, false) from if_neg (by omega))
        have q1 : decide (many < k) = true := by simpa using hk1
        clear hk0 hk1
        go_enter Tryz.func99, Tryz.ntmps99
        go_wp2_with fail
        refine (implGoodHunks_any many a n c l _ hl hmany).mono ?_
        rintro e w1 ⟨rfl, b1⟩
        rw [hg]
        go_wp2
        go_ret2
        exact ⟨by rw [hf.out]; rfl, b1⟩
      · have q1 : decide (many < k) = false := by simpa using hk1
        have HGG := Lib.hid hg
        have HL := Lib.hid hl.len
        have HG := Lib.hid (fun x hx => goodH_mem hg (x := x) hx)
        have hn20 : n ≤ 20 := by rw [← HL.out]; exact (goodH_parts hg).2.2.1
        have hm40 := (goodH_parts hg).2.1
        have hkk0 : 0 ≤ k := by omega
        have hkk1 : k ≤ many := by omega
        have hno := Lib.hid (fun (h : placeN l k < 0) => show placeOf l many k = (0, false) from if_neg (by omega))
        have hys := Lib.hid (fun (h : 0 ≤ placeN l k) => show placeOf l many k = (placeN l k, true) from if_pos ⟨HGG.out, hkk0, hkk1, h⟩)
        clear hk0 hk1
        go_enter Tryz.func99, Tryz.ntmps99
        go_wp2_with fail
        refine (implGoodHunks_any many a n c l _ hl hmany).mono ?_
        rintro e w1 ⟨rfl, b1⟩
        rw [hg]
        clear hg
        go_wp2
        go_loopw [8, 27] (fun q i w' => ∃ j : Nat, ∃ more : Int, i = .int .i64 j ∧ q = .int .i64 (k + more) ∧ j ≤ n ∧ -40 * (j : Int) ≤ more ∧ more ≤ 40 * (j : Int) ∧ Hid (placeFrom k more (l.drop j) = placeFrom k 0 l) ∧ Below w.heap.size w w') (fun _ i _ => n - (intOf i).toNat)
        case atStart => exact ⟨0, 0, rfl, by rw [Int.add_zero], by omega, by omega, by omega, rfl, b1⟩
        case round =>
          obtain ⟨j, more, rfl, rfl, hj, hm0, hm1, H, hb⟩ := hrel
          by_cases hlt : j < n
          · obtain ⟨b, off, A, m, c', x, rfl, hx, c0, c1, c2, hs, hmc, i0, i1⟩ := (hl.below hb).atc hlt
            obtain ⟨hx0, hx1, hx2, hx3, hx4⟩ := HG.out x (List.mem_of_getElem? hx)
            have HX := Lib.hid hx
            rw [hs.len] at hx4
            have HM := Lib.hid hs.len
            clear hx
            have hi0 : (0 : Int) ≤ (j : Int) := by omega
            have hi1 : (j : Int) < (n : Int) := by omega
            have hw1 : IntKind.i64.wrap (x.at_ + x.gone) = x.at_ + x.gone := by rw [IntKind.wrap_i64]; omega
            have hw2 : IntKind.i64.wrap ((m : Int) - x.gone) = (m : Int) - x.gone := by rw [IntKind.wrap_i64]; omega
            have hw3 : IntKind.i64.wrap (k + more + ((m : Int) - x.gone)) = k + (more + ((m : Int) - x.gone)) := by rw [IntKind.wrap_i64]; omega
            by_cases h1 : x.at_ + x.gone ≤ k
            · have q1 : decide (x.at_ + x.gone ≤ k) = true := by simpa using h1
              have hf := Lib.hid (place_go (more := more) HX.out h1)
              clear h1
              go_wp2
              go_quiet (fail)
              go_wp2
              go_quiet (fail)
              go_wp2
              go_roundw
              case rel => exact ⟨j + 1, more + ((m : Int) - x.gone), by go_num, rfl, by omega, by omega, by omega, show _ = _ by have h2 := hf.out; rw [HM.out] at h2; rw [← h2]; exact H.out, below_drewN hb _⟩
              case measure => simp [intOf]; omega
            · have q1 : decide (x.at_ + x.gone ≤ k) = false := by simpa using h1
              by_cases h2 : x.at_ ≤ k
              · have q2 : decide (x.at_ ≤ k) = true := by simpa using h2
                have hf := Lib.hid (show placeN l k = -1 by unfold placeN; rw [← H.out, place_no HX.out h1 h2]; rfl)
                have hf2 := Lib.hid (hno.out (by rw [hf.out]; omega))
                clear h1 h2
                go_wp2
                go_quiet (fail)
                go_wp2
                go_ret2
                exact ⟨by rw [hf2.out]; rfl, below_drewN hb _⟩
              · have q2 : decide (x.at_ ≤ k) = false := by simpa using h2
                have hf := Lib.hid (place_on (more := more) HX.out h1 h2)
                clear h1 h2
                go_wp2
                go_quiet (fail)
                go_wp2
                go_roundw
                case rel => exact ⟨j + 1, more, by go_num, rfl, by omega, by omega, by omega, show _ = _ by rw [← hf.out]; exact H.out, below_drewN hb _⟩
                case measure => simp [intOf]; omega
          · have hf := Lib.hid (show placeN l k = k + more by unfold placeN; rw [← H.out, place_end (by rw [HL.out]; omega)]; rfl)
            have hf2 := Lib.hid (hys.out (by
              refine Int.not_lt.1 fun h => ?_
              have h2 := (place_none HGG.out hkk0).1 h
              rw [← H.out, place_end (by rw [HL.out]; omega)] at h2
              cases h2))
            go_wp2
            go_ret2
            exact ⟨by rw [hf2.out, hf.out]; rfl, hb⟩
  · have hf := Lib.hid (show placeOf l many k = (0, false) from if_neg (fun h => hg h.1))
    have hg : goodH many l = false := by simpa using hg
    go_enter Tryz.func99, Tryz.ntmps99
    go_wp2_with fail
    refine (implGoodHunks_any many a n c l _ hl hmany).mono ?_
    rintro e w1 ⟨rfl, b1⟩
    rw [hg]
    go_wp2
    go_ret2
    exact ⟨by rw [hf.out]; rfl, b1⟩

end Go.Proofs.YtkamenidgkjodaaGreatDoor
