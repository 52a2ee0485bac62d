/-
  GoodLines, the program's and the model's.
-/
import Derived.Test.YtnnaigoomipklaaDoorOkStr
set_option linter.unusedSimpArgs false
set_option linter.unusedVariables false
namespace Go.Proofs.YtnnaigoomipklaaDoor
open Go.RowKit M

theorem step_ok {l : List ByteArray} {k : Nat} {s : ByteArray} (H : ∀ j s, j < k → l[j]? = some s → okAt l.length j s = true) (hs : l[k]? = some s) (h : okAt l.length k s = true) :
    ∀ j s, j < k + 1 → l[j]? = some s → okAt l.length j s = true := by
  intro j t hj ht
  by_cases e : j = k
  · subst e; rw [hs] at ht; injection ht with ht; subst ht; exact h
  · exact H j t (by omega) ht
theorem all_ok {l : List ByteArray} {k : Nat} (H : ∀ j s, j < k → l[j]? = some s → okAt l.length j s = true) (hk : l.length ≤ k) : goodB l = decide (l.length ≤ 40) :=
  goodB_ok fun j s hj => H j s (by have := (List.getElem?_eq_some_iff.1 hj).1; omega) hj

set_option maxHeartbeats 1000000 in
theorem l1Good_any (a : Option Addr) (n c : Nat) (l : List ByteArray) (w : World) (hl : Strs w a n l) :
    Calls Tryd.prog 94 #[.slice a n c] w fun e w' => e = .returned (.bool (goodB l)) ∧ w = w' := by
  have hlim := hl.lim
  unfold maxLen at hlim
  have HL := Lib.hid hl.len
  go_enter Tryd.func94, Tryd.ntmps94
  go_wp2
  go_loop [7] (fun i => ∃ k : Nat, i = .int .i64 k ∧ k ≤ n ∧ Hid (∀ j s, j < k → l[j]? = some s → okAt l.length j s = true)) (fun i => n - (intOf i).toNat)
  case atStart => exact ⟨0, rfl, by omega, fun j s h => by omega⟩
  case round =>
    obtain ⟨k, rfl, hk, H⟩ := hrel
    by_cases hlt : k < n
    · obtain ⟨b, off, s, rfl, hs, hsz, hc⟩ := hl.at_ hlt
      have HS := Lib.hid hs
      clear hs
      by_cases h1 : lineB s = true
      · have hp := (lineB_size h1).1
        by_cases h2 : k + 1 < n
        · by_cases h3 : endsB s = true
          · have hstep := Lib.hid (show okAt l.length k s = true by simp [okAt, h1, h3])
            go_wp2_with (first | (go_at_call 103; refine (l1Line_any s _ hsz).mono ?_; rintro e w' ⟨rfl, rfl⟩) | (go_at_call 99; refine (l1Ends_any s _ hsz hp).mono ?_; rintro e w' ⟨rfl, rfl⟩))
            go_round
            case rel => exact ⟨k + 1, by go_num, by omega, step_ok H.out HS.out hstep.out⟩
            case measure => simp [intOf]; omega
          · have h3 : endsB s = false := by simpa using h3
            have hf := Lib.hid (goodB_bad HS.out (show okAt l.length k s = false by simp [okAt, h3, HL.out]; omega))
            go_wp2_with (first | (go_at_call 103; refine (l1Line_any s _ hsz).mono ?_; rintro e w' ⟨rfl, rfl⟩) | (go_at_call 99; refine (l1Ends_any s _ hsz hp).mono ?_; rintro e w' ⟨rfl, rfl⟩))
            go_ret
            exact ⟨ret_bool hf.out.symm, rfl⟩
        · have hd : decide ((k : Int) < (n : Int) - 1) = false := by simp; omega
          have hstep := Lib.hid (show okAt l.length k s = true by simp [okAt, h1, HL.out]; omega)
          go_wp2_with (first | (go_at_call 103; refine (l1Line_any s _ hsz).mono ?_; rintro e w' ⟨rfl, rfl⟩))
          go_round
          case rel => exact ⟨k + 1, by go_num, by omega, step_ok H.out HS.out hstep.out⟩
          case measure => simp [intOf]; omega
      · have h1 : lineB s = false := by simpa using h1
        have hf := Lib.hid (goodB_bad HS.out (show okAt l.length k s = false by simp [okAt, h1]))
        go_wp2_with (first | (go_at_call 103; refine (l1Line_any s _ hsz).mono ?_; rintro e w' ⟨rfl, rfl⟩))
        go_ret
        exact ⟨ret_bool hf.out.symm, rfl⟩
    · have hf := Lib.hid (all_ok H.out (by rw [HL.out]; omega))
      go_wp2
      go_ret
      exact ⟨ret_bool (by rw [hf.out, HL.out]; simp; omega), rfl⟩

set_option maxHeartbeats 1000000 in
set_option maxRecDepth 100000 in
theorem implGoodLines_any (a : Option Addr) (n c : Nat) (l : List ByteArray) (w : World) (hl : Strs w a n l) :
    Calls Tryd.prog 88 #[.slice a n c] w fun e w' => e = .returned (.bool (goodB l)) ∧ Below w.heap.size w w' := by
  have hlim := hl.lim
  unfold maxLen at hlim
  have HL := Lib.hid hl.len
  by_cases h40 : n ≤ 40
  · have hb40 : decide (40 < (n : Int)) = false := by simp; omega
    go_enter Tryd.func88, Tryd.ntmps88
    go_wp2
    go_loopw [11] (fun i w' => ∃ k : Nat, i = .int .i64 k ∧ k ≤ n ∧ Hid (∀ j s, j < k → l[j]? = some s → okAt l.length j s = true) ∧ Below w.heap.size w w') (fun i _ => n - (intOf i).toNat)
    case atStart => exact ⟨0, rfl, by omega, fun j s h => by omega, Below.refl _ _⟩
    case round =>
      obtain ⟨k, rfl, hk, H, hb⟩ := hrel
      by_cases hlt : k < n
      · obtain ⟨b, off, s, rfl, hs, hsz, hc⟩ := (hl.below hb).at_ hlt
        have HS := Lib.hid hs
        clear hs
        by_cases h1 : lineB s = true
        · by_cases h2 : k + 1 < n
          · have hq : ((k : Int) == (n : Int) - 1) = false := by simp; omega
            by_cases h3 : endsB s = true
            · have hstep := Lib.hid (show okAt l.length k s = true by simp [okAt, h1, h3])
              go_wp2_with (first | (go_at_call 106; refine (isLine_any s _ hsz).mono ?_; rintro e w1 ⟨rfl, hb1⟩) | (go_at_call 107; refine (hasEnd_any s _ hsz).mono ?_; rintro e w' ⟨rfl, rfl⟩))
              go_roundw
              case rel => exact ⟨k + 1, by go_num, by omega, step_ok H.out HS.out hstep.out, hb.trans (hb1.mono hb.size)⟩
              case measure => simp [intOf]; omega
            · have h3 : endsB s = false := by simpa using h3
              have hf := Lib.hid (goodB_bad HS.out (show okAt l.length k s = false by simp [okAt, h3, HL.out]; omega))
              go_wp2_with (first | (go_at_call 106; refine (isLine_any s _ hsz).mono ?_; rintro e w1 ⟨rfl, hb1⟩) | (go_at_call 107; refine (hasEnd_any s _ hsz).mono ?_; rintro e w' ⟨rfl, rfl⟩))
              go_ret
              exact ⟨ret_bool hf.out.symm, hb.trans (hb1.mono hb.size)⟩
          · have hq : ((k : Int) == (n : Int) - 1) = true := by simp; omega
            have hstep := Lib.hid (show okAt l.length k s = true by simp [okAt, h1, HL.out]; omega)
            go_wp2_with (first | (go_at_call 106; refine (isLine_any s _ hsz).mono ?_; rintro e w1 ⟨rfl, hb1⟩))
            go_roundw
            case rel => exact ⟨k + 1, by go_num, by omega, step_ok H.out HS.out hstep.out, hb.trans (hb1.mono hb.size)⟩
            case measure => simp [intOf]; omega
        · have h1 : lineB s = false := by simpa using h1
          have hf := Lib.hid (goodB_bad HS.out (show okAt l.length k s = false by simp [okAt, h1]))
          go_wp2_with (first | (go_at_call 106; refine (isLine_any s _ hsz).mono ?_; rintro e w1 ⟨rfl, hb1⟩))
          go_ret
          exact ⟨ret_bool hf.out.symm, hb.trans (hb1.mono hb.size)⟩
      · have hf := Lib.hid (all_ok H.out (by rw [HL.out]; omega))
        go_wp2
        go_ret
        exact ⟨ret_bool (by rw [hf.out, HL.out]; simp; omega), hb⟩
  · have H := Lib.hid (show goodB l = false by simp [goodB, HL.out]; omega)
    go_enter Tryd.func88, Tryd.ntmps88
    go_wp2
    go_ret
    exact ⟨ret_bool H.out.symm, Below.refl _ _⟩

end Go.Proofs.YtnnaigoomipklaaDoor
