/-
  What the functions of chapter 1 (the program's and the model's) do on one text.
-/
import Derived.Test.YtnnaigoomipklaaDoorProg
import Derived.Test.YtnnaigoomipklaaDoorOkBase
import Derived.Test.YtnnaigoomipklaaDoorOkMemT
set_option linter.unusedSimpArgs false
set_option linter.unusedVariables false
namespace Go.Proofs.YtnnaigoomipklaaDoor
open Go.RowKit M

set_option maxHeartbeats 400000 in
theorem l1In_any (n lo hi : Int) (w : World) :
    Calls Tryd.prog 80 #[.int .i64 n, .int .i64 lo, .int .i64 hi] w fun e w' => e = .returned (.bool (decide (lo ≤ n) && decide (n ≤ hi))) ∧ w = w' := by
  by_cases h : lo ≤ n
  · by_cases h2 : n ≤ hi
    · go_enter Tryd.func80, Tryd.ntmps80
      go_wp2
      go_ret
      exact ⟨by simp [h, h2], rfl⟩
    · go_enter Tryd.func80, Tryd.ntmps80
      go_wp2
      go_ret
      exact ⟨by simp [h, h2], rfl⟩
  · go_enter Tryd.func80, Tryd.ntmps80
    go_wp2
    go_ret
    exact ⟨by simp; omega, rfl⟩

set_option maxHeartbeats 400000 in
theorem l1Line_any (s : ByteArray) (w : World) (hs : s.size ≤ maxLen) :
    Calls Tryd.prog 103 #[.string s] w fun e w' => e = .returned (.bool (lineB s)) ∧ w = w' := by
  unfold maxLen at hs
  go_enter Tryd.func103, Tryd.ntmps103
  go_wp2
  go_loop [3] (fun i => ∃ k : Nat, i = .int .i64 k ∧ k ≤ s.size ∧ Hid (∀ j (_ : j < k) (hj : j + 1 < s.size), (s[j]'(by omega)).toNat ≠ 10)) (fun i => s.size - (intOf i).toNat)
  case atStart => exact ⟨0, rfl, by omega, fun j h => by omega⟩
  case round =>
    obtain ⟨k, rfl, hk, H⟩ := hrel
    by_cases hlt : k + 1 < s.size
    · by_cases he : (s[k]'(by omega)).toNat = 10
      · have hl := Lib.hid (lineB_nl s k hlt he)
        go_wp2
        go_ret
        exact ⟨ret_bool hl.out.symm, rfl⟩
      · go_wp2
        go_round
        case rel =>
          refine ⟨k + 1, by go_num, by omega, fun j h hj => ?_⟩
          by_cases e : j = k
          · subst e; exact he
          · exact H.out j (by omega) hj
        case measure => simp [intOf]; omega
    · have hl := Lib.hid (lineB_none s (fun j hj => H.out j (by omega) hj))
      clear H
      go_wp2_with (go_at_call 80; refine (l1In_any _ _ _ _).mono ?_; rintro e w' ⟨rfl, rfl⟩)
      go_ret
      exact ⟨ret_bool (by rw [hl.out]; congr 1 <;> simp <;> omega), rfl⟩

set_option maxHeartbeats 400000 in
theorem l1Ends_any (s : ByteArray) (w : World) (hs : s.size ≤ maxLen) (h0 : 0 < s.size) :
    Calls Tryd.prog 99 #[.string s] w fun e w' => e = .returned (.bool (endsB s)) ∧ w = w' := by
  unfold maxLen at hs
  have H := Lib.hid (endsB_eq s h0)
  go_enter Tryd.func99, Tryd.ntmps99
  go_wp2
  go_ret
  exact ⟨ret_bool (by rw [H.out, Bool.eq_iff_iff]; simp; omega), rfl⟩

set_option maxHeartbeats 400000 in
theorem HasSuffix0_nl (s : ByteArray) (w : World) (hs : s.size ≤ maxLen) :
    Calls Tryd.prog 120 #[.string s, .string ⟨#[10]⟩] w fun e w' => e = .returned (.bool (endsB s)) ∧ w = w' := by
  unfold maxLen at hs
  by_cases h0 : 1 ≤ s.size
  · go_enter Tryd.func120, Tryd.ntmps120
    go_wp2
    go_ret
    exact ⟨ret_bool (suffix_nl s h0), rfl⟩
  · go_enter Tryd.func120, Tryd.ntmps120
    go_wp2
    go_ret
    exact ⟨ret_bool (endsB_empty s (by omega)).symm, rfl⟩

set_option maxHeartbeats 400000 in
theorem HasSuffix_nl (s : ByteArray) (w : World) (hs : s.size ≤ maxLen) :
    Calls Tryd.prog 113 #[.string s, .string ⟨#[10]⟩] w fun e w' => e = .returned (.bool (endsB s)) ∧ w = w' := by
  go_enter Tryd.func113, Tryd.ntmps113
  go_wp2_with (go_at_call 120; refine (HasSuffix0_nl s _ hs).mono ?_; rintro e w' ⟨rfl, rfl⟩)
  go_ret
  exact ⟨rfl, rfl⟩

set_option maxHeartbeats 400000 in
theorem hasEnd_any (s : ByteArray) (w : World) (hs : s.size ≤ maxLen) :
    Calls Tryd.prog 107 #[.string s] w fun e w' => e = .returned (.bool (endsB s)) ∧ w = w' := by
  go_enter Tryd.func107, Tryd.ntmps107
  go_wp2_with (go_at_call 113; refine (HasSuffix_nl s _ hs).mono ?_; rintro e w' ⟨rfl, rfl⟩)
  go_ret
  exact ⟨rfl, rfl⟩

set_option maxHeartbeats 1000000 in
set_option maxRecDepth 100000 in
theorem isLine_any (s : ByteArray) (w : World) (hs : s.size ≤ maxLen) :
    Calls Tryd.prog 106 #[.string s] w fun e w' => e = .returned (.bool (lineB s)) ∧ Below w.heap.size w w' := by
  unfold maxLen at hs
  by_cases h0 : s.size = 0
  · have hb : s.toList.isEmpty = true := by rw [ByteArray.toList_eq]; have hz : s.data.toList.length = s.size := by simp
                                            rw [List.isEmpty_iff]; exact List.eq_nil_of_length_eq_zero (by omega)
    have H := Lib.hid (show lineB s = false by simp [lineB, h0])
    have h0 := Lib.hid h0
    go_enter Tryd.func106, Tryd.ntmps106
    go_wp2
    go_ret
    exact ⟨ret_bool H.out.symm, Below.refl _ _⟩
  · have hb : s.toList.isEmpty = false := by
      rw [ByteArray.toList_eq]
      have hz : s.data.toList.length = s.size := by simp
      cases hl : s.data.toList with
      | nil => rw [hl] at hz; simp at hz; omega
      | cons => rfl
    by_cases h30 : s.size ≤ 30
    · have hb30 : decide (30 < (s.size : Int)) = false := by simp; omega
      go_enter Tryd.func106, Tryd.ntmps106
      go_wp2
      go_loopw [3] (fun _ w' => ∃ pos, w' = w.iter s pos ∧ pos ≤ s.size ∧ Hid (∀ j (_ : j < pos) (hj : j + 1 < s.size), (s[j]'(by omega)).toNat ≠ 10)) (fun _ w' => s.size - w'.iterPos w.heap.size)
      case atStart => exact ⟨0, rfl, by omega, fun j h => by omega⟩
      case round =>
        obtain ⟨pos, rfl, hp, H⟩ := hrel
        by_cases hlt : pos < s.size
        · have hnx : ∀ ty, (Instr.next (.pointer (some ⟨w.heap.size, 0, none⟩)) true ty).run Tryd.prog (w.iter s pos) = _ := fun ty => run_next_any w s pos ty hlt
          obtain ⟨d1, d2, d3, d4⟩ := decode_ten s pos hlt
          have D1 := Lib.hid d1
          have D4 := Lib.hid d4
          clear d1 d4
          have step : ((s[pos]'hlt).toNat ≠ 10 ∨ ¬ pos + 1 < s.size) → Hid (∀ j (_ : j < pos + (Utf8.decode s pos).2) (hj : j + 1 < s.size), (s[j]'(by omega)).toNat ≠ 10) := by
            intro hor j hj1 hj2
            by_cases e : j < pos
            · exact H.out j e hj2
            · obtain ⟨k, rfl⟩ := Nat.exists_eq_add_of_le (Nat.le_of_not_lt e)
              by_cases e0 : k = 0
              · subst e0
                rcases hor with hor | hor
                · exact hor
                · omega
              · exact D4.out k (by omega) (by omega) (by omega)
          have STEP := Lib.hid step
          clear step
          by_cases he : (Utf8.decode s pos).1 = 10
          · have hb2 : (((Utf8.decode s pos).1 : Int) == 10) = true := by simp [he]
            have HE := Lib.hid he
            clear he
            by_cases hl : pos + 1 < s.size
            · have hf := Lib.hid (lineB_nl s pos hl (D1.out.1 HE.out))
              go_wp2
              go_ret
              exact ⟨ret_bool hf.out.symm, (Below.refl _ _).alloc (Nat.le_refl _) _⟩
            · have hd : decide ((pos : Int) < (s.size : Int) - 1) = false := by simp; omega
              go_wp2
              go_roundw
              case rel => exact ⟨_, rfl, by omega, STEP.out (.inr hl)⟩
              case measure => simp; omega
          · have hb2 : (((Utf8.decode s pos).1 : Int) == 10) = false := by simp; omega
            have HE := Lib.hid he
            clear he
            go_wp2
            go_roundw
            case rel => exact ⟨_, rfl, by omega, STEP.out (.inl fun e => HE.out (D1.out.2 e))⟩
            case measure => simp; omega
        · have hnx : ∀ ty, (Instr.next (.pointer (some ⟨w.heap.size, 0, none⟩)) true ty).run Tryd.prog (w.iter s pos) = _ := fun ty => run_next_end w s pos ty hlt
          have hf := Lib.hid (lineB_none s (fun j hj => H.out j (by omega) hj))
          go_wp2
          go_ret
          exact ⟨ret_bool (by rw [hf.out]; simp; omega), (Below.refl _ _).alloc (Nat.le_refl _) _⟩
    · have H := Lib.hid (show lineB s = false by simp [lineB, h30])
      go_enter Tryd.func106, Tryd.ntmps106
      go_wp2
      go_ret
      exact ⟨ret_bool H.out.symm, Below.refl _ _⟩

end Go.Proofs.YtnnaigoomipklaaDoor
