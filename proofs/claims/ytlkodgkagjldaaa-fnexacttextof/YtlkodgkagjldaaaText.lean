/-
  TextOf, the program's and the model's, and its law.
-/
import Derived.Test.YtlkodgkagjldaaaGood
import Derived.Test.YtlkodgkagjldaaaLawT
import Derived.Test.YtlkodgkagjldaaaShelf
set_option linter.unusedSimpArgs false
set_option linter.unusedVariables false
namespace Go.Proofs.Ytlkodgkagjldaaa
open Go.RowKit M

theorem join_cat (l : List ByteArray) : (⟨(Lib.join (l.map (·.data.toList)) (⟨#[]⟩ : ByteArray).data.toList).toArray⟩ : ByteArray) = cat l := by
  have h : ∀ L : List (List UInt8), Lib.join L [] = L.flatten := by
    intro L
    cases L with
    | nil => rfl
    | cons x r => rw [Lib.join_cons]; simp [Lib.joinTail]
  show (⟨(Lib.join (l.map (·.data.toList)) []).toArray⟩ : ByteArray) = _
  rw [h]
  rfl

set_option maxHeartbeats 400000 in
theorem Join_any (a : Option Addr) (n c : Nat) (l : List ByteArray) (w : World) (hl : Strs w a n l) (hc : n ≤ c) (ht : total l ≤ 1048576) (hn : n ≤ 1048576) :
    Calls Try.prog 47 #[.slice a n c, .string ⟨#[]⟩] w fun e w' => e = .returned (.string (cat l)) ∧ Below w.heap.size w w' := by
  by_cases h0 : n = 0
  · subst h0
    obtain rfl : l = [] := List.eq_nil_of_length_eq_zero hl.len
    refine (Try.strings_Join_none a c _ w).mono fun e w' ⟨h1, h2⟩ => ⟨h1, ?_⟩
    subst h2
    exact Below.refl _ _
  · obtain ⟨b, off, s, rfl, hs, hsz, hcell⟩ := hl.at_ (show 0 < n by omega)
    have hj := join_cat l
    have hlen : (Lib.join (l.map (·.data.toList)) (⟨#[]⟩ : ByteArray).data.toList).length = total l := by
      have h1 := cat_size l
      rw [← hj] at h1
      exact h1
    have := Try.strings_Join b off c l ⟨#[]⟩ w (fun j x hx => by
      obtain ⟨b', off', e, h⟩ := hl.cell j x hx
      injection e with e
      injection e with e1 e2
      subst e1 e2
      exact h) (cell_lt hcell) (by rw [hl.len]; omega) (by rw [hl.len]; exact hc) (by rw [hlen]; omega)
    rw [hl.len, hj] at this
    exact this

set_option maxHeartbeats 400000 in
theorem l1Text_any (a : Option Addr) (n c : Nat) (l : List ByteArray) (w : World) (hl : Strs w a n l) (ht : total l ≤ 4294967296) :
    Calls Try.prog 41 #[.slice a n c] w fun e w' => e = .returned (.string (cat l)) ∧ w = w' := by
  have HL := Lib.hid hl.len
  have hlim := hl.lim
  unfold maxLen at hlim
  go_enter Try.func41, Try.ntmps41
  go_wp2
  go_loop [3, 8] (fun t i => ∃ k : Nat, ∃ T : ByteArray, i = .int .i64 k ∧ t = .string T ∧ k ≤ n ∧ Hid (T = cat (l.take k))) (fun _ i => n - (intOf i).toNat)
  case atStart => exact ⟨0, _, rfl, rfl, by omega, rfl⟩
  case round =>
    obtain ⟨k, T, rfl, rfl, hk, H⟩ := hrel
    by_cases hlt : k < n
    · obtain ⟨b, off, s, rfl, hs, hsz, hc⟩ := hl.at_ hlt
      have HS := Lib.hid (cat_take_succ hs)
      have hsum : T.size + s.size ≤ 4294967296 := by
        have h1 := total_take_succ hs
        have h2 := total_take_le l (k + 1)
        have h3 := cat_size (l.take k)
        have h4 : T.size = (cat (l.take k)).size := by rw [H.out]
        omega
      clear hs
      go_wp2
      go_round
      case rel => exact ⟨k + 1, _, by go_num, rfl, by omega, show _ = _ by rw [H.out]; exact HS.out⟩
      case measure => simp [intOf]; omega
    · have hf := Lib.hid (show T = cat l by rw [H.out, List.take_of_length_le (by rw [HL.out]; omega)])
      go_wp2
      go_ret
      exact ⟨ret_str hf.out, rfl⟩

theorem good_total {l : List ByteArray} (h : goodB l = true) : total l ≤ 1200 := by
  have h1 := goodB_len h
  have h2 : ∀ s ∈ l, s.size ≤ 30 := fun s hs => by
    obtain ⟨j, hj⟩ := List.mem_iff_getElem?.1 hs
    exact (lineB_size (goodB_at h hj).1).2
  have h3 : ∀ L : List ByteArray, (∀ s ∈ L, s.size ≤ 30) → total L ≤ 30 * L.length := by
    intro L hL
    induction L with
    | nil => simp [total]
    | cons s L ih =>
      have := hL s (by simp)
      have := ih (fun s hs => hL s (by simp [hs]))
      simp [total]; omega
  have := h3 l h2
  omega

/-- TextOf's two answers. -/
def textOf (l : List ByteArray) : ByteArray × Bool := if goodB l then (cat l, true) else (⟨#[]⟩, false)

set_option maxHeartbeats 400000 in
theorem specTextOf_any (a : Option Addr) (n c : Nat) (l : List ByteArray) (w : World) (hl : Strs w a n l) :
    Calls Try.prog 28 #[.slice a n c] w fun e w' => e = .returned (.tuple #[.string (textOf l).1, .bool (textOf l).2]) ∧ w = w' := by
  by_cases hg : goodB l = true
  · have H := Lib.hid (show textOf l = (cat l, true) from if_pos hg)
    have ht := good_total hg
    go_enter Try.func28, Try.ntmps28
    go_wp2_with (first | (go_at_call 46; refine (l1Good_any a n c l _ hl).mono ?_; rintro e w' ⟨rfl, rfl⟩) | (go_at_call 41; refine (l1Text_any a n c l _ hl (by omega)).mono ?_; rintro e w' ⟨rfl, rfl⟩))
    go_ret2
    exact ⟨by rw [H.out]; rfl, rfl⟩
  · have hg : goodB l = false := by simpa using hg
    have H := Lib.hid (show textOf l = (⟨#[]⟩, false) from if_neg (by simp [hg]))
    go_enter Try.func28, Try.ntmps28
    go_wp2_with (first | (go_at_call 46; refine (l1Good_any a n c l _ hl).mono ?_; rintro e w' ⟨rfl, rfl⟩))
    go_ret2
    exact ⟨by rw [H.out]; rfl, rfl⟩

set_option maxHeartbeats 400000 in
theorem implTextOf_any (a : Option Addr) (n c : Nat) (l : List ByteArray) (w : World) (hl : Strs w a n l) (hc : n ≤ c) :
    Calls Try.prog 18 #[.slice a n c] w fun e w' => e = .returned (.tuple #[.string (textOf l).1, .bool (textOf l).2]) ∧ Below w.heap.size w w' := by
  by_cases hg : goodB l = true
  · have H := Lib.hid (show textOf l = (cat l, true) from if_pos hg)
    have ht := good_total hg
    have hn : n ≤ 40 := by rw [← hl.len]; exact goodB_len hg
    go_enter Try.func18, Try.ntmps18
    go_wp2_with fail
    refine (implGoodLines_any a n c l _ hl).mono ?_
    rintro e w1 ⟨rfl, b1⟩
    go_wp2_with fail
    refine (Join_any a n c l _ (hl.below b1) hc (by omega) (by omega)).mono ?_
    rintro e w2 ⟨rfl, b2⟩
    go_wp2
    go_ret2
    exact ⟨by rw [H.out]; rfl, b1.next b2⟩
  · have hg : goodB l = false := by simpa using hg
    have H := Lib.hid (show textOf l = (⟨#[]⟩, false) from if_neg (by simp [hg]))
    go_enter Try.func18, Try.ntmps18
    go_wp2_with fail
    refine (implGoodLines_any a n c l _ hl).mono ?_
    rintro e w1 ⟨rfl, b1⟩
    go_wp2
    go_ret2
    exact ⟨by rw [H.out]; rfl, b1⟩

set_option maxHeartbeats 1000000 in
theorem FnExactTextOf_any (w : World) (a : Option Addr) (n c : Nat) (l : List ByteArray) (hl : Strs w a n l) :
    Calls Try.prog 7 #[.slice a n c] w fun e w' => e = .returned (.bool true) ∧ Below w.heap.size w w' := by
  by_cases hbig : (1048576 : Int) < l.length + total l
  · go_enter Try.func7, Try.ntmps7
    go_wp2_with fail
    refine (sz_neg a n c l _ _ hl (by omega) (by omega) hbig).mono ?_
    rintro e w1 ⟨rfl, rfl⟩
    go_wp2
    go_ret
    exact ⟨rfl, Below.refl _ _⟩
  · have hbig : (l.length : Int) + total l ≤ 1048576 := by omega
    have HL := Lib.hid hl.len
    have hn : n ≤ 1048576 := by rw [← hl.len]; omega
    have hsm := Lib.hid hl.small
    have hbq := beq_same (textOf l).1
    go_enter Try.func7, Try.ntmps7
    go_wp2_with fail
    refine (sz_pos a n c l _ _ hl (by omega) (by omega) hbig).mono ?_
    rintro e w1 ⟨r, hr0, hr1, rfl, rfl⟩
    go_wp2_with fail
    refine (toStringS_any a n c l _ hl hn).mono ?_
    rintro e w1 ⟨rfl, o1, b1⟩
    go_wp2_with fail
    refine (specTextOf_any _ n n l _ o1.strs).mono ?_
    rintro e w' ⟨rfl, rfl⟩
    go_wp2_with fail
    refine (toStringS_any a n c l _ (hl.below b1) hn).mono ?_
    rintro e w2 ⟨rfl, o2, b2⟩
    go_wp2_with fail
    refine (implTextOf_any _ n n l _ o2.strs (Nat.le_refl _)).mono ?_
    rintro e w3 ⟨rfl, b3⟩
    have b13 := (b1.next b2).next b3
    go_wp2_with fail
    refine (toStringS_any a n c l _ (hl.below b13) hn).mono ?_
    rintro e w4 ⟨rfl, o4, b4⟩
    go_wp2_with fail
    refine (eqStringS_any _ _ n n n n l l _ (o2.below (b3.next b4)).strs o4.strs).mono ?_
    rintro e w5 ⟨rfl, d5⟩
    have heq := eqT_refl l
    go_wp2
    go_ret
    exact ⟨rfl, (b13.next b4).next d5.below⟩

end Go.Proofs.Ytlkodgkagjldaaa
