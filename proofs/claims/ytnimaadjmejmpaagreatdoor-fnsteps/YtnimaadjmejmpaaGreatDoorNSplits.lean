/-
  The model's texts cut at a comma: l1Split, l4Two, ReadPair, ReadEnd, ReadCount.
  The model's pairs: l4Two, ReadPair, ReadEnd, ReadCount.
-/
import Derived.Test.YtnimaadjmejmpaaGreatDoorNSpecT
import Derived.Test.YtnimaadjmejmpaaGreatDoorLawT
set_option linter.unusedSimpArgs false
set_option linter.unusedVariables false
namespace Go.Proofs.YtnimaadjmejmpaaGreatDoor
open Go.RowKit M

theorem drop_parts (l : List UInt8) (f k : Nat) (h1 : f ≤ k) (h2 : k < l.length) : l.drop f = (l.drop f).take (k - f) ++ l[k] :: l.drop (k + 1) := by
  have e : l.drop k = l[k] :: l.drop (k + 1) := List.drop_eq_getElem_cons h2
  rw [← e]
  have : l.drop k = (l.drop f).drop (k - f) := by rw [List.drop_drop]; congr 1; omega
  rw [this, List.take_append_drop]

theorem mem_part {l : List UInt8} {f k : Nat} {c : UInt8} (h : c ∈ (l.drop f).take (k - f)) : ∃ j, f ≤ j ∧ j < k ∧ l[j]? = some c := by
  obtain ⟨i, hi⟩ := List.mem_iff_getElem?.1 h
  rw [List.getElem?_take] at hi
  split at hi
  · rename_i hlt
    rw [List.getElem?_drop] at hi
    exact ⟨f + i, by omega, by omega, hi⟩
  · cases hi

theorem split_step {l : List UInt8} {f k : Nat} (h1 : f ≤ k) (h2 : k < l.length) (hc : l[k] = 44) (hn : ∀ j, f ≤ j → j < k → l[j]? ≠ some 44) :
    splitB 44 (l.drop f) = ((l.drop f).take (k - f)) :: splitB 44 (l.drop (k + 1)) := by
  have e := drop_parts l f k h1 h2
  rw [hc] at e
  rw [e, split_hit 44 _ _ (fun hm => by
    obtain ⟨j, a, b, c⟩ := mem_part hm
    exact hn j a b c)]
  congr 1
  rw [← e]
theorem split_last {l : List UInt8} {f : Nat} (hn : ∀ j, f ≤ j → j < l.length → l[j]? ≠ some 44) : splitB 44 (l.drop f) = [l.drop f] := by
  refine split_none 44 _ (fun hm => ?_)
  obtain ⟨i, hi⟩ := List.mem_iff_getElem?.1 hm
  rw [List.getElem?_drop] at hi
  have hlt : f + i < l.length := by
    apply Decidable.byContradiction
    intro h
    rw [List.getElem?_eq_none (by omega)] at hi
    cases hi
  exact hn (f + i) (by omega) hlt hi

theorem extract_bs (s : ByteArray) (f k : Nat) : s.extract f k = bs ((s.data.toList.drop f).take (k - f)) := by
  apply ByteArray.ext
  apply Array.ext'
  simp [bs, ByteArray.data_extract]

theorem get_at (s : ByteArray) (k : Nat) (h : k < s.size) : s.data.toList[k]? = some (s[k]'h) := by
  rw [List.getElem?_eq_getElem (by simpa using h)]
  rfl

theorem below_of_grown {B : Nat} {a w w' : World} {v : Value} {row : Option Nat} (h : Below B a w) (g : w.grownBy w' row) (hB : B ≤ w.heap.size) (hr : ∀ b, row = some b → B ≤ b) : Below B a w' := h.grown g hB hr

set_option maxHeartbeats 1600000 in
theorem l1Split_any (s : ByteArray) (hs : s.size ≤ 1048576) (w : World) :
    Calls Tryz.prog 140 #[.string s, .int .u8 44] w fun e w' => ∃ v, e = .returned v ∧ OwnV w' w.heap.size v ((splitB 44 s.data.toList).map bs) ∧ Below w.heap.size w w' := by
  have hlen : s.data.toList.length = s.size := by simp
  have HLEN := Lib.hid hlen
  clear hlen
  go_enter Tryz.func140, Tryz.ntmps140
  go_wp2
  go_loopw [5, 6, 7] (fun o f i w' => ∃ (v : Value) (L : List (List UInt8)) (a k : Nat), v = o ∧ f = .int .i64 a ∧ i = .int .i64 k ∧ a ≤ k ∧ k ≤ s.size ∧ L.length ≤ k ∧ OwnV w' w.heap.size v (L.map bs) ∧ Below w.heap.size w w' ∧ Hid (splitB 44 s.data.toList = L ++ splitB 44 (s.data.toList.drop a)) ∧ Hid (∀ j, a ≤ j → j < k → s.data.toList[j]? ≠ some 44)) (fun _ _ i _ => s.size - (intOf i).toNat)
  case atStart => exact ⟨_, [], 0, 0, rfl, rfl, rfl, Nat.le_refl _, Nat.zero_le _, Nat.le_refl _, OwnV.nil_, Below.refl _ _, rfl, fun j _ h => by omega⟩
  case round =>
    obtain ⟨v, L, a, k, rfl, rfl, rfl, hak, hk, hL, ho, hb, HS, HN⟩ := hrel
    have hz := hb.size
    by_cases hlt : k < s.size
    · by_cases hc : (s[k]'hlt).toNat = 44
      · have hcb : ((((s[k]'hlt).toNat : Nat) : Int) == 44) = true := by simp [hc]
        have hck : (s[k]'hlt) = 44 := UInt8.toNat.inj (by simpa using hc)
        obtain ⟨X, hX⟩ : ∃ X, X = s.extract a k := ⟨_, rfl⟩
        have hXs : X.size ≤ 1048576 := by rw [hX, ByteArray.size_extract]; omega
        have HX := Lib.hid (hX.trans (extract_bs s a k))
        have HX0 := Lib.hid hX
        have hst := strs_one wr X (by unfold maxLen; omega)
        have HS2 := Lib.hid (split_step hak (by rw [HLEN.out]; exact hlt) (by have := get_at s k hlt; rw [List.getElem?_eq_getElem (by rw [HLEN.out]; exact hlt)] at this; rw [Option.some.inj this, hck]) HN.out)
        clear hc hck
        go_wp2_with (at_builtin; rw [← HX0.out]; refine app_strs (.tmp 19) (.tmp 24) w.heap.size v (L.map bs) (ho.below (below_alloc _ _)) _ 1 1 [X] hst (by simp; omega) (by simp; omega) rfl rfl rfl rfl ?_; intro v3 w3 o3 g3 p3)
        have HBL := Lib.hid ((hb.next (below_alloc wr (.cells #[Value.string X] 9))).grown g3 (by simp; omega) (fun b e => (ho.lt e).1))
        go_roundw
        case rel =>
          refine ⟨v3, L ++ [(s.data.toList.drop a).take (k - a)], k + 1, k + 1, rfl, by go_num, by go_num, Nat.le_refl _, by omega, by simp; omega, ?_, HBL.out, ?_, fun j h1 h2 => by omega⟩
          · rw [List.map_append, List.map_cons, List.map_nil, ← HX.out]; exact o3
          · exact (show _ = _ by rw [HS.out, HS2.out, List.append_assoc]; rfl)
        case measure => simp [intOf]; omega
      · have hcb : ((((s[k]'hlt).toNat : Nat) : Int) == 44) = false := by simp; omega
        go_wp2
        go_roundw
        case rel =>
          refine ⟨v, L, a, k + 1, rfl, rfl, by go_num, by omega, by omega, by omega, ho, hb, HS.out, fun j h1 h2 => ?_⟩
          by_cases e : j = k
          · subst e
            rw [get_at s j hlt]
            intro e2
            exact hc (by rw [Option.some.inj e2]; rfl)
          · exact HN.out j h1 (by omega)
        case measure => simp [intOf]; omega
    · obtain rfl : k = s.size := by omega
      obtain ⟨X, hX⟩ : ∃ X, X = s.extract a s.size := ⟨_, rfl⟩
      have hXs : X.size ≤ 1048576 := by rw [hX, ByteArray.size_extract]; omega
      have HX := Lib.hid (show X = bs (s.data.toList.drop a) by rw [hX, extract_bs, List.take_of_length_le (by rw [List.length_drop, HLEN.out]; omega)])
      have HX0 := Lib.hid hX
      have hst := strs_one wr X (by unfold maxLen; omega)
      have HS2 := Lib.hid (split_last (l := s.data.toList) (f := a) (by rw [HLEN.out]; exact HN.out))
      clear hX
      go_wp2_with (at_builtin; rw [← HX0.out]; refine app_strs (.tmp 28) (.tmp 32) w.heap.size v (L.map bs) (ho.below (below_alloc _ _)) _ 1 1 [X] hst (by simp; omega) (by simp; omega) rfl rfl rfl rfl ?_; intro v3 w3 o3 g3 p3)
      have HBL := Lib.hid ((hb.next (below_alloc wr (.cells #[Value.string X] 9))).grown g3 (by simp; omega) (fun b e => (ho.lt e).1))
      go_ret
      refine ⟨v3, rfl, ?_, HBL.out⟩
      rw [HS.out, HS2.out, List.map_append, List.map_cons, List.map_nil, ← HX.out]
      exact o3

end Go.Proofs.YtnimaadjmejmpaaGreatDoor

namespace Go.Proofs.YtnimaadjmejmpaaGreatDoor
open Go.RowKit M

theorem own_first {w : World} {base : Nat} {v : Value} {x : ByteArray} {r : List ByteArray} (h : OwnV w base v (x :: r)) :
    ∃ b off cap, v = .slice (some ⟨b, off, none⟩) (r.length + 1) cap ∧ w.cell? ⟨b, off, none⟩ = some (.string x) ∧ ∀ y r', r = y :: r' → w.cell? ⟨b, off + 1, none⟩ = some (.string y) := by
  obtain ⟨A, cap, rfl, h1, h2⟩ := h.form (n := r.length + 1) (by simp)
  have hs := h.strs
  obtain ⟨b, off, rfl, hc⟩ := hs.cell 0 x rfl
  refine ⟨b, off, cap, rfl, by simpa using hc, ?_⟩
  rintro y r' rfl
  obtain ⟨b', off', e, hc'⟩ := hs.cell 1 y rfl
  injection e with e
  injection e with e1 e2
  subst e1 e2
  exact hc'

/-- The three ways in which a text is cut at commas. -/
theorem split_one (s : ByteArray) (hs : s.size ≤ 1048576) (w : World) (h : (44 : UInt8) ∉ s.data.toList) :
    Calls Tryz.prog 140 #[.string s, .int .u8 44] w fun e w' => ∃ b off cap, e = .returned (.slice (some ⟨b, off, none⟩) 1 cap) ∧ w'.cell? ⟨b, off, none⟩ = some (.string s) ∧ Below w.heap.size w w' := by
  refine (l1Split_any s hs w).mono ?_
  rintro e w' ⟨v, rfl, ho, hb⟩
  rw [split_none 44 _ h, List.map_cons, List.map_nil, bs_self] at ho
  obtain ⟨b, off, cap, rfl, hc, _⟩ := own_first ho
  exact ⟨b, off, cap, rfl, hc, hb⟩
theorem split_both (s : ByteArray) (hs : s.size ≤ 1048576) (w : World) (p q : List UInt8) (e1 : s.data.toList = p ++ 44 :: q) (h : (44 : UInt8) ∉ p) (h2 : (44 : UInt8) ∉ q) :
    Calls Tryz.prog 140 #[.string s, .int .u8 44] w fun e w' => ∃ b off cap, e = .returned (.slice (some ⟨b, off, none⟩) 2 cap) ∧ w'.cell? ⟨b, off, none⟩ = some (.string (bs p)) ∧ w'.cell? ⟨b, off + 1, none⟩ = some (.string (bs q)) ∧ Below w.heap.size w w' := by
  refine (l1Split_any s hs w).mono ?_
  rintro e w' ⟨v, rfl, ho, hb⟩
  rw [e1, split_hit 44 p q h, split_none 44 q h2, List.map_cons, List.map_cons, List.map_nil] at ho
  obtain ⟨b, off, cap, rfl, hc, hc2⟩ := own_first ho
  exact ⟨b, off, cap, rfl, hc, hc2 _ _ rfl, hb⟩
theorem split_many (s : ByteArray) (hs : s.size ≤ 1048576) (w : World) (p q : List UInt8) (e1 : s.data.toList = p ++ 44 :: q) (h : (44 : UInt8) ∉ p) (h2 : (44 : UInt8) ∈ q) :
    Calls Tryz.prog 140 #[.string s, .int .u8 44] w fun e w' => ∃ b off cap N, e = .returned (.slice (some ⟨b, off, none⟩) N cap) ∧ 2 < N ∧ w'.cell? ⟨b, off, none⟩ = some (.string (bs p)) ∧ Below w.heap.size w w' := by
  refine (l1Split_any s hs w).mono ?_
  rintro e w' ⟨v, rfl, ho, hb⟩
  rw [e1, split_hit 44 p q h, List.map_cons] at ho
  obtain ⟨b, off, cap, rfl, hc, _⟩ := own_first ho
  have := split_two 44 q h2
  exact ⟨b, off, cap, _, rfl, by simp; omega, hc, hb⟩

def two1000 (l : List UInt8) : Option (Nat × Nat) := (twoL l).filter fun x => decide (max x.1 x.2 ≤ 1000)

theorem one_some {s : ByteArray} {n : Nat} (h : numL s.data.toList = some n) : one (numL s.data.toList) = .tuple #[.int .i64 (n : Int), .bool true] := by rw [h]; rfl
theorem one_none {s : ByteArray} (h : numL s.data.toList = none) : one (numL s.data.toList) = .tuple #[.int .i64 0, .bool false] := by rw [h]; rfl

set_option maxHeartbeats 3200000 in
theorem l4Two_any (s : ByteArray) (hs : s.size ≤ 1048576) (w : World) :
    Calls Tryz.prog 126 #[.string s] w fun e w' => e = .returned (duo (two1000 s.data.toList)) ∧ Below w.heap.size w w' := by
  rcases split_cases 44 s.data.toList with h0 | ⟨p, q, e1, h0⟩
  · have hs2 : s.size ≤ maxLen := by unfold maxLen; omega
    have HC := Lib.hid h0
    cases hn : numL s.data.toList with
    | none =>
      have H := Lib.hid (show two1000 s.data.toList = none by unfold two1000; rw [twoL_none h0, hn]; rfl)
      have HO := Lib.hid (one_none hn)
      clear h0 hn
      go_enter Tryz.func126, Tryz.ntmps126
      go_wp2_with (first
        | (go_at_call 140; refine (split_one s hs _ HC.out).mono ?_; rintro e w1 ⟨b, off, cap, rfl, hc, b1⟩)
        | (go_at_call 141; refine (sReadNumber_any s _ hs2).mono ?_; rintro e w' ⟨rfl, rfl⟩; rw [HO.out]))
      go_ret3
      exact ⟨by rw [H.out]; rfl, b1⟩
    | some n =>
      have HO := Lib.hid (one_some hn)
      by_cases hb : n ≤ 1000
      · have H := Lib.hid (show two1000 s.data.toList = some (n, n) by unfold two1000; rw [twoL_none h0, hn]; simp [Option.filter]; omega)
        clear h0 hn
        go_enter Tryz.func126, Tryz.ntmps126
        go_wp2_with (first
          | (go_at_call 140; refine (split_one s hs _ HC.out).mono ?_; rintro e w1 ⟨b, off, cap, rfl, hc, b1⟩)
          | (go_at_call 141; refine (sReadNumber_any s _ hs2).mono ?_; rintro e w' ⟨rfl, rfl⟩; rw [HO.out]))
        go_ret3
        exact ⟨by rw [H.out]; rfl, b1⟩
      · have H := Lib.hid (show two1000 s.data.toList = none by unfold two1000; rw [twoL_none h0, hn]; simp [Option.filter]; omega)
        clear h0 hn
        go_enter Tryz.func126, Tryz.ntmps126
        go_wp2_with (first
          | (go_at_call 140; refine (split_one s hs _ HC.out).mono ?_; rintro e w1 ⟨b, off, cap, rfl, hc, b1⟩)
          | (go_at_call 141; refine (sReadNumber_any s _ hs2).mono ?_; rintro e w' ⟨rfl, rfl⟩; rw [HO.out]))
        go_ret3
        exact ⟨by rw [H.out]; rfl, b1⟩
  · have el : s.size = p.length + (q.length + 1) := by
      have := congrArg List.length e1
      simpa using this
    obtain ⟨A, hA⟩ : ∃ A, A = bs p := ⟨_, rfl⟩
    obtain ⟨B, hB⟩ : ∃ B, B = bs q := ⟨_, rfl⟩
    have sA : A.size ≤ maxLen := by rw [hA, bs_size]; unfold maxLen; omega
    have sB : B.size ≤ maxLen := by rw [hB, bs_size]; unfold maxLen; omega
    have lA : A.data.toList = p := by rw [hA, bs_list]
    have lB : B.data.toList = q := by rw [hB, bs_list]
    by_cases hq : (44 : UInt8) ∈ q
    · have H := Lib.hid (show two1000 s.data.toList = none by unfold two1000; rw [e1, twoL_hit h0, numL_comma hq]; cases numL p <;> rfl)
      have HM := Lib.hid (fun w => split_many s hs w p q e1 h0 hq)
      rw [← hA] at HM
      clear e1 h0 hq hA hB lB sB
      cases hn : numL A.data.toList with
      | none =>
        have HO := Lib.hid (one_none hn)
        clear hn lA el
        go_enter Tryz.func126, Tryz.ntmps126
        go_wp2_with (first
          | (go_at_call 140; refine (HM.out _).mono ?_; rintro e w1 ⟨b, off, cap, N, rfl, hN, hc, b1⟩; have hN0 : 0 < N := by omega)
          | (go_at_call 141; refine (sReadNumber_any A _ sA).mono ?_; rintro e w' ⟨rfl, rfl⟩; rw [HO.out]))
        go_ret3
        exact ⟨by rw [H.out]; rfl, b1⟩
      | some n =>
        have HO := Lib.hid (one_some hn)
        clear hn lA el
        go_enter Tryz.func126, Tryz.ntmps126
        go_wp2_with (first
          | (go_at_call 140; refine (HM.out _).mono ?_; rintro e w1 ⟨b, off, cap, N, rfl, hN, hc, b1⟩; have hN0 : 0 < N := by omega)
          | (go_at_call 141; refine (sReadNumber_any A _ sA).mono ?_; rintro e w' ⟨rfl, rfl⟩; rw [HO.out]))
        go_ret3
        exact ⟨by rw [H.out]; rfl, b1⟩
    · have HM := Lib.hid (fun w => split_both s hs w p q e1 h0 hq)
      rw [← hA, ← hB] at HM
      have hT : twoL s.data.toList = match numL A.data.toList, numL B.data.toList with | some n, some m => some (n, m) | _, _ => none := by rw [e1, twoL_hit h0, lA, lB]; cases numL p <;> cases numL q <;> rfl
      clear e1 h0 hq hA hB lA lB el
      cases hn : numL A.data.toList with
      | none =>
        have H := Lib.hid (show two1000 s.data.toList = none by unfold two1000; rw [hT, hn]; rfl)
        have HO := Lib.hid (one_none hn)
        clear hn hT
        go_enter Tryz.func126, Tryz.ntmps126
        go_wp2_with (first
          | (go_at_call 140; refine (HM.out _).mono ?_; rintro e w1 ⟨b, off, cap, rfl, hc, hc2, b1⟩)
          | (go_at_call 141; refine (sReadNumber_any A _ sA).mono ?_; rintro e w' ⟨rfl, rfl⟩; rw [HO.out]))
        go_ret3
        exact ⟨by rw [H.out]; rfl, b1⟩
      | some n =>
        have HO := Lib.hid (one_some hn)
        rw [hn] at hT
        by_cases hb : n ≤ 1000
        · cases hm : numL B.data.toList with
          | none =>
            rw [hm] at hT
            have H := Lib.hid (show two1000 s.data.toList = none by unfold two1000; rw [hT]; rfl)
            have HO2 := Lib.hid (one_none hm)
            clear hn hT hm
            go_enter Tryz.func126, Tryz.ntmps126
            go_wp2_with (first
              | (go_at_call 140; refine (HM.out _).mono ?_; rintro e w1 ⟨b, off, cap, rfl, hc, hc2, b1⟩)
              | (go_at_call 141; refine (sReadNumber_any _ _ (by first | exact sA | exact sB)).mono ?_; rintro e w' ⟨rfl, rfl⟩; first | rw [HO.out] | rw [HO2.out]))
            go_ret3
            exact ⟨by rw [H.out]; rfl, b1⟩
          | some m =>
            rw [hm] at hT
            have HO2 := Lib.hid (one_some hm)
            by_cases hb2 : m ≤ 1000
            · have H := Lib.hid (show two1000 s.data.toList = some (n, m) by unfold two1000; rw [hT]; simp [Option.filter]; omega)
              clear hn hT hm
              go_enter Tryz.func126, Tryz.ntmps126
              go_wp2_with (first
                | (go_at_call 140; refine (HM.out _).mono ?_; rintro e w1 ⟨b, off, cap, rfl, hc, hc2, b1⟩)
                | (go_at_call 141; refine (sReadNumber_any _ _ (by first | exact sA | exact sB)).mono ?_; rintro e w' ⟨rfl, rfl⟩; first | rw [HO.out] | rw [HO2.out]))
              go_ret3
              exact ⟨by rw [H.out]; rfl, b1⟩
            · have H := Lib.hid (show two1000 s.data.toList = none by unfold two1000; rw [hT]; simp [Option.filter]; omega)
              clear hn hT hm
              go_enter Tryz.func126, Tryz.ntmps126
              go_wp2_with (first
                | (go_at_call 140; refine (HM.out _).mono ?_; rintro e w1 ⟨b, off, cap, rfl, hc, hc2, b1⟩)
                | (go_at_call 141; refine (sReadNumber_any _ _ (by first | exact sA | exact sB)).mono ?_; rintro e w' ⟨rfl, rfl⟩; first | rw [HO.out] | rw [HO2.out]))
              go_ret3
              exact ⟨by rw [H.out]; rfl, b1⟩
        · have H := Lib.hid (show two1000 s.data.toList = none by unfold two1000; rw [hT]; cases numL B.data.toList <;> simp [Option.filter]; omega)
          clear hn hT
          go_enter Tryz.func126, Tryz.ntmps126
          go_wp2_with (first
            | (go_at_call 140; refine (HM.out _).mono ?_; rintro e w1 ⟨b, off, cap, rfl, hc, hc2, b1⟩)
            | (go_at_call 141; refine (sReadNumber_any A _ sA).mono ?_; rintro e w' ⟨rfl, rfl⟩; rw [HO.out]))
          go_ret3
          exact ⟨by rw [H.out]; rfl, b1⟩

theorem two1000_le {l : List UInt8} {n m : Nat} (h : two1000 l = some (n, m)) : twoL l = some (n, m) ∧ n ≤ 1000 ∧ m ≤ 1000 := by
  unfold two1000 at h
  rw [Option.filter_eq_some_iff] at h
  obtain ⟨h1, h2⟩ := h
  simp at h2
  exact ⟨h1, by omega, by omega⟩
theorem filter2 {α : Type} (o : Option α) (p q : α → Bool) : o.filter (fun x => p x && q x) = (o.filter p).filter q := by
  cases o with
  | none => rfl
  | some x => cases h : p x <;> cases h2 : q x <;> simp [Option.filter, h, h2]
theorem pairL_two (l : List UInt8) : pairL l = (two1000 l).filter fun x => decide (x.1 ≤ x.2) := filter2 _ _ _
theorem endL_two (l : List UInt8) : endL l = (two1000 l).filter fun x => decide (x.1 ≤ x.2 + 1) := filter2 _ _ _

set_option maxHeartbeats 800000 in
theorem sReadPair_any (s : ByteArray) (hs : s.size ≤ 1048576) (w : World) :
    Calls Tryz.prog 90 #[.string s] w fun e w' => e = .returned (duo (pairL s.data.toList)) ∧ Below w.heap.size w w' := by
  have HP := Lib.hid (pairL_two s.data.toList)
  cases h : two1000 s.data.toList with
  | none =>
    rw [h] at HP
    have HT := Lib.hid (show duo (two1000 s.data.toList) = .tuple #[.int .i64 0, .int .i64 0, .bool false] by rw [h]; rfl)
    clear h
    go_enter Tryz.func90, Tryz.ntmps90
    go_wp2_with (go_at_call 126; refine (l4Two_any s hs _).mono ?_; rintro e w1 ⟨rfl, b1⟩; rw [HT.out])
    go_ret3
    exact ⟨by rw [HP.out]; rfl, b1⟩
  | some x =>
    obtain ⟨n, m⟩ := x
    rw [h] at HP
    have hle := (two1000_le h).2
    have HT := Lib.hid (show duo (two1000 s.data.toList) = .tuple #[.int .i64 (n : Int), .int .i64 (m : Int), .bool true] by rw [h]; rfl)
    clear h
    by_cases hnm : n ≤ m
    · have H := Lib.hid (show pairL s.data.toList = some (n, m) by rw [HP.out]; simp [Option.filter, hnm])
      go_enter Tryz.func90, Tryz.ntmps90
      go_wp2_with (go_at_call 126; refine (l4Two_any s hs _).mono ?_; rintro e w1 ⟨rfl, b1⟩; rw [HT.out])
      go_ret3
      exact ⟨by rw [H.out]; rfl, b1⟩
    · have H := Lib.hid (show pairL s.data.toList = none by rw [HP.out]; simp [Option.filter, hnm])
      go_enter Tryz.func90, Tryz.ntmps90
      go_wp2_with (go_at_call 126; refine (l4Two_any s hs _).mono ?_; rintro e w1 ⟨rfl, b1⟩; rw [HT.out])
      go_ret3
      exact ⟨by rw [H.out]; rfl, b1⟩

end Go.Proofs.YtnimaadjmejmpaaGreatDoor
