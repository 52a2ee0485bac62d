/-
  The model's texts cut at a comma: l1Split, l4Two, ReadPair, ReadEnd, ReadCount.
-/
import Derived.Test.YtnimaadjmejmpaaGreatDoorNSpecT
import Derived.Test.YtnimaadjmejmpaaGreatDoorLawT
set_option linter.unusedSimpArgs false
set_option linter.unusedVariables false
namespace Go.Proofs.YtnimaadjmejmpaaGreatDoor
open Go.RowKit M

theorem drop_parts (l : List UInt8) (f k : Nat) (h1 : f ≤ k) (h2 : k < l.length) : l.drop f = (l.drop f).take (k - f) ++ l[k] :: l.drop (k + 1) := by
  have e : l.drop k = l[k] :: l.drop (k + 1) := List.drop_eq_getElem_cons h2
  rw [← e]
  have : l.drop k = (l.drop f).drop (k - f) := by rw [List.drop_drop]; congr 1; omega
  rw [this, List.take_append_drop]

theorem mem_part {l : List UInt8} {f k : Nat} {c : UInt8} (h : c ∈ (l.drop f).take (k - f)) : ∃ j, f ≤ j ∧ j < k ∧ l[j]? = some c := by
  obtain ⟨i, hi⟩ := List.mem_iff_getElem?.1 h
  rw [List.getElem?_take] at hi
  split at hi
  · rename_i hlt
    rw [List.getElem?_drop] at hi
    exact ⟨f + i, by omega, by omega, hi⟩
  · cases hi

theorem split_step {l : List UInt8} {f k : Nat} (h1 : f ≤ k) (h2 : k < l.length) (hc : l[k] = 44) (hn : ∀ j, f ≤ j → j < k → l[j]? ≠ some 44) :
    splitB 44 (l.drop f) = ((l.drop f).take (k - f)) :: splitB 44 (l.drop (k + 1)) := by
  have e := drop_parts l f k h1 h2
  rw [hc] at e
  rw [e, split_hit 44 _ _ (fun hm => by
    obtain ⟨j, a, b, c⟩ := mem_part hm
    exact hn j a b c)]
  congr 1
  rw [← e]
theorem split_last {l : List UInt8} {f : Nat} (hn : ∀ j, f ≤ j → j < l.length → l[j]? ≠ some 44) : splitB 44 (l.drop f) = [l.drop f] := by
  refine split_none 44 _ (fun hm => ?_)
  obtain ⟨i, hi⟩ := List.mem_iff_getElem?.1 hm
  rw [List.getElem?_drop] at hi
  have hlt : f + i < l.length := by
    apply Decidable.byContradiction
    intro h
    rw [List.getElem?_eq_none (by omega)] at hi
    cases hi
  exact hn (f + i) (by omega) hlt hi

theorem extract_bs (s : ByteArray) (f k : Nat) : s.extract f k = bs ((s.data.toList.drop f).take (k - f)) := by
  apply ByteArray.ext
  apply Array.ext'
  simp [bs, ByteArray.data_extract]

theorem get_at (s : ByteArray) (k : Nat) (h : k < s.size) : s.data.toList[k]? = some (s[k]'h) := by
  rw [List.getElem?_eq_getElem (by simpa using h)]
  rfl

theorem below_of_grown {B : Nat} {a w w' : World} {v : Value} {row : Option Nat} (h : Below B a w) (g : w.grownBy w' row) (hB : B ≤ w.heap.size) (hr : ∀ b, row = some b → B ≤ b) : Below B a w' := h.grown g hB hr

set_option maxHeartbeats 1600000 in
theorem l1Split_any (s : ByteArray) (hs : s.size ≤ 1048576) (w : World) :
    Calls Tryz.prog 140 #[.string s, .int .u8 44] w fun e w' => ∃ v, e = .returned v ∧ OwnV w' w.heap.size v ((splitB 44 s.data.toList).map bs) ∧ Below w.heap.size w w' := by
  have hlen : s.data.toList.length = s.size := by simp
  have HLEN := Lib.hid hlen
  clear hlen
  go_enter Tryz.func140, Tryz.ntmps140
  go_wp2
  go_loopw [5, 6, 7] (fun o f i w' => ∃ (v : Value) (L : List (List UInt8)) (a k : Nat), v = o ∧ f = .int .i64 a ∧ i = .int .i64 k ∧ a ≤ k ∧ k ≤ s.size ∧ L.length ≤ k ∧ OwnV w' w.heap.size v (L.map bs) ∧ Below w.heap.size w w' ∧ Hid (splitB 44 s.data.toList = L ++ splitB 44 (s.data.toList.drop a)) ∧ Hid (∀ j, a ≤ j → j < k → s.data.toList[j]? ≠ some 44)) (fun _ _ i _ => s.size - (intOf i).toNat)
  case atStart => exact ⟨_, [], 0, 0, rfl, rfl, rfl, Nat.le_refl _, Nat.zero_le _, Nat.le_refl _, OwnV.nil_, Below.refl _ _, rfl, fun j _ h => by omega⟩
  case round =>
    obtain ⟨v, L, a, k, rfl, rfl, rfl, hak, hk, hL, ho, hb, HS, HN⟩ := hrel
    have hz := hb.size
    by_cases hlt : k < s.size
    · by_cases hc : (s[k]'hlt).toNat = 44
      · have hcb : ((((s[k]'hlt).toNat : Nat) : Int) == 44) = true := by simp [hc]
        have hck : (s[k]'hlt) = 44 := UInt8.toNat.inj (by simpa using hc)
        obtain ⟨X, hX⟩ : ∃ X, X = s.extract a k := ⟨_, rfl⟩
        have hXs : X.size ≤ 1048576 := by rw [hX, ByteArray.size_extract]; omega
        have HX := Lib.hid (hX.trans (extract_bs s a k))
        have HX0 := Lib.hid hX
        have hst := strs_one wr X (by unfold maxLen; omega)
        have HS2 := Lib.hid (split_step hak (by rw [HLEN.out]; exact hlt) (by have := get_at s k hlt; rw [List.getElem?_eq_getElem (by rw [HLEN.out]; exact hlt)] at this; rw [Option.some.inj this, hck]) HN.out)
        clear hc hck
        go_wp2_with (at_builtin; rw [← HX0.out]; refine app_strs (.tmp 19) (.tmp 24) w.heap.size v (L.map bs) (ho.below (below_alloc _ _)) _ 1 1 [X] hst (by simp; omega) (by simp; omega) rfl rfl rfl rfl ?_; intro v3 w3 o3 g3 p3)
        have HBL := Lib.hid ((hb.next (below_alloc wr (.cells #[Value.string X] 9))).grown g3 (by simp; omega) (fun b e => (ho.lt e).1))
        go_roundw
        case rel =>
          refine ⟨v3, L ++ [(s.data.toList.drop a).take (k - a)], k + 1, k + 1, rfl, by go_num, by go_num, Nat.le_refl _, by omega, by simp; omega, ?_, HBL.out, ?_, fun j h1 h2 => by omega⟩
          · rw [List.map_append, List.map_cons, List.map_nil, ← HX.out]; exact o3
          · exact (show _ = _ by rw [HS.out, HS2.out, List.append_assoc]; rfl)
        case measure => simp [intOf]; omega
      · have hcb : ((((s[k]'hlt).toNat : Nat) : Int) == 44) = false := by simp; omega
        go_wp2
        go_roundw
        case rel =>
          refine ⟨v, L, a, k + 1, rfl, rfl, by go_num, by omega, by omega, by omega, ho, hb, HS.out, fun j h1 h2 => ?_⟩
          by_cases e : j = k
          · subst e
            rw [get_at s j hlt]
            intro e2
            exact hc (by rw [Option.some.inj e2]; rfl)
          · exact HN.out j h1 (by omega)
        case measure => simp [intOf]; omega
    · obtain rfl : k = s.size := by omega
      obtain ⟨X, hX⟩ : ∃ X, X = s.extract a s.size := ⟨_, rfl⟩
      have hXs : X.size ≤ 1048576 := by rw [hX, ByteArray.size_extract]; omega
      have HX := Lib.hid (show X = bs (s.data.toList.drop a) by rw [hX, extract_bs, List.take_of_length_le (by rw [List.length_drop, HLEN.out]; omega)])
      have HX0 := Lib.hid hX
      have hst := strs_one wr X (by unfold maxLen; omega)
      have HS2 := Lib.hid (split_last (l := s.data.toList) (f := a) (by rw [HLEN.out]; exact HN.out))
      clear hX
      go_wp2_with (at_builtin; rw [← HX0.out]; refine app_strs (.tmp 28) (.tmp 32) w.heap.size v (L.map bs) (ho.below (below_alloc _ _)) _ 1 1 [X] hst (by simp; omega) (by simp; omega) rfl rfl rfl rfl ?_; intro v3 w3 o3 g3 p3)
      have HBL := Lib.hid ((hb.next (below_alloc wr (.cells #[Value.string X] 9))).grown g3 (by simp; omega) (fun b e => (ho.lt e).1))
      go_ret
      refine ⟨v3, rfl, ?_, HBL.out⟩
      rw [HS.out, HS2.out, List.map_append, List.map_cons, List.map_nil, ← HX.out]
      exact o3

end Go.Proofs.YtnimaadjmejmpaaGreatDoor
