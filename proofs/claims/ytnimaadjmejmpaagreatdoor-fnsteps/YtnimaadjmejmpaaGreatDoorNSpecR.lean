/-
  The model's numbers read: l1Read, ReadNumber.
-/
import Derived.Test.YtnimaadjmejmpaaGreatDoorProg
import Derived.Test.YtnimaadjmejmpaaGreatDoorStr
import Derived.Test.YtnimaadjmejmpaaGreatDoorNVars
set_option linter.unusedSimpArgs false
set_option linter.unusedVariables false
namespace Go.Proofs.YtnimaadjmejmpaaGreatDoor
open Go.RowKit M

def readI (l : List UInt8) : Int := match numTo 6 l with | some n => (n : Int) | none => -1

theorem all_take_succ (s : ByteArray) (k : Nat) (h : k < s.size) : (s.data.toList.take (k + 1)) = s.data.toList.take k ++ [s[k]'h] := by
  rw [List.take_add_one, List.getElem?_eq_getElem (by simpa using h)]
  rfl

theorem byte_head (s : ByteArray) (h : 0 < s.size) : s.data.toList.head? = some (s[0]'h) := by
  rw [List.head?_eq_getElem?, List.getElem?_eq_getElem (by simpa using h)]
  rfl

theorem readI_bad_len (s : ByteArray) (h : ¬ (1 ≤ s.size ∧ s.size ≤ 6)) : readI s.data.toList = -1 := by
  unfold readI numTo
  have : s.data.toList.length = s.size := by simp
  rw [if_neg (by rintro ⟨h1, h2, _⟩; omega)]
theorem readI_bad_head (s : ByteArray) (h0 : 0 < s.size) (h1 : (s[0]'h0).toNat = 48) (h2 : 1 < s.size) : readI s.data.toList = -1 := by
  unfold readI numTo
  have : s.data.toList.length = s.size := by simp
  have h3 : (s[0]'h0) = 48 := UInt8.toNat.inj (by simpa using h1)
  rw [if_neg (by rintro ⟨_, _, h5, _⟩; exact h5 ⟨by rw [byte_head s h0, h3], by omega⟩)]
theorem readI_bad_dig (s : ByteArray) (k : Nat) (hk : k < s.size) (h : digB (s[k]'hk) = false) : readI s.data.toList = -1 := by
  unfold readI numTo
  have hm : (s[k]'hk) ∈ s.data.toList := List.mem_of_getElem? (i := k) (by rw [List.getElem?_eq_getElem (by simpa using hk)]; rfl)
  rw [if_neg (by rintro ⟨_, _, _, h5⟩; have := List.all_eq_true.1 h5 _ hm; rw [h] at this; cases this)]
theorem readI_good (s : ByteArray) (h1 : 1 ≤ s.size) (h2 : s.size ≤ 6) (h3 : ¬ ((s[0]'h1).toNat = 48 ∧ 1 < s.size)) (h4 : s.data.toList.all digB = true) : readI s.data.toList = (valF 0 s.data.toList : Int) := by
  unfold readI numTo
  have e : s.data.toList.length = s.size := by simp
  rw [if_pos ⟨by omega, by omega, by rw [byte_head s h1, e]; rintro ⟨e1, e2⟩; exact h3 ⟨by rw [Option.some.inj e1]; rfl, e2⟩, h4⟩]

set_option maxHeartbeats 1600000 in
theorem l1Read_any (s : ByteArray) (w : World) (hs : s.size ≤ maxLen) :
    Calls Tryz.prog 149 #[.string s] w fun e w' => e = .returned (.int .i64 (readI s.data.toList)) ∧ w = w' := by
  unfold maxLen at hs
  by_cases hl : 1 ≤ s.size ∧ s.size ≤ 6
  · obtain ⟨hl1, hl2⟩ := hl
    by_cases hz : (s[0]'hl1).toNat = 48 ∧ 1 < s.size
    · have H := Lib.hid (readI_bad_head s hl1 hz.1 hz.2)
      obtain ⟨z1, z2⟩ := hz
      go_enter Tryz.func149, Tryz.ntmps149
      go_wp2_with (go_at_call 113; refine (l1In_any _ _ _ _).mono ?_; rintro e w' ⟨rfl, rfl⟩)
      go_ret
      exact ⟨ret_int H.out.symm, rfl⟩
    · have HG := Lib.hid (readI_good s hl1 hl2 hz)
      have HZ := Lib.hid hz
      have hz2 : (s[0]'hl1).toNat = 48 → ¬ 1 < s.size := fun a b => hz ⟨a, b⟩
      clear hz
      go_enter Tryz.func149, Tryz.ntmps149
      go_wp2_with (go_at_call 113; refine (l1In_any _ _ _ _).mono ?_; rintro e w' ⟨rfl, rfl⟩)
      all_goals
        go_loop [3, 4] (fun n i => ∃ k : Nat, ∃ a : Int, i = .int .i64 k ∧ n = .int .i64 a ∧ k ≤ s.size ∧ 0 ≤ a ∧ a ≤ 999999 ∧ Hid (a = (valF 0 (s.data.toList.take k) : Int) ∧ (s.data.toList.take k).all digB = true)) (fun _ i => s.size - (intOf i).toNat)
        case atStart => exact ⟨0, 0, rfl, rfl, by omega, by omega, by omega, ⟨rfl, rfl⟩⟩
        case round =>
          obtain ⟨k, a, rfl, rfl, hk, ha0, ha1, HA⟩ := hrel
          by_cases hlt : k < s.size
          · by_cases hd1 : (s[k]'hlt).toNat < 48
            · have H := Lib.hid (readI_bad_dig s k hlt (by simp [digB]; omega))
              go_wp2
              go_ret
              exact ⟨ret_int H.out.symm, rfl⟩
            · by_cases hd2 : 57 < (s[k]'hlt).toNat
              · have H := Lib.hid (readI_bad_dig s k hlt (by simp [digB]; omega))
                go_wp2
                go_ret
                exact ⟨ret_int H.out.symm, rfl⟩
              · have hsub : IntKind.u8.wrap (((s[k]'hlt).toNat : Int) - 48) = ((s[k]'hlt).toNat : Int) - 48 := by
                  simp [IntKind.wrap, IntKind.bits, IntKind.signed]; omega
                go_wp2
                go_round
                case rel =>
                  have e := all_take_succ s k hlt
                  have hv : (valF 0 (s.data.toList.take (k + 1)) : Int) = 10 * a + ((s[k]'hlt).toNat - 48) := by
                    rw [e, valF_snoc, HA.out.1]; omega
                  have hall : (s.data.toList.take (k + 1)).all digB = true := by
                    rw [e, List.all_append, HA.out.2]; simp [digB]; omega
                  have hb := val_lt _ 0 0 hall (by simp)
                  have hp : (10 : Nat) ^ (0 + (s.data.toList.take (k + 1)).length) ≤ 10 ^ 6 := Nat.pow_le_pow_right (by omega) (by simp; omega)
                  exact ⟨k + 1, 10 * a + ((s[k]'hlt).toNat - 48), by go_num, by go_num, by omega, by omega, by omega, ⟨hv.symm, hall⟩⟩
                case measure => simp [intOf]; omega
          · obtain rfl : k = s.size := by omega
            have hfull : s.data.toList.take s.size = s.data.toList := List.take_of_length_le (by simp)
            have H := Lib.hid (show readI s.data.toList = a by rw [HG.out (by rw [← hfull]; exact HA.out.2), HA.out.1, hfull])
            clear hfull
            go_wp2
            go_ret
            exact ⟨ret_int H.out.symm, rfl⟩
  · have H := Lib.hid (readI_bad_len s hl)
    go_enter Tryz.func149, Tryz.ntmps149
    go_wp2_with (go_at_call 113; refine (l1In_any _ _ _ _).mono ?_; rintro e w' ⟨rfl, rfl⟩)
    go_ret
    exact ⟨ret_int H.out.symm, rfl⟩

/-- A number and whether there is one. -/
def one (o : Option Nat) : Value := .tuple #[.int .i64 (o.getD 0 : Nat), .bool o.isSome]
/-- Two numbers and whether there are such. -/
def duo (o : Option (Nat × Nat)) : Value := .tuple #[.int .i64 (((o.getD (0, 0)).1 : Nat) : Int), .int .i64 (((o.getD (0, 0)).2 : Nat) : Int), .bool o.isSome]

theorem numL_readI {s : ByteArray} (h : s.size ≤ 4) : readI s.data.toList = match numL s.data.toList with | some n => (n : Int) | none => -1 := by
  unfold readI numL numTo
  have e : s.data.toList.length = s.size := by simp
  by_cases h1 : 1 ≤ s.data.toList.length ∧ s.data.toList.length ≤ 4 ∧ ¬ (s.data.toList.head? = some 48 ∧ 1 < s.data.toList.length) ∧ s.data.toList.all digB = true
  · rw [if_pos h1, if_pos ⟨h1.1, by omega, h1.2.2⟩]
  · rw [if_neg h1, if_neg (fun h2 => h1 ⟨h2.1, by omega, h2.2.2⟩)]
theorem numL_long {s : ByteArray} (h : 4 < s.size) : numL s.data.toList = none := by
  unfold numL numTo
  have e : s.data.toList.length = s.size := by simp
  rw [if_neg (by rintro ⟨_, h2, _⟩; omega)]

set_option maxHeartbeats 800000 in
theorem sReadNumber_any (s : ByteArray) (w : World) (hs : s.size ≤ maxLen) :
    Calls Tryz.prog 141 #[.string s] w fun e w' => e = .returned (one (numL s.data.toList)) ∧ w = w' := by
  have hs' := hs
  unfold maxLen at hs'
  by_cases h4 : s.size ≤ 4
  · have HR := Lib.hid (numL_readI h4)
    cases hn : numL s.data.toList with
    | some n =>
      rw [hn] at HR
      go_enter Tryz.func141, Tryz.ntmps141
      go_wp2_with (go_at_call 149; refine (l1Read_any _ _ hs).mono ?_; rintro e w' ⟨rfl, rfl⟩; rw [HR.out])
      go_ret2
      exact ⟨rfl, rfl⟩
    | none =>
      rw [hn] at HR
      go_enter Tryz.func141, Tryz.ntmps141
      go_wp2_with (go_at_call 149; refine (l1Read_any _ _ hs).mono ?_; rintro e w' ⟨rfl, rfl⟩; rw [HR.out])
      go_ret2
      exact ⟨rfl, rfl⟩
  · have HN := Lib.hid (numL_long (s := s) (by omega))
    obtain ⟨v, hv⟩ : ∃ v, v = readI s.data.toList := ⟨_, rfl⟩
    have HV := Lib.hid hv
    clear hv
    rw [HN.out]
    go_enter Tryz.func141, Tryz.ntmps141
    go_wp2_with (go_at_call 149; refine (l1Read_any _ _ hs).mono ?_; rintro e w' ⟨rfl, rfl⟩; rw [← HV.out])
    go_ret2
    exact ⟨rfl, rfl⟩

end Go.Proofs.YtnimaadjmejmpaaGreatDoor
