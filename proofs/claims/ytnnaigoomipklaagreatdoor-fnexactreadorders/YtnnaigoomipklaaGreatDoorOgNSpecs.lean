/-
  The model's numbers read: l1Read, ReadNumber.
  The model's texts of ranges: l1Num, l4Pair, l4Count, PairText, CountText, EndText.
  Texts of ranges: the model's and the program's PairText, CountText, EndText.
  The model's texts cut at a comma: l1Split, l4Two, ReadPair, ReadEnd, ReadCount.
  The model's pairs: l4Two, ReadPair, ReadEnd, ReadCount.
  The model's ReadCount.
-/
import Derived.Test.YtnnaigoomipklaaGreatDoorProg
import Derived.Test.YtnnaigoomipklaaGreatDoorOgStr
import Derived.Test.YtnnaigoomipklaaGreatDoorOgNVars
import Derived.Test.YtnnaigoomipklaaGreatDoorOgMemT
import Derived.Deep.RegionHeld3
import Derived.Deep.RegionWith
set_option linter.unusedSimpArgs false
set_option linter.unusedVariables false
namespace Go.Proofs.YtnnaigoomipklaaGreatDoor
open Go.RowKit M

def readI (l : List UInt8) : Int := match numTo 6 l with | some n => (n : Int) | none => -1

theorem all_take_succ (s : ByteArray) (k : Nat) (h : k < s.size) : (s.data.toList.take (k + 1)) = s.data.toList.take k ++ [s[k]'h] := by
  rw [List.take_add_one, List.getElem?_eq_getElem (by simpa using h)]
  rfl

theorem byte_head (s : ByteArray) (h : 0 < s.size) : s.data.toList.head? = some (s[0]'h) := by
  rw [List.head?_eq_getElem?, List.getElem?_eq_getElem (by simpa using h)]
  rfl

theorem readI_bad_len (s : ByteArray) (h : ¬ (1 ≤ s.size ∧ s.size ≤ 6)) : readI s.data.toList = -1 := by
  unfold readI numTo
  have : s.data.toList.length = s.size := by simp
  rw [if_neg (by rintro ⟨h1, h2, _⟩; omega)]
theorem readI_bad_head (s : ByteArray) (h0 : 0 < s.size) (h1 : (s[0]'h0).toNat = 48) (h2 : 1 < s.size) : readI s.data.toList = -1 := by
  unfold readI numTo
  have : s.data.toList.length = s.size := by simp
  have h3 : (s[0]'h0) = 48 := UInt8.toNat.inj (by simpa using h1)
  rw [if_neg (by rintro ⟨_, _, h5, _⟩; exact h5 ⟨by rw [byte_head s h0, h3], by omega⟩)]
theorem readI_bad_dig (s : ByteArray) (k : Nat) (hk : k < s.size) (h : digB (s[k]'hk) = false) : readI s.data.toList = -1 := by
  unfold readI numTo
  have hm : (s[k]'hk) ∈ s.data.toList := List.mem_of_getElem? (i := k) (by rw [List.getElem?_eq_getElem (by simpa using hk)]; rfl)
  rw [if_neg (by rintro ⟨_, _, _, h5⟩; have := List.all_eq_true.1 h5 _ hm; rw [h] at this; cases this)]
theorem readI_good (s : ByteArray) (h1 : 1 ≤ s.size) (h2 : s.size ≤ 6) (h3 : ¬ ((s[0]'h1).toNat = 48 ∧ 1 < s.size)) (h4 : s.data.toList.all digB = true) : readI s.data.toList = (valF 0 s.data.toList : Int) := by
  unfold readI numTo
  have e : s.data.toList.length = s.size := by simp
  rw [if_pos ⟨by omega, by omega, by rw [byte_head s h1, e]; rintro ⟨e1, e2⟩; exact h3 ⟨by rw [Option.some.inj e1]; rfl, e2⟩, h4⟩]

set_option maxHeartbeats 1600000 in
theorem l1Read_any (s : ByteArray) (w : World) (hs : s.size ≤ maxLen) :
    Calls Tryz.prog 229 #[.string s] w fun e w' => e = .returned (.int .i64 (readI s.data.toList)) ∧ w = w' := by
  unfold maxLen at hs
  by_cases hl : 1 ≤ s.size ∧ s.size ≤ 6
  · obtain ⟨hl1, hl2⟩ := hl
    by_cases hz : (s[0]'hl1).toNat = 48 ∧ 1 < s.size
    · have H := Lib.hid (readI_bad_head s hl1 hz.1 hz.2)
      obtain ⟨z1, z2⟩ := hz
      go_enter Tryz.func229, Tryz.ntmps229
      go_wp2_with (go_at_call 175; refine (l1In_any _ _ _ _).mono ?_; rintro e w' ⟨rfl, rfl⟩)
      go_ret
      exact ⟨ret_int H.out.symm, rfl⟩
    · have HG := Lib.hid (readI_good s hl1 hl2 hz)
      have HZ := Lib.hid hz
      have hz2 : (s[0]'hl1).toNat = 48 → ¬ 1 < s.size := fun a b => hz ⟨a, b⟩
      clear hz
      go_enter Tryz.func229, Tryz.ntmps229
      go_wp2_with (go_at_call 175; refine (l1In_any _ _ _ _).mono ?_; rintro e w' ⟨rfl, rfl⟩)
      all_goals
        go_loop [3, 4] (fun n i => ∃ k : Nat, ∃ a : Int, i = .int .i64 k ∧ n = .int .i64 a ∧ k ≤ s.size ∧ 0 ≤ a ∧ a ≤ 999999 ∧ Hid (a = (valF 0 (s.data.toList.take k) : Int) ∧ (s.data.toList.take k).all digB = true)) (fun _ i => s.size - (intOf i).toNat)
        case atStart => exact ⟨0, 0, rfl, rfl, by omega, by omega, by omega, ⟨rfl, rfl⟩⟩
        case round =>
          obtain ⟨k, a, rfl, rfl, hk, ha0, ha1, HA⟩ := hrel
          by_cases hlt : k < s.size
          · by_cases hd1 : (s[k]'hlt).toNat < 48
            · have H := Lib.hid (readI_bad_dig s k hlt (by simp [digB]; omega))
              go_wp2
              go_ret
              exact ⟨ret_int H.out.symm, rfl⟩
            · by_cases hd2 : 57 < (s[k]'hlt).toNat
              · have H := Lib.hid (readI_bad_dig s k hlt (by simp [digB]; omega))
                go_wp2
                go_ret
                exact ⟨ret_int H.out.symm, rfl⟩
              · have hsub : IntKind.u8.wrap (((s[k]'hlt).toNat : Int) - 48) = ((s[k]'hlt).toNat : Int) - 48 := by
                  simp [IntKind.wrap, IntKind.bits, IntKind.signed]; omega
                go_wp2
                go_round
                case rel =>
                  have e := all_take_succ s k hlt
                  have hv : (valF 0 (s.data.toList.take (k + 1)) : Int) = 10 * a + ((s[k]'hlt).toNat - 48) := by
                    rw [e, valF_snoc, HA.out.1]; omega
                  have hall : (s.data.toList.take (k + 1)).all digB = true := by
                    rw [e, List.all_append, HA.out.2]; simp [digB]; omega
                  have hb := val_lt _ 0 0 hall (by simp)
                  have hp : (10 : Nat) ^ (0 + (s.data.toList.take (k + 1)).length) ≤ 10 ^ 6 := Nat.pow_le_pow_right (by omega) (by simp; omega)
                  exact ⟨k + 1, 10 * a + ((s[k]'hlt).toNat - 48), by go_num, by go_num, by omega, by omega, by omega, ⟨hv.symm, hall⟩⟩
                case measure => simp [intOf]; omega
          · obtain rfl : k = s.size := by omega
            have hfull : s.data.toList.take s.size = s.data.toList := List.take_of_length_le (by simp)
            have H := Lib.hid (show readI s.data.toList = a by rw [HG.out (by rw [← hfull]; exact HA.out.2), HA.out.1, hfull])
            clear hfull
            go_wp2
            go_ret
            exact ⟨ret_int H.out.symm, rfl⟩
  · have H := Lib.hid (readI_bad_len s hl)
    go_enter Tryz.func229, Tryz.ntmps229
    go_wp2_with (go_at_call 175; refine (l1In_any _ _ _ _).mono ?_; rintro e w' ⟨rfl, rfl⟩)
    go_ret
    exact ⟨ret_int H.out.symm, rfl⟩

/-- A number and whether there is one. -/
def one (o : Option Nat) : Value := .tuple #[.int .i64 (o.getD 0 : Nat), .bool o.isSome]
/-- Two numbers and whether there are such. -/
def duo (o : Option (Nat × Nat)) : Value := .tuple #[.int .i64 (((o.getD (0, 0)).1 : Nat) : Int), .int .i64 (((o.getD (0, 0)).2 : Nat) : Int), .bool o.isSome]

theorem numL_readI {s : ByteArray} (h : s.size ≤ 4) : readI s.data.toList = match numL s.data.toList with | some n => (n : Int) | none => -1 := by
  unfold readI numL numTo
  have e : s.data.toList.length = s.size := by simp
  by_cases h1 : 1 ≤ s.data.toList.length ∧ s.data.toList.length ≤ 4 ∧ ¬ (s.data.toList.head? = some 48 ∧ 1 < s.data.toList.length) ∧ s.data.toList.all digB = true
  · rw [if_pos h1, if_pos ⟨h1.1, by omega, h1.2.2⟩]
  · rw [if_neg h1, if_neg (fun h2 => h1 ⟨h2.1, by omega, h2.2.2⟩)]
theorem numL_long {s : ByteArray} (h : 4 < s.size) : numL s.data.toList = none := by
  unfold numL numTo
  have e : s.data.toList.length = s.size := by simp
  rw [if_neg (by rintro ⟨_, h2, _⟩; omega)]

set_option maxHeartbeats 800000 in
theorem sReadNumber_any (s : ByteArray) (w : World) (hs : s.size ≤ maxLen) :
    Calls Tryz.prog 214 #[.string s] w fun e w' => e = .returned (one (numL s.data.toList)) ∧ w = w' := by
  have hs' := hs
  unfold maxLen at hs'
  by_cases h4 : s.size ≤ 4
  · have HR := Lib.hid (numL_readI h4)
    cases hn : numL s.data.toList with
    | some n =>
      rw [hn] at HR
      go_enter Tryz.func214, Tryz.ntmps214
      go_wp2_with (go_at_call 229; refine (l1Read_any _ _ hs).mono ?_; rintro e w' ⟨rfl, rfl⟩; rw [HR.out])
      go_ret2
      exact ⟨rfl, rfl⟩
    | none =>
      rw [hn] at HR
      go_enter Tryz.func214, Tryz.ntmps214
      go_wp2_with (go_at_call 229; refine (l1Read_any _ _ hs).mono ?_; rintro e w' ⟨rfl, rfl⟩; rw [HR.out])
      go_ret2
      exact ⟨rfl, rfl⟩
  · have HN := Lib.hid (numL_long (s := s) (by omega))
    obtain ⟨v, hv⟩ : ∃ v, v = readI s.data.toList := ⟨_, rfl⟩
    have HV := Lib.hid hv
    clear hv
    rw [HN.out]
    go_enter Tryz.func214, Tryz.ntmps214
    go_wp2_with (go_at_call 229; refine (l1Read_any _ _ hs).mono ?_; rintro e w' ⟨rfl, rfl⟩; rw [← HV.out])
    go_ret2
    exact ⟨rfl, rfl⟩

end Go.Proofs.YtnnaigoomipklaaGreatDoor

namespace Go.Proofs.YtnnaigoomipklaaGreatDoor
open Go.RowKit M

theorem conv_below {w1 w' : World} {g : Nat} {x : Int} (h : w1.heap[g]? = some (.cells #[.int .u8 x] 5 (0, 0))) (hb : Below w1.heap.size w1 w') :
    (convert 22 9 (.slice (some ⟨g, 0, none⟩) 1 1)).run Tryz.prog w' = .ok (.string ⟨#[UInt8.ofNat x.toNat]⟩) w' := by
  have hlt : g < w1.heap.size := by
    apply Decidable.byContradiction
    intro h'
    rw [Array.getElem?_eq_none (by omega)] at h
    cases h
  rw [run_convert_bytes_string _ _ _ 5 _ _ _ Tryz.underlying22 Tryz.underlying5 Tryz.underlying9]
  have h2 := run_loadCells_list (P := Tryz.prog) (w := w') ⟨g, 0, none⟩ [.int .u8 x] (by
    intro k v hk
    have hh : w'.heap[g]? = _ := (hb.block g hlt).trans h
    cases k with
    | zero => simp at hk; subst hk; simp [World.cell?, hh, Addr.add]
    | succ k => simp at hk)
  exact run_bytesToString _ _ 1 1 [x] (by simpa using h2)

theorem dig_conv (n : Nat) (d : Int) (h : n < 10) (hd : d = 48 + (n : Int)) : (⟨#[UInt8.ofNat d.toNat]⟩ : ByteArray) = bs [UInt8.ofNat (48 + n)] := by
  subst hd
  rw [show (48 + (n : Int)).toNat = 48 + n by omega]; rfl

set_option maxRecDepth 100000 in
set_option maxHeartbeats 1600000 in
theorem l1Num_any (n : Nat) : n ≤ 100000 → ∀ w : World,
    Calls Tryz.prog 177 #[.int .i64 (n : Int)] w fun e w' => e = .returned (.string (bs (Lib.decDigits n))) ∧ Below w.heap.size w w' := by
  induction n using Nat.strongRecOn with
  | _ n ih =>
    intro hn w
    have IH := Lib.hid ih
    clear ih
    obtain ⟨N, hN⟩ : ∃ N : Int, N = (n : Int) := ⟨_, rfl⟩
    by_cases h : n < 10
    · have H := Lib.hid (dec_small h)
      obtain ⟨d, hd⟩ : ∃ d : Int, d = 48 + (n : Int) := ⟨_, rfl⟩
      have H2 := Lib.hid (dig_conv n d h hd)
      have hcv := conv_one d w
      have hw1 : IntKind.i64.wrap (48 + N) = d := by simp [IntKind.wrap, IntKind.bits, IntKind.signed]; omega
      have hw2 : IntKind.u8.wrap d = d := by simp [IntKind.wrap, IntKind.bits, IntKind.signed]; omega
      have hlt : N < 10 := by omega
      rw [← hN]
      clear hd hN hn
      go_enter Tryz.func177, Tryz.ntmps177
      go_wp2
      go_ret
      exact ⟨ret_str (by rw [H.out, ← H2.out]), below_alloc _ _⟩
    · have H := Lib.hid (dec_big h)
      obtain ⟨q, hq⟩ : ∃ q : Nat, q = n / 10 := ⟨_, rfl⟩
      obtain ⟨d, hd⟩ : ∃ d : Int, d = 48 + ((n % 10 : Nat) : Int) := ⟨_, rfl⟩
      have H2 := Lib.hid (dig_conv (n % 10) d (Nat.mod_lt _ (by omega)) hd)
      have HQ := Lib.hid hq
      have hcv := fun w => conv_one d w
      have hcv3 := conv_below (w1 := (w.alloc (.cells #[.int .u8 d] 5)).drew) (g := w.heap.size) (heap_alloc_new w _) (Below.refl _ _)
      have hw1 : IntKind.i64.wrap (N / 10) = (q : Int) := by simp [IntKind.wrap, IntKind.bits, IntKind.signed]; omega
      have hw4 : IntKind.i64.wrap (N.tdiv 10) = (q : Int) := by rw [Int.tdiv_eq_ediv_of_nonneg (by omega)]; exact hw1
      have hw3 : IntKind.i64.wrap (48 + N.tmod 10) = d := by
        rw [Int.tmod_eq_emod_of_nonneg (by omega)]
        simp [IntKind.wrap, IntKind.bits, IntKind.signed]; omega
      have hw2 : IntKind.u8.wrap d = d := by simp [IntKind.wrap, IntKind.bits, IntKind.signed]; omega
      have hlt : ¬ N < 10 := by omega
      have IQ := Lib.hid (IH.out q (by omega) (by omega))
      have hsz := dec_len 4 q (by simp; omega)
      have hsz2 : (9223372036854775807 < (bs (Lib.decDigits q)).size + 1) = False := eq_false (by rw [bs_size]; omega)
      rw [← hN]
      clear hd hN hn hq
      go_enter Tryz.func177, Tryz.ntmps177
      go_wp2_with fail
      go_region_with (go_at_call 177; refine (IQ.out _).mono ?_; rintro e w' ⟨rfl, hb⟩; try have hcv2 := conv_below (w1 := (w.alloc (.cells #[.int .u8 d] 5)).drew) (g := w.heap.size) (heap_alloc_new w _) hb)
      all_goals go_wp2
      all_goals go_ret
      all_goals refine ⟨ret_str (by rw [H.out, ← HQ.out, ← bs_app, ← H2.out]), ?_⟩
      · exact ((Below.refl _ w).drew.next hb).next (below_alloc _ _)
      · exact (below_alloc w _).drew.next hb
      · exact (below_alloc w _).drew.next hb

theorem dec_room (a b : Nat) (ha : a ≤ 100000) (hb : b ≤ 100000) : (bs (Lib.decDigits a)).size ≤ 6 ∧ (bs (Lib.decDigits b)).size ≤ 6 := by
  rw [bs_size, bs_size]
  exact ⟨dec_len 5 a (by simp; omega), dec_len 5 b (by simp; omega)⟩

/-- A numeral, a comma and a numeral. -/
theorem comma_text (l r : List UInt8) : bs l ++ ((⟨#[44]⟩ : ByteArray) ++ bs r) = bs (l ++ 44 :: r) := by
  rw [show (⟨#[44]⟩ : ByteArray) = bs [44] from rfl, bs_app, bs_app]; rfl

end Go.Proofs.YtnnaigoomipklaaGreatDoor

namespace Go.Proofs.YtnnaigoomipklaaGreatDoor
open Go.RowKit M

theorem drop_parts (l : List UInt8) (f k : Nat) (h1 : f ≤ k) (h2 : k < l.length) : l.drop f = (l.drop f).take (k - f) ++ l[k] :: l.drop (k + 1) := by
  have e : l.drop k = l[k] :: l.drop (k + 1) := List.drop_eq_getElem_cons h2
  rw [← e]
  have : l.drop k = (l.drop f).drop (k - f) := by rw [List.drop_drop]; congr 1; omega
  rw [this, List.take_append_drop]

theorem mem_part {l : List UInt8} {f k : Nat} {c : UInt8} (h : c ∈ (l.drop f).take (k - f)) : ∃ j, f ≤ j ∧ j < k ∧ l[j]? = some c := by
  obtain ⟨i, hi⟩ := List.mem_iff_getElem?.1 h
  rw [List.getElem?_take] at hi
  split at hi
  · rename_i hlt
    rw [List.getElem?_drop] at hi
    exact ⟨f + i, by omega, by omega, hi⟩
  · cases hi

theorem split_step {l : List UInt8} {f k : Nat} (h1 : f ≤ k) (h2 : k < l.length) (hc : l[k] = 44) (hn : ∀ j, f ≤ j → j < k → l[j]? ≠ some 44) :
    splitB 44 (l.drop f) = ((l.drop f).take (k - f)) :: splitB 44 (l.drop (k + 1)) := by
  have e := drop_parts l f k h1 h2
  rw [hc] at e
  rw [e, split_hit 44 _ _ (fun hm => by
    obtain ⟨j, a, b, c⟩ := mem_part hm
    exact hn j a b c)]
  congr 1
  rw [← e]
theorem split_last {l : List UInt8} {f : Nat} (hn : ∀ j, f ≤ j → j < l.length → l[j]? ≠ some 44) : splitB 44 (l.drop f) = [l.drop f] := by
  refine split_none 44 _ (fun hm => ?_)
  obtain ⟨i, hi⟩ := List.mem_iff_getElem?.1 hm
  rw [List.getElem?_drop] at hi
  have hlt : f + i < l.length := by
    apply Decidable.byContradiction
    intro h
    rw [List.getElem?_eq_none (by omega)] at hi
    cases hi
  exact hn (f + i) (by omega) hlt hi

theorem extract_bs (s : ByteArray) (f k : Nat) : s.extract f k = bs ((s.data.toList.drop f).take (k - f)) := by
  apply ByteArray.ext
  apply Array.ext'
  simp [bs, ByteArray.data_extract]

theorem get_at (s : ByteArray) (k : Nat) (h : k < s.size) : s.data.toList[k]? = some (s[k]'h) := by
  rw [List.getElem?_eq_getElem (by simpa using h)]
  rfl

set_option maxHeartbeats 1600000 in
theorem l1Split_any (s : ByteArray) (hs : s.size ≤ 1048576) (w : World) :
    Calls Tryz.prog 213 #[.string s, .int .u8 44] w fun e w' => ∃ v, e = .returned v ∧ OwnV w' w.heap.size v ((splitB 44 s.data.toList).map bs) ∧ Below w.heap.size w w' := by
  have hlen : s.data.toList.length = s.size := by simp
  have HLEN := Lib.hid hlen
  clear hlen
  go_enter Tryz.func213, Tryz.ntmps213
  go_wp2
  go_loopw [5, 6, 7] (fun o f i w' => ∃ (v : Value) (L : List (List UInt8)) (a k : Nat), v = o ∧ f = .int .i64 a ∧ i = .int .i64 k ∧ a ≤ k ∧ k ≤ s.size ∧ L.length ≤ k ∧ OwnV w' w.heap.size v (L.map bs) ∧ Below w.heap.size w w' ∧ Hid (splitB 44 s.data.toList = L ++ splitB 44 (s.data.toList.drop a)) ∧ Hid (∀ j, a ≤ j → j < k → s.data.toList[j]? ≠ some 44)) (fun _ _ i _ => s.size - (intOf i).toNat)
  case atStart => exact ⟨_, [], 0, 0, rfl, rfl, rfl, Nat.le_refl _, Nat.zero_le _, Nat.le_refl _, OwnV.nil_, Below.refl _ _, rfl, fun j _ h => by omega⟩
  case round =>
    obtain ⟨v, L, a, k, rfl, rfl, rfl, hak, hk, hL, ho, hb, HS, HN⟩ := hrel
    have hz := hb.size
    by_cases hlt : k < s.size
    · by_cases hc : (s[k]'hlt).toNat = 44
      · have hcb : ((((s[k]'hlt).toNat : Nat) : Int) == 44) = true := by simp [hc]
        have hck : (s[k]'hlt) = 44 := UInt8.toNat.inj (by simpa using hc)
        obtain ⟨X, hX⟩ : ∃ X, X = s.extract a k := ⟨_, rfl⟩
        have hXs : X.size ≤ 1048576 := by rw [hX, ByteArray.size_extract]; omega
        have HX := Lib.hid (hX.trans (extract_bs s a k))
        have HX0 := Lib.hid hX
        have hst := strs_one wr X (by unfold maxLen; omega)
        have HS2 := Lib.hid (split_step hak (by rw [HLEN.out]; exact hlt) (by have := get_at s k hlt; rw [List.getElem?_eq_getElem (by rw [HLEN.out]; exact hlt)] at this; rw [Option.some.inj this, hck]) HN.out)
        clear hc hck
        go_wp2_with (at_builtin; rw [← HX0.out]; refine app_strs (.tmp 19) (.tmp 24) w.heap.size v (L.map bs) (ho.below (below_alloc _ _)) _ 1 1 [X] hst (by simp; omega) (by simp; omega) rfl rfl rfl rfl ?_; intro v3 w3 o3 g3 p3)
        have HBL := Lib.hid ((hb.next (below_alloc wr (.cells #[Value.string X] 9))).grown g3 (by simp; omega) (fun b e => (ho.lt e).1))
        go_roundw
        case rel =>
          refine ⟨v3, L ++ [(s.data.toList.drop a).take (k - a)], k + 1, k + 1, rfl, by go_num, by go_num, Nat.le_refl _, by omega, by simp; omega, ?_, HBL.out, ?_, fun j h1 h2 => by omega⟩
          · rw [List.map_append, List.map_cons, List.map_nil, ← HX.out]; exact o3
          · exact (show _ = _ by rw [HS.out, HS2.out, List.append_assoc]; rfl)
        case measure => simp [intOf]; omega
      · have hcb : ((((s[k]'hlt).toNat : Nat) : Int) == 44) = false := by simp; omega
        go_wp2
        go_roundw
        case rel =>
          refine ⟨v, L, a, k + 1, rfl, rfl, by go_num, by omega, by omega, by omega, ho, hb, HS.out, fun j h1 h2 => ?_⟩
          by_cases e : j = k
          · subst e
            rw [get_at s j hlt]
            intro e2
            exact hc (by rw [Option.some.inj e2]; rfl)
          · exact HN.out j h1 (by omega)
        case measure => simp [intOf]; omega
    · obtain rfl : k = s.size := by omega
      obtain ⟨X, hX⟩ : ∃ X, X = s.extract a s.size := ⟨_, rfl⟩
      have hXs : X.size ≤ 1048576 := by rw [hX, ByteArray.size_extract]; omega
      have HX := Lib.hid (show X = bs (s.data.toList.drop a) by rw [hX, extract_bs, List.take_of_length_le (by rw [List.length_drop, HLEN.out]; omega)])
      have HX0 := Lib.hid hX
      have hst := strs_one wr X (by unfold maxLen; omega)
      have HS2 := Lib.hid (split_last (l := s.data.toList) (f := a) (by rw [HLEN.out]; exact HN.out))
      clear hX
      go_wp2_with (at_builtin; rw [← HX0.out]; refine app_strs (.tmp 28) (.tmp 32) w.heap.size v (L.map bs) (ho.below (below_alloc _ _)) _ 1 1 [X] hst (by simp; omega) (by simp; omega) rfl rfl rfl rfl ?_; intro v3 w3 o3 g3 p3)
      have HBL := Lib.hid ((hb.next (below_alloc wr (.cells #[Value.string X] 9))).grown g3 (by simp; omega) (fun b e => (ho.lt e).1))
      go_ret
      refine ⟨v3, rfl, ?_, HBL.out⟩
      rw [HS.out, HS2.out, List.map_append, List.map_cons, List.map_nil, ← HX.out]
      exact o3

end Go.Proofs.YtnnaigoomipklaaGreatDoor

namespace Go.Proofs.YtnnaigoomipklaaGreatDoor
open Go.RowKit M

theorem own_first {w : World} {base : Nat} {v : Value} {x : ByteArray} {r : List ByteArray} (h : OwnV w base v (x :: r)) :
    ∃ b off cap, v = .slice (some ⟨b, off, none⟩) (r.length + 1) cap ∧ w.cell? ⟨b, off, none⟩ = some (.string x) ∧ ∀ y r', r = y :: r' → w.cell? ⟨b, off + 1, none⟩ = some (.string y) := by
  obtain ⟨A, cap, rfl, h1, h2⟩ := h.form (n := r.length + 1) (by simp)
  have hs := h.strs
  obtain ⟨b, off, rfl, hc⟩ := hs.cell 0 x rfl
  refine ⟨b, off, cap, rfl, by simpa using hc, ?_⟩
  rintro y r' rfl
  obtain ⟨b', off', e, hc'⟩ := hs.cell 1 y rfl
  injection e with e
  injection e with e1 e2
  subst e1 e2
  exact hc'

/-- The three ways in which a text is cut at commas. -/
theorem split_one (s : ByteArray) (hs : s.size ≤ 1048576) (w : World) (h : (44 : UInt8) ∉ s.data.toList) :
    Calls Tryz.prog 213 #[.string s, .int .u8 44] w fun e w' => ∃ b off cap, e = .returned (.slice (some ⟨b, off, none⟩) 1 cap) ∧ w'.cell? ⟨b, off, none⟩ = some (.string s) ∧ Below w.heap.size w w' := by
  refine (l1Split_any s hs w).mono ?_
  rintro e w' ⟨v, rfl, ho, hb⟩
  rw [split_none 44 _ h, List.map_cons, List.map_nil, bs_self] at ho
  obtain ⟨b, off, cap, rfl, hc, _⟩ := own_first ho
  exact ⟨b, off, cap, rfl, hc, hb⟩
theorem split_both (s : ByteArray) (hs : s.size ≤ 1048576) (w : World) (p q : List UInt8) (e1 : s.data.toList = p ++ 44 :: q) (h : (44 : UInt8) ∉ p) (h2 : (44 : UInt8) ∉ q) :
    Calls Tryz.prog 213 #[.string s, .int .u8 44] w fun e w' => ∃ b off cap, e = .returned (.slice (some ⟨b, off, none⟩) 2 cap) ∧ w'.cell? ⟨b, off, none⟩ = some (.string (bs p)) ∧ w'.cell? ⟨b, off + 1, none⟩ = some (.string (bs q)) ∧ Below w.heap.size w w' := by
  refine (l1Split_any s hs w).mono ?_
  rintro e w' ⟨v, rfl, ho, hb⟩
  rw [e1, split_hit 44 p q h, split_none 44 q h2, List.map_cons, List.map_cons, List.map_nil] at ho
  obtain ⟨b, off, cap, rfl, hc, hc2⟩ := own_first ho
  exact ⟨b, off, cap, rfl, hc, hc2 _ _ rfl, hb⟩
theorem split_many (s : ByteArray) (hs : s.size ≤ 1048576) (w : World) (p q : List UInt8) (e1 : s.data.toList = p ++ 44 :: q) (h : (44 : UInt8) ∉ p) (h2 : (44 : UInt8) ∈ q) :
    Calls Tryz.prog 213 #[.string s, .int .u8 44] w fun e w' => ∃ b off cap N, e = .returned (.slice (some ⟨b, off, none⟩) N cap) ∧ 2 < N ∧ w'.cell? ⟨b, off, none⟩ = some (.string (bs p)) ∧ Below w.heap.size w w' := by
  refine (l1Split_any s hs w).mono ?_
  rintro e w' ⟨v, rfl, ho, hb⟩
  rw [e1, split_hit 44 p q h, List.map_cons] at ho
  obtain ⟨b, off, cap, rfl, hc, _⟩ := own_first ho
  have := split_two 44 q h2
  exact ⟨b, off, cap, _, rfl, by simp; omega, hc, hb⟩

def two1000 (l : List UInt8) : Option (Nat × Nat) := (twoL l).filter fun x => decide (max x.1 x.2 ≤ 1000)

theorem one_some {s : ByteArray} {n : Nat} (h : numL s.data.toList = some n) : one (numL s.data.toList) = .tuple #[.int .i64 (n : Int), .bool true] := by rw [h]; rfl
theorem one_none {s : ByteArray} (h : numL s.data.toList = none) : one (numL s.data.toList) = .tuple #[.int .i64 0, .bool false] := by rw [h]; rfl

set_option maxHeartbeats 3200000 in
theorem l4Two_any (s : ByteArray) (hs : s.size ≤ 1048576) (w : World) :
    Calls Tryz.prog 183 #[.string s] w fun e w' => e = .returned (duo (two1000 s.data.toList)) ∧ Below w.heap.size w w' := by
  rcases split_cases 44 s.data.toList with h0 | ⟨p, q, e1, h0⟩
  · have hs2 : s.size ≤ maxLen := by unfold maxLen; omega
    have HC := Lib.hid h0
    cases hn : numL s.data.toList with
    | none =>
      have H := Lib.hid (show two1000 s.data.toList = none by unfold two1000; rw [twoL_none h0, hn]; rfl)
      have HO := Lib.hid (one_none hn)
      clear h0 hn
      go_enter Tryz.func183, Tryz.ntmps183
      go_wp2_with (first
        | (go_at_call 213; refine (split_one s hs _ HC.out).mono ?_; rintro e w1 ⟨b, off, cap, rfl, hc, b1⟩)
        | (go_at_call 214; refine (sReadNumber_any s _ hs2).mono ?_; rintro e w' ⟨rfl, rfl⟩; rw [HO.out]))
      go_ret3
      exact ⟨by rw [H.out]; rfl, b1⟩
    | some n =>
      have HO := Lib.hid (one_some hn)
      by_cases hb : n ≤ 1000
      · have H := Lib.hid (show two1000 s.data.toList = some (n, n) by unfold two1000; rw [twoL_none h0, hn]; simp [Option.filter]; omega)
        clear h0 hn
        go_enter Tryz.func183, Tryz.ntmps183
        go_wp2_with (first
          | (go_at_call 213; refine (split_one s hs _ HC.out).mono ?_; rintro e w1 ⟨b, off, cap, rfl, hc, b1⟩)
          | (go_at_call 214; refine (sReadNumber_any s _ hs2).mono ?_; rintro e w' ⟨rfl, rfl⟩; rw [HO.out]))
        go_ret3
        exact ⟨by rw [H.out]; rfl, b1⟩
      · have H := Lib.hid (show two1000 s.data.toList = none by unfold two1000; rw [twoL_none h0, hn]; simp [Option.filter]; omega)
        clear h0 hn
        go_enter Tryz.func183, Tryz.ntmps183
        go_wp2_with (first
          | (go_at_call 213; refine (split_one s hs _ HC.out).mono ?_; rintro e w1 ⟨b, off, cap, rfl, hc, b1⟩)
          | (go_at_call 214; refine (sReadNumber_any s _ hs2).mono ?_; rintro e w' ⟨rfl, rfl⟩; rw [HO.out]))
        go_ret3
        exact ⟨by rw [H.out]; rfl, b1⟩
  · have el : s.size = p.length + (q.length + 1) := by
      have := congrArg List.length e1
      simpa using this
    obtain ⟨A, hA⟩ : ∃ A, A = bs p := ⟨_, rfl⟩
    obtain ⟨B, hB⟩ : ∃ B, B = bs q := ⟨_, rfl⟩
    have sA : A.size ≤ maxLen := by rw [hA, bs_size]; unfold maxLen; omega
    have sB : B.size ≤ maxLen := by rw [hB, bs_size]; unfold maxLen; omega
    have lA : A.data.toList = p := by rw [hA, bs_list]
    have lB : B.data.toList = q := by rw [hB, bs_list]
    by_cases hq : (44 : UInt8) ∈ q
    · have H := Lib.hid (show two1000 s.data.toList = none by unfold two1000; rw [e1, twoL_hit h0, numL_comma hq]; cases numL p <;> rfl)
      have HM := Lib.hid (fun w => split_many s hs w p q e1 h0 hq)
      rw [← hA] at HM
      clear e1 h0 hq hA hB lB sB
      cases hn : numL A.data.toList with
      | none =>
        have HO := Lib.hid (one_none hn)
        clear hn lA el
        go_enter Tryz.func183, Tryz.ntmps183
        go_wp2_with (first
          | (go_at_call 213; refine (HM.out _).mono ?_; rintro e w1 ⟨b, off, cap, N, rfl, hN, hc, b1⟩; have hN0 : 0 < N := by omega)
          | (go_at_call 214; refine (sReadNumber_any A _ sA).mono ?_; rintro e w' ⟨rfl, rfl⟩; rw [HO.out]))
        go_ret3
        exact ⟨by rw [H.out]; rfl, b1⟩
      | some n =>
        have HO := Lib.hid (one_some hn)
        clear hn lA el
        go_enter Tryz.func183, Tryz.ntmps183
        go_wp2_with (first
          | (go_at_call 213; refine (HM.out _).mono ?_; rintro e w1 ⟨b, off, cap, N, rfl, hN, hc, b1⟩; have hN0 : 0 < N := by omega)
          | (go_at_call 214; refine (sReadNumber_any A _ sA).mono ?_; rintro e w' ⟨rfl, rfl⟩; rw [HO.out]))
        go_ret3
        exact ⟨by rw [H.out]; rfl, b1⟩
    · have HM := Lib.hid (fun w => split_both s hs w p q e1 h0 hq)
      rw [← hA, ← hB] at HM
      have hT : twoL s.data.toList = match numL A.data.toList, numL B.data.toList with | some n, some m => some (n, m) | _, _ => none := by rw [e1, twoL_hit h0, lA, lB]; cases numL p <;> cases numL q <;> rfl
      clear e1 h0 hq hA hB lA lB el
      cases hn : numL A.data.toList with
      | none =>
        have H := Lib.hid (show two1000 s.data.toList = none by unfold two1000; rw [hT, hn]; rfl)
        have HO := Lib.hid (one_none hn)
        clear hn hT
        go_enter Tryz.func183, Tryz.ntmps183
        go_wp2_with (first
          | (go_at_call 213; refine (HM.out _).mono ?_; rintro e w1 ⟨b, off, cap, rfl, hc, hc2, b1⟩)
          | (go_at_call 214; refine (sReadNumber_any A _ sA).mono ?_; rintro e w' ⟨rfl, rfl⟩; rw [HO.out]))
        go_ret3
        exact ⟨by rw [H.out]; rfl, b1⟩
      | some n =>
        have HO := Lib.hid (one_some hn)
        rw [hn] at hT
        by_cases hb : n ≤ 1000
        · cases hm : numL B.data.toList with
          | none =>
            rw [hm] at hT
            have H := Lib.hid (show two1000 s.data.toList = none by unfold two1000; rw [hT]; rfl)
            have HO2 := Lib.hid (one_none hm)
            clear hn hT hm
            go_enter Tryz.func183, Tryz.ntmps183
            go_wp2_with (first
              | (go_at_call 213; refine (HM.out _).mono ?_; rintro e w1 ⟨b, off, cap, rfl, hc, hc2, b1⟩)
              | (go_at_call 214; refine (sReadNumber_any _ _ (by first | exact sA | exact sB)).mono ?_; rintro e w' ⟨rfl, rfl⟩; first | rw [HO.out] | rw [HO2.out]))
            go_ret3
            exact ⟨by rw [H.out]; rfl, b1⟩
          | some m =>
            rw [hm] at hT
            have HO2 := Lib.hid (one_some hm)
            by_cases hb2 : m ≤ 1000
            · have H := Lib.hid (show two1000 s.data.toList = some (n, m) by unfold two1000; rw [hT]; simp [Option.filter]; omega)
              clear hn hT hm
              go_enter Tryz.func183, Tryz.ntmps183
              go_wp2_with (first
                | (go_at_call 213; refine (HM.out _).mono ?_; rintro e w1 ⟨b, off, cap, rfl, hc, hc2, b1⟩)
                | (go_at_call 214; refine (sReadNumber_any _ _ (by first | exact sA | exact sB)).mono ?_; rintro e w' ⟨rfl, rfl⟩; first | rw [HO.out] | rw [HO2.out]))
              go_ret3
              exact ⟨by rw [H.out]; rfl, b1⟩
            · have H := Lib.hid (show two1000 s.data.toList = none by unfold two1000; rw [hT]; simp [Option.filter]; omega)
              clear hn hT hm
              go_enter Tryz.func183, Tryz.ntmps183
              go_wp2_with (first
                | (go_at_call 213; refine (HM.out _).mono ?_; rintro e w1 ⟨b, off, cap, rfl, hc, hc2, b1⟩)
                | (go_at_call 214; refine (sReadNumber_any _ _ (by first | exact sA | exact sB)).mono ?_; rintro e w' ⟨rfl, rfl⟩; first | rw [HO.out] | rw [HO2.out]))
              go_ret3
              exact ⟨by rw [H.out]; rfl, b1⟩
        · have H := Lib.hid (show two1000 s.data.toList = none by unfold two1000; rw [hT]; cases numL B.data.toList <;> simp [Option.filter]; omega)
          clear hn hT
          go_enter Tryz.func183, Tryz.ntmps183
          go_wp2_with (first
            | (go_at_call 213; refine (HM.out _).mono ?_; rintro e w1 ⟨b, off, cap, rfl, hc, hc2, b1⟩)
            | (go_at_call 214; refine (sReadNumber_any A _ sA).mono ?_; rintro e w' ⟨rfl, rfl⟩; rw [HO.out]))
          go_ret3
          exact ⟨by rw [H.out]; rfl, b1⟩

theorem two1000_le {l : List UInt8} {n m : Nat} (h : two1000 l = some (n, m)) : twoL l = some (n, m) ∧ n ≤ 1000 ∧ m ≤ 1000 := by
  unfold two1000 at h
  rw [Option.filter_eq_some_iff] at h
  obtain ⟨h1, h2⟩ := h
  simp at h2
  exact ⟨h1, by omega, by omega⟩
theorem filter2 {α : Type} (o : Option α) (p q : α → Bool) : o.filter (fun x => p x && q x) = (o.filter p).filter q := by
  cases o with
  | none => rfl
  | some x => cases h : p x <;> cases h2 : q x <;> simp [Option.filter, h, h2]
theorem pairL_two (l : List UInt8) : pairL l = (two1000 l).filter fun x => decide (x.1 ≤ x.2) := filter2 _ _ _

set_option maxHeartbeats 800000 in
theorem sReadPair_any (s : ByteArray) (hs : s.size ≤ 1048576) (w : World) :
    Calls Tryz.prog 134 #[.string s] w fun e w' => e = .returned (duo (pairL s.data.toList)) ∧ Below w.heap.size w w' := by
  have HP := Lib.hid (pairL_two s.data.toList)
  cases h : two1000 s.data.toList with
  | none =>
    rw [h] at HP
    have HT := Lib.hid (show duo (two1000 s.data.toList) = .tuple #[.int .i64 0, .int .i64 0, .bool false] by rw [h]; rfl)
    clear h
    go_enter Tryz.func134, Tryz.ntmps134
    go_wp2_with (go_at_call 183; refine (l4Two_any s hs _).mono ?_; rintro e w1 ⟨rfl, b1⟩; rw [HT.out])
    go_ret3
    exact ⟨by rw [HP.out]; rfl, b1⟩
  | some x =>
    obtain ⟨n, m⟩ := x
    rw [h] at HP
    have hle := (two1000_le h).2
    have HT := Lib.hid (show duo (two1000 s.data.toList) = .tuple #[.int .i64 (n : Int), .int .i64 (m : Int), .bool true] by rw [h]; rfl)
    clear h
    by_cases hnm : n ≤ m
    · have H := Lib.hid (show pairL s.data.toList = some (n, m) by rw [HP.out]; simp [Option.filter, hnm])
      go_enter Tryz.func134, Tryz.ntmps134
      go_wp2_with (go_at_call 183; refine (l4Two_any s hs _).mono ?_; rintro e w1 ⟨rfl, b1⟩; rw [HT.out])
      go_ret3
      exact ⟨by rw [H.out]; rfl, b1⟩
    · have H := Lib.hid (show pairL s.data.toList = none by rw [HP.out]; simp [Option.filter, hnm])
      go_enter Tryz.func134, Tryz.ntmps134
      go_wp2_with (go_at_call 183; refine (l4Two_any s hs _).mono ?_; rintro e w1 ⟨rfl, b1⟩; rw [HT.out])
      go_ret3
      exact ⟨by rw [H.out]; rfl, b1⟩

end Go.Proofs.YtnnaigoomipklaaGreatDoor

