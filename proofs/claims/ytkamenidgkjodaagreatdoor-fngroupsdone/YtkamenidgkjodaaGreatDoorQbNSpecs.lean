/-
  The model's numbers read: l1Read, ReadNumber.
  The model's texts of ranges: l1Num, l4Pair, l4Count, PairText, CountText, EndText.
  Texts of ranges: the model's and the program's PairText, CountText, EndText.
  The model's texts cut at a comma: l1Split, l4Two, ReadPair, ReadEnd, ReadCount.
  The model's pairs: l4Two, ReadPair, ReadEnd, ReadCount.
  The model's ReadCount.
-/
import Derived.Test.YtkamenidgkjodaaGreatDoorProg
import Derived.Test.YtkamenidgkjodaaGreatDoorQbStr
import Derived.Test.YtkamenidgkjodaaGreatDoorQbNVars
import Derived.Test.YtkamenidgkjodaaGreatDoorQbMemT
import Derived.Deep.RegionHeld3
import Derived.Deep.RegionWith
set_option linter.unusedSimpArgs false
set_option linter.unusedVariables false
namespace Go.Proofs.YtkamenidgkjodaaGreatDoor
open Go.RowKit M

def duo (o : Option (Nat × Nat)) : Value := .tuple #[.int .i64 (((o.getD (0, 0)).1 : Nat) : Int), .int .i64 (((o.getD (0, 0)).2 : Nat) : Int), .bool o.isSome]

end Go.Proofs.YtkamenidgkjodaaGreatDoor

namespace Go.Proofs.YtkamenidgkjodaaGreatDoor
open Go.RowKit M

theorem l4Number_any (a b : Nat) (ha : a ≤ 100000) (w : World) :
    Calls Tryz.prog 95 #[.int .i64 (a : Int), .int .i64 (b : Int)] w fun e w' => e = .returned (.int .i64 (numAt a b : Nat)) ∧ w = w' := by
  by_cases h : b = 0
  · subst h
    go_enter Tryz.func95, Tryz.ntmps95
    go_wp2
    go_ret
    exact ⟨rfl, rfl⟩
  · have H := Lib.hid (show numAt a b = a + 1 from if_neg h)
    go_enter Tryz.func95, Tryz.ntmps95
    go_wp2
    go_ret
    exact ⟨ret_int (by rw [H.out]; go_num), rfl⟩

theorem conv_below {w1 w' : World} {g : Nat} {x : Int} (h : w1.heap[g]? = some (.cells #[.int .u8 x] 5 (0, 0))) (hb : Below w1.heap.size w1 w') :
    (convert 22 9 (.slice (some ⟨g, 0, none⟩) 1 1)).run Tryz.prog w' = .ok (.string ⟨#[UInt8.ofNat x.toNat]⟩) w' := by
  have hlt : g < w1.heap.size := by
    apply Decidable.byContradiction
    intro h'
    rw [Array.getElem?_eq_none (by omega)] at h
    cases h
  rw [run_convert_bytes_string _ _ _ 5 _ _ _ Tryz.underlying22 Tryz.underlying5 Tryz.underlying9]
  have h2 := run_loadCells_list (P := Tryz.prog) (w := w') ⟨g, 0, none⟩ [.int .u8 x] (by
    intro k v hk
    have hh : w'.heap[g]? = _ := (hb.block g hlt).trans h
    cases k with
    | zero => simp at hk; subst hk; simp [World.cell?, hh, Addr.add]
    | succ k => simp at hk)
  exact run_bytesToString _ _ 1 1 [x] (by simpa using h2)

theorem dig_conv (n : Nat) (d : Int) (h : n < 10) (hd : d = 48 + (n : Int)) : (⟨#[UInt8.ofNat d.toNat]⟩ : ByteArray) = bs [UInt8.ofNat (48 + n)] := by
  subst hd
  rw [show (48 + (n : Int)).toNat = 48 + n by omega]; rfl

set_option maxRecDepth 100000 in
set_option maxHeartbeats 1600000 in
theorem l1Num_any (n : Nat) : n ≤ 100000 → ∀ w : World,
    Calls Tryz.prog 94 #[.int .i64 (n : Int)] w fun e w' => e = .returned (.string (bs (Lib.decDigits n))) ∧ Below w.heap.size w w' := by
  induction n using Nat.strongRecOn with
  | _ n ih =>
    intro hn w
    have IH := Lib.hid ih
    clear ih
    obtain ⟨N, hN⟩ : ∃ N : Int, N = (n : Int) := ⟨_, rfl⟩
    by_cases h : n < 10
    · have H := Lib.hid (dec_small h)
      obtain ⟨d, hd⟩ : ∃ d : Int, d = 48 + (n : Int) := ⟨_, rfl⟩
      have H2 := Lib.hid (dig_conv n d h hd)
      have hcv := conv_one d w
      have hw1 : IntKind.i64.wrap (48 + N) = d := by simp [IntKind.wrap, IntKind.bits, IntKind.signed]; omega
      have hw2 : IntKind.u8.wrap d = d := by simp [IntKind.wrap, IntKind.bits, IntKind.signed]; omega
      have hlt : N < 10 := by omega
      rw [← hN]
      clear hd hN hn
      go_enter Tryz.func94, Tryz.ntmps94
      go_wp2
      go_ret
      exact ⟨ret_str (by rw [H.out, ← H2.out]), below_alloc _ _⟩
    · have H := Lib.hid (dec_big h)
      obtain ⟨q, hq⟩ : ∃ q : Nat, q = n / 10 := ⟨_, rfl⟩
      obtain ⟨d, hd⟩ : ∃ d : Int, d = 48 + ((n % 10 : Nat) : Int) := ⟨_, rfl⟩
      have H2 := Lib.hid (dig_conv (n % 10) d (Nat.mod_lt _ (by omega)) hd)
      have HQ := Lib.hid hq
      have hcv := fun w => conv_one d w
      have hcv3 := conv_below (w1 := (w.alloc (.cells #[.int .u8 d] 5)).drew) (g := w.heap.size) (heap_alloc_new w _) (Below.refl _ _)
      have hw1 : IntKind.i64.wrap (N / 10) = (q : Int) := by simp [IntKind.wrap, IntKind.bits, IntKind.signed]; omega
      have hw4 : IntKind.i64.wrap (N.tdiv 10) = (q : Int) := by rw [Int.tdiv_eq_ediv_of_nonneg (by omega)]; exact hw1
      have hw3 : IntKind.i64.wrap (48 + N.tmod 10) = d := by
        rw [Int.tmod_eq_emod_of_nonneg (by omega)]
        simp [IntKind.wrap, IntKind.bits, IntKind.signed]; omega
      have hw2 : IntKind.u8.wrap d = d := by simp [IntKind.wrap, IntKind.bits, IntKind.signed]; omega
      have hlt : ¬ N < 10 := by omega
      have IQ := Lib.hid (IH.out q (by omega) (by omega))
      have hsz := dec_len 4 q (by simp; omega)
      have hsz2 : (9223372036854775807 < (bs (Lib.decDigits q)).size + 1) = False := eq_false (by rw [bs_size]; omega)
      rw [← hN]
      clear hd hN hn hq
      go_enter Tryz.func94, Tryz.ntmps94
      go_wp2_with fail
      go_region_with (go_at_call 94; refine (IQ.out _).mono ?_; rintro e w' ⟨rfl, hb⟩; try have hcv2 := conv_below (w1 := (w.alloc (.cells #[.int .u8 d] 5)).drew) (g := w.heap.size) (heap_alloc_new w _) hb)
      all_goals go_wp2
      all_goals go_ret
      all_goals refine ⟨ret_str (by rw [H.out, ← HQ.out, ← bs_app, ← H2.out]), ?_⟩
      · exact ((Below.refl _ w).drew.next hb).next (below_alloc _ _)
      · exact (below_alloc w _).drew.next hb
      · exact (below_alloc w _).drew.next hb

theorem dec_room (a b : Nat) (ha : a ≤ 100000) (hb : b ≤ 100000) : (bs (Lib.decDigits a)).size ≤ 6 ∧ (bs (Lib.decDigits b)).size ≤ 6 := by
  rw [bs_size, bs_size]
  exact ⟨dec_len 5 a (by simp; omega), dec_len 5 b (by simp; omega)⟩

theorem comma_text (l r : List UInt8) : bs l ++ ((⟨#[44]⟩ : ByteArray) ++ bs r) = bs (l ++ 44 :: r) := by
  rw [show (⟨#[44]⟩ : ByteArray) = bs [44] from rfl, bs_app, bs_app]; rfl

set_option maxHeartbeats 800000 in
theorem l4Count_any (a b : Nat) (ha : a ≤ 999) (hb : b ≤ 999) (w : World) :
    Calls Tryz.prog 50 #[.int .i64 (a : Int), .int .i64 (b : Int)] w fun e w' => e = .returned (.string (bs (countT a b))) ∧ Below w.heap.size w w' := by
  have hN : numAt a b ≤ 1000 := by unfold numAt; split <;> omega
  have hR := dec_room (numAt a b) b (by omega) (by omega)
  by_cases h : b = 1
  · have H := Lib.hid (show countT a b = Lib.decDigits (numAt a b) by unfold countT; rw [if_neg (by omega), List.append_nil])
    have hb1 : ((b : Int) == 1) = true := by simp [h]
    clear h
    go_enter Tryz.func50, Tryz.ntmps50
    go_wp2_with (first
      | (go_at_call 95; refine (l4Number_any a b (by omega) _).mono ?_; rintro e w' ⟨rfl, rfl⟩)
      | (go_at_call 94; refine (l1Num_any (numAt a b) (by omega) _).mono ?_; rintro e w1 ⟨rfl, b1⟩))
    go_ret
    exact ⟨ret_str (by rw [H.out]), b1⟩
  · have H := Lib.hid (show countT a b = Lib.decDigits (numAt a b) ++ 44 :: Lib.decDigits b by unfold countT; rw [if_pos (by omega)])
    have hb1 : ((b : Int) == 1) = false := by simp; omega
    go_enter Tryz.func50, Tryz.ntmps50
    go_wp2_with (first
      | (go_at_call 95; refine (l4Number_any a b (by omega) _).mono ?_; rintro e w' ⟨rfl, rfl⟩)
      | (go_at_call 94; refine (l1Num_any _ (by omega) _).mono ?_; first | (have b0 := b1; rintro e w2 ⟨rfl, b2⟩) | rintro e w1 ⟨rfl, b1⟩))
    go_ret
    exact ⟨ret_str (by rw [H.out]; exact comma_text _ _), b1.next b2⟩

end Go.Proofs.YtkamenidgkjodaaGreatDoor

namespace Go.Proofs.YtkamenidgkjodaaGreatDoor
open Go.RowKit M

def txt (o : Option (List UInt8)) : Value := .tuple #[.string (bs (o.getD [])), .bool o.isSome]
def countO (a b : Int) : Option (List UInt8) := if okR a b then some (countT a.toNat b.toNat) else none

theorem okR_nat {a b : Int} (h : okR a b = true) : ∃ A B : Nat, a = (A : Int) ∧ b = (B : Int) ∧ A ≤ 999 ∧ B ≤ 999 := by
  simp [okR] at h
  exact ⟨a.toNat, b.toNat, by omega, by omega, by omega, by omega⟩
theorem countO_nat {A B : Nat} (h : okR (A : Int) (B : Int) = true) : countO (A : Int) (B : Int) = some (countT A B) := by
  unfold countO; rw [if_pos h]; simp

theorem numberAt_any (a b : Nat) (ha : a ≤ 100000) (w : World) :
    Calls Tryz.prog 116 #[.int .i64 (a : Int), .int .i64 (b : Int)] w fun e w' => e = .returned (.int .i64 (numAt a b : Nat)) ∧ w = w' := by
  by_cases h : b = 0
  · subst h
    go_enter Tryz.func116, Tryz.ntmps116
    go_wp2
    go_ret
    exact ⟨rfl, rfl⟩
  · have H := Lib.hid (show numAt a b = a + 1 from if_neg h)
    have hb1 : ((b : Int) == 0) = false := by simp; omega
    go_enter Tryz.func116, Tryz.ntmps116
    go_wp2
    go_ret
    exact ⟨ret_int (by rw [H.out]; go_num), rfl⟩

theorem isRange_any (a b : Int) (w : World) :
    Calls Tryz.prog 114 #[.int .i64 a, .int .i64 b] w fun e w' => e = .returned (.bool (okR a b)) ∧ w = w' := by
  go_enter Tryz.func114, Tryz.ntmps114
  go_wp2
  all_goals go_ret
  all_goals refine ⟨ret_bool ?_, rfl⟩
  all_goals first | (simp [okR, *]; done) | (simp [okR]; omega)

set_option maxHeartbeats 800000 in
theorem CountText_any (a b : Int) (w : World) (hv : Tab w) :
    Calls Tryz.prog 68 #[.int .i64 a, .int .i64 b] w fun e w' => e = .returned (txt (countO a b)) ∧ Below w.heap.size w w' := by
  cases h : okR a b with
  | true =>
    obtain ⟨A, B, rfl, rfl, hA, hB⟩ := okR_nat h
    have H := Lib.hid (countO_nat h)
    have HO := Lib.hid h
    have HV := Lib.hid hv
    clear h hv
    have hN : numAt A B ≤ 1000 := by unfold numAt; split <;> omega
    have hR := dec_room (numAt A B) B (by omega) (by omega)
    by_cases h : B = 1
    · have H2 := Lib.hid (show countT A B = Lib.decDigits (numAt A B) by unfold countT; rw [if_neg (by omega), List.append_nil])
      have hb1 : ((B : Int) == 1) = true := by simp [h]
      clear h
      go_enter Tryz.func68, Tryz.ntmps68
      go_wp2_with (first
        | (go_at_call 114; refine (isRange_any _ _ _).mono ?_; rintro e w' ⟨rfl, rfl⟩; rw [HO.out])
        | (go_at_call 116; refine (numberAt_any A B (by omega) _).mono ?_; rintro e w' ⟨rfl, rfl⟩)
        | (go_at_call 115; refine (Itoa_any _ (by omega) _ HV.out).mono ?_; rintro e w1 ⟨rfl, b1⟩))
      go_ret2
      exact ⟨by rw [H.out, H2.out]; rfl, b1⟩
    · have H2 := Lib.hid (show countT A B = Lib.decDigits (numAt A B) ++ 44 :: Lib.decDigits B by unfold countT; rw [if_pos (by omega)])
      have hb1 : ((B : Int) == 1) = false := by simp; omega
      go_enter Tryz.func68, Tryz.ntmps68
      go_wp2_with (first
        | (go_at_call 114; refine (isRange_any _ _ _).mono ?_; rintro e w' ⟨rfl, rfl⟩; rw [HO.out])
        | (go_at_call 116; refine (numberAt_any A B (by omega) _).mono ?_; rintro e w' ⟨rfl, rfl⟩)
        | (go_at_call 115; refine (Itoa_any _ (by omega) _ (by first | exact HV.out | exact HV.out.below b1)).mono ?_; first | (have b0 := b1; rintro e w2 ⟨rfl, b2⟩) | rintro e w1 ⟨rfl, b1⟩))
      go_ret2
      exact ⟨by rw [H.out, H2.out, comma_text]; rfl, b1.next b2⟩
  | false =>
    have H := Lib.hid (show countO a b = none by unfold countO; rw [h]; rfl)
    have HO := Lib.hid h
    clear h
    go_enter Tryz.func68, Tryz.ntmps68
    go_wp2_with (go_at_call 114; refine (isRange_any _ _ _).mono ?_; rintro e w' ⟨rfl, rfl⟩; rw [HO.out])
    go_ret2
    exact ⟨by rw [H.out]; rfl, Below.refl _ _⟩

end Go.Proofs.YtkamenidgkjodaaGreatDoor

namespace Go.Proofs.YtkamenidgkjodaaGreatDoor
open Go.RowKit M

theorem extract_bs (s : ByteArray) (f k : Nat) : s.extract f k = bs ((s.data.toList.drop f).take (k - f)) := by
  apply ByteArray.ext
  apply Array.ext'
  simp [bs, ByteArray.data_extract]

end Go.Proofs.YtkamenidgkjodaaGreatDoor

namespace Go.Proofs.YtkamenidgkjodaaGreatDoor
open Go.RowKit M

theorem countL_one {l : List UInt8} (h : (44 : UInt8) ∉ l) : countL l = match numL l with | some n => if 1 ≤ n ∧ n - 1 ≤ 999 then some (n - 1, 1) else none | none => none := by
  unfold countL
  rw [contains_none 44 l h]
  simp only [Bool.false_eq_true, if_false]
  rw [show l ++ [44, 49] = l ++ 44 :: [49] from rfl, twoL_hit h, show numL [49] = some 1 by decide]
  cases numL l with
  | none => rfl
  | some n =>
    simp only [numAt]
    by_cases h1 : 1 ≤ n ∧ n - 1 ≤ 999
    · rw [if_pos h1]; simp; omega
    · rw [if_neg h1]; simp; omega
theorem countL_both {p q : List UInt8} (h : (44 : UInt8) ∉ p) : countL (p ++ 44 :: q) = match numL p, numL q with | some n, some m => if numAt 0 m ≤ n ∧ n - numAt 0 m ≤ 999 ∧ m ≤ 999 then some (n - numAt 0 m, m) else none | _, _ => none := by
  unfold countL
  rw [contains_hit 44 p q h]
  simp only [if_true]
  rw [twoL_hit h]
  cases numL p <;> cases numL q <;> rfl

end Go.Proofs.YtkamenidgkjodaaGreatDoor
