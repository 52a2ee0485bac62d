/-
  The model's numbers read: l1Read, ReadNumber.
  The model's texts of ranges: l1Num, l4Pair, l4Count, PairText, CountText, EndText.
  Texts of ranges: the model's and the program's PairText, CountText, EndText.
  The model's texts cut at a comma: l1Split, l4Two, ReadPair, ReadEnd, ReadCount.
  The model's pairs: l4Two, ReadPair, ReadEnd, ReadCount.
  The model's ReadCount.
-/
import Derived.Test.YtnnaigoomipklaaDoorProg
import Derived.Test.YtnnaigoomipklaaDoorOkStr
import Derived.Test.YtnnaigoomipklaaDoorOkNVars
import Derived.Test.YtnnaigoomipklaaDoorOkMemT
import Derived.Deep.RegionHeld3
import Derived.Deep.RegionWith
set_option linter.unusedSimpArgs false
set_option linter.unusedVariables false
namespace Go.Proofs.YtnnaigoomipklaaDoor
open Go.RowKit M

theorem conv_below {w1 w' : World} {g : Nat} {x : Int} (h : w1.heap[g]? = some (.cells #[.int .u8 x] 5 (0, 0))) (hb : Below w1.heap.size w1 w') :
    (convert 56 9 (.slice (some ⟨g, 0, none⟩) 1 1)).run Tryd.prog w' = .ok (.string ⟨#[UInt8.ofNat x.toNat]⟩) w' := by
  have hlt : g < w1.heap.size := by
    apply Decidable.byContradiction
    intro h'
    rw [Array.getElem?_eq_none (by omega)] at h
    cases h
  rw [run_convert_bytes_string _ _ _ 5 _ _ _ Tryd.underlying56 Tryd.underlying5 Tryd.underlying9]
  have h2 := run_loadCells_list (P := Tryd.prog) (w := w') ⟨g, 0, none⟩ [.int .u8 x] (by
    intro k v hk
    have hh : w'.heap[g]? = _ := (hb.block g hlt).trans h
    cases k with
    | zero => simp at hk; subst hk; simp [World.cell?, hh, Addr.add]
    | succ k => simp at hk)
  exact run_bytesToString _ _ 1 1 [x] (by simpa using h2)

theorem dig_conv (n : Nat) (d : Int) (h : n < 10) (hd : d = 48 + (n : Int)) : (⟨#[UInt8.ofNat d.toNat]⟩ : ByteArray) = bs [UInt8.ofNat (48 + n)] := by
  subst hd
  rw [show (48 + (n : Int)).toNat = 48 + n by omega]; rfl

set_option maxRecDepth 100000 in
set_option maxHeartbeats 1600000 in
theorem l1Num_any (n : Nat) : n ≤ 100000 → ∀ w : World,
    Calls Tryd.prog 82 #[.int .i64 (n : Int)] w fun e w' => e = .returned (.string (bs (Lib.decDigits n))) ∧ Below w.heap.size w w' := by
  induction n using Nat.strongRecOn with
  | _ n ih =>
    intro hn w
    have IH := Lib.hid ih
    clear ih
    obtain ⟨N, hN⟩ : ∃ N : Int, N = (n : Int) := ⟨_, rfl⟩
    by_cases h : n < 10
    · have H := Lib.hid (dec_small h)
      obtain ⟨d, hd⟩ : ∃ d : Int, d = 48 + (n : Int) := ⟨_, rfl⟩
      have H2 := Lib.hid (dig_conv n d h hd)
      have hcv := conv_one d w
      have hw1 : IntKind.i64.wrap (48 + N) = d := by simp [IntKind.wrap, IntKind.bits, IntKind.signed]; omega
      have hw2 : IntKind.u8.wrap d = d := by simp [IntKind.wrap, IntKind.bits, IntKind.signed]; omega
      have hlt : N < 10 := by omega
      rw [← hN]
      clear hd hN hn
      go_enter Tryd.func82, Tryd.ntmps82
      go_wp2
      go_ret
      exact ⟨ret_str (by rw [H.out, ← H2.out]), below_alloc _ _⟩
    · have H := Lib.hid (dec_big h)
      obtain ⟨q, hq⟩ : ∃ q : Nat, q = n / 10 := ⟨_, rfl⟩
      obtain ⟨d, hd⟩ : ∃ d : Int, d = 48 + ((n % 10 : Nat) : Int) := ⟨_, rfl⟩
      have H2 := Lib.hid (dig_conv (n % 10) d (Nat.mod_lt _ (by omega)) hd)
      have HQ := Lib.hid hq
      have hcv := fun w => conv_one d w
      have hcv3 := conv_below (w1 := (w.alloc (.cells #[.int .u8 d] 5)).drew) (g := w.heap.size) (heap_alloc_new w _) (Below.refl _ _)
      have hw1 : IntKind.i64.wrap (N / 10) = (q : Int) := by simp [IntKind.wrap, IntKind.bits, IntKind.signed]; omega
      have hw4 : IntKind.i64.wrap (N.tdiv 10) = (q : Int) := by rw [Int.tdiv_eq_ediv_of_nonneg (by omega)]; exact hw1
      have hw3 : IntKind.i64.wrap (48 + N.tmod 10) = d := by
        rw [Int.tmod_eq_emod_of_nonneg (by omega)]
        simp [IntKind.wrap, IntKind.bits, IntKind.signed]; omega
      have hw2 : IntKind.u8.wrap d = d := by simp [IntKind.wrap, IntKind.bits, IntKind.signed]; omega
      have hlt : ¬ N < 10 := by omega
      have IQ := Lib.hid (IH.out q (by omega) (by omega))
      have hsz := dec_len 4 q (by simp; omega)
      have hsz2 : (9223372036854775807 < (bs (Lib.decDigits q)).size + 1) = False := eq_false (by rw [bs_size]; omega)
      rw [← hN]
      clear hd hN hn hq
      go_enter Tryd.func82, Tryd.ntmps82
      go_wp2_with fail
      go_region_with (go_at_call 82; refine (IQ.out _).mono ?_; rintro e w' ⟨rfl, hb⟩; try have hcv2 := conv_below (w1 := (w.alloc (.cells #[.int .u8 d] 5)).drew) (g := w.heap.size) (heap_alloc_new w _) hb)
      all_goals go_wp2
      all_goals go_ret
      all_goals refine ⟨ret_str (by rw [H.out, ← HQ.out, ← bs_app, ← H2.out]), ?_⟩
      · exact ((Below.refl _ w).drew.next hb).next (below_alloc _ _)
      · exact (below_alloc w _).drew.next hb
      · exact (below_alloc w _).drew.next hb

theorem dec_room (a b : Nat) (ha : a ≤ 100000) (hb : b ≤ 100000) : (bs (Lib.decDigits a)).size ≤ 6 ∧ (bs (Lib.decDigits b)).size ≤ 6 := by
  rw [bs_size, bs_size]
  exact ⟨dec_len 5 a (by simp; omega), dec_len 5 b (by simp; omega)⟩

/-- A numeral, a comma and a numeral. -/
theorem comma_text (l r : List UInt8) : bs l ++ ((⟨#[44]⟩ : ByteArray) ++ bs r) = bs (l ++ 44 :: r) := by
  rw [show (⟨#[44]⟩ : ByteArray) = bs [44] from rfl, bs_app, bs_app]; rfl

end Go.Proofs.YtnnaigoomipklaaDoor

