/-
  The model's numbers read: l1Read, ReadNumber.
  The model's texts of ranges: l1Num, l4Pair, l4Count, PairText, CountText, EndText.
  Texts of ranges: the model's and the program's PairText, CountText, EndText.
  The model's texts cut at a comma: l1Split, l4Two, ReadPair, ReadEnd, ReadCount.
  The model's pairs: l4Two, ReadPair, ReadEnd, ReadCount.
  The model's ReadCount.
-/
import Derived.Test.YtkamenidgkjodaaDoorProg
import Derived.Test.YtkamenidgkjodaaDoorStr
import Derived.Test.YtkamenidgkjodaaDoorNVars
import Derived.Test.YtkamenidgkjodaaDoorMemT
import Derived.Deep.RegionHeld3
import Derived.Deep.RegionWith
set_option linter.unusedSimpArgs false
set_option linter.unusedVariables false
namespace Go.Proofs.YtkamenidgkjodaaDoor
open Go.RowKit M

def readI (l : List UInt8) : Int := match numTo 6 l with | some n => (n : Int) | none => -1

theorem all_take_succ (s : ByteArray) (k : Nat) (h : k < s.size) : (s.data.toList.take (k + 1)) = s.data.toList.take k ++ [s[k]'h] := by
  rw [List.take_add_one, List.getElem?_eq_getElem (by simpa using h)]
  rfl

theorem byte_head (s : ByteArray) (h : 0 < s.size) : s.data.toList.head? = some (s[0]'h) := by
  rw [List.head?_eq_getElem?, List.getElem?_eq_getElem (by simpa using h)]
  rfl

theorem readI_bad_len (s : ByteArray) (h : ¬ (1 ≤ s.size ∧ s.size ≤ 6)) : readI s.data.toList = -1 := by
  unfold readI numTo
  have : s.data.toList.length = s.size := by simp
  rw [if_neg (by rintro ⟨h1, h2, _⟩; omega)]
theorem readI_bad_head (s : ByteArray) (h0 : 0 < s.size) (h1 : (s[0]'h0).toNat = 48) (h2 : 1 < s.size) : readI s.data.toList = -1 := by
  unfold readI numTo
  have : s.data.toList.length = s.size := by simp
  have h3 : (s[0]'h0) = 48 := UInt8.toNat.inj (by simpa using h1)
  rw [if_neg (by rintro ⟨_, _, h5, _⟩; exact h5 ⟨by rw [byte_head s h0, h3], by omega⟩)]
theorem readI_bad_dig (s : ByteArray) (k : Nat) (hk : k < s.size) (h : digB (s[k]'hk) = false) : readI s.data.toList = -1 := by
  unfold readI numTo
  have hm : (s[k]'hk) ∈ s.data.toList := List.mem_of_getElem? (i := k) (by rw [List.getElem?_eq_getElem (by simpa using hk)]; rfl)
  rw [if_neg (by rintro ⟨_, _, _, h5⟩; have := List.all_eq_true.1 h5 _ hm; rw [h] at this; cases this)]
theorem readI_good (s : ByteArray) (h1 : 1 ≤ s.size) (h2 : s.size ≤ 6) (h3 : ¬ ((s[0]'h1).toNat = 48 ∧ 1 < s.size)) (h4 : s.data.toList.all digB = true) : readI s.data.toList = (valF 0 s.data.toList : Int) := by
  unfold readI numTo
  have e : s.data.toList.length = s.size := by simp
  rw [if_pos ⟨by omega, by omega, by rw [byte_head s h1, e]; rintro ⟨e1, e2⟩; exact h3 ⟨by rw [Option.some.inj e1]; rfl, e2⟩, h4⟩]

/-- A number and whether there is one. -/
def one (o : Option Nat) : Value := .tuple #[.int .i64 (o.getD 0 : Nat), .bool o.isSome]
/-- Two numbers and whether there are such. -/
def duo (o : Option (Nat × Nat)) : Value := .tuple #[.int .i64 (((o.getD (0, 0)).1 : Nat) : Int), .int .i64 (((o.getD (0, 0)).2 : Nat) : Int), .bool o.isSome]

theorem numL_readI {s : ByteArray} (h : s.size ≤ 4) : readI s.data.toList = match numL s.data.toList with | some n => (n : Int) | none => -1 := by
  unfold readI numL numTo
  have e : s.data.toList.length = s.size := by simp
  by_cases h1 : 1 ≤ s.data.toList.length ∧ s.data.toList.length ≤ 4 ∧ ¬ (s.data.toList.head? = some 48 ∧ 1 < s.data.toList.length) ∧ s.data.toList.all digB = true
  · rw [if_pos h1, if_pos ⟨h1.1, by omega, h1.2.2⟩]
  · rw [if_neg h1, if_neg (fun h2 => h1 ⟨h2.1, by omega, h2.2.2⟩)]
theorem numL_long {s : ByteArray} (h : 4 < s.size) : numL s.data.toList = none := by
  unfold numL numTo
  have e : s.data.toList.length = s.size := by simp
  rw [if_neg (by rintro ⟨_, h2, _⟩; omega)]

end Go.Proofs.YtkamenidgkjodaaDoor

namespace Go.Proofs.YtkamenidgkjodaaDoor
open Go.RowKit M

theorem l4Number_any (a b : Nat) (ha : a ≤ 100000) (w : World) :
    Calls Tryd.prog 79 #[.int .i64 (a : Int), .int .i64 (b : Int)] w fun e w' => e = .returned (.int .i64 (numAt a b : Nat)) ∧ w = w' := by
  by_cases h : b = 0
  · subst h
    go_enter Tryd.func79, Tryd.ntmps79
    go_wp2
    go_ret
    exact ⟨rfl, rfl⟩
  · have H := Lib.hid (show numAt a b = a + 1 from if_neg h)
    go_enter Tryd.func79, Tryd.ntmps79
    go_wp2
    go_ret
    exact ⟨ret_int (by rw [H.out]; go_num), rfl⟩

theorem conv_below {w1 w' : World} {g : Nat} {x : Int} (h : w1.heap[g]? = some (.cells #[.int .u8 x] 5 (0, 0))) (hb : Below w1.heap.size w1 w') :
    (convert 62 9 (.slice (some ⟨g, 0, none⟩) 1 1)).run Tryd.prog w' = .ok (.string ⟨#[UInt8.ofNat x.toNat]⟩) w' := by
  have hlt : g < w1.heap.size := by
    apply Decidable.byContradiction
    intro h'
    rw [Array.getElem?_eq_none (by omega)] at h
    cases h
  rw [run_convert_bytes_string _ _ _ 5 _ _ _ Tryd.underlying62 Tryd.underlying5 Tryd.underlying9]
  have h2 := run_loadCells_list (P := Tryd.prog) (w := w') ⟨g, 0, none⟩ [.int .u8 x] (by
    intro k v hk
    have hh : w'.heap[g]? = _ := (hb.block g hlt).trans h
    cases k with
    | zero => simp at hk; subst hk; simp [World.cell?, hh, Addr.add]
    | succ k => simp at hk)
  exact run_bytesToString _ _ 1 1 [x] (by simpa using h2)

theorem dig_conv (n : Nat) (d : Int) (h : n < 10) (hd : d = 48 + (n : Int)) : (⟨#[UInt8.ofNat d.toNat]⟩ : ByteArray) = bs [UInt8.ofNat (48 + n)] := by
  subst hd
  rw [show (48 + (n : Int)).toNat = 48 + n by omega]; rfl

set_option maxRecDepth 100000 in
set_option maxHeartbeats 1600000 in
theorem l1Num_any (n : Nat) : n ≤ 100000 → ∀ w : World,
    Calls Tryd.prog 78 #[.int .i64 (n : Int)] w fun e w' => e = .returned (.string (bs (Lib.decDigits n))) ∧ Below w.heap.size w w' := by
  induction n using Nat.strongRecOn with
  | _ n ih =>
    intro hn w
    have IH := Lib.hid ih
    clear ih
    obtain ⟨N, hN⟩ : ∃ N : Int, N = (n : Int) := ⟨_, rfl⟩
    by_cases h : n < 10
    · have H := Lib.hid (dec_small h)
      obtain ⟨d, hd⟩ : ∃ d : Int, d = 48 + (n : Int) := ⟨_, rfl⟩
      have H2 := Lib.hid (dig_conv n d h hd)
      have hcv := conv_one d w
      have hw1 : IntKind.i64.wrap (48 + N) = d := by simp [IntKind.wrap, IntKind.bits, IntKind.signed]; omega
      have hw2 : IntKind.u8.wrap d = d := by simp [IntKind.wrap, IntKind.bits, IntKind.signed]; omega
      have hlt : N < 10 := by omega
      rw [← hN]
      clear hd hN hn
      go_enter Tryd.func78, Tryd.ntmps78
      go_wp2
      go_ret
      exact ⟨ret_str (by rw [H.out, ← H2.out]), below_alloc _ _⟩
    · have H := Lib.hid (dec_big h)
      obtain ⟨q, hq⟩ : ∃ q : Nat, q = n / 10 := ⟨_, rfl⟩
      obtain ⟨d, hd⟩ : ∃ d : Int, d = 48 + ((n % 10 : Nat) : Int) := ⟨_, rfl⟩
      have H2 := Lib.hid (dig_conv (n % 10) d (Nat.mod_lt _ (by omega)) hd)
      have HQ := Lib.hid hq
      have hcv := fun w => conv_one d w
      have hcv3 := conv_below (w1 := (w.alloc (.cells #[.int .u8 d] 5)).drew) (g := w.heap.size) (heap_alloc_new w _) (Below.refl _ _)
      have hw1 : IntKind.i64.wrap (N / 10) = (q : Int) := by simp [IntKind.wrap, IntKind.bits, IntKind.signed]; omega
      have hw4 : IntKind.i64.wrap (N.tdiv 10) = (q : Int) := by rw [Int.tdiv_eq_ediv_of_nonneg (by omega)]; exact hw1
      have hw3 : IntKind.i64.wrap (48 + N.tmod 10) = d := by
        rw [Int.tmod_eq_emod_of_nonneg (by omega)]
        simp [IntKind.wrap, IntKind.bits, IntKind.signed]; omega
      have hw2 : IntKind.u8.wrap d = d := by simp [IntKind.wrap, IntKind.bits, IntKind.signed]; omega
      have hlt : ¬ N < 10 := by omega
      have IQ := Lib.hid (IH.out q (by omega) (by omega))
      have hsz := dec_len 4 q (by simp; omega)
      have hsz2 : (9223372036854775807 < (bs (Lib.decDigits q)).size + 1) = False := eq_false (by rw [bs_size]; omega)
      rw [← hN]
      clear hd hN hn hq
      go_enter Tryd.func78, Tryd.ntmps78
      go_wp2_with fail
      go_region_with (go_at_call 78; refine (IQ.out _).mono ?_; rintro e w' ⟨rfl, hb⟩; try have hcv2 := conv_below (w1 := (w.alloc (.cells #[.int .u8 d] 5)).drew) (g := w.heap.size) (heap_alloc_new w _) hb)
      all_goals go_wp2
      all_goals go_ret
      all_goals refine ⟨ret_str (by rw [H.out, ← HQ.out, ← bs_app, ← H2.out]), ?_⟩
      · exact ((Below.refl _ w).drew.next hb).next (below_alloc _ _)
      · exact (below_alloc w _).drew.next hb
      · exact (below_alloc w _).drew.next hb

theorem dec_room (a b : Nat) (ha : a ≤ 100000) (hb : b ≤ 100000) : (bs (Lib.decDigits a)).size ≤ 6 ∧ (bs (Lib.decDigits b)).size ≤ 6 := by
  rw [bs_size, bs_size]
  exact ⟨dec_len 5 a (by simp; omega), dec_len 5 b (by simp; omega)⟩

/-- A numeral, a comma and a numeral. -/
theorem comma_text (l r : List UInt8) : bs l ++ ((⟨#[44]⟩ : ByteArray) ++ bs r) = bs (l ++ 44 :: r) := by
  rw [show (⟨#[44]⟩ : ByteArray) = bs [44] from rfl, bs_app, bs_app]; rfl

set_option maxHeartbeats 800000 in
theorem l4Count_any (a b : Nat) (ha : a ≤ 999) (hb : b ≤ 999) (w : World) :
    Calls Tryd.prog 54 #[.int .i64 (a : Int), .int .i64 (b : Int)] w fun e w' => e = .returned (.string (bs (countT a b))) ∧ Below w.heap.size w w' := by
  have hN : numAt a b ≤ 1000 := by unfold numAt; split <;> omega
  have hR := dec_room (numAt a b) b (by omega) (by omega)
  by_cases h : b = 1
  · have H := Lib.hid (show countT a b = Lib.decDigits (numAt a b) by unfold countT; rw [if_neg (by omega), List.append_nil])
    have hb1 : ((b : Int) == 1) = true := by simp [h]
    clear h
    go_enter Tryd.func54, Tryd.ntmps54
    go_wp2_with (first
      | (go_at_call 79; refine (l4Number_any a b (by omega) _).mono ?_; rintro e w' ⟨rfl, rfl⟩)
      | (go_at_call 78; refine (l1Num_any (numAt a b) (by omega) _).mono ?_; rintro e w1 ⟨rfl, b1⟩))
    go_ret
    exact ⟨ret_str (by rw [H.out]), b1⟩
  · have H := Lib.hid (show countT a b = Lib.decDigits (numAt a b) ++ 44 :: Lib.decDigits b by unfold countT; rw [if_pos (by omega)])
    have hb1 : ((b : Int) == 1) = false := by simp; omega
    go_enter Tryd.func54, Tryd.ntmps54
    go_wp2_with (first
      | (go_at_call 79; refine (l4Number_any a b (by omega) _).mono ?_; rintro e w' ⟨rfl, rfl⟩)
      | (go_at_call 78; refine (l1Num_any _ (by omega) _).mono ?_; first | (have b0 := b1; rintro e w2 ⟨rfl, b2⟩) | rintro e w1 ⟨rfl, b1⟩))
    go_ret
    exact ⟨ret_str (by rw [H.out]; exact comma_text _ _), b1.next b2⟩

end Go.Proofs.YtkamenidgkjodaaDoor

namespace Go.Proofs.YtkamenidgkjodaaDoor
open Go.RowKit M

/-- A text and whether there is one. -/
def txt (o : Option (List UInt8)) : Value := .tuple #[.string (bs (o.getD [])), .bool o.isSome]
def pairO (a b : Int) : Option (List UInt8) := if okR a b then some (pairT a.toNat b.toNat) else none
def countO (a b : Int) : Option (List UInt8) := if okR a b then some (countT a.toNat b.toNat) else none

theorem okR_nat {a b : Int} (h : okR a b = true) : ∃ A B : Nat, a = (A : Int) ∧ b = (B : Int) ∧ A ≤ 999 ∧ B ≤ 999 := by
  simp [okR] at h
  exact ⟨a.toNat, b.toNat, by omega, by omega, by omega, by omega⟩
theorem pairO_nat {A B : Nat} (h : okR (A : Int) (B : Int) = true) : pairO (A : Int) (B : Int) = some (pairT A B) := by
  unfold pairO; rw [if_pos h]; simp
theorem countO_nat {A B : Nat} (h : okR (A : Int) (B : Int) = true) : countO (A : Int) (B : Int) = some (countT A B) := by
  unfold countO; rw [if_pos h]; simp

theorem numberAt_any (a b : Nat) (ha : a ≤ 100000) (w : World) :
    Calls Tryd.prog 88 #[.int .i64 (a : Int), .int .i64 (b : Int)] w fun e w' => e = .returned (.int .i64 (numAt a b : Nat)) ∧ w = w' := by
  by_cases h : b = 0
  · subst h
    go_enter Tryd.func88, Tryd.ntmps88
    go_wp2
    go_ret
    exact ⟨rfl, rfl⟩
  · have H := Lib.hid (show numAt a b = a + 1 from if_neg h)
    have hb1 : ((b : Int) == 0) = false := by simp; omega
    go_enter Tryd.func88, Tryd.ntmps88
    go_wp2
    go_ret
    exact ⟨ret_int (by rw [H.out]; go_num), rfl⟩

theorem isRange_any (a b : Int) (w : World) :
    Calls Tryd.prog 86 #[.int .i64 a, .int .i64 b] w fun e w' => e = .returned (.bool (okR a b)) ∧ w = w' := by
  go_enter Tryd.func86, Tryd.ntmps86
  go_wp2
  all_goals go_ret
  all_goals refine ⟨ret_bool ?_, rfl⟩
  all_goals first | (simp [okR, *]; done) | (simp [okR]; omega)

set_option maxHeartbeats 800000 in
theorem CountText_any (a b : Int) (w : World) (hv : Tab w) :
    Calls Tryd.prog 62 #[.int .i64 a, .int .i64 b] w fun e w' => e = .returned (txt (countO a b)) ∧ Below w.heap.size w w' := by
  cases h : okR a b with
  | true =>
    obtain ⟨A, B, rfl, rfl, hA, hB⟩ := okR_nat h
    have H := Lib.hid (countO_nat h)
    have HO := Lib.hid h
    have HV := Lib.hid hv
    clear h hv
    have hN : numAt A B ≤ 1000 := by unfold numAt; split <;> omega
    have hR := dec_room (numAt A B) B (by omega) (by omega)
    by_cases h : B = 1
    · have H2 := Lib.hid (show countT A B = Lib.decDigits (numAt A B) by unfold countT; rw [if_neg (by omega), List.append_nil])
      have hb1 : ((B : Int) == 1) = true := by simp [h]
      clear h
      go_enter Tryd.func62, Tryd.ntmps62
      go_wp2_with (first
        | (go_at_call 86; refine (isRange_any _ _ _).mono ?_; rintro e w' ⟨rfl, rfl⟩; rw [HO.out])
        | (go_at_call 88; refine (numberAt_any A B (by omega) _).mono ?_; rintro e w' ⟨rfl, rfl⟩)
        | (go_at_call 87; refine (Itoa_any _ (by omega) _ HV.out).mono ?_; rintro e w1 ⟨rfl, b1⟩))
      go_ret2
      exact ⟨by rw [H.out, H2.out]; rfl, b1⟩
    · have H2 := Lib.hid (show countT A B = Lib.decDigits (numAt A B) ++ 44 :: Lib.decDigits B by unfold countT; rw [if_pos (by omega)])
      have hb1 : ((B : Int) == 1) = false := by simp; omega
      go_enter Tryd.func62, Tryd.ntmps62
      go_wp2_with (first
        | (go_at_call 86; refine (isRange_any _ _ _).mono ?_; rintro e w' ⟨rfl, rfl⟩; rw [HO.out])
        | (go_at_call 88; refine (numberAt_any A B (by omega) _).mono ?_; rintro e w' ⟨rfl, rfl⟩)
        | (go_at_call 87; refine (Itoa_any _ (by omega) _ (by first | exact HV.out | exact HV.out.below b1)).mono ?_; first | (have b0 := b1; rintro e w2 ⟨rfl, b2⟩) | rintro e w1 ⟨rfl, b1⟩))
      go_ret2
      exact ⟨by rw [H.out, H2.out, comma_text]; rfl, b1.next b2⟩
  | false =>
    have H := Lib.hid (show countO a b = none by unfold countO; rw [h]; rfl)
    have HO := Lib.hid h
    clear h
    go_enter Tryd.func62, Tryd.ntmps62
    go_wp2_with (go_at_call 86; refine (isRange_any _ _ _).mono ?_; rintro e w' ⟨rfl, rfl⟩; rw [HO.out])
    go_ret2
    exact ⟨by rw [H.out]; rfl, Below.refl _ _⟩

end Go.Proofs.YtkamenidgkjodaaDoor

namespace Go.Proofs.YtkamenidgkjodaaDoor
open Go.RowKit M

theorem drop_parts (l : List UInt8) (f k : Nat) (h1 : f ≤ k) (h2 : k < l.length) : l.drop f = (l.drop f).take (k - f) ++ l[k] :: l.drop (k + 1) := by
  have e : l.drop k = l[k] :: l.drop (k + 1) := List.drop_eq_getElem_cons h2
  rw [← e]
  have : l.drop k = (l.drop f).drop (k - f) := by rw [List.drop_drop]; congr 1; omega
  rw [this, List.take_append_drop]

theorem mem_part {l : List UInt8} {f k : Nat} {c : UInt8} (h : c ∈ (l.drop f).take (k - f)) : ∃ j, f ≤ j ∧ j < k ∧ l[j]? = some c := by
  obtain ⟨i, hi⟩ := List.mem_iff_getElem?.1 h
  rw [List.getElem?_take] at hi
  split at hi
  · rename_i hlt
    rw [List.getElem?_drop] at hi
    exact ⟨f + i, by omega, by omega, hi⟩
  · cases hi

theorem split_step {l : List UInt8} {f k : Nat} (h1 : f ≤ k) (h2 : k < l.length) (hc : l[k] = 44) (hn : ∀ j, f ≤ j → j < k → l[j]? ≠ some 44) :
    splitB 44 (l.drop f) = ((l.drop f).take (k - f)) :: splitB 44 (l.drop (k + 1)) := by
  have e := drop_parts l f k h1 h2
  rw [hc] at e
  rw [e, split_hit 44 _ _ (fun hm => by
    obtain ⟨j, a, b, c⟩ := mem_part hm
    exact hn j a b c)]
  congr 1
  rw [← e]
theorem split_last {l : List UInt8} {f : Nat} (hn : ∀ j, f ≤ j → j < l.length → l[j]? ≠ some 44) : splitB 44 (l.drop f) = [l.drop f] := by
  refine split_none 44 _ (fun hm => ?_)
  obtain ⟨i, hi⟩ := List.mem_iff_getElem?.1 hm
  rw [List.getElem?_drop] at hi
  have hlt : f + i < l.length := by
    apply Decidable.byContradiction
    intro h
    rw [List.getElem?_eq_none (by omega)] at hi
    cases hi
  exact hn (f + i) (by omega) hlt hi

theorem extract_bs (s : ByteArray) (f k : Nat) : s.extract f k = bs ((s.data.toList.drop f).take (k - f)) := by
  apply ByteArray.ext
  apply Array.ext'
  simp [bs, ByteArray.data_extract]

theorem get_at (s : ByteArray) (k : Nat) (h : k < s.size) : s.data.toList[k]? = some (s[k]'h) := by
  rw [List.getElem?_eq_getElem (by simpa using h)]
  rfl

theorem below_of_grown {B : Nat} {a w w' : World} {v : Value} {row : Option Nat} (h : Below B a w) (g : w.grownBy w' row) (hB : B ≤ w.heap.size) (hr : ∀ b, row = some b → B ≤ b) : Below B a w' := h.grown g hB hr

end Go.Proofs.YtkamenidgkjodaaDoor

namespace Go.Proofs.YtkamenidgkjodaaDoor
open Go.RowKit M

theorem own_first {w : World} {base : Nat} {v : Value} {x : ByteArray} {r : List ByteArray} (h : OwnV w base v (x :: r)) :
    ∃ b off cap, v = .slice (some ⟨b, off, none⟩) (r.length + 1) cap ∧ w.cell? ⟨b, off, none⟩ = some (.string x) ∧ ∀ y r', r = y :: r' → w.cell? ⟨b, off + 1, none⟩ = some (.string y) := by
  obtain ⟨A, cap, rfl, h1, h2⟩ := h.form (n := r.length + 1) (by simp)
  have hs := h.strs
  obtain ⟨b, off, rfl, hc⟩ := hs.cell 0 x rfl
  refine ⟨b, off, cap, rfl, by simpa using hc, ?_⟩
  rintro y r' rfl
  obtain ⟨b', off', e, hc'⟩ := hs.cell 1 y rfl
  injection e with e
  injection e with e1 e2
  subst e1 e2
  exact hc'

def two1000 (l : List UInt8) : Option (Nat × Nat) := (twoL l).filter fun x => decide (max x.1 x.2 ≤ 1000)

theorem one_some {s : ByteArray} {n : Nat} (h : numL s.data.toList = some n) : one (numL s.data.toList) = .tuple #[.int .i64 (n : Int), .bool true] := by rw [h]; rfl
theorem one_none {s : ByteArray} (h : numL s.data.toList = none) : one (numL s.data.toList) = .tuple #[.int .i64 0, .bool false] := by rw [h]; rfl

theorem two1000_le {l : List UInt8} {n m : Nat} (h : two1000 l = some (n, m)) : twoL l = some (n, m) ∧ n ≤ 1000 ∧ m ≤ 1000 := by
  unfold two1000 at h
  rw [Option.filter_eq_some_iff] at h
  obtain ⟨h1, h2⟩ := h
  simp at h2
  exact ⟨h1, by omega, by omega⟩
theorem filter2 {α : Type} (o : Option α) (p q : α → Bool) : o.filter (fun x => p x && q x) = (o.filter p).filter q := by
  cases o with
  | none => rfl
  | some x => cases h : p x <;> cases h2 : q x <;> simp [Option.filter, h, h2]
theorem pairL_two (l : List UInt8) : pairL l = (two1000 l).filter fun x => decide (x.1 ≤ x.2) := filter2 _ _ _
theorem endL_two (l : List UInt8) : endL l = (two1000 l).filter fun x => decide (x.1 ≤ x.2 + 1) := filter2 _ _ _

end Go.Proofs.YtkamenidgkjodaaDoor

namespace Go.Proofs.YtkamenidgkjodaaDoor
open Go.RowKit M

theorem countL_one {l : List UInt8} (h : (44 : UInt8) ∉ l) : countL l = match numL l with | some n => if 1 ≤ n ∧ n - 1 ≤ 999 then some (n - 1, 1) else none | none => none := by
  unfold countL
  rw [contains_none 44 l h]
  simp only [Bool.false_eq_true, if_false]
  rw [show l ++ [44, 49] = l ++ 44 :: [49] from rfl, twoL_hit h, show numL [49] = some 1 by decide]
  cases numL l with
  | none => rfl
  | some n =>
    simp only [numAt]
    by_cases h1 : 1 ≤ n ∧ n - 1 ≤ 999
    · rw [if_pos h1]; simp; omega
    · rw [if_neg h1]; simp; omega
theorem countL_both {p q : List UInt8} (h : (44 : UInt8) ∉ p) : countL (p ++ 44 :: q) = match numL p, numL q with | some n, some m => if numAt 0 m ≤ n ∧ n - numAt 0 m ≤ 999 ∧ m ≤ 999 then some (n - numAt 0 m, m) else none | _, _ => none := by
  unfold countL
  rw [contains_hit 44 p q h]
  simp only [if_true]
  rw [twoL_hit h]
  cases numL p <;> cases numL q <;> rfl

theorem past2 {N : Nat} (h : 2 < N) : 0 < N ∧ ((N : Int) == 2) = false ∧ (N == 2) = false := by
  refine ⟨by omega, ?_, ?_⟩
  · rw [beq_eq_false_iff_ne]; omega
  · rw [beq_eq_false_iff_ne]; omega
theorem duo_some (a b : Nat) : duo (some (a, b)) = .tuple #[.int .i64 (a : Int), .int .i64 (b : Int), .bool true] := rfl
theorem duo_none : duo none = .tuple #[.int .i64 0, .int .i64 0, .bool false] := rfl

end Go.Proofs.YtkamenidgkjodaaDoor
