/-
  strings.IndexAny at the letters "acd", at every text.
-/
import Derived.Test.YtnimaadjmejmpaaGreatDoorRMath
import Derived.Test.YtnimaadjmejmpaaGreatDoorShelf
import Derived.Lib.OthersKept
import Derived.Laws.RangeAny
import Derived.Laws.Runes
import Derived.WalkMore
import Derived.BigQuiet
set_option linter.unusedSimpArgs false
set_option linter.unusedVariables false
namespace Go.Proofs.YtnimaadjmejmpaaGreatDoor
open Go.RowKit M

set_option maxHeartbeats 2000000 in
set_option maxRecDepth 100000 in
theorem indexRune_error (w : World) : Calls Tryz.prog 116 #[.string ⟨#[97, 99, 100]⟩, .int .i32 65533] w fun e w' => e = .returned (.int .i64 (-1)) ∧ Below w.heap.size w w' := by
  go_enter Tryz.func116, Tryz.ntmps116
  go_wp2
  go_loopw [5, 6] (fun _ _ w' => ∃ pos, w' = w.iter ⟨#[97, 99, 100]⟩ pos ∧ pos ≤ 3) (fun _ _ w' => 3 - w'.iterPos w.heap.size)
  case atStart => exact ⟨0, rfl, by omega⟩
  case round =>
    obtain ⟨pos, rfl, hp⟩ := hrel
    rcases (by omega : pos = 0 ∨ pos = 1 ∨ pos = 2 ∨ pos = 3) with rfl | rfl | rfl | rfl
    · have hnx : ∀ ty, (Instr.next (.pointer (some ⟨w.heap.size, 0, none⟩)) true ty).run Tryz.prog (w.iter ⟨#[97, 99, 100]⟩ 0) = .ok (.tuple #[.bool true, .int .i64 0, .int .i32 97]) (w.iter ⟨#[97, 99, 100]⟩ 1) := fun ty => run_next_ascii w ⟨#[97, 99, 100]⟩ 0 ty (by decide) (by decide)
      go_wp2
      go_roundw
      case rel => exact ⟨1, rfl, by omega⟩
      case measure => simp
    · have hnx : ∀ ty, (Instr.next (.pointer (some ⟨w.heap.size, 0, none⟩)) true ty).run Tryz.prog (w.iter ⟨#[97, 99, 100]⟩ 1) = .ok (.tuple #[.bool true, .int .i64 1, .int .i32 99]) (w.iter ⟨#[97, 99, 100]⟩ 2) := fun ty => run_next_ascii w ⟨#[97, 99, 100]⟩ 1 ty (by decide) (by decide)
      go_wp2
      go_roundw
      case rel => exact ⟨2, rfl, by omega⟩
      case measure => simp
    · have hnx : ∀ ty, (Instr.next (.pointer (some ⟨w.heap.size, 0, none⟩)) true ty).run Tryz.prog (w.iter ⟨#[97, 99, 100]⟩ 2) = .ok (.tuple #[.bool true, .int .i64 2, .int .i32 100]) (w.iter ⟨#[97, 99, 100]⟩ 3) := fun ty => run_next_ascii w ⟨#[97, 99, 100]⟩ 2 ty (by decide) (by decide)
      go_wp2
      go_roundw
      case rel => exact ⟨3, rfl, by omega⟩
      case measure => simp
    · have hnx : ∀ ty, (Instr.next (.pointer (some ⟨w.heap.size, 0, none⟩)) true ty).run Tryz.prog (w.iter ⟨#[97, 99, 100]⟩ 3) = .ok (.tuple #[.bool false]) (w.iter ⟨#[97, 99, 100]⟩ 3) := fun ty => run_next_end w ⟨#[97, 99, 100]⟩ 3 ty (by decide)
      go_wp2
      go_ret
      exact ⟨rfl, (Below.refl _ _).alloc (Nat.le_refl _) _⟩

theorem valid_same {r : Int} (h : Lib.validRune r = true) : Utf8.valid r = true := by
  unfold Lib.validRune at h
  unfold Utf8.valid
  have h := of_decide_eq_true h
  simp
  omega

theorem indexByte_one {d : UInt8} (h : 128 ≤ d.toNat) : Lib.indexByte [100] d = -1 := by
  have h1 : ((100 : UInt8) == d) = false := by
    rw [beq_eq_false_iff_ne]
    intro e
    rw [← e] at h
    simp at h
  simp [Lib.indexByte, h1]

set_option maxHeartbeats 2000000 in
set_option maxRecDepth 100000 in
theorem indexRune_high (r : Int) (h : 128 ≤ r) (h2 : r ≤ 2147483647) (h3 : r ≠ 65533) (w : World) :
    Calls Tryz.prog 116 #[.string ⟨#[97, 99, 100]⟩, .int .i32 r] w fun e w' => e = .returned (.int .i64 (-1)) ∧ Below w.heap.size w w' := by
  have q1 : decide (r < 128) = false := by simp; omega
  have q2 : (r == 65533) = false := by simp; omega
  cases hv : Lib.validRune r
  · have HV := Lib.hid hv
    clear hv
    go_enter Tryz.func116, Tryz.ntmps116
    go_wp2_with fail
    refine (Tryz.utf8_ValidRune r _).mono ?_
    rintro e w1 ⟨rfl, rfl⟩
    rw [HV.out]
    go_wp2
    go_ret
    exact ⟨rfl, Below.refl _ _⟩
  · have HV := Lib.hid hv
    obtain ⟨e1, e2, e3⟩ := encode_facts r (valid_same hv) h
    obtain ⟨E, HE⟩ : ∃ E, Hid (E = Utf8.encode r) := ⟨_, rfl⟩
    rw [← HE.out] at e1 e2 e3
    have hcv : ∀ w, (convert 21 9 (.int .i32 r)).run Tryz.prog w = .ok (.string E) w := fun w => by rw [HE.out]; exact run_convert_int_string w 21 9 .i32 r (by kernel_rfl) (by kernel_rfl)
    clear hv
    obtain ⟨z, hz⟩ : ∃ z, z = E.size := ⟨_, rfl⟩
    obtain ⟨d, hd, hd2⟩ : ∃ d : UInt8, (∀ h : z - 1 < E.size, E[z - 1]'h = d) ∧ 128 ≤ d.toNat := ⟨E[z - 1]'(by omega), fun _ => rfl, by subst hz; exact e3 _⟩
    have HD := Lib.hid hd2
    clear e3
    rcases (by omega : z = 2 ∨ z = 3 ∨ z = 4) with hz2 | hz2 | hz2
    · subst hz2
      have hzs : E.size = 2 := hz.symm
      have hw2 : IntKind.i64.wrap 2 = 2 := by decide
      have hE : ∀ hh : 1 < E.size, E[1]'hh = d := fun hh => hd hh
      have HI := Lib.hid (indexByte_one hd2)
      have HI2 := Lib.hid (show Lib.indexByte ((⟨#[97, 99, 100]⟩ : ByteArray).extract 2 3).data.toList (d.toNat : Int).toNat.toUInt8 = -1 by rw [show ((d.toNat : Int)).toNat.toUInt8 = d by simp]; exact HI.out)
      have hne : ((((⟨#[97, 99, 100]⟩ : ByteArray)[1]'(by decide)).toNat : Int) != (d.toNat : Int)) = true := (show ((99 : Int) != (d.toNat : Int)) = true by simp; omega)
      clear hz hd e1 e2
      go_enter Tryz.func116, Tryz.ntmps116
      go_wp2_with fail
      refine (Tryz.utf8_ValidRune r _).mono ?_
      rintro e w1 ⟨rfl, rfl⟩
      rw [HV.out]
      go_wp2
      go_step3
      go_wp2
      go_loopw [9, 10] (fun i f w' => i = .int .i64 1 ∧ f = .int .i64 0 ∧ w' = w1) (fun _ _ _ => 0)
      case atStart => exact ⟨rfl, rfl, rfl⟩
      case round =>
        obtain ⟨rfl, rfl, rfl⟩ := hrel
        go_wp2
        go_step3
        go_wp2
        go_quiet (fail)
        go_wp2
        obtain ⟨W1, HW1⟩ : ∃ W1, Hid (W1 = wr.drewN nq) := ⟨_, rfl⟩
        rw [← HW1.out]
        go_quiet ((go_at_call 134; exact Calls.quiet_of_same (Tryz.strings_IndexByte _ _ _)))
        rw [HI2.out]
        go_wp2
        change bodyPost Tryz.prog Tryz.f116 (fun e w' => e = .returned (.int .i64 (-1)) ∧ Below wr.heap.size wr w') .ret _ _
        go_ret
        exact ⟨rfl, by rw [HW1.out]; exact below_drewN (below_drewN (Below.refl _ _) _) _⟩
    · subst hz2
      have hzs : E.size = 3 := hz.symm
      have hw3 : IntKind.i64.wrap 3 = 3 := by decide
      have hE : ∀ hh : 2 < E.size, E[2]'hh = d := fun hh => hd hh
      have hne : ((((⟨#[97, 99, 100]⟩ : ByteArray)[2]'(by decide)).toNat : Int) != (d.toNat : Int)) = true := (show ((100 : Int) != (d.toNat : Int)) = true by simp; omega)
      clear hz hd e1 e2
      go_enter Tryz.func116, Tryz.ntmps116
      go_wp2_with fail
      refine (Tryz.utf8_ValidRune r _).mono ?_
      rintro e w1 ⟨rfl, rfl⟩
      rw [HV.out]
      go_wp2
      go_step3
      go_wp2
      go_loopw [9, 10] (fun i f w' => i = .int .i64 2 ∧ f = .int .i64 0 ∧ w' = w1) (fun _ _ _ => 0)
      case atStart => exact ⟨rfl, rfl, rfl⟩
      case round =>
        obtain ⟨rfl, rfl, rfl⟩ := hrel
        go_wp2
        go_step3
        go_wp2
        go_quiet (fail)
        go_wp2
        obtain ⟨W1, HW1⟩ : ∃ W1, Hid (W1 = wr.drewN nq) := ⟨_, rfl⟩
        rw [← HW1.out]
        go_quiet ((go_at_call 134; exact Calls.quiet_of_same (Tryz.strings_IndexByte _ _ _)))
        rw [show Lib.indexByte ByteArray.empty.data.toList (d.toNat : Int).toNat.toUInt8 = -1 from rfl]
        go_wp2
        change bodyPost Tryz.prog Tryz.f116 (fun e w' => e = .returned (.int .i64 (-1)) ∧ Below wr.heap.size wr w') .ret _ _
        go_ret
        exact ⟨rfl, by rw [HW1.out]; exact below_drewN (below_drewN (Below.refl _ _) _) _⟩
    · subst hz2
      have hzs : E.size = 4 := hz.symm
      clear hz hd e1 e2
      go_enter Tryz.func116, Tryz.ntmps116
      go_wp2_with fail
      refine (Tryz.utf8_ValidRune r _).mono ?_
      rintro e w1 ⟨rfl, rfl⟩
      rw [HV.out]
      go_wp2
      go_step3
      go_wp2
      go_loopw [9, 10] (fun i f w' => i = .int .i64 3 ∧ f = .int .i64 0 ∧ w' = w1) (fun _ _ _ => 0)
      case atStart => exact ⟨rfl, rfl, rfl⟩
      case round =>
        obtain ⟨rfl, rfl, rfl⟩ := hrel
        go_wp2
        (try rw [Exit.noGoto_ret])
        go_ret
        exact ⟨rfl, Below.refl _ _⟩

theorem indexAny_lt (l chars : List UInt8) : Lib.indexAny l chars < l.length := by
  induction l with
  | nil => simp [Lib.indexAny]
  | cons b l ih =>
    rw [Lib.indexAny]
    split
    · simp <;> omega
    · split
      · simp <;> omega
      · simp <;> omega
theorem indexAny_at (chars : List UInt8) : ∀ l : List UInt8, 0 ≤ Lib.indexAny l chars → ∃ k, l[(Lib.indexAny l chars).toNat]? = some k ∧ chars.contains k = true
  | [], h => by simp [Lib.indexAny] at h
  | b :: l, h => by
    have hge := Lib.indexAny_ge chars l
    by_cases hb : chars.contains b = true
    · have e : Lib.indexAny (b :: l) chars = 0 := by rw [Lib.indexAny, if_pos hb]
      rw [e]
      exact ⟨b, rfl, hb⟩
    · by_cases h1 : (Lib.indexAny l chars == -1) = true
      · have e : Lib.indexAny (b :: l) chars = -1 := by rw [Lib.indexAny, if_neg hb, if_pos h1]
        rw [e] at h; omega
      · have e : Lib.indexAny (b :: l) chars = Lib.indexAny l chars + 1 := by rw [Lib.indexAny, if_neg hb, if_neg h1]
        have h2 : Lib.indexAny l chars ≠ -1 := by simpa using h1
        obtain ⟨k, hk, hc⟩ := indexAny_at chars l (by omega)
        refine ⟨k, ?_, hc⟩
        rw [e, show (Lib.indexAny l chars + 1).toNat = (Lib.indexAny l chars).toNat + 1 by omega]
        simpa using hk
theorem acd_is {k : UInt8} (h : ([97, 99, 100] : List UInt8).contains k = true) : k = 97 ∨ k = 99 ∨ k = 100 := by
  simpa using h
theorem okCut_any (l : List UInt8) : okCut l (Lib.indexAny l [97, 99, 100]) :=
  ⟨Lib.indexAny_ge _ l, indexAny_lt _ _, fun _ => rfl, fun h => by obtain ⟨k, h1, h2⟩ := indexAny_at _ l h; exact ⟨k, h1, acd_is h2⟩⟩
theorem decode_top (s : ByteArray) (pos : Nat) : (Utf8.decode s pos).1 ≤ 2147483647 := by
  have h0 : ∀ k, (s.get! (pos + k)).toNat < 256 := fun k => UInt8.toNat_lt _
  have a0 := h0 0
  have a1 := h0 1
  have a2 := h0 2
  have a3 := h0 3
  simp only [Utf8.decode, Utf8.runeError]
  repeat' split
  all_goals (try dsimp only)
  all_goals omega

theorem iterPos_at {w : World} {k : Nat} {s : ByteArray} {p : Nat} (h : w.heap[k]? = some (.stringIter s p)) : w.iterPos k = p := by
  unfold World.iterPos
  rw [h]

set_option maxHeartbeats 2000000 in
set_option maxRecDepth 100000 in
theorem indexAny_short (s : ByteArray) (h8 : s.size ≤ 8) (hno : ¬ ∀ b ∈ s.data.toList, b.toNat < 128) (w : World) :
    Calls Tryz.prog 80 #[.string s, .string ⟨#[97, 99, 100]⟩] w fun e w' => ∃ c : Int, e = .returned (.int .i64 c) ∧ okCut s.data.toList c ∧ Below w.heap.size w w' := by
  have HNO := Lib.hid hno
  have HSZ := Lib.hid (show s.data.toList.length = s.size by simp)
  have h8z : decide ((8 : Int) < (s.size : Int)) = false := decide_eq_false (by omega)
  clear hno
  go_enter Tryz.func80, Tryz.ntmps80
  go_wp2_with fail
  refine (Tryz.strings_shouldUseASCIISet _ _).mono ?_
  rintro e w1 ⟨rfl, rfl⟩
  rw [h8z]
  go_wp2
  go_loopw [9, 10] (fun _ _ w' => ∃ pos, Hid (w'.heap[w1.heap.size]? = some (.stringIter s pos)) ∧ pos ≤ s.size ∧ Below w1.heap.size w1 w') (fun _ _ w' => s.size - w'.iterPos w1.heap.size)
  case atStart => exact ⟨0, heap_alloc_new w1 _, by omega, below_alloc _ _⟩
  case round =>
    obtain ⟨pos, HK, hp, hb⟩ := hrel
    by_cases hlt : pos < s.size
    · have hnx := fun ty => Lib.run_next_any_at (P := Tryz.prog) wr w1.heap.size s pos ty HK.out hlt
      obtain ⟨_, d2, d3, _⟩ := decode_ten s pos hlt
      obtain ⟨W2, HW2⟩ : ∃ W2, Hid (W2 = wr.iterAt w1.heap.size s (pos + (Utf8.decode s pos).2)) := ⟨_, rfl⟩
      have HK2 := Lib.hid (show W2.heap[w1.heap.size]? = some (.stringIter s (pos + (Utf8.decode s pos).2)) by rw [HW2.out]; exact Lib.iterAt_heap wr _ s pos _ HK.out)
      have HB2 := Lib.hid (show Below w1.heap.size w1 W2 by rw [HW2.out]; exact Lib.below_iterAt hb (Nat.le_refl _) s _)
      rw [← HW2.out] at hnx
      have HSM := Lib.hid (show w1.heap.size < W2.heap.size from (Array.getElem?_eq_some_iff.1 HK2.out).1)
      obtain ⟨x, hx⟩ : ∃ x : UInt8, s[pos]'hlt = x := ⟨_, rfl⟩
      have HX := Lib.hid (show s.data.toList[pos]? = some x by rw [← hx]; exact Lib.data_getElem? s pos hlt)
      by_cases ha : x.toNat < 128
      · have hdec := decode_ascii s pos hlt (by rw [hx]; exact ha)
        rw [hx] at hdec
        rw [hdec] at hnx
        have HKA := Lib.hid (show W2.heap[w1.heap.size]? = some (.stringIter s (pos + 1)) by have := HK2.out; rwa [hdec] at this)
        have hback : ((x.toNat : Int)).toNat.toUInt8 = x := by simp
        have hcon := Lib.contains_iff_indexByte [97, 99, 100] x
        cases hin : ([97, 99, 100] : List UInt8).contains x
        · rw [hin] at hcon
          have hlt2 : ¬ ((0 : Int) ≤ Lib.indexByte [97, 99, 100] x) := of_decide_eq_false hcon.symm
          clear hcon hin hdec d2 d3 HK2
          go_wp2_with fail
          refine (Tryz.strings_IndexRune_ascii _ _ _ (by omega) (by omega)).mono ?_
          rintro e w3 ⟨rfl, rfl⟩
          rw [hback]
          go_wp2
          go_roundw
          case rel => exact ⟨pos + 1, HKA.out, by omega, HB2.out⟩
          case measure => rw [iterPos_at HKA.out, iterPos_at HK.out]; omega
        · rw [hin] at hcon
          have hge2 : (0 : Int) ≤ Lib.indexByte [97, 99, 100] x := of_decide_eq_true hcon.symm
          have HIN := Lib.hid (acd_is hin)
          clear hcon hin hdec d2 d3 HK2
          go_wp2_with fail
          refine (Tryz.strings_IndexRune_ascii _ _ _ (by omega) (by omega)).mono ?_
          rintro e w3 ⟨rfl, rfl⟩
          rw [hback]
          go_wp2
          go_ret
          exact ⟨(pos : Int), rfl, ⟨by omega, by rw [HSZ.out]; omega, fun h => absurd h HNO.out, fun _ => ⟨x, by simpa using HX.out, HIN.out⟩⟩, HB2.out⟩
      · have hhi := (decode_high s pos hlt (by rw [hx]; omega)).1
        have htop := decode_top s pos
        obtain ⟨q, hq⟩ : ∃ q : Int, q = ((Utf8.decode s pos).1 : Int) := ⟨_, rfl⟩
        rw [← hq] at hnx
        have hq1 : 128 ≤ q := by omega
        have hq2 : q ≤ 2147483647 := by omega
        clear hq hhi htop
        by_cases h3 : q = 65533
        · subst h3
          go_wp2_with fail
          refine (indexRune_error _).mono ?_
          rintro e w3 ⟨rfl, b3⟩
          have HK3 := Lib.hid (show w3.heap[w1.heap.size]? = some (.stringIter s (pos + (Utf8.decode s pos).2)) from (b3.block _ HSM.out).trans HK2.out)
          go_wp2
          go_roundw
          case rel => exact ⟨_, HK3.out, by omega, HB2.out.next b3⟩
          case measure => rw [iterPos_at HK3.out, iterPos_at HK.out]; omega
        · go_wp2_with fail
          refine (indexRune_high q hq1 hq2 h3 _).mono ?_
          rintro e w3 ⟨rfl, b3⟩
          have HK3 := Lib.hid (show w3.heap[w1.heap.size]? = some (.stringIter s (pos + (Utf8.decode s pos).2)) from (b3.block _ HSM.out).trans HK2.out)
          go_wp2
          go_roundw
          case rel => exact ⟨_, HK3.out, by omega, HB2.out.next b3⟩
          case measure => rw [iterPos_at HK3.out, iterPos_at HK.out]; omega
    · have hnx := fun ty => Lib.run_next_end_at (P := Tryz.prog) wr w1.heap.size s pos ty HK.out hlt
      go_wp2
      go_ret
      exact ⟨-1, rfl, ⟨by omega, by omega, fun h => absurd h HNO.out, fun h => by omega⟩, hb⟩

theorem acd_ascii : ∀ (j : Nat) b, (⟨#[97, 99, 100]⟩ : ByteArray).data.toList[j]? = some b → b.toNat < 128 := by
  intro j b h
  have := List.mem_of_getElem? h
  simp at this
  rcases this with e | e | e <;> (rw [e]; decide)

theorem IndexAny_acd (s : ByteArray) (hs : s.size ≤ 3000) (w : World) :
    Calls Tryz.prog 80 #[.string s, .string ⟨#[97, 99, 100]⟩] w fun e w' => ∃ c : Int, e = .returned (.int .i64 c) ∧ okCut s.data.toList c ∧ Below w.heap.size w w' := by
  by_cases h8 : s.size ≤ 8
  · by_cases ha : ∀ b ∈ s.data.toList, b.toNat < 128
    · refine (Tryz.strings_IndexAny_laid s ⟨#[97, 99, 100]⟩ w (by omega) (by decide) (fun j b h => ha b (List.mem_of_getElem? h)) acd_ascii).mono ?_
      rintro e w' ⟨rfl, hb⟩
      exact ⟨_, rfl, okCut_any _, hb⟩
    · exact indexAny_short s h8 ha w
  · refine (Tryz.strings_IndexAny_long (zero_of_info (n := 256) (by kernel_rfl)).1 s ⟨#[97, 99, 100]⟩ w (by decide) (by omega) (by omega) (by decide) acd_ascii).mono ?_
    rintro e w' ⟨rfl, rfl⟩
    exact ⟨_, rfl, okCut_any _, (below_alloc w _).next (below_alloc _ _)⟩

end Go.Proofs.YtnimaadjmejmpaaGreatDoor
