/-
  The head of an order is read, the model's.
-/
import Derived.Test.YtnnaigoomipklaaGreatDoorOgOTextS
import Derived.Test.YtnnaigoomipklaaGreatDoorOgNSpecs
set_option linter.unusedSimpArgs false
set_option linter.unusedVariables false
namespace Go.Proofs.YtnnaigoomipklaaGreatDoor.M
open Go

theorem takeWhile_all {p : UInt8 → Bool} : ∀ {l : List UInt8}, (∀ c ∈ l, p c = true) → l.takeWhile p = l ∧ l.dropWhile p = []
  | [], _ => ⟨rfl, rfl⟩
  | c :: l, h => by
    have ih := takeWhile_all (l := l) (fun d hd => h d (by simp [hd]))
    have hc := h c (by simp)
    simp [hc, ih.1, ih.2]
theorem takeWhile_at {p : UInt8 → Bool} {l : List UInt8} {q : Nat} (h : ∀ c ∈ l.take q, p c = true) (h2 : l.length ≤ q ∨ ∃ c, l[q]? = some c ∧ p c = false) : l.takeWhile p = l.take q ∧ l.dropWhile p = l.drop q := by
  rcases h2 with h2 | ⟨c, hc, hp⟩
  · rw [List.take_of_length_le h2] at h ⊢
    rw [List.drop_of_length_le h2]
    exact takeWhile_all h
  · have hq : q < l.length := (List.getElem?_eq_some_iff.1 hc).1
    have e : l.drop q = c :: l.drop (q + 1) := by
      rw [List.drop_eq_getElem_cons hq]
      rw [List.getElem?_eq_getElem hq] at hc
      injection hc with hc
      rw [hc]
    have ht := takeWhile_hit (p := p) (l := l.take q) (c := c) (r := l.drop (q + 1)) h hp
    rw [← e, List.take_append_drop] at ht
    exact ht
/-- The bytes ahead of q are digits and commas. -/
def allNum (s : ByteArray) (q : Nat) : Prop := ∀ c ∈ s.data.toList.take q, numc c = true
theorem allNum_zero (s : ByteArray) : allNum s 0 := fun c h => by simp at h
theorem allNum_succ {s : ByteArray} {q : Nat} (h : allNum s q) (hq : q < s.size) (hc : numc (s[q]'hq) = true) : allNum s (q + 1) := by
  intro c hm
  have e : s.data.toList[q]? = some (s[q]'hq) := by
    rw [List.getElem?_eq_getElem (by simp; exact hq)]
    rfl
  rw [List.take_add_one, e] at hm
  rcases List.mem_append.1 hm with hm | hm
  · exact h c hm
  · simp at hm; rw [hm]; exact hc
theorem allNum_end {s : ByteArray} {q : Nat} (h : allNum s q) (h2 : s.size ≤ q ∨ ∃ hq : q < s.size, numc (s[q]'hq) = false) : s.data.toList.takeWhile numc = s.data.toList.take q ∧ s.data.toList.dropWhile numc = s.data.toList.drop q := by
  refine takeWhile_at h ?_
  rcases h2 with h2 | ⟨hq, hc⟩
  · exact .inl (by simpa using h2)
  · refine .inr ⟨s[q]'hq, ?_, hc⟩
    rw [List.getElem?_eq_getElem (by simp; exact hq)]
    rfl
theorem numc_iff (c : UInt8) : numc c = ((decide (48 ≤ c.toNat) && decide (c.toNat ≤ 57)) || decide (c.toNat = 44)) := by
  unfold numc
  have h1 : digB c = (decide (48 ≤ c.toNat) && decide (c.toNat ≤ 57)) := by
    rw [Bool.eq_iff_iff, digB_iff]; simp
  have h2 : (c == 44) = decide (c.toNat = 44) := by
    rw [Bool.eq_iff_iff]
    simp only [beq_iff_eq, decide_eq_true_eq]
    exact ⟨fun h => by rw [h]; rfl, fun h => by apply UInt8.toNat_inj.1; rw [h]; rfl⟩
  rw [h1, h2]
theorem kind_cases (q : List UInt8) : (q = wordO 1 ∧ kindO q = 1) ∨ (q = wordO 2 ∧ kindO q = 2) ∨ (q = wordO 3 ∧ kindO q = 3) ∨ (q = wordO 4 ∧ kindO q = 4) ∨ (q = wordO 5 ∧ kindO q = 5) ∨ kindO q = 0 := by
  unfold kindO
  split
  · rename_i h; exact .inl ⟨h, rfl⟩
  · split
    · rename_i h; exact .inr (.inl ⟨h, rfl⟩)
    · split
      · rename_i h; exact .inr (.inr (.inl ⟨h, rfl⟩))
      · split
        · rename_i h; exact .inr (.inr (.inr (.inl ⟨h, rfl⟩)))
        · split
          · rename_i h; exact .inr (.inr (.inr (.inr (.inl ⟨h, rfl⟩))))
          · exact .inr (.inr (.inr (.inr (.inr rfl))))
theorem kind_word {q : List UInt8} {k : Nat} (h1 : 1 ≤ k) (h5 : k ≤ 5) : (wordO (k : Int) = q) ↔ kindO q = k := by
  constructor
  · intro e
    subst e
    have h : k = 1 ∨ k = 2 ∨ k = 3 ∨ k = 4 ∨ k = 5 := by omega
    rcases h with rfl | rfl | rfl | rfl | rfl <;> decide
  · intro e
    rcases kind_cases q with ⟨hq, hk⟩ | ⟨hq, hk⟩ | ⟨hq, hk⟩ | ⟨hq, hk⟩ | ⟨hq, hk⟩ | hk
    all_goals
      rw [hk] at e
      subst e
      first | exact hq.symm | omega
theorem kind_le (q : List UInt8) : kindO q ≤ 5 := by
  unfold kindO
  repeat (first | omega | split)
/-- The kind found among the first k words. -/
def kindUp (q : List UInt8) (k : Nat) : Int := if kindO q < k then (kindO q : Int) else 0
theorem kindUp_one (q : List UInt8) : kindUp q 1 = 0 := by
  unfold kindUp
  split
  · omega
  · rfl
theorem kindUp_hit {q : List UInt8} {k : Nat} (h1 : 1 ≤ k) (h5 : k ≤ 5) (h : wordO (k : Int) = q) : kindUp q (k + 1) = (k : Int) := by
  have := (kind_word h1 h5).1 h
  unfold kindUp
  rw [if_pos (by omega), this]
theorem kindUp_miss {q : List UInt8} {k : Nat} (h1 : 1 ≤ k) (h5 : k ≤ 5) (h : ¬ wordO (k : Int) = q) : kindUp q (k + 1) = kindUp q k := by
  have hn : kindO q ≠ k := fun e => h ((kind_word h1 h5).2 e)
  unfold kindUp
  by_cases hlt : kindO q < k
  · rw [if_pos hlt, if_pos (by omega)]
  · rw [if_neg hlt, if_neg (by omega)]
theorem kindUp_all (q : List UInt8) : kindUp q 6 = (kindO q : Int) := if_pos (by have := kind_le q; omega)

end Go.Proofs.YtnnaigoomipklaaGreatDoor.M

namespace Go.Proofs.YtnnaigoomipklaaGreatDoor
open Go.RowKit Go.ChangeShapes Go.WideShapes M

theorem cell_set_other {w : World} {a b : Addr} {u v : Value} (h : w.cell? a = some v) (hne : b.block ≠ a.block) : (w.setCell b u).cell? a = some v := by
  unfold World.cell? at h ⊢
  rw [Below.heap_setCell _ _ _ _ (fun e => hne e.symm)]
  exact h

/-- What l9Head answers: an order without lines, and whether it is one. -/
def headV (k f t : Int) (ok : Bool) : Value := .tuple #[.agg #[.int .i64 k, .int .i64 f, .int .i64 t, .slice none 0 0], .bool ok]

set_option maxHeartbeats 4000000 in
set_option maxRecDepth 100000 in
theorem l9Head_any (s : ByteArray) (hs : s.size ≤ 3000) (w : World) :
    Calls Tryz.prog 72 #[.string s] w fun e w' => ∃ k f t : Int, ∃ ok : Bool, e = .returned (headV k f t ok) ∧ Hid (ok = (hdO s.data.toList).isSome) ∧ Hid (∀ y, hdO s.data.toList = some y → k = (y.1 : Int) ∧ f = (y.2.1 : Int) ∧ t = (y.2.2 : Int)) ∧ Below w.heap.size w w' := by
  obtain ⟨W, HW⟩ : ∃ W, Hid (W = w.alloc (.cells #[.int .i64 0, .int .i64 0, .int .i64 0, .slice none 0 0] 78)) := ⟨_, rfl⟩
  have HB := Lib.hid (show Below w.heap.size w W by rw [HW.out]; exact below_alloc w _)
  have HG := Lib.hid (show W.heap[w.heap.size]? = some (.cells #[.int .i64 0, .int .i64 0, .int .i64 0, .slice none 0 0] 78 (0, 0)) by rw [HW.out]; exact heap_alloc_new w _)
  have HLW := Lib.hid (show w.heap.size < W.heap.size from (Array.getElem?_eq_some_iff.1 HG.out).1)
  go_enter Tryz.func72, Tryz.ntmps72
  go_wp2
  rw [← HW.out]
  go_loopw [4] (fun i w' => ∃ k : Nat, i = .int .i64 k ∧ k ≤ s.size ∧ Hid (allNum s k) ∧ w' = W) (fun i _ => s.size - (intOf i).toNat)
  case atStart => exact ⟨0, rfl, by omega, Lib.hid (allNum_zero s), rfl⟩
  case round =>
    obtain ⟨q, rfl, hq, H, hWW⟩ := hrel
    obtain rfl := hWW.symm
    by_cases hgo : ∃ h : q < s.size, numc (s[q]'h) = true
    · obtain ⟨hlt, hn⟩ := hgo
      have HN := Lib.hid (allNum_succ H.out hlt hn)
      rw [numc_iff] at hn
      simp only [Bool.or_eq_true, Bool.and_eq_true, decide_eq_true_eq] at hn
      rcases hn with ⟨h1, h2⟩ | h1
      · have b1 : decide ((48 : Int) ≤ (((s[q]'hlt).toNat : Nat) : Int)) = true := by simp; omega
        have b2 : decide ((((s[q]'hlt).toNat : Nat) : Int) ≤ 57) = true := by simp; omega
        go_wp2
        go_roundw
        case rel => exact ⟨q + 1, by go_num, by omega, HN, trivial⟩
        case measure => simp [intOf]; omega
      · have b1 : decide ((48 : Int) ≤ (((s[q]'hlt).toNat : Nat) : Int)) = false := by simp; omega
        have b3 : ((((s[q]'hlt).toNat : Nat) : Int) == 44) = true := by simp; omega
        go_wp2
        go_roundw
        case rel => exact ⟨q + 1, by go_num, by omega, HN, trivial⟩
        case measure => simp [intOf]; omega
    · have HE := Lib.hid (allNum_end H.out (by
        rcases Nat.lt_or_ge q s.size with hl | hl
        · exact .inr ⟨hl, by rw [Bool.eq_false_iff]; exact fun e => hgo ⟨hl, e⟩⟩
        · exact .inl hl))
      obtain ⟨X1, HX1⟩ : ∃ X, Hid (X = s.extract 0 q) := ⟨_, rfl⟩
      obtain ⟨X2, HX2⟩ : ∃ X, Hid (X = s.extract q s.size) := ⟨_, rfl⟩
      have HL1 := Lib.hid (show X1.data.toList = s.data.toList.takeWhile numc by rw [HX1.out, HE.out.1, extract_bs, bs_list]; simp)
      have HL2 := Lib.hid (show X2.data.toList = s.data.toList.dropWhile numc by rw [HX2.out, HE.out.2, extract_bs, bs_list]; exact List.take_of_length_le (by rw [Lib.size_eq]; simp))
      have hX1 : X1.size ≤ 1048576 := by rw [HX1.out, ByteArray.size_extract]; omega
      obtain ⟨Q, HQ⟩ : ∃ Q, Hid (s.data.toList.dropWhile numc = Q) := ⟨_, rfl⟩
      obtain ⟨f, t, o, HD, HPO⟩ : ∃ (f t : Int) (o : Bool), Hid (duo (pairL X1.data.toList) = .tuple #[.int .i64 f, .int .i64 t, .bool o]) ∧ Hid ((o = false → pairL X1.data.toList = none) ∧ (o = true → pairL X1.data.toList = some (f.toNat, t.toNat) ∧ 0 ≤ f ∧ 0 ≤ t)) := by
        cases hp : pairL X1.data.toList with
        | none => exact ⟨0, 0, false, rfl, fun _ => rfl, fun h => by cases h⟩
        | some x => exact ⟨_, _, true, rfl, fun h => by (cases h), fun _ => ⟨by simp, by omega, by omega⟩⟩
      have HHD := Lib.hid (show hdO s.data.toList = if o = true ∧ kindO Q ≠ 0 then some (kindO Q, f.toNat, t.toNat) else none by
        unfold hdO
        rw [← HL1.out, HQ.out]
        cases o with
        | false => rw [HPO.out.1 rfl]; simp
        | true =>
          rw [(HPO.out.2 rfl).1]
          simp only [true_and]
          by_cases h0 : kindO Q = 0
          · rw [if_pos h0, if_neg (by simp [h0])]
          · rw [if_neg h0, if_pos h0])
      have hcase : s.size ≤ q ∨ (∃ hlt : q < s.size, decide ((48 : Int) ≤ (((s[q]'hlt).toNat : Nat) : Int)) = true ∧ decide ((((s[q]'hlt).toNat : Nat) : Int) ≤ 57) = false ∧ ((((s[q]'hlt).toNat : Nat) : Int) == 44) = false) ∨ (∃ hlt : q < s.size, decide ((48 : Int) ≤ (((s[q]'hlt).toNat : Nat) : Int)) = false ∧ ((((s[q]'hlt).toNat : Nat) : Int) == 44) = false) := by
        rcases Nat.lt_or_ge q s.size with hl | hl
        · have hn : numc (s[q]'hl) = false := by rw [Bool.eq_false_iff]; exact fun e => hgo ⟨hl, e⟩
          rw [numc_iff] at hn
          simp only [Bool.or_eq_false_iff, Bool.and_eq_false_iff, decide_eq_false_iff_not] at hn
          rcases Nat.lt_or_ge (s[q]'hl).toNat 48 with h4 | h4
          · exact .inr (.inr ⟨hl, by simp; omega, by simp; omega⟩)
          · exact .inr (.inl ⟨hl, by simp; omega, by simp; omega, by simp; omega⟩)
        · exact .inl hl
      clear hgo H
      rcases hcase with hge | ⟨hlt, b1, b2, b3⟩ | ⟨hlt, b1, b3⟩
      all_goals
        go_wp2_with fail
        rw [← HX1.out]
        refine (sReadPair_any X1 hX1 _).mono ?_
        rintro e w3 ⟨rfl, b3'⟩
        rw [HD.out]
        obtain ⟨W4, HW4⟩ : ∃ W4, Hid (W4 = w3.alloc (.cells #[.int .i64 0, .int .i64 f, .int .i64 t, .slice none 0 0] 78)) := ⟨_, rfl⟩
        have HB4 := Lib.hid (show Below W.heap.size W W4 by rw [HW4.out]; exact b3'.next (below_alloc _ _))
        have HG4 := Lib.hid (show W4.heap[w3.heap.size]? = some (.cells #[.int .i64 0, .int .i64 f, .int .i64 t, .slice none 0 0] 78 (0, 0)) by rw [HW4.out]; exact heap_alloc_new w3 _)
        have HZ4 := Lib.hid (show W.heap.size ≤ w3.heap.size from b3'.size)
        obtain ⟨g, HGG⟩ : ∃ g, Hid (w3.heap.size = g) := ⟨_, rfl⟩
        go_wp2_with fail
        rw [← HW4.out]
        refine (l9Words_any W4).mono ?_
        rintro e w5 ⟨gw, rfl, hk, b5⟩
        have HWB := Lib.hid (show Below W.heap.size W w5 from HB4.out.next b5)
        have HG5 := Lib.hid (show w5.heap[g]? = some (.cells #[.int .i64 (kindUp Q 0), .int .i64 f, .int .i64 t, .slice none 0 0] 78 (0, 0)) by
          rw [← HGG.out]
          exact (b5.block _ (Array.getElem?_eq_some_iff.1 HG4.out).1).trans HG4.out)
        have HK5 := Lib.hid (show (∀ j : Nat, j < 6 → w5.cell? ⟨gw, j, none⟩ = some (.string (bs (wordO (j : Int))))) from hk)
        have HNE := Lib.hid (show gw ≠ g by
          intro e
          have h1 := hk 0 (by omega)
          rw [e] at h1
          unfold World.cell? at h1
          simp only at h1
          rw [HG5.out] at h1
          simp at h1)
        have HGE := Lib.hid (show W.heap.size ≤ g by rw [← HGG.out]; exact HZ4.out)
        rw [HGG.out]
        clear hk
        go_wp2
        go_loopw [48] (fun i w' => ∃ k : Nat, i = .int .i64 k ∧ k ≤ 6 ∧ Hid (w'.heap[g]? = some (.cells #[.int .i64 (kindUp Q k), .int .i64 f, .int .i64 t, .slice none 0 0] 78 (0, 0))) ∧ Hid (∀ j : Nat, j < 6 → w'.cell? ⟨gw, j, none⟩ = some (.string (bs (wordO (j : Int))))) ∧ Hid (Below W.heap.size W w')) (fun i _ => 6 - (intOf i).toNat)
        case atStart => exact ⟨0, rfl, by omega, HG5, HK5, HWB⟩
        case round =>
          obtain ⟨k, rfl, hk6, HGk, HKk, HBk⟩ := hrel
          have hgk := HGk.out
          have z0 : wr.cell? ⟨g, 0, none⟩ = some (.int .i64 (kindUp Q k)) := by simp [World.cell?, hgk]
          have z1 : wr.cell? ⟨g, 1, none⟩ = some (.int .i64 f) := by simp [World.cell?, hgk]
          have z2 : wr.cell? ⟨g, 2, none⟩ = some (.int .i64 t) := by simp [World.cell?, hgk]
          have z3 : wr.cell? ⟨g, 3, none⟩ = some (.slice none 0 0) := by simp [World.cell?, hgk]
          have fz : ∀ j, wr.frozen? ⟨g, j, none⟩ = false := fun j => by simp [World.frozen?, hgk]
          clear hgk
          by_cases hlt2 : k < 6
          · obtain ⟨Z, HZ⟩ : ∃ Z, Hid (bs (wordO (k : Int)) = Z) := ⟨_, rfl⟩
            have cz : wr.cell? ⟨gw, k, none⟩ = some (.string Z) := by rw [HKk.out k hlt2, HZ.out]
            by_cases hk0 : k = 0
            · subst hk0
              have HGn := Lib.hid (show wr.heap[g]? = some (.cells #[.int .i64 (kindUp Q 1), .int .i64 f, .int .i64 t, .slice none 0 0] 78 (0, 0)) by rw [kindUp_one]; exact HGk.out)
              go_wp2
              go_roundw
              case rel => exact ⟨1, by go_num, by omega, HGn, HKk, HBk⟩
              case measure => simp [intOf]
            · have hpos : decide ((0 : Int) < (k : Int)) = true := by simp; omega
              have hpos2 : decide (0 < k) = true := by simp; omega
              have HEQ := Lib.hid (show (Z.toList == (s.extract q s.size).toList) = decide (wordO (k : Int) = Q) by
                rw [← HX2.out, ByteArray.toList_eq, ByteArray.toList_eq, HL2.out, HQ.out, ← HZ.out, bs_list, Bool.eq_iff_iff]
                simp)
              cases hm : decide (wordO (k : Int) = Q)
              · have heq : (Z.toList == (s.extract q s.size).toList) = false := by rw [HEQ.out, hm]
                have HGn := Lib.hid (show wr.heap[g]? = some (.cells #[.int .i64 (kindUp Q (k + 1)), .int .i64 f, .int .i64 t, .slice none 0 0] 78 (0, 0)) by
                  rw [kindUp_miss (by omega) (by omega) (by simpa using hm)]; exact HGk.out)
                clear hm
                go_wp2
                go_roundw
                case rel => exact ⟨k + 1, by go_num, by omega, HGn, HKk, HBk⟩
                case measure => simp [intOf]; omega
              · have heq : (Z.toList == (s.extract q s.size).toList) = true := by rw [HEQ.out, hm]
                have HKU := Lib.hid (kindUp_hit (q := Q) (k := k) (by omega) (by omega) (by simpa using hm))
                clear hm
                go_wp2
                go_roundw
                case rel =>
                  refine ⟨k + 1, by go_num, by omega, Lib.hid ?_, Lib.hid ?_, Lib.hid ?_⟩
                  · rw [heap_set_sameO HGk.out, HKU.out]; rfl
                  · exact fun j hj => cell_set_other (HKk.out j hj) (fun e => HNE.out e.symm)
                  · exact HBk.out.setCell HGE.out _
                case measure => simp [intOf]; omega
          · obtain rfl : k = 6 := by omega
            have hw0 : wr.heap[w.heap.size]? = some (.cells #[.int .i64 0, .int .i64 0, .int .i64 0, .slice none 0 0] 78 (0, 0)) := (HBk.out.block _ HLW.out).trans HG.out
            have y0 : wr.cell? ⟨w.heap.size, 0, none⟩ = some (.int .i64 0) := by simp [World.cell?, hw0]
            have y1 : wr.cell? ⟨w.heap.size, 1, none⟩ = some (.int .i64 0) := by simp [World.cell?, hw0]
            have y2 : wr.cell? ⟨w.heap.size, 2, none⟩ = some (.int .i64 0) := by simp [World.cell?, hw0]
            have y3 : wr.cell? ⟨w.heap.size, 3, none⟩ = some (.slice none 0 0) := by simp [World.cell?, hw0]
            have fy : ∀ j, wr.frozen? ⟨w.heap.size, j, none⟩ = false := fun j => by simp [World.frozen?, hw0]
            have HNG := Lib.hid (show g ≠ w.heap.size by have h1 := HGE.out; have h2 := HLW.out; omega)
            have HNG2 := Lib.hid (show w.heap.size ≠ g from fun e => HNG.out e.symm)
            have n1 := HNG.out
            have n2 := HNG2.out
            obtain ⟨KN, HKN⟩ : ∃ KN : Nat, Hid (kindO Q = KN) := ⟨_, rfl⟩
            rw [kindUp_all, HKN.out] at z0
            have HBF := Lib.hid (HB.out.trans (HBk.out.mono (show w.heap.size ≤ W.heap.size by have := HLW.out; omega)))
            rw [HKN.out] at HHD
            clear hw0
            cases o
            · have HE2 := Lib.hid (show hdO s.data.toList = none by rw [HHD.out]; simp)
              go_wp2
              go_region
              all_goals
                (try go_wp2)
                (try simp only [Exit.inBlock, Exit.then])
                refine bodyPost_ret (v := headV (KN : Int) f t false) (by simp [results, Tryz.results72, go_sem, y0, y1, y2, y3, headV]) rfl ?_
                exact ⟨(KN : Int), f, t, false, rfl, Lib.hid (by rw [HE2.out]; rfl), Lib.hid (by rw [HE2.out]; intro y h; cases h), ((((HBF.out.setCell (Nat.le_refl _) _).setCell (Nat.le_refl _) _).setCell (Nat.le_refl _) _).setCell (Nat.le_refl _) _).drew⟩
            · have hft := HPO.out.2 rfl
              by_cases hz0 : KN = 0
              · have HE2 := Lib.hid (show hdO s.data.toList = none by rw [HHD.out, if_neg (by simp [hz0])])
                have hd1 : decide ((0 : Int) < (KN : Int)) = false := by simp [hz0]
                have hd2 : decide (0 < KN) = false := by simp [hz0]
                clear hz0 hft
                go_wp2
                go_region
                (try go_wp2)
                (try simp only [Exit.inBlock, Exit.then])
                refine bodyPost_ret (v := headV (KN : Int) f t false) (by simp [results, Tryz.results72, go_sem, y0, y1, y2, y3, headV]) rfl ?_
                exact ⟨(KN : Int), f, t, false, rfl, Lib.hid (by rw [HE2.out]; rfl), Lib.hid (by rw [HE2.out]; intro y h; cases h), ((((HBF.out.setCell (Nat.le_refl _) _).setCell (Nat.le_refl _) _).setCell (Nat.le_refl _) _).setCell (Nat.le_refl _) _).drew⟩
              · have HE2 := Lib.hid (show hdO s.data.toList = some (KN, f.toNat, t.toNat) by rw [HHD.out, if_pos ⟨rfl, hz0⟩])
                have HFT := Lib.hid hft
                have hd1 : decide ((0 : Int) < (KN : Int)) = true := by simp; omega
                have hd2 : decide (0 < KN) = true := by simp; omega
                clear hz0 hft
                go_wp2
                go_region
                (try go_wp2)
                (try simp only [Exit.inBlock, Exit.then])
                refine bodyPost_ret (v := headV (KN : Int) f t true) (by simp [results, Tryz.results72, go_sem, y0, y1, y2, y3, headV]) rfl ?_
                exact ⟨(KN : Int), f, t, true, rfl, Lib.hid (by rw [HE2.out]; rfl), Lib.hid (by rw [HE2.out]; intro y h; injection h with h; subst h; exact ⟨rfl, (Int.toNat_of_nonneg HFT.out.2.1).symm, (Int.toNat_of_nonneg HFT.out.2.2).symm⟩), ((((HBF.out.setCell (Nat.le_refl _) _).setCell (Nat.le_refl _) _).setCell (Nat.le_refl _) _).setCell (Nat.le_refl _) _).drew⟩

end Go.Proofs.YtnnaigoomipklaaGreatDoor
