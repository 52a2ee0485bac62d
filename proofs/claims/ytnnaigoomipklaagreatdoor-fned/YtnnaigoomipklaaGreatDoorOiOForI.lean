/-
  Orders made of one hunk, the program's.
-/
import Derived.Test.YtnnaigoomipklaaGreatDoorOiORunI
import Derived.Test.YtnnaigoomipklaaGreatDoorOiSNum
set_option linter.unusedSimpArgs false
set_option linter.unusedVariables false
namespace Go.Proofs.YtnnaigoomipklaaGreatDoor.M
open Go

/-- The lines of a hunk, of which the first ones are written as an order brings them. -/
def halfD (l : List ByteArray) (j : Nat) : List ByteArray := (l.take j).map dots ++ l.drop j
theorem halfD_zero (l : List ByteArray) : halfD l 0 = l := by simp [halfD]
theorem halfD_all (l : List ByteArray) {j : Nat} (h : l.length ≤ j) : halfD l j = l.map dots := by simp [halfD, List.take_of_length_le h, List.drop_of_length_le h]
theorem halfD_get {l : List ByteArray} {j : Nat} {s : ByteArray} (h : l[j]? = some s) : (halfD l j)[j]? = some s := by
  have hj : j < l.length := (List.getElem?_eq_some_iff.1 h).1
  unfold halfD
  rw [List.getElem?_append_right (by simp; omega)]
  simp only [List.length_map, List.length_take, Nat.min_eq_left (Nat.le_of_lt hj), Nat.sub_self, List.getElem?_drop, Nat.add_zero]
  exact h
theorem halfD_succ {l : List ByteArray} {j : Nat} {s : ByteArray} (h : l[j]? = some s) : halfD l (j + 1) = (halfD l j).set j (dots s) := by
  have hj : j < l.length := (List.getElem?_eq_some_iff.1 h).1
  unfold halfD
  rw [List.set_append_right _ _ (by simp; omega)]
  simp only [List.length_map, List.length_take, Nat.min_eq_left (Nat.le_of_lt hj), Nat.sub_self]
  have hs : l.drop j = s :: l.drop (j + 1) := by
    rw [List.getElem?_eq_getElem hj] at h
    injection h with h
    rw [← h, ← List.drop_eq_getElem_cons hj]
  rw [hs, List.set_cons_zero, take_snoc h]
  simp
theorem set_get_self {α : Type} {l : List α} {j : Nat} {s : α} (h : l[j]? = some s) : l.set j s = l := by
  apply List.ext_getElem?
  intro i
  rw [List.getElem?_set]
  split
  · rename_i e
    subst e
    split
    · exact h.symm
    · rename_i hlt
      rw [List.getElem?_eq_none (by omega)] at h
      cases h
  · rfl
theorem fixO_take_succ {l : List ByteArray} {j : Nat} {s : ByteArray} (h : l[j]? = some s) (a : Nat) : fixO a (l.take (j + 1)) = fixO a (l.take j) ++ (if s = dotA then [⟨5, ((a + j : Nat) : Int) + 1, ((a + j : Nat) : Int) + 1, []⟩] else []) := by
  have hj : j < l.length := (List.getElem?_eq_some_iff.1 h).1
  rw [take_snoc h, fixO_snoc]
  simp only [List.length_take, Nat.min_eq_left (Nat.le_of_lt hj)]

end Go.Proofs.YtnnaigoomipklaaGreatDoor.M

namespace Go.Proofs.YtnnaigoomipklaaGreatDoor
open Go.RowKit Go.ChangeShapes Go.WideShapes M

/-- One order in a new block, its lines of the call's own. -/
theorem OwnOd.one {w : World} {base : Nat} {x : Od} {u : Value} (hb : base ≤ w.heap.size) (hx : OdOk x) (hu : OwnV w base u x.new) :
    OwnOd (w.alloc (.cells #[.int .i64 x.kd, .int .i64 x.fr, .int .i64 x.to_, u] 78)) base (.slice (some ⟨w.heap.size, 0, none⟩) 1 1) [x] [odRow x u] := by
  obtain ⟨r1, r2⟩ := odRow_own (x := x) (hu.below (below_alloc w (.cells #[.int .i64 x.kd, .int .i64 x.fr, .int .i64 x.to_, u] 78)))
  refine ⟨rfl, ⟨⟨⟨⟨rfl, .inr ⟨w.heap.size, 1, _, rfl, hb, heap_alloc_new w _, Nat.le_refl _, by unfold maxLen; omega, rfl, rfl⟩⟩, ?_⟩, ?_⟩, fun r hr => ?_⟩, fun k r y hr hy => ?_, fun y hy => ?_⟩
  · show D.ownL _ _ ([odRow x u].flatten)
    simpa using r1
  · have e : [odRow x u].flatten = odRow x u := by simp
    rw [D.blocks, e, List.nodup_append]
    refine ⟨by simp [Value.ownBlock], r2, fun a ha b hb e => ?_⟩
    have ha : a = w.heap.size := by simpa [Value.ownBlock] using ha
    have := (D.ownL_lt (odRow_own (x := x) hu).1 hb).2
    omega
  · simp at hr; rw [hr]; rfl
  · match k with
    | 0 => simp at hr hy; subst hr hy; exact ⟨u, rfl⟩
    | k + 1 => simp at hr
  · simp at hy; rw [hy]; exact hx

set_option maxHeartbeats 2000000 in
set_option maxRecDepth 100000 in
theorem ordersFor_any (b off a gn : Nat) (new : List ByteArray) (A : Option Addr) (m c : Nat) (w : World) (h0 : w.cell? ⟨b, off, none⟩ = some (.int .i64 (a : Int))) (h1 : w.cell? ⟨b, off + 1, none⟩ = some (.int .i64 (gn : Int))) (h2 : w.cell? ⟨b, off + 2, none⟩ = some (.slice A m c)) (hs : Strs w A m new)
    (hag : a + gn ≤ 40) (hm : m ≤ 40) (hne : ¬ (gn = 0 ∧ m = 0)) :
    Calls Tryz.prog 77 #[.pointer (some ⟨b, off, none⟩)] w fun e w' => ∃ v rows, e = .returned v ∧ OwnOd w' w.heap.size v (edOne ⟨a, gn, new⟩) rows ∧ Below w.heap.size w w' := by
  have HL := Lib.hid hs.len
  have HS := Lib.hid hs
  have HC := Lib.hid (show w.cell? ⟨b, off, none⟩ = some (.int .i64 (a : Int)) ∧ w.cell? ⟨b, off + 1, none⟩ = some (.int .i64 (gn : Int)) from ⟨h0, h1⟩)
  obtain ⟨s, HSM⟩ : ∃ s : Nat, Hid (s = a + gn) := ⟨_, rfl⟩
  have hsum : IntKind.i64.wrap ((a : Int) + (gn : Int)) = (s : Int) := by rw [HSM.out, IntKind.wrap_i64]; omega
  obtain ⟨f, HF⟩ : ∃ f : Int, Hid (numI (a : Int) gn = f) := ⟨_, rfl⟩
  have hf0 : Hid (0 ≤ f ∧ f ≤ 41) := by
    have h1 : numI (a : Int) gn = a ∨ numI (a : Int) gn = a + 1 := by unfold numI; split <;> simp
    rw [HF.out] at h1
    exact show 0 ≤ f ∧ f ≤ 41 from by omega
  obtain ⟨kd, HK⟩ : ∃ kd : Int, Hid (mainK ⟨a, gn, new⟩ = kd) := ⟨_, rfl⟩
  have HM := Lib.hid (show mainO ⟨a, gn, new⟩ = ⟨kd, f, s, new.map dots⟩ by
    unfold mainO
    rw [HK.out]
    apply Od.ext_
    · rfl
    · show (if (gn : Int) = 0 then (a : Int) else (a : Int) + 1) = f
      rw [← HF.out]
      unfold numI
      by_cases h : gn = 0
      · rw [if_pos (by omega), if_pos h]
      · rw [if_neg (by omega), if_neg h]
    · show (a : Int) + (gn : Int) = (s : Int)
      rw [HSM.out]; omega
    · rfl)
  have hkd : kd = 4 ∧ m = 0 ∧ gn ≠ 0 ∨ kd = 1 ∧ m ≠ 0 ∧ gn = 0 ∨ kd = 3 ∧ m ≠ 0 ∧ gn ≠ 0 := by
    rw [← HK.out]
    unfold mainK
    show (if (gn : Int) = 0 then (1 : Int) else if new.length = 0 then 4 else 3) = 4 ∧ _ ∨ _
    rw [HL.out]
    by_cases hg : gn = 0
    · rw [if_pos (by omega)]
      exact .inr (.inl ⟨rfl, fun e => hne ⟨hg, e⟩, hg⟩)
    · rw [if_neg (by omega)]
      by_cases h0 : m = 0
      · rw [if_pos h0]; exact .inl ⟨rfl, h0, hg⟩
      · rw [if_neg h0]; exact .inr (.inr ⟨rfl, h0, hg⟩)
  have hko : Hid (i64ok kd) := show i64ok kd from by unfold i64ok; omega
  rcases hkd with ⟨rfl, hm0, hg0⟩ | ⟨rfl, hm0, hg0⟩ | ⟨rfl, hm0, hg0⟩
  · have q1 : (((m : Nat) : Int) == 0) = true := by simp [hm0]
    have q2 : (((gn : Nat) : Int) == 0) = false := by simp; omega
    clear hne hm0 hg0
    go_enter Tryz.func77, Tryz.ntmps77
    go_wp2_with fail
    refine (copyOf_any A m c new _ HS.out (by omega)).mono ?_
    rintro e w1 ⟨v1, rfl, o1, b1⟩
    obtain ⟨A1, c1, rfl, h11, h12⟩ := o1.form HL.out
    have HB1 := Lib.hid b1
    have HO1 := Lib.hid o1
    have d0 := cell_keep b1 HC.out.1
    have d1 := cell_keep b1 HC.out.2
    clear b1 o1
    go_wp2
    go_region_held3 (fun w' => w'.cell? ⟨b, off, none⟩ = some (.int .i64 (a : Int)) ∧ w'.cell? ⟨b, off + 1, none⟩ = some (.int .i64 (gn : Int))) (first | exact ⟨d0, d1⟩ | exact ⟨cell_keep (below_alloc _ _) d0, cell_keep (below_alloc _ _) d1⟩)
      (first | (go_at_call 105; refine (numberAtI_any (a : Int) gn (by omega) (by omega) _).mono ?_; rintro e w2 ⟨rfl, hw2⟩; subst hw2; rw [HF.out]) | fail)
    obtain ⟨W2, HW2⟩ : ∃ W2, Hid (W2 = (w1.alloc (.cells #[.int .i64 4, .int .i64 f, .int .i64 (s : Int), .slice A1 m c1] 78)).drew) := ⟨_, rfl⟩
    rw [← HW2.out]
    have HB2 := Lib.hid (show Below w.heap.size w W2 by rw [HW2.out]; exact (HB1.out.next (below_alloc _ _)).drew)
    have HO2 := Lib.hid (show OwnOd W2 w.heap.size (.slice (some ⟨w1.heap.size, 0, none⟩) 1 1) [⟨4, f, s, new⟩] [odRow ⟨4, f, s, new⟩ (.slice A1 m c1)] by
      rw [HW2.out]
      exact (OwnOd.one (x := ⟨4, f, s, new⟩) HB1.out.size ⟨hko.out, by unfold i64ok; have := hf0.out; dsimp only; omega, by unfold i64ok; dsimp only; have := HSM.out; omega, HS.out.small⟩ HO1.out).below (Below.refl _ _).drew)
    clear HW2 d0 d1
    go_wp2
    go_loopw [5, 49] (fun ov i w' => ∃ (j : Nat) (v : Value) (rows : List (List D)), i = .int .i64 j ∧ v = ov ∧ j ≤ m ∧ Hid (OwnOd w' w.heap.size v (⟨4, f, s, halfD new j⟩ :: fixO a (new.take j)) rows) ∧ Hid (rows[0]? = some (odRow ⟨4, f, s, halfD new j⟩ (.slice A1 m c1))) ∧ Hid (Below w.heap.size w w')) (fun _ i _ => m - (intOf i).toNat)
    case atStart => exact ⟨0, _, [odRow ⟨4, f, s, new⟩ (.slice A1 m c1)], rfl, rfl, by omega, Lib.hid (by rw [halfD_zero]; exact HO2.out), Lib.hid (by rw [halfD_zero]; rfl), HB2⟩
    case round =>
      obtain ⟨j, v, rows, rfl, rfl, hj, HO, HR, HB⟩ := hrel
      by_cases hlt : j < m
      · obtain ⟨t, HT⟩ : ∃ t, Hid (new[j]? = some t) := ⟨_, List.getElem?_eq_getElem (by rw [HL.out]; exact hlt)⟩
        obtain ⟨k0, HK0⟩ : ∃ k0, Hid ((⟨4, f, s, halfD new j⟩ :: fixO a (new.take j) : List Od).length = k0) := ⟨_, rfl⟩
        have hk0 : Hid (1 ≤ k0 ∧ k0 ≤ 41) := by
          have h1 := HK0.out
          have h2 := fixO_len (new.take j) a
          rw [List.length_cons] at h1
          have h3 : (new.take j).length ≤ 40 := by rw [List.length_take]; omega
          exact show 1 ≤ k0 ∧ k0 ≤ 41 from by omega
        obtain ⟨AV, cv, rfl, _, _⟩ := HO.out.form HK0.out
        obtain ⟨g0, _, _, _, _, rfl, _, _, _, _, _, _, _, _, _, _, _, _⟩ := HO.out.at_ (show 0 < k0 by have := hk0.out; omega)
        have hnew := HO.out.newAt (k := 0) rfl HR.out
        obtain ⟨g1, rfl, hgb, hgl, _, hgf, hset⟩ := hnew.at_ hlt
        have hcg : wr.cell? ⟨g1, j, none⟩ = some (.string t) := by
          obtain ⟨b', off', t', e, ht, _, hc2⟩ := hnew.strs.at_ hlt
          injection e with e
          injection e with e1 e2
          subst e1 e2
          rw [halfD_get HT.out] at ht
          injection ht with ht
          subst ht
          rw [Nat.zero_add] at hc2
          exact hc2
        have HSET := Lib.hid hset
        have hi0 : (0 : Int) ≤ (j : Int) := by omega
        have hi1 : (j : Int) < (m : Int) := by omega
        have hb2 := two_bytes t
        clear hnew hset
        cases hd : decide (t = dotA)
        · rw [hd] at hb2
          have HH := Lib.hid (show halfD new (j + 1) = halfD new j by
            rw [halfD_succ HT.out, show dots t = t from if_neg (of_decide_eq_false hd), set_get_self (halfD_get HT.out)])
          have HX := Lib.hid (show fixO a (new.take (j + 1)) = fixO a (new.take j) by
            rw [fixO_take_succ HT.out, if_neg (of_decide_eq_false hd), List.append_nil])
          clear hd
          go_wp2
          go_roundw
          case rel => exact ⟨j + 1, _, rows, by go_num, rfl, by omega, Lib.hid (by rw [HH.out, HX.out]; exact HO.out), Lib.hid (by rw [HH.out]; exact HR.out), HB⟩
          case measure => simp [intOf]; omega
        · rw [hd] at hb2
          obtain ⟨aj, HAJ⟩ : ∃ aj : Int, Hid (aj = ((a + j : Nat) : Int)) := ⟨_, rfl⟩
          have hsum2 : IntKind.i64.wrap ((a : Int) + (j : Int)) = aj := by rw [HAJ.out, IntKind.wrap_i64]; omega
          have HNU := Lib.hid (show numI aj 1 = aj + 1 from if_neg (by decide))
          have HAR := Lib.hid (show 0 ≤ aj ∧ aj ≤ 80 by rw [HAJ.out]; omega)
          obtain ⟨nu, HNUM⟩ : ∃ nu : Int, Hid (nu = aj + 1) := ⟨_, rfl⟩
          have HH := Lib.hid (show halfD new (j + 1) = (halfD new j).set j dotD by
            rw [halfD_succ HT.out, show dots t = dotD from if_pos (of_decide_eq_true hd)])
          have HX := Lib.hid (show fixO a (new.take (j + 1)) = fixO a (new.take j) ++ [⟨5, nu, nu, []⟩] by
            rw [fixO_take_succ HT.out, if_pos (of_decide_eq_true hd), HNUM.out, HAJ.out])
          obtain ⟨o3, g3⟩ := HSET.out dotD (by show 3 ≤ maxLen; unfold maxLen; omega)
          have o4 := HO.out.renewNew (k := 0) rfl HR.out g3 o3
          obtain ⟨W3, HW3⟩ : ∃ W3, Hid (W3 = wr.setCell ⟨g1, j, none⟩ (.string ⟨#[46, 46, 10]⟩)) := ⟨_, rfl⟩
          have HB3 := Lib.hid (show Below w.heap.size w W3 by rw [HW3.out]; exact HB.out.setCell (p := ⟨g1, j, none⟩) hgb _)
          rw [show wr.setCell ⟨g1, j, none⟩ (.string dotD) = W3 from HW3.out.symm] at o4
          have HO4 := Lib.hid o4
          have d0 : (wr.setCell ⟨g1, j, none⟩ (.string ⟨#[46, 46, 10]⟩)).cell? ⟨b, off, none⟩ = some (.int .i64 (a : Int)) := by rw [← HW3.out]; exact cell_keep HB3.out HC.out.1
          clear hd o3 g3 o4
          go_wp2_with fail
          rw [← HW3.out]
          refine (numberAtI_any aj 1 (by have := HAR.out; omega) (by have := HAR.out; omega) _).mono ?_
          rintro e w4 ⟨rfl, rfl⟩
          rw [HNU.out, ← HNUM.out]
          go_wp2_with (at_builtin; refine wpList_od (.tmp 66) (.tmp 70) w.heap.size (.slice (some ⟨g0, 0, none⟩) k0 cv) _ _ (HO4.out.below (below_alloc _ _)) ⟨5, nu, nu, []⟩ ⟨by unfold i64ok; dsimp only; omega, by unfold i64ok; dsimp only; have := HNUM.out; have := HAR.out; omega, by unfold i64ok; dsimp only; have := HNUM.out; have := HAR.out; omega, fun s hs => by simp at hs⟩ (.slice none 0 0) OwnV.nil_ (fun g e => by cases e) W3.heap.size (by simp) (by simp) (by simp) (by simp) (by rw [HO4.out.len_]; have := hk0.out; omega) (by have := HB3.out.size; simp; omega) rfl rfl rfl rfl ?_
                       intro v5 w5 o5 g5 p5)
          go_roundw
          case rel =>
            have hlr : 0 < rows.length := (List.getElem?_eq_some_iff.1 HR.out).1
            refine ⟨j + 1, v5, _, by go_num, rfl, by omega, Lib.hid (by rw [HH.out, HX.out]; exact o5), Lib.hid ?_, Lib.hid ?_⟩
            · rw [HH.out, List.getElem?_append_left (by rw [List.length_set]; exact hlr), List.getElem?_set, if_pos rfl, if_pos hlr]
            · exact (HB3.out.next (below_alloc _ _)).grown g5 (by have := HB3.out.size; simp; omega) (fun g e => by
                have e2 : g0 = g := by simpa [Value.ownBlock] using e
                have h5 := (HO4.out.lt (g := g0) (by unfold BlkR; simp [Value.ownBlock])).1
                omega)
          case measure => simp [intOf]; omega
      · have hjm : j = m := by omega
        have HF2 := Lib.hid (show (⟨4, f, s, halfD new j⟩ :: fixO a (new.take j) : List Od) = edOne ⟨a, gn, new⟩ by
          unfold edOne
          rw [HM.out, halfD_all _ (by rw [HL.out, hjm]; exact Nat.le_refl _), List.take_of_length_le (by rw [HL.out, hjm]; exact Nat.le_refl _)]
          rfl)
        go_wp2
        go_ret
        exact ⟨_, rows, rfl, by rw [← HF2.out]; exact HO.out, HB.out⟩
  · have q1 : (((m : Nat) : Int) == 0) = false := by simp; omega
    have q2 : (((gn : Nat) : Int) == 0) = true := by simp [hg0]
    clear hne hm0 hg0
    go_enter Tryz.func77, Tryz.ntmps77
    go_wp2_with fail
    refine (copyOf_any A m c new _ HS.out (by omega)).mono ?_
    rintro e w1 ⟨v1, rfl, o1, b1⟩
    obtain ⟨A1, c1, rfl, h11, h12⟩ := o1.form HL.out
    have HB1 := Lib.hid b1
    have HO1 := Lib.hid o1
    have d0 := cell_keep b1 HC.out.1
    have d1 := cell_keep b1 HC.out.2
    clear b1 o1
    go_wp2
    go_region_held3 (fun w' => w'.cell? ⟨b, off, none⟩ = some (.int .i64 (a : Int)) ∧ w'.cell? ⟨b, off + 1, none⟩ = some (.int .i64 (gn : Int))) (first | exact ⟨d0, d1⟩ | exact ⟨cell_keep (below_alloc _ _) d0, cell_keep (below_alloc _ _) d1⟩)
      (first | (go_at_call 105; refine (numberAtI_any (a : Int) gn (by omega) (by omega) _).mono ?_; rintro e w2 ⟨rfl, hw2⟩; subst hw2; rw [HF.out]) | fail)
    obtain ⟨W2, HW2⟩ : ∃ W2, Hid (W2 = (w1.alloc (.cells #[.int .i64 1, .int .i64 f, .int .i64 (s : Int), .slice A1 m c1] 78)).drew) := ⟨_, rfl⟩
    rw [← HW2.out]
    have HB2 := Lib.hid (show Below w.heap.size w W2 by rw [HW2.out]; exact (HB1.out.next (below_alloc _ _)).drew)
    have HO2 := Lib.hid (show OwnOd W2 w.heap.size (.slice (some ⟨w1.heap.size, 0, none⟩) 1 1) [⟨1, f, s, new⟩] [odRow ⟨1, f, s, new⟩ (.slice A1 m c1)] by
      rw [HW2.out]
      exact (OwnOd.one (x := ⟨1, f, s, new⟩) HB1.out.size ⟨hko.out, by unfold i64ok; have := hf0.out; dsimp only; omega, by unfold i64ok; dsimp only; have := HSM.out; omega, HS.out.small⟩ HO1.out).below (Below.refl _ _).drew)
    clear HW2 d0 d1
    go_wp2
    go_loopw [5, 49] (fun ov i w' => ∃ (j : Nat) (v : Value) (rows : List (List D)), i = .int .i64 j ∧ v = ov ∧ j ≤ m ∧ Hid (OwnOd w' w.heap.size v (⟨1, f, s, halfD new j⟩ :: fixO a (new.take j)) rows) ∧ Hid (rows[0]? = some (odRow ⟨1, f, s, halfD new j⟩ (.slice A1 m c1))) ∧ Hid (Below w.heap.size w w')) (fun _ i _ => m - (intOf i).toNat)
    case atStart => exact ⟨0, _, [odRow ⟨1, f, s, new⟩ (.slice A1 m c1)], rfl, rfl, by omega, Lib.hid (by rw [halfD_zero]; exact HO2.out), Lib.hid (by rw [halfD_zero]; rfl), HB2⟩
    case round =>
      obtain ⟨j, v, rows, rfl, rfl, hj, HO, HR, HB⟩ := hrel
      by_cases hlt : j < m
      · obtain ⟨t, HT⟩ : ∃ t, Hid (new[j]? = some t) := ⟨_, List.getElem?_eq_getElem (by rw [HL.out]; exact hlt)⟩
        obtain ⟨k0, HK0⟩ : ∃ k0, Hid ((⟨1, f, s, halfD new j⟩ :: fixO a (new.take j) : List Od).length = k0) := ⟨_, rfl⟩
        have hk0 : Hid (1 ≤ k0 ∧ k0 ≤ 41) := by
          have h1 := HK0.out
          have h2 := fixO_len (new.take j) a
          rw [List.length_cons] at h1
          have h3 : (new.take j).length ≤ 40 := by rw [List.length_take]; omega
          exact show 1 ≤ k0 ∧ k0 ≤ 41 from by omega
        obtain ⟨AV, cv, rfl, _, _⟩ := HO.out.form HK0.out
        obtain ⟨g0, _, _, _, _, rfl, _, _, _, _, _, _, _, _, _, _, _, _⟩ := HO.out.at_ (show 0 < k0 by have := hk0.out; omega)
        have hnew := HO.out.newAt (k := 0) rfl HR.out
        obtain ⟨g1, rfl, hgb, hgl, _, hgf, hset⟩ := hnew.at_ hlt
        have hcg : wr.cell? ⟨g1, j, none⟩ = some (.string t) := by
          obtain ⟨b', off', t', e, ht, _, hc2⟩ := hnew.strs.at_ hlt
          injection e with e
          injection e with e1 e2
          subst e1 e2
          rw [halfD_get HT.out] at ht
          injection ht with ht
          subst ht
          rw [Nat.zero_add] at hc2
          exact hc2
        have HSET := Lib.hid hset
        have hi0 : (0 : Int) ≤ (j : Int) := by omega
        have hi1 : (j : Int) < (m : Int) := by omega
        have hb2 := two_bytes t
        clear hnew hset
        cases hd : decide (t = dotA)
        · rw [hd] at hb2
          have HH := Lib.hid (show halfD new (j + 1) = halfD new j by
            rw [halfD_succ HT.out, show dots t = t from if_neg (of_decide_eq_false hd), set_get_self (halfD_get HT.out)])
          have HX := Lib.hid (show fixO a (new.take (j + 1)) = fixO a (new.take j) by
            rw [fixO_take_succ HT.out, if_neg (of_decide_eq_false hd), List.append_nil])
          clear hd
          go_wp2
          go_roundw
          case rel => exact ⟨j + 1, _, rows, by go_num, rfl, by omega, Lib.hid (by rw [HH.out, HX.out]; exact HO.out), Lib.hid (by rw [HH.out]; exact HR.out), HB⟩
          case measure => simp [intOf]; omega
        · rw [hd] at hb2
          obtain ⟨aj, HAJ⟩ : ∃ aj : Int, Hid (aj = ((a + j : Nat) : Int)) := ⟨_, rfl⟩
          have hsum2 : IntKind.i64.wrap ((a : Int) + (j : Int)) = aj := by rw [HAJ.out, IntKind.wrap_i64]; omega
          have HNU := Lib.hid (show numI aj 1 = aj + 1 from if_neg (by decide))
          have HAR := Lib.hid (show 0 ≤ aj ∧ aj ≤ 80 by rw [HAJ.out]; omega)
          obtain ⟨nu, HNUM⟩ : ∃ nu : Int, Hid (nu = aj + 1) := ⟨_, rfl⟩
          have HH := Lib.hid (show halfD new (j + 1) = (halfD new j).set j dotD by
            rw [halfD_succ HT.out, show dots t = dotD from if_pos (of_decide_eq_true hd)])
          have HX := Lib.hid (show fixO a (new.take (j + 1)) = fixO a (new.take j) ++ [⟨5, nu, nu, []⟩] by
            rw [fixO_take_succ HT.out, if_pos (of_decide_eq_true hd), HNUM.out, HAJ.out])
          obtain ⟨o3, g3⟩ := HSET.out dotD (by show 3 ≤ maxLen; unfold maxLen; omega)
          have o4 := HO.out.renewNew (k := 0) rfl HR.out g3 o3
          obtain ⟨W3, HW3⟩ : ∃ W3, Hid (W3 = wr.setCell ⟨g1, j, none⟩ (.string ⟨#[46, 46, 10]⟩)) := ⟨_, rfl⟩
          have HB3 := Lib.hid (show Below w.heap.size w W3 by rw [HW3.out]; exact HB.out.setCell (p := ⟨g1, j, none⟩) hgb _)
          rw [show wr.setCell ⟨g1, j, none⟩ (.string dotD) = W3 from HW3.out.symm] at o4
          have HO4 := Lib.hid o4
          have d0 : (wr.setCell ⟨g1, j, none⟩ (.string ⟨#[46, 46, 10]⟩)).cell? ⟨b, off, none⟩ = some (.int .i64 (a : Int)) := by rw [← HW3.out]; exact cell_keep HB3.out HC.out.1
          clear hd o3 g3 o4
          go_wp2_with fail
          rw [← HW3.out]
          refine (numberAtI_any aj 1 (by have := HAR.out; omega) (by have := HAR.out; omega) _).mono ?_
          rintro e w4 ⟨rfl, rfl⟩
          rw [HNU.out, ← HNUM.out]
          go_wp2_with (at_builtin; refine wpList_od (.tmp 66) (.tmp 70) w.heap.size (.slice (some ⟨g0, 0, none⟩) k0 cv) _ _ (HO4.out.below (below_alloc _ _)) ⟨5, nu, nu, []⟩ ⟨by unfold i64ok; dsimp only; omega, by unfold i64ok; dsimp only; have := HNUM.out; have := HAR.out; omega, by unfold i64ok; dsimp only; have := HNUM.out; have := HAR.out; omega, fun s hs => by simp at hs⟩ (.slice none 0 0) OwnV.nil_ (fun g e => by cases e) W3.heap.size (by simp) (by simp) (by simp) (by simp) (by rw [HO4.out.len_]; have := hk0.out; omega) (by have := HB3.out.size; simp; omega) rfl rfl rfl rfl ?_
                       intro v5 w5 o5 g5 p5)
          go_roundw
          case rel =>
            have hlr : 0 < rows.length := (List.getElem?_eq_some_iff.1 HR.out).1
            refine ⟨j + 1, v5, _, by go_num, rfl, by omega, Lib.hid (by rw [HH.out, HX.out]; exact o5), Lib.hid ?_, Lib.hid ?_⟩
            · rw [HH.out, List.getElem?_append_left (by rw [List.length_set]; exact hlr), List.getElem?_set, if_pos rfl, if_pos hlr]
            · exact (HB3.out.next (below_alloc _ _)).grown g5 (by have := HB3.out.size; simp; omega) (fun g e => by
                have e2 : g0 = g := by simpa [Value.ownBlock] using e
                have h5 := (HO4.out.lt (g := g0) (by unfold BlkR; simp [Value.ownBlock])).1
                omega)
          case measure => simp [intOf]; omega
      · have hjm : j = m := by omega
        have HF2 := Lib.hid (show (⟨1, f, s, halfD new j⟩ :: fixO a (new.take j) : List Od) = edOne ⟨a, gn, new⟩ by
          unfold edOne
          rw [HM.out, halfD_all _ (by rw [HL.out, hjm]; exact Nat.le_refl _), List.take_of_length_le (by rw [HL.out, hjm]; exact Nat.le_refl _)]
          rfl)
        go_wp2
        go_ret
        exact ⟨_, rows, rfl, by rw [← HF2.out]; exact HO.out, HB.out⟩
  · have q1 : (((m : Nat) : Int) == 0) = false := by simp; omega
    have q2 : (((gn : Nat) : Int) == 0) = false := by simp; omega
    clear hne hm0 hg0
    go_enter Tryz.func77, Tryz.ntmps77
    go_wp2_with fail
    refine (copyOf_any A m c new _ HS.out (by omega)).mono ?_
    rintro e w1 ⟨v1, rfl, o1, b1⟩
    obtain ⟨A1, c1, rfl, h11, h12⟩ := o1.form HL.out
    have HB1 := Lib.hid b1
    have HO1 := Lib.hid o1
    have d0 := cell_keep b1 HC.out.1
    have d1 := cell_keep b1 HC.out.2
    clear b1 o1
    go_wp2
    go_region_held3 (fun w' => w'.cell? ⟨b, off, none⟩ = some (.int .i64 (a : Int)) ∧ w'.cell? ⟨b, off + 1, none⟩ = some (.int .i64 (gn : Int))) (first | exact ⟨d0, d1⟩ | exact ⟨cell_keep (below_alloc _ _) d0, cell_keep (below_alloc _ _) d1⟩)
      (first | (go_at_call 105; refine (numberAtI_any (a : Int) gn (by omega) (by omega) _).mono ?_; rintro e w2 ⟨rfl, hw2⟩; subst hw2; rw [HF.out]) | fail)
    obtain ⟨W2, HW2⟩ : ∃ W2, Hid (W2 = (w1.alloc (.cells #[.int .i64 3, .int .i64 f, .int .i64 (s : Int), .slice A1 m c1] 78)).drew) := ⟨_, rfl⟩
    rw [← HW2.out]
    have HB2 := Lib.hid (show Below w.heap.size w W2 by rw [HW2.out]; exact (HB1.out.next (below_alloc _ _)).drew)
    have HO2 := Lib.hid (show OwnOd W2 w.heap.size (.slice (some ⟨w1.heap.size, 0, none⟩) 1 1) [⟨3, f, s, new⟩] [odRow ⟨3, f, s, new⟩ (.slice A1 m c1)] by
      rw [HW2.out]
      exact (OwnOd.one (x := ⟨3, f, s, new⟩) HB1.out.size ⟨hko.out, by unfold i64ok; have := hf0.out; dsimp only; omega, by unfold i64ok; dsimp only; have := HSM.out; omega, HS.out.small⟩ HO1.out).below (Below.refl _ _).drew)
    clear HW2 d0 d1
    go_wp2
    go_loopw [5, 49] (fun ov i w' => ∃ (j : Nat) (v : Value) (rows : List (List D)), i = .int .i64 j ∧ v = ov ∧ j ≤ m ∧ Hid (OwnOd w' w.heap.size v (⟨3, f, s, halfD new j⟩ :: fixO a (new.take j)) rows) ∧ Hid (rows[0]? = some (odRow ⟨3, f, s, halfD new j⟩ (.slice A1 m c1))) ∧ Hid (Below w.heap.size w w')) (fun _ i _ => m - (intOf i).toNat)
    case atStart => exact ⟨0, _, [odRow ⟨3, f, s, new⟩ (.slice A1 m c1)], rfl, rfl, by omega, Lib.hid (by rw [halfD_zero]; exact HO2.out), Lib.hid (by rw [halfD_zero]; rfl), HB2⟩
    case round =>
      obtain ⟨j, v, rows, rfl, rfl, hj, HO, HR, HB⟩ := hrel
      by_cases hlt : j < m
      · obtain ⟨t, HT⟩ : ∃ t, Hid (new[j]? = some t) := ⟨_, List.getElem?_eq_getElem (by rw [HL.out]; exact hlt)⟩
        obtain ⟨k0, HK0⟩ : ∃ k0, Hid ((⟨3, f, s, halfD new j⟩ :: fixO a (new.take j) : List Od).length = k0) := ⟨_, rfl⟩
        have hk0 : Hid (1 ≤ k0 ∧ k0 ≤ 41) := by
          have h1 := HK0.out
          have h2 := fixO_len (new.take j) a
          rw [List.length_cons] at h1
          have h3 : (new.take j).length ≤ 40 := by rw [List.length_take]; omega
          exact show 1 ≤ k0 ∧ k0 ≤ 41 from by omega
        obtain ⟨AV, cv, rfl, _, _⟩ := HO.out.form HK0.out
        obtain ⟨g0, _, _, _, _, rfl, _, _, _, _, _, _, _, _, _, _, _, _⟩ := HO.out.at_ (show 0 < k0 by have := hk0.out; omega)
        have hnew := HO.out.newAt (k := 0) rfl HR.out
        obtain ⟨g1, rfl, hgb, hgl, _, hgf, hset⟩ := hnew.at_ hlt
        have hcg : wr.cell? ⟨g1, j, none⟩ = some (.string t) := by
          obtain ⟨b', off', t', e, ht, _, hc2⟩ := hnew.strs.at_ hlt
          injection e with e
          injection e with e1 e2
          subst e1 e2
          rw [halfD_get HT.out] at ht
          injection ht with ht
          subst ht
          rw [Nat.zero_add] at hc2
          exact hc2
        have HSET := Lib.hid hset
        have hi0 : (0 : Int) ≤ (j : Int) := by omega
        have hi1 : (j : Int) < (m : Int) := by omega
        have hb2 := two_bytes t
        clear hnew hset
        cases hd : decide (t = dotA)
        · rw [hd] at hb2
          have HH := Lib.hid (show halfD new (j + 1) = halfD new j by
            rw [halfD_succ HT.out, show dots t = t from if_neg (of_decide_eq_false hd), set_get_self (halfD_get HT.out)])
          have HX := Lib.hid (show fixO a (new.take (j + 1)) = fixO a (new.take j) by
            rw [fixO_take_succ HT.out, if_neg (of_decide_eq_false hd), List.append_nil])
          clear hd
          go_wp2
          go_roundw
          case rel => exact ⟨j + 1, _, rows, by go_num, rfl, by omega, Lib.hid (by rw [HH.out, HX.out]; exact HO.out), Lib.hid (by rw [HH.out]; exact HR.out), HB⟩
          case measure => simp [intOf]; omega
        · rw [hd] at hb2
          obtain ⟨aj, HAJ⟩ : ∃ aj : Int, Hid (aj = ((a + j : Nat) : Int)) := ⟨_, rfl⟩
          have hsum2 : IntKind.i64.wrap ((a : Int) + (j : Int)) = aj := by rw [HAJ.out, IntKind.wrap_i64]; omega
          have HNU := Lib.hid (show numI aj 1 = aj + 1 from if_neg (by decide))
          have HAR := Lib.hid (show 0 ≤ aj ∧ aj ≤ 80 by rw [HAJ.out]; omega)
          obtain ⟨nu, HNUM⟩ : ∃ nu : Int, Hid (nu = aj + 1) := ⟨_, rfl⟩
          have HH := Lib.hid (show halfD new (j + 1) = (halfD new j).set j dotD by
            rw [halfD_succ HT.out, show dots t = dotD from if_pos (of_decide_eq_true hd)])
          have HX := Lib.hid (show fixO a (new.take (j + 1)) = fixO a (new.take j) ++ [⟨5, nu, nu, []⟩] by
            rw [fixO_take_succ HT.out, if_pos (of_decide_eq_true hd), HNUM.out, HAJ.out])
          obtain ⟨o3, g3⟩ := HSET.out dotD (by show 3 ≤ maxLen; unfold maxLen; omega)
          have o4 := HO.out.renewNew (k := 0) rfl HR.out g3 o3
          obtain ⟨W3, HW3⟩ : ∃ W3, Hid (W3 = wr.setCell ⟨g1, j, none⟩ (.string ⟨#[46, 46, 10]⟩)) := ⟨_, rfl⟩
          have HB3 := Lib.hid (show Below w.heap.size w W3 by rw [HW3.out]; exact HB.out.setCell (p := ⟨g1, j, none⟩) hgb _)
          rw [show wr.setCell ⟨g1, j, none⟩ (.string dotD) = W3 from HW3.out.symm] at o4
          have HO4 := Lib.hid o4
          have d0 : (wr.setCell ⟨g1, j, none⟩ (.string ⟨#[46, 46, 10]⟩)).cell? ⟨b, off, none⟩ = some (.int .i64 (a : Int)) := by rw [← HW3.out]; exact cell_keep HB3.out HC.out.1
          clear hd o3 g3 o4
          go_wp2_with fail
          rw [← HW3.out]
          refine (numberAtI_any aj 1 (by have := HAR.out; omega) (by have := HAR.out; omega) _).mono ?_
          rintro e w4 ⟨rfl, rfl⟩
          rw [HNU.out, ← HNUM.out]
          go_wp2_with (at_builtin; refine wpList_od (.tmp 66) (.tmp 70) w.heap.size (.slice (some ⟨g0, 0, none⟩) k0 cv) _ _ (HO4.out.below (below_alloc _ _)) ⟨5, nu, nu, []⟩ ⟨by unfold i64ok; dsimp only; omega, by unfold i64ok; dsimp only; have := HNUM.out; have := HAR.out; omega, by unfold i64ok; dsimp only; have := HNUM.out; have := HAR.out; omega, fun s hs => by simp at hs⟩ (.slice none 0 0) OwnV.nil_ (fun g e => by cases e) W3.heap.size (by simp) (by simp) (by simp) (by simp) (by rw [HO4.out.len_]; have := hk0.out; omega) (by have := HB3.out.size; simp; omega) rfl rfl rfl rfl ?_
                       intro v5 w5 o5 g5 p5)
          go_roundw
          case rel =>
            have hlr : 0 < rows.length := (List.getElem?_eq_some_iff.1 HR.out).1
            refine ⟨j + 1, v5, _, by go_num, rfl, by omega, Lib.hid (by rw [HH.out, HX.out]; exact o5), Lib.hid ?_, Lib.hid ?_⟩
            · rw [HH.out, List.getElem?_append_left (by rw [List.length_set]; exact hlr), List.getElem?_set, if_pos rfl, if_pos hlr]
            · exact (HB3.out.next (below_alloc _ _)).grown g5 (by have := HB3.out.size; simp; omega) (fun g e => by
                have e2 : g0 = g := by simpa [Value.ownBlock] using e
                have h5 := (HO4.out.lt (g := g0) (by unfold BlkR; simp [Value.ownBlock])).1
                omega)
          case measure => simp [intOf]; omega
      · have hjm : j = m := by omega
        have HF2 := Lib.hid (show (⟨3, f, s, halfD new j⟩ :: fixO a (new.take j) : List Od) = edOne ⟨a, gn, new⟩ by
          unfold edOne
          rw [HM.out, halfD_all _ (by rw [HL.out, hjm]; exact Nat.le_refl _), List.take_of_length_le (by rw [HL.out, hjm]; exact Nat.le_refl _)]
          rfl)
        go_wp2
        go_ret
        exact ⟨_, rows, rfl, by rw [← HF2.out]; exact HO.out, HB.out⟩

end Go.Proofs.YtnnaigoomipklaaGreatDoor
