/-
  ReadOrders, the program's.
-/
import Derived.Test.YtnnaigoomipklaaGreatDoorOgOReadM
import Derived.Test.YtnnaigoomipklaaGreatDoorOgOTextI
set_option linter.unusedSimpArgs false
set_option linter.unusedVariables false
namespace Go.Proofs.YtnnaigoomipklaaGreatDoor
open Go.RowKit M

/-- What the listed variables hold, for who reads. -/
structure VarsR (w : World) : Prop where
  lib : Vars w
  ow : Ow w
theorem VarsR.below {w w' : World} (h : VarsR w) (hb : Below w.heap.size w w') : VarsR w' := ⟨h.lib.below hb, h.ow.below hb⟩
theorem VarsR.o {w : World} (h : VarsR w) : VarsO w := ⟨h.lib.tab, h.ow⟩

theorem suf_bytes (s p : ByteArray) (h : p.size ≤ s.size) : ((s.extract (s.size - p.size) s.size).toList == p.toList) = sufB p.data.toList s.data.toList := by
  have e : (s.extract (s.size - p.size) s.size).toList = s.data.toList.drop (s.data.toList.length - p.data.toList.length) := by
    rw [extract_bs, ByteArray.toList_eq, bs_list, Lib.size_eq s, Lib.size_eq p]
    exact List.take_of_length_le (by simp)
  rw [e, ByteArray.toList_eq]
  unfold sufB
  rw [← Lib.size_eq s, ← Lib.size_eq p, decide_eq_true h, Bool.true_and]
  by_cases h2 : s.data.toList.drop (s.size - p.size) = p.data.toList
  · rw [h2]; simp
  · simp [h2]
theorem suf_short (s p : ByteArray) (h : ¬ p.size ≤ s.size) : sufB p.data.toList s.data.toList = false := by
  unfold sufB
  rw [← Lib.size_eq s, ← Lib.size_eq p, decide_eq_false h, Bool.false_and]

set_option maxHeartbeats 400000 in
theorem HasSuffixO_any (s p : ByteArray) (w : World) (hs : s.size ≤ 1048576) (hp : p.size ≤ 1048576) :
    Calls Tryz.prog 211 #[.string s, .string p] w fun e w' => e = .returned (.bool (sufB p.data.toList s.data.toList)) ∧ w' = w := by
  by_cases h0 : p.size ≤ s.size
  · have H := Lib.hid (suf_bytes s p h0)
    obtain ⟨d, HD⟩ : ∃ d, Hid (s.size - p.size = d) := ⟨_, rfl⟩
    have hw : IntKind.i64.wrap ((s.size : Int) - (p.size : Int)) = (d : Int) := by rw [IntKind.wrap_i64, ← HD.out]; omega
    have hd : decide ((p.size : Int) ≤ (s.size : Int)) = true := by simp; omega
    have hd1 : (0 : Int) ≤ (d : Int) := by omega
    have hd2 : d ≤ s.size := by rw [← HD.out]; omega
    rw [HD.out] at H
    go_enter Tryz.func211, Tryz.ntmps211
    go_wp2
    go_ret
    exact ⟨by rw [H.out]; rfl, rfl⟩
  · have H := Lib.hid (suf_short s p h0)
    have hd : decide ((p.size : Int) ≤ (s.size : Int)) = false := by simp; omega
    go_enter Tryz.func211, Tryz.ntmps211
    go_wp2
    go_ret
    exact ⟨by rw [H.out]; rfl, rfl⟩

set_option maxHeartbeats 400000 in
theorem CutSuffix_no (s p : ByteArray) (w : World) (hs : s.size ≤ 1048576) (hp : p.size ≤ 1048576) (hq : sufB p.data.toList s.data.toList = false) :
    Calls Tryz.prog 126 #[.string s, .string p] w fun e w' => e = .returned (.tuple #[.string s, .bool false]) ∧ w' = w := by
  have HQ := Lib.hid hq
  have h0 : ∀ w, Calls Tryz.prog 179 #[.string s, .string p] w fun e w' => e = .returned (.tuple #[.string s, .bool false]) ∧ w' = w := by
    clear hq
    intro w
    go_enter Tryz.func179, Tryz.ntmps179
    go_wp2_with fail
    refine (HasSuffixO_any s p _ hs hp).mono ?_
    rintro e w1 ⟨rfl, rfl⟩
    rw [HQ.out]
    go_wp2
    go_ret2
    exact ⟨rfl, rfl⟩
  clear hq
  go_enter Tryz.func126, Tryz.ntmps126
  go_wp2_with fail
  refine (h0 _).mono ?_
  rintro e w1 ⟨rfl, rfl⟩
  go_wp2
  go_ret2
  exact ⟨rfl, rfl⟩

set_option maxHeartbeats 400000 in
theorem CutSuffix_yes (s p : ByteArray) (w : World) (hs : s.size ≤ 1048576) (hp : p.size ≤ 1048576) (hq : sufB p.data.toList s.data.toList = true) :
    Calls Tryz.prog 126 #[.string s, .string p] w fun e w' => e = .returned (.tuple #[.string (bs (s.data.toList.take (s.data.toList.length - p.data.toList.length))), .bool true]) ∧ w' = w := by
  have HQ := Lib.hid hq
  have hle : p.size ≤ s.size := by
    by_cases h : p.size ≤ s.size
    · exact h
    · rw [suf_short s p h] at hq; cases hq
  obtain ⟨d, HD⟩ : ∃ d, Hid (s.size - p.size = d) := ⟨_, rfl⟩
  have hw : IntKind.i64.wrap ((s.size : Int) - (p.size : Int)) = (d : Int) := by rw [IntKind.wrap_i64, ← HD.out]; omega
  have hd1 : (0 : Int) ≤ (d : Int) := by omega
  have hd2 : d ≤ s.size := by rw [← HD.out]; omega
  have HE := Lib.hid (show s.extract 0 d = bs (s.data.toList.take (s.data.toList.length - p.data.toList.length)) by
    rw [extract_bs, ← Lib.size_eq p, ← Lib.size_eq s, HD.out]
    simp)
  have h0 : ∀ w, Calls Tryz.prog 179 #[.string s, .string p] w fun e w' => e = .returned (.tuple #[.string (bs (s.data.toList.take (s.data.toList.length - p.data.toList.length))), .bool true]) ∧ w' = w := by
    clear hq
    intro w
    go_enter Tryz.func179, Tryz.ntmps179
    go_wp2_with fail
    refine (HasSuffixO_any s p _ hs hp).mono ?_
    rintro e w1 ⟨rfl, rfl⟩
    rw [HQ.out]
    go_wp2
    rw [HE.out]
    go_ret2
    exact ⟨rfl, rfl⟩
  clear hq
  go_enter Tryz.func126, Tryz.ntmps126
  go_wp2_with fail
  refine (h0 _).mono ?_
  rintro e w1 ⟨rfl, rfl⟩
  go_wp2
  go_ret2
  exact ⟨rfl, rfl⟩

set_option maxHeartbeats 2000000 in
theorem linesToDot_any (W0 : World) (b : Nat) (r : List UInt8 × Bool) (w : World) (h : Rdr W0 w b r) :
    Calls Tryz.prog 128 #[.pointer (some ⟨b, 0, none⟩)] w fun e w' => ∃ v, e = .returned v ∧ OwnV w' w.heap.size v ((rDot (r.1.length + 1) r).1.map bs) ∧ Rdr W0 w' b (rDot (r.1.length + 1) r).2 ∧ Wrote (fun i => i = b) w w' := by
  have HLT := Lib.hid h.lt
  have HSM := Lib.hid h.small
  go_enter Tryz.func128, Tryz.ntmps128
  go_wp2
  go_loopw [3] (fun v w' => ∃ (u : Value) (A : Option Addr) (n c k : Nat) (O : List (List UInt8)) (r1 : List UInt8 × Bool), u = v ∧ u = .slice A n c ∧ O.length = n ∧ OwnV w' w.heap.size u (O.map bs) ∧ Rdr W0 w' b r1 ∧ Hid (n + r1.1.length ≤ r.1.length) ∧ Hid (r1.1.length < k) ∧ Hid (rDot (r.1.length + 1) r = (O ++ (rDot k r1).1, (rDot k r1).2)) ∧ Wrote (fun i => i = b) w w') (fun _ w' => restLen w' b)
  case atStart => exact ⟨_, none, 0, 0, r.1.length + 1, [], r, rfl, rfl, rfl, OwnV.nil_, h, Lib.hid (by omega), Lib.hid (by omega), Lib.hid (by simp), Wrote.refl _ _⟩
  case round =>
    obtain ⟨u, A, n, c, k, O, r1, rfl, rfl, hO, ho, h1, HL, HKL, HR, hw⟩ := hrel
    obtain ⟨k, rfl⟩ : ∃ k', k = k' + 1 := ⟨k - 1, by have := HKL.out; omega⟩
    have HLEN := Lib.hid (show (O.map bs).length = n by rw [List.length_map]; exact hO)
    obtain ⟨y, r2, HS⟩ : ∃ y r2, Hid (rPlain r1 = (y, r2)) := ⟨_, _, rfl⟩
    have hle := rPlain_le r1
    rw [HS.out] at hle
    have HY := Lib.hid (show y.length ≤ 3000 ∧ r2.1.length ≤ r1.1.length ∧ n ≤ 3000 by have := HL.out; have := HSM.out; dsimp only at *; omega)
    have hsz : (bs y).size ≤ 3000 := by rw [bs_size]; exact HY.out.1
    have hsum : (9223372036854775807 < (bs y).size + 1) = False := eq_false (by omega)
    obtain ⟨T, HT⟩ : ∃ T, Hid (bs y ++ (⟨#[10]⟩ : ByteArray) = T) := ⟨_, rfl⟩
    have HTB := Lib.hid (show T = bs (y ++ [10]) by rw [← HT.out]; exact bs_app y [10])
    obtain ⟨t2, f2⟩ := r2
    have HO := Lib.hid ho
    have HW := Lib.hid hw
    have H1 := Lib.hid h1
    clear hle ho hw h1 hO
    cases f2 with
    | true =>
      have HE := Lib.hid (show rDot (r.1.length + 1) r = (O, (t2, true)) by rw [HR.out, rDot_stop (.inl (by rw [HS.out])), HS.out, List.append_nil])
      go_wp2_with fail
      refine (rplain_any W0 b r1 _ H1.out).mono ?_
      rintro e w1 ⟨rfl, h2, hw2⟩
      rw [HS.out] at h2 ⊢
      dsimp only at h2 ⊢
      have c1 := h2.c1
      dsimp only at c1
      go_wp2
      go_ret
      exact ⟨_, rfl, by rw [HE.out]; exact HO.out.wrote hw2 (fun g e e2 => by have h3 := (HO.out.lt e).1; have h4 := HLT.out; omega), by rw [HE.out]; exact h2, HW.out.trans hw2 (fun _ _ e => e)⟩
    | false =>
      by_cases hd : y = [46]
      · have HE := Lib.hid (show rDot (r.1.length + 1) r = (O, (t2, false)) by rw [HR.out, rDot_stop (.inr (by rw [HS.out]; exact hd)), HS.out, List.append_nil])
        have hq : ((bs y ++ (⟨#[10]⟩ : ByteArray)).toList == [46, 10]) = true := by rw [HT.out, HTB.out, hd, ByteArray.toList_eq, bs_list]; rfl
        clear hd
        go_wp2_with fail
        refine (rplain_any W0 b r1 _ H1.out).mono ?_
        rintro e w1 ⟨rfl, h2, hw2⟩
        rw [HS.out] at h2 ⊢
        dsimp only at h2 ⊢
        have c1 := h2.c1
        dsimp only at c1
        go_wp2
        go_ret
        exact ⟨_, rfl, by rw [HE.out]; exact HO.out.wrote hw2 (fun g e e2 => by have h3 := (HO.out.lt e).1; have h4 := HLT.out; omega), by rw [HE.out]; exact h2, HW.out.trans hw2 (fun _ _ e => e)⟩
      · have HPL := Lib.hid (show y.length + t2.length < r1.1.length by have := rPlain_ok (r := r1) (by rw [HS.out]); rw [HS.out] at this; exact this)
        have HE := Lib.hid (show rDot (r.1.length + 1) r = ((O ++ [y ++ [10]]) ++ (rDot k (t2, false)).1, (rDot k (t2, false)).2) by
          rw [HR.out, rDot_go (by rw [HS.out]) (by rw [HS.out]; exact hd), HS.out]
          simp)
        have hq : ((bs y ++ (⟨#[10]⟩ : ByteArray)).toList == [46, 10]) = false := by
          rw [HT.out, HTB.out, ByteArray.toList_eq, bs_list]
          simp only [beq_eq_false_iff_ne]
          intro e
          exact hd (List.append_cancel_right (show y ++ [10] = [46] ++ [10] from e))
        clear hd
        go_wp2_with fail
        refine (rplain_any W0 b r1 _ H1.out).mono ?_
        rintro e w1 ⟨rfl, h2, hw2⟩
        rw [HS.out] at h2 ⊢
        dsimp only at h2 ⊢
        have c1 := h2.c1
        dsimp only at c1
        have H2 := Lib.hid h2
        have HW2 := Lib.hid hw2
        clear h2 hw2
        go_wp2_with (first
          | (at_builtin; rw [HT.out, HTB.out]; refine app_strs (.tmp 17) (.tmp 19) w.heap.size (.slice A n c) (O.map bs) ((HO.out.wrote HW2.out (fun g e e2 => by have h3 := (HO.out.lt e).1; have h4 := HLT.out; omega)).below (below_alloc _ _)) _ 1 1 [bs (y ++ [10])] (strs_one w1 (bs (y ++ [10])) (by rw [bs_size]; have := HY.out; unfold maxLen; simp; omega)) (by rw [HLEN.out]; have := HY.out; omega) (Nat.le_trans (Nat.le_trans HW.out.size HW2.out.size) (below_alloc _ _).size) rfl rfl rfl rfl ?_; intro v3 w3 o3 g3 p3)
          | fail)
        have o3' : OwnV w3 w.heap.size v3 ((O ++ [y ++ [10]]).map bs) := by rw [List.map_append]; exact o3
        obtain ⟨A3, c3, rfl, h31, h32⟩ := o3'.form (n := n + 1) (by rw [List.length_map, List.length_append]; have := HLEN.out; rw [List.length_map] at this; rw [this]; rfl)
        have H3 := Lib.hid ((H2.out.keep (below_alloc w1 (.cells #[.string (bs (y ++ [10]))] 9))).kept g3 (fun g e => by have h3 := (HO.out.lt e).1; have h4 := HLT.out; omega))
        go_roundw
        case rel =>
          refine ⟨_, A3, n + 1, c3, k, O ++ [y ++ [10]], (t2, false), rfl, rfl, ?_, o3', H3.out, Lib.hid (by have := HL.out; have := HPL.out; dsimp only; omega), Lib.hid (by have := HKL.out; have := HPL.out; dsimp only; omega), HE, ?_⟩
          · have := HLEN.out; rw [List.length_map] at this; simp [this]
          · exact (((HW.out.trans HW2.out (fun _ _ e => e)).next (below_alloc _ _)).trans (Wrote.of_grown (S := fun i => (Value.slice A n c).ownBlock = some i) g3 (fun _ e => e)) (fun i hi e => by have h3 := (HO.out.lt e).1; omega))
        case measure => rw [H3.out.left, H1.out.left]; have := HPL.out; dsimp only; omega

/-- An order, in a block. -/
def OdBlk (w : World) (g : Nat) (v0 v1 v2 v3 : Value) : Prop := w.heap[g]? = some (.cells #[v0, v1, v2, v3] 78 (0, 0))
section
variable {w w' : World} {g : Nat} {v0 v1 v2 v3 : Value}
theorem OdBlk.c0 (h : OdBlk w g v0 v1 v2 v3) : w.cell? ⟨g, 0, none⟩ = some v0 := by unfold OdBlk at h; simp [World.cell?, h]
theorem OdBlk.c1 (h : OdBlk w g v0 v1 v2 v3) : w.cell? ⟨g, 1, none⟩ = some v1 := by unfold OdBlk at h; simp [World.cell?, h]
theorem OdBlk.c2 (h : OdBlk w g v0 v1 v2 v3) : w.cell? ⟨g, 2, none⟩ = some v2 := by unfold OdBlk at h; simp [World.cell?, h]
theorem OdBlk.c3 (h : OdBlk w g v0 v1 v2 v3) : w.cell? ⟨g, 3, none⟩ = some v3 := by unfold OdBlk at h; simp [World.cell?, h]
theorem OdBlk.free (h : OdBlk w g v0 v1 v2 v3) (j : Nat) : w.frozen? ⟨g, j, none⟩ = false := by unfold OdBlk at h; simp [World.frozen?, h]
theorem OdBlk.lt (h : OdBlk w g v0 v1 v2 v3) : g < w.heap.size := (Array.getElem?_eq_some_iff.1 h).1
theorem OdBlk.keep (h : OdBlk w g v0 v1 v2 v3) (hb : Below w.heap.size w w') : OdBlk w' g v0 v1 v2 v3 := (hb.block g h.lt).trans h
theorem OdBlk.wrote {S : Nat → Prop} (h : OdBlk w g v0 v1 v2 v3) (hw : Wrote S w w') (hs : ¬ S g) : OdBlk w' g v0 v1 v2 v3 := (hw.block g h.lt hs).trans h
theorem wset4 (w : World) (g : Nat) (v0 v1 v2 v3 : Value) : Wrote (fun i => i = g) w ((((w.setCell ⟨g, 0, none⟩ v0).setCell ⟨g, 1, none⟩ v1).setCell ⟨g, 2, none⟩ v2).setCell ⟨g, 3, none⟩ v3) :=
  (((wset w g 0 v0).trans (wset _ g 1 v1) (fun _ _ e => e)).trans (wset _ g 2 v2) (fun _ _ e => e)).trans (wset _ g 3 v3) (fun _ _ e => e)
end

/-- An order that has been read: its value, with lines of the call's own. -/
def OrderOut (W0 w w' : World) (b : Nat) (r : List UInt8 × Bool) (e : Ending) : Prop :=
  ∃ u, e = .returned (.agg #[.int .i64 (rOrder r).1.kd, .int .i64 (rOrder r).1.fr, .int .i64 (rOrder r).1.to_, u]) ∧ OwnV w' w.heap.size u (rOrder r).1.new ∧ OdOk (rOrder r).1 ∧ Rdr W0 w' b (rOrder r).2 ∧ Wrote (fun i => i = b) w w'

theorem order_read {k a b n : Nat} {r : List UInt8 × Bool} (hk : k ≤ 5) (hab : a ≤ b ∧ b ≤ 1000) (hr : r.1.length ≤ 3000) : OdOk ⟨(k : Int), (a : Int), (b : Int), (rDot n r).1.map bs⟩ := by
  refine ⟨⟨?_, ?_⟩, ⟨?_, ?_⟩, ⟨?_, ?_⟩, fun s hs => ?_⟩
  all_goals (try (dsimp only; omega))
  obtain ⟨x, hx, rfl⟩ := List.mem_map.1 hs
  have := (rDot_le n r).2.2 x hx
  rw [bs_size]
  unfold maxLen
  omega
theorem order_bare {k a b : Nat} (hk : k ≤ 5) (hab : a ≤ b ∧ b ≤ 1000) : OdOk ⟨(k : Int), (a : Int), (b : Int), []⟩ := by
  refine ⟨⟨?_, ?_⟩, ⟨?_, ?_⟩, ⟨?_, ?_⟩, fun s hs => ?_⟩
  all_goals (try (dsimp only; omega))
  simp at hs
theorem blank_od : OdOk blankO := by
  refine ⟨⟨?_, ?_⟩, ⟨?_, ?_⟩, ⟨?_, ?_⟩, fun s hs => ?_⟩
  all_goals (try decide)
  simp [blankO] at hs

set_option maxHeartbeats 4000000 in
set_option maxRecDepth 100000 in
theorem rorder_any (W0 : World) (b : Nat) (r : List UInt8 × Bool) (w : World) (h : Rdr W0 w b r) (hw : Ow W0) :
    Calls Tryz.prog 66 #[.pointer (some ⟨b, 0, none⟩)] w fun e w' => OrderOut W0 w w' b r e := by
  obtain ⟨y, r1, HS⟩ : ∃ y r1, Hid (rPlain r = (y, r1)) := ⟨_, _, rfl⟩
  have HY := Lib.hid (show y.length ≤ 3000 by have h1 := rPlain_le r; have h2 := h.small; rw [HS.out] at h1; dsimp only at h1; omega)
  have HR1 := Lib.hid (show r1.1.length ≤ 3000 by have h1 := rPlain_le r; have h2 := h.small; rw [HS.out] at h1; dsimp only at h1; omega)
  have HLT := Lib.hid h.lt
  obtain ⟨WA, HWA⟩ : ∃ WA, Hid (WA = w.alloc (.cells #[.int .i64 0, .int .i64 0, .int .i64 0, .slice none 0 0] 78)) := ⟨_, rfl⟩
  have HA := Lib.hid (show Rdr W0 WA b r by rw [HWA.out]; exact h.keep (below_alloc w _))
  have HBL := Lib.hid (show WA.heap[w.heap.size]? = some (.cells #[.int .i64 0, .int .i64 0, .int .i64 0, .slice none 0 0] 78 (0, 0)) by rw [HWA.out]; exact heap_alloc_new w _)
  have HBA := Lib.hid (show Below w.heap.size w WA by rw [HWA.out]; exact below_alloc w _)
  go_enter Tryz.func66, Tryz.ntmps66
  go_wp2_with fail
  rw [← HWA.out]
  refine (rplain_any W0 b r _ HA.out).mono ?_
  rintro e w1 ⟨rfl, h1, hw1⟩
  rw [HS.out] at h1 ⊢
  dsimp only at h1 ⊢
  have H1 := Lib.hid h1
  have HB1 := Lib.hid (show w1.heap[w.heap.size]? = some (.cells #[.int .i64 0, .int .i64 0, .int .i64 0, .slice none 0 0] 78 (0, 0)) from (hw1.block _ (by have := HBL.out; exact (Array.getElem?_eq_some_iff.1 this).1) (fun e => by have := HLT.out; omega)).trans HBL.out)
  have HW1 := Lib.hid (show Wrote (fun i => i = b) w w1 from (Wrote.of_below HBA.out).trans hw1 (fun _ _ e => e))
  clear h1 hw1
  go_wp2
  go_loopw [4] (fun i w' => ∃ k : Nat, i = .int .i64 k ∧ 1 ≤ k ∧ k ≤ 6 ∧ Hid (rFrom y (6 - k) k = rFrom y 5 1) ∧ Hid (Below w1.heap.size w1 w')) (fun i _ => 6 - (intOf i).toNat)
  case atStart => exact ⟨1, rfl, by omega, by omega, Lib.hid rfl, Lib.hid (Below.refl _ _)⟩
  case round =>
    obtain ⟨k, rfl, hk1, hk6, HF, HB⟩ := hrel
    have H2 := Lib.hid (H1.out.keep HB.out)
    have HB2 := Lib.hid ((HB.out.block _ (Array.getElem?_eq_some_iff.1 HB1.out).1).trans HB1.out)
    have HW2 := Lib.hid (HW1.out.next HB.out)
    by_cases hlt : k < 6
    · have hk5 : k ≤ 5 := by omega
      have hd : decide ((k : Int) ≤ 5) = true := by simp; omega
      have hcell : wr.cell? ⟨0, k, none⟩ = some (.string (bs (wordO k))) := cell_keep H2.out.low (hw k hk5)
      have hk0 : (0 : Int) ≤ (k : Int) := by omega
      have hk6' : (k : Int) < 6 := by omega
      have HWL := Lib.hid (show (bs (wordO k)).size ≤ 5 by rw [bs_size]; exact wordO_len _)
      have HVS := Lib.hid H2.out.now
      cases hsf : sufB (wordO k) y
      · have HSF := Lib.hid (show sufB (bs (wordO k)).data.toList (bs y).data.toList = false by rw [bs_list, bs_list]; exact hsf)
        have HF2 := Lib.hid (show rFrom y (6 - (k + 1)) (k + 1) = rFrom y 5 1 by
          rw [← HF.out, show 6 - k = (6 - (k + 1)) + 1 by omega]
          exact (rFrom_no (by unfold rTry; rw [hsf]; rfl)).symm)
        obtain ⟨n1, n2, q, HDU⟩ : ∃ (n1 n2 : Int) (q : Bool), Hid (duo (pairL y) = .tuple #[.int .i64 n1, .int .i64 n2, .bool q]) := ⟨_, _, _, rfl⟩
        clear hsf
        go_wp2_with fail
        refine (CutSuffix_no (bs y) (bs (wordO k)) _ (by rw [bs_size]; have := HY.out; omega) (by have := HWL.out; omega) HSF.out).mono ?_
        rintro e w3 ⟨rfl, hw3⟩
        subst hw3
        go_wp2_with fail
        refine (ReadPair_any (bs y) (by rw [bs_size]; have := HY.out; omega) _ HVS.out).mono ?_
        rintro e w4 ⟨rfl, b4⟩
        rw [bs_list, HDU.out]
        go_wp2
        go_roundw
        case rel => exact ⟨k + 1, by go_num, by omega, by omega, HF2, Lib.hid (HB.out.next b4)⟩
        case measure => simp [intOf]; omega
      · have HSF := Lib.hid (show sufB (bs (wordO k)).data.toList (bs y).data.toList = true by rw [bs_list, bs_list]; exact hsf)
        obtain ⟨z, HZ⟩ : ∃ z, Hid (y.take (y.length - (wordO k).length) = z) := ⟨_, rfl⟩
        have HE := Lib.hid (show (bs y).data.toList.take ((bs y).data.toList.length - (bs (wordO k)).data.toList.length) = z by rw [bs_list, bs_list]; exact HZ.out)
        have HZL := Lib.hid (show z.length ≤ 3000 by rw [← HZ.out, List.length_take]; have := HY.out; omega)
        have HTRY := Lib.hid (show rTry y k = pairL z by unfold rTry; rw [hsf, if_pos rfl, HZ.out])
        clear hsf
        cases hp : pairL z with
        | none =>
          have HDU := Lib.hid (duo_not hp)
          have HF2 := Lib.hid (show rFrom y (6 - (k + 1)) (k + 1) = rFrom y 5 1 by
            rw [← HF.out, show 6 - k = (6 - (k + 1)) + 1 by omega]
            exact (rFrom_no (by rw [HTRY.out, hp])).symm)
          clear hp
          go_wp2_with fail
          refine (CutSuffix_yes (bs y) (bs (wordO k)) _ (by rw [bs_size]; have := HY.out; omega) (by have := HWL.out; omega) HSF.out).mono ?_
          rintro e w3 ⟨rfl, hw3⟩
          subst hw3
          rw [HE.out]
          go_wp2_with fail
          refine (ReadPair_any (bs z) (by rw [bs_size]; have := HZL.out; omega) _ HVS.out).mono ?_
          rintro e w4 ⟨rfl, b4⟩
          rw [bs_list, HDU.out]
          go_wp2
          go_roundw
          case rel => exact ⟨k + 1, by go_num, by omega, by omega, HF2, Lib.hid (HB.out.next b4)⟩
          case measure => simp [intOf]; omega
        | some ab =>
          obtain ⟨a1, a2⟩ := ab
          have HDU := Lib.hid (duo_yes hp)
          have HAB := Lib.hid (pairL_le hp)
          have HFE := Lib.hid (show rFrom y 5 1 = some (k, a1, a2) by
            rw [← HF.out, show 6 - k = (5 - k) + 1 by omega]
            exact rFrom_yes (by rw [HTRY.out, hp]))
          clear hp
          go_wp2_with fail
          refine (CutSuffix_yes (bs y) (bs (wordO k)) _ (by rw [bs_size]; have := HY.out; omega) (by have := HWL.out; omega) HSF.out).mono ?_
          rintro e w3 ⟨rfl, hw3⟩
          subst hw3
          rw [HE.out]
          go_wp2_with fail
          refine (ReadPair_any (bs z) (by rw [bs_size]; have := HZL.out; omega) _ HVS.out).mono ?_
          rintro e w4 ⟨rfl, b4⟩
          rw [bs_list, HDU.out]
          obtain ⟨W5, HW5⟩ : ∃ W5, Hid (W5 = w4.alloc (.cells #[.int .i64 (k : Int), .int .i64 (a1 : Int), .int .i64 (a2 : Int), .slice none 0 0] 78)) := ⟨_, rfl⟩
          have b5 : Below w4.heap.size w4 W5 := by rw [HW5.out]; exact below_alloc w4 _
          have HP5 := Lib.hid (show OdBlk W5 w4.heap.size (.int .i64 (k : Int)) (.int .i64 (a1 : Int)) (.int .i64 (a2 : Int)) (.slice none 0 0) by rw [HW5.out]; exact heap_alloc_new w4 _)
          have HG4 := Lib.hid (OdBlk.keep HB2.out b4)
          have HZ := Lib.hid (show b < w.heap.size ∧ w.heap.size < w4.heap.size ∧ w4.heap.size < W5.heap.size from ⟨HLT.out, HG4.out.lt, HP5.out.lt⟩)
          have HG5 := Lib.hid (HG4.out.keep b5)
          have H5 := Lib.hid ((H2.out.keep b4).keep b5)
          have HW5' := Lib.hid ((HW2.out.next b4).next b5)
          clear b4 b5 HG4
          by_cases hin : k ≤ 3
          · have HQ := Lib.hid (show decide ((k : Int) = 1 ∨ (k : Int) = 2 ∨ (k : Int) = 3) = true by simp; omega)
            have HE2 := Lib.hid (show rOrder r = (⟨(k : Int), (a1 : Int), (a2 : Int), (rDot (r1.1.length + 1) r1).1.map bs⟩, (rDot (r1.1.length + 1) r1).2) by
              have h1 := rOrder_in (r := r) (by rw [HS.out]; exact HFE.out) hin
              rw [HS.out] at h1
              exact h1)
            have HOK := Lib.hid (show OdOk ⟨(k : Int), (a1 : Int), (a2 : Int), (rDot (r1.1.length + 1) r1).1.map bs⟩ from order_read hk5 HAB.out HR1.out)
            clear hin
            go_wp2_with fail
            rw [← HW5.out]
            refine (hasInput_any (k : Int) _).mono ?_
            rintro e w5 ⟨rfl, hw5⟩
            subst hw5
            rw [HQ.out]
            go_wp2_with fail
            refine (linesToDot_any W0 b r1 _ H5.out).mono ?_
            rintro e w6 ⟨v6, rfl, o6, h6, hw6⟩
            obtain ⟨q6, HQ6⟩ : ∃ q6, Hid (((rDot (r1.1.length + 1) r1).1.map bs).length = q6) := ⟨_, rfl⟩
            obtain ⟨v6a, v6c, rfl, h61, h62⟩ := o6.form (n := q6) HQ6.out
            have HP6 := Lib.hid (HP5.out.wrote hw6 (fun e => by have := HZ.out; omega))
            have HG6 := Lib.hid (HG5.out.wrote hw6 (fun e => by have := HZ.out; omega))
            have O6 := Lib.hid o6
            have H6 := Lib.hid h6
            have HW6 := Lib.hid (HW5'.out.trans hw6 (fun _ _ e => e))
            clear o6 h6 hw6
            have p0 := HP6.out.c0; have p1 := HP6.out.c1; have p2 := HP6.out.c2; have p3 := HP6.out.c3
            have pz := HP6.out.free
            have z0 := HG6.out.c0; have z1 := HG6.out.c1; have z2 := HG6.out.c2; have z3 := HG6.out.c3
            have fz := HG6.out.free
            have hne : w4.heap.size ≠ w.heap.size := by have := HZ.out; omega
            have hne2 : w.heap.size ≠ w4.heap.size := by have := HZ.out; omega
            go_wp2
            (try simp only [Exit.inBlock, Exit.then])
            refine bodyPost_ret (v := .agg #[.int .i64 (k : Int), .int .i64 (a1 : Int), .int .i64 (a2 : Int), .slice v6a q6 v6c]) (by simp [results, Tryz.results66, go_sem, z0, z1, z2, z3, hne, hne2]) rfl ?_
            have hs6 := wset w6 w4.heap.size 3 (.slice v6a q6 v6c)
            have hq := wset4 (w6.setCell ⟨w4.heap.size, 3, none⟩ (.slice v6a q6 v6c)) w.heap.size (.int .i64 (k : Int)) (.int .i64 (a1 : Int)) (.int .i64 (a2 : Int)) (.slice v6a q6 v6c)
            exact ⟨.slice v6a q6 v6c, by rw [HE2.out], by rw [HE2.out]; exact ((O6.out.wrote hs6 (fun g e e2 => by have h3 := (O6.out.lt e).1; have h4 := HZ.out; omega)).wrote hq (fun g e e2 => by have h3 := (O6.out.lt e).1; have h4 := HZ.out; omega)).more (by have h4 := HZ.out; omega), by rw [HE2.out]; exact HOK.out, by rw [HE2.out]; exact (H6.out.wrote hs6 (fun g e => by have h4 := HZ.out; omega)).wrote hq (fun g e => by have h4 := HZ.out; omega), (HW6.out.trans hs6 (fun i hi e => by have h4 := HZ.out; omega)).trans hq (fun i hi e => by omega)⟩
          · have HQ := Lib.hid (show decide ((k : Int) = 1 ∨ (k : Int) = 2 ∨ (k : Int) = 3) = false by simp; omega)
            have HE2 := Lib.hid (show rOrder r = (⟨(k : Int), (a1 : Int), (a2 : Int), []⟩, r1) by
              have h1 := rOrder_bare (r := r) (by rw [HS.out]; exact HFE.out) hin
              rw [HS.out] at h1
              exact h1)
            have HOK := Lib.hid (show OdOk ⟨(k : Int), (a1 : Int), (a2 : Int), []⟩ from order_bare hk5 HAB.out)
            have p0 := HP5.out.c0; have p1 := HP5.out.c1; have p2 := HP5.out.c2; have p3 := HP5.out.c3
            have z0 := HG5.out.c0; have z1 := HG5.out.c1; have z2 := HG5.out.c2; have z3 := HG5.out.c3
            have fz := HG5.out.free
            clear hin
            go_wp2_with fail
            rw [← HW5.out]
            refine (hasInput_any (k : Int) _).mono ?_
            rintro e w5 ⟨rfl, hw5⟩
            subst hw5
            rw [HQ.out]
            go_wp2
            (try simp only [Exit.inBlock, Exit.then])
            refine bodyPost_ret (v := .agg #[.int .i64 (k : Int), .int .i64 (a1 : Int), .int .i64 (a2 : Int), .slice none 0 0]) (by simp [results, Tryz.results66, go_sem, z0, z1, z2, z3]) rfl ?_
            have hq := wset4 w5 w.heap.size (.int .i64 (k : Int)) (.int .i64 (a1 : Int)) (.int .i64 (a2 : Int)) (.slice none 0 0)
            exact ⟨.slice none 0 0, by rw [HE2.out], by rw [HE2.out]; exact OwnV.nil_, by rw [HE2.out]; exact HOK.out, by rw [HE2.out]; exact H5.out.wrote hq (fun g e => by have h4 := HZ.out; omega), HW5'.out.trans hq (fun i hi e => by omega)⟩
    · have hk : k = 6 := by omega
      subst hk
      have HE := Lib.hid (show rOrder r = (blankO, ([], true)) from rOrder_none (by rw [HS.out]; exact HF.out.symm))
      go_wp2_with fail
      refine (rfail_any W0 b r1 _ H2.out).mono ?_
      rintro e w3 ⟨rfl, h3, hw3⟩
      have HG3 := Lib.hid (OdBlk.wrote HB2.out hw3 (fun e => by have := HLT.out; omega))
      have z0 := HG3.out.c0; have z1 := HG3.out.c1; have z2 := HG3.out.c2; have z3 := HG3.out.c3
      have fz := HG3.out.free
      have H3 := Lib.hid h3
      have HW3 := Lib.hid (HW2.out.trans hw3 (fun _ _ e => e))
      clear h3 hw3
      go_wp2
      (try simp only [Exit.inBlock, Exit.then])
      refine bodyPost_ret (v := .agg #[.int .i64 0, .int .i64 0, .int .i64 0, .slice none 0 0]) (by simp [results, Tryz.results66, go_sem, z0, z1, z2, z3]) rfl ?_
      have hq := wset4 w3 w.heap.size (.int .i64 0) (.int .i64 0) (.int .i64 0) (.slice none 0 0)
      exact ⟨.slice none 0 0, by rw [HE.out]; rfl, by rw [HE.out]; exact OwnV.nil_, by rw [HE.out]; exact blank_od, by rw [HE.out]; exact H3.out.wrote hq (fun g e => by rw [e]; exact HLT.out), HW3.out.trans hq (fun i hi e => by omega)⟩

set_option maxHeartbeats 4000000 in
set_option maxRecDepth 100000 in
theorem implReadOrders_any (s : ByteArray) (hs : s.size ≤ 1048576) (w : World) (hv : VarsR w) :
    Calls Tryz.prog 15 #[.string s] w fun e w' => ∃ v rows, e = .returned (.tuple #[v, .int .i64 (readOr s).2.1, .bool (readOr s).2.2]) ∧ OwnOd w' w.heap.size v (readOr s).1 rows ∧ Below w.heap.size w w' := by
  have HSZ := Lib.hid (Lib.size_eq s)
  by_cases h3 : 3000 < s.size
  · have HB := Lib.hid (readOr_long h3)
    go_enter Tryz.func15, Tryz.ntmps15
    go_wp2
    go_ret3
    exact ⟨_, [], by rw [HB.out]; rfl, by rw [HB.out]; exact OwnOd.nil_, Below.refl _ _⟩
  · obtain ⟨W, HW⟩ : ∃ W, Hid (W = w.alloc (.cells #[.string s, .bool false] 86)) := ⟨_, rfl⟩
    have HR0 := Lib.hid (show Rdr w W w.heap.size (s.data.toList, false) from ⟨hv.lib, by rw [HW.out]; exact below_alloc w _, Nat.le_refl _, by have := HSZ.out; dsimp only; omega, by rw [HW.out, bs_self]; exact heap_alloc_new w _⟩)
    have HV := Lib.hid hv
    have H3 := Lib.hid (show s.size ≤ 3000 by omega)
    clear hv
    go_enter Tryz.func15, Tryz.ntmps15
    go_wp2
    rw [← HW.out]
    go_loopw [5] (fun v w' => ∃ (u : Value) (A : Option Addr) (n c k : Nat) (out : List Od) (rows : List (List D)) (r1 : List UInt8 × Bool), u = v ∧ u = .slice A n c ∧ OwnOd w' (w.heap.size + 1) u out rows ∧ Rdr w w' w.heap.size r1 ∧ Hid (rAll (s.size + 1) (s.data.toList, false) = (out ++ (rAll k r1).1, (rAll k r1).2)) ∧ Hid (r1.1.length < k) ∧ Hid (out.length + r1.1.length ≤ s.size)) (fun _ w' => restLen w' w.heap.size)
    case atStart => exact ⟨_, none, 0, 0, s.size + 1, [], [], _, rfl, rfl, OwnOd.nil_, HR0.out, Lib.hid (by simp), Lib.hid (by have := HSZ.out; dsimp only; omega), Lib.hid (by have := HSZ.out; dsimp only; simp only [List.length_nil]; omega)⟩
    case round =>
      obtain ⟨u, A, n, c, k, out, rows, r1, rfl, rfl, ho, h1, HRD, HKL, HLN⟩ := hrel
      obtain ⟨t1, f1⟩ := r1
      have c0 := h1.c0
      have c1 := h1.c1
      dsimp only at c0 c1
      have HLT := Lib.hid h1.lt
      by_cases he : t1 = []
      · subst he
        have hem := none_left
        obtain ⟨x, ok, HTP⟩ : ∃ x ok, Hid (ordersO out = (x, ok)) := ⟨_, _, rfl⟩
        have HO := Lib.hid ho
        have H1 := Lib.hid h1
        have HVN := Lib.hid (HV.out.o.below h1.low)
        have HIS := Lib.hid (readOr_is s H3.out (o := out) (r := ([], f1)) (by rw [HRD.out, rAll_done rfl, List.append_nil]))
        clear ho h1
        cases f1 with
        | true =>
          have HB := Lib.hid (show readOr s = ([], 1, false) by rw [HIS.out]; exact if_neg (fun h => by have := h.1; cases this))
          go_wp2_with fail
          refine (implOrdersText_any A n c out _ HO.out.ods HVN.out).mono ?_
          rintro e w2 ⟨rfl, b2⟩
          rw [HTP.out]
          dsimp only
          replace c1 := cell_keep b2 c1
          have HBL := Lib.hid (H1.out.low.next b2)
          clear b2
          go_wp2
          go_ret3
          exact ⟨_, [], by rw [HB.out]; rfl, by rw [HB.out]; exact OwnOd.nil_, HBL.out⟩
        | false =>
          cases ok with
          | false =>
            have HB := Lib.hid (show readOr s = ([], 1, false) by rw [HIS.out]; exact if_neg (fun h => by have := h.2.1; rw [HTP.out] at this; cases this))
            go_wp2_with fail
            refine (implOrdersText_any A n c out _ HO.out.ods HVN.out).mono ?_
            rintro e w2 ⟨rfl, b2⟩
            rw [HTP.out]
            dsimp only
            replace c1 := cell_keep b2 c1
            have HBL := Lib.hid (H1.out.low.next b2)
            clear b2
            go_wp2
            go_ret3
            exact ⟨_, [], by rw [HB.out]; rfl, by rw [HB.out]; exact OwnOd.nil_, HBL.out⟩
          | true =>
            by_cases hx : x = s
            · have hq : (x.toList == s.toList) = true := by rw [hx]; exact beq_same s
              have HB := Lib.hid (show readOr s = (out, 0, true) by rw [HIS.out]; exact if_pos ⟨rfl, by rw [HTP.out], by rw [HTP.out]; exact hx⟩)
              have HX := Lib.hid hx
              clear hx
              go_wp2_with fail
              refine (implOrdersText_any A n c out _ HO.out.ods HVN.out).mono ?_
              rintro e w2 ⟨rfl, b2⟩
              rw [HTP.out]
              dsimp only
              replace c1 := cell_keep b2 c1
              have HBL := Lib.hid (H1.out.low.next b2)
              have HO2 := Lib.hid ((HO.out.below b2).more (Nat.le_succ w.heap.size))
              clear b2
              go_wp2
              go_ret3
              exact ⟨_, rows, by rw [HB.out]; rfl, by rw [HB.out]; exact HO2.out, HBL.out⟩
            · have hq : (x.toList == s.toList) = false := beq_other hx
              have HB := Lib.hid (show readOr s = ([], 1, false) by rw [HIS.out]; exact if_neg (fun h => by have := h.2.2; rw [HTP.out] at this; exact hx this))
              clear hx
              go_wp2_with fail
              refine (implOrdersText_any A n c out _ HO.out.ods HVN.out).mono ?_
              rintro e w2 ⟨rfl, b2⟩
              rw [HTP.out]
              dsimp only
              replace c1 := cell_keep b2 c1
              have HBL := Lib.hid (H1.out.low.next b2)
              clear b2
              go_wp2
              go_ret3
              exact ⟨_, [], by rw [HB.out]; rfl, by rw [HB.out]; exact OwnOd.nil_, HBL.out⟩
      · have hem := some_left he
        obtain ⟨k, rfl⟩ : ∃ k', k = k' + 1 := ⟨k - 1, by have := HKL.out; omega⟩
        have HE := Lib.hid he
        have HO := Lib.hid ho
        have H1 := Lib.hid h1
        have HLE := Lib.hid (show out.length ≤ 1048576 by have := HLN.out; omega)
        obtain ⟨X, r2, HXE⟩ : ∃ X r2, Hid (rOrder (t1, f1) = (X, r2)) := ⟨_, _, rfl⟩
        have HLR := Lib.hid (rOrder_lt (r := (t1, f1)) HE.out)
        rw [HXE.out] at HLR
        have HRD2 := Lib.hid (show rAll (s.size + 1) (s.data.toList, false) = ((out ++ [X]) ++ (rAll k r2).1, (rAll k r2).2) by
          rw [HRD.out, rAll_go he, HXE.out]
          simp)
        clear ho h1 he
        go_wp2_with (first
          | (go_at_call 66; refine (rorder_any w w.heap.size (t1, f1) _ H1.out HV.out.ow).mono ?_; rintro e w1 ⟨u1, rfl, o1, hok, h2, hw2⟩
             rw [HXE.out] at o1 hok h2 ⊢
             dsimp only at o1 hok h2 ⊢
             obtain ⟨a1, d1, rfl, h11, h12⟩ := o1.form rfl
             have O1 := Lib.hid o1
             have HOK := Lib.hid hok
             have H2 := Lib.hid h2
             have HW2 := Lib.hid hw2
             have HO1 := Lib.hid (HO.out.wrote hw2 (fun g e e2 => by have h3 := (HO.out.lt e).1; omega))
             have HBS := Lib.hid (show w.heap.size + 1 ≤ wr.heap.size from HLT.out)
             clear o1 hok h2 hw2)
          | (at_builtin; refine wpList_od (.tmp 17) (.tmp 19) (w.heap.size + 1) (.slice A n c) out rows (HO1.out.below (below_alloc _ _)) X HOK.out (.slice a1 X.new.length d1) ((O1.out.more HBS.out).below (below_alloc _ _)) (fun g e e2 => by have h3 := (O1.out.lt e).1; have h4 := (HO.out.lt e2).2; omega) w1.heap.size (by simp) (by simp) (by simp) (by simp) HLE.out (Nat.le_trans (Nat.le_trans HBS.out HW2.out.size) (below_alloc _ _).size) rfl rfl rfl rfl ?_
             intro v3 w3 o3 g3 p3)
          | fail)
        obtain ⟨A3, c3, rfl, h31, h32⟩ := o3.form rfl
        have H3' := Lib.hid (show Rdr w w3 w.heap.size r2 from (H2.out.keep (below_alloc _ _)).kept g3 (fun g e => by have h3 := (HO.out.lt (show BlkR (.slice A n c) rows g from List.mem_append.2 (.inl (by simp [e])))).1; omega))
        go_roundw
        case rel => exact ⟨_, A3, _, c3, k, out ++ [X], _, r2, rfl, rfl, o3, H3'.out, HRD2, Lib.hid (by have := HKL.out; have := HLR.out; dsimp only at *; omega), Lib.hid (by have h5 := HLN.out; have h6 := HLR.out; dsimp only at h5 h6; rw [List.length_append, List.length_singleton]; omega)⟩
        case measure => rw [H3'.out.left, H1.out.left]; exact HLR.out

end Go.Proofs.YtnnaigoomipklaaGreatDoor
