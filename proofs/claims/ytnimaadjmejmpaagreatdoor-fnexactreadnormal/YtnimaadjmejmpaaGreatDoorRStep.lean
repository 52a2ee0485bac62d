/-
  One step is read, and all of them: the program's.
-/
import Derived.Test.YtnimaadjmejmpaaGreatDoorRRead
import Derived.Test.YtnimaadjmejmpaaGreatDoorRIdx
import Derived.Test.YtnimaadjmejmpaaGreatDoorSTxtI
import Derived.Test.YtnimaadjmejmpaaGreatDoorNSpecS
import Derived.Test.YtnimaadjmejmpaaGreatDoorSStepsI
set_option linter.unusedSimpArgs false
set_option linter.unusedVariables false
namespace Go.Proofs.YtnimaadjmejmpaaGreatDoor
open Go.RowKit M

/-- A step that has been read: its value, with lists of the call's own. -/
def StepOut (W0 w w' : World) (b : Nat) (r : List UInt8 × Bool) (e : Ending) : Prop :=
  ∃ c u v, okCut (rPlain r).1 c ∧ e = .returned (.agg #[.int .i64 (rStep c r).1.fr, .int .i64 (rStep c r).1.to_, u, .int .i64 (rStep c r).1.at_, .int .i64 (rStep c r).1.en, v]) ∧ OwnV w' w.heap.size u (rStep c r).1.old ∧ OwnV w' w.heap.size v (rStep c r).1.new ∧
    (∀ g, u.ownBlock = some g → v.ownBlock ≠ some g) ∧ SpOk (rStep c r).1 ∧ Rdr W0 w' b (rStep c r).2 ∧ Wrote (fun i => i = b) w w'

theorem wset6 (w : World) (g : Nat) (v0 v1 v2 v3 v4 v5 : Value) : Wrote (fun i => i = g) w ((((((w.setCell ⟨g, 0, none⟩ v0).setCell ⟨g, 1, none⟩ v1).setCell ⟨g, 2, none⟩ v2).setCell ⟨g, 3, none⟩ v3).setCell ⟨g, 4, none⟩ v4).setCell ⟨g, 5, none⟩ v5) :=
  (((((wset w g 0 v0).trans (wset _ g 1 v1) (fun _ _ e => e)).trans (wset _ g 2 v2) (fun _ _ e => e)).trans (wset _ g 3 v3) (fun _ _ e => e)).trans (wset _ g 4 v4) (fun _ _ e => e)).trans (wset _ g 5 v5) (fun _ _ e => e)

theorem blank_ok : SpOk blankP := ⟨⟨by decide, by decide⟩, ⟨by decide, by decide⟩, ⟨by decide, by decide⟩, ⟨by decide, by decide⟩, fun s h => by simp [blankP] at h, fun s h => by simp [blankP] at h⟩

theorem rStep_neg {c : Int} {r : List UInt8 × Bool} (h : c < 0) : rStep c r = (blankP, ([], true)) := if_pos h
theorem rStep_none1 {c : Int} {r : List UInt8 × Bool} {L : List UInt8} {r1 : List UInt8 × Bool} (hp : rPlain r = (L, r1)) (h : pairL (L.take c.toNat) = none) : rStep c r = (blankP, ([], true)) := by
  unfold rStep
  rw [hp]
  dsimp only
  rw [h]
  split <;> rfl
theorem rStep_none2 {c : Int} {r : List UInt8 × Bool} {L : List UInt8} {r1 : List UInt8 × Bool} (hp : rPlain r = (L, r1)) (h : pairL (L.drop (c.toNat + 1)) = none) : rStep c r = (blankP, ([], true)) := by
  unfold rStep
  rw [hp]
  dsimp only
  rw [h]
  split
  · rfl
  · split
    · rename_i h2; cases h2
    · rfl
theorem rStep_some {c : Int} {r : List UInt8 × Bool} {L : List UInt8} {r1 : List UInt8 × Bool} {f t n m : Nat} {k : UInt8} (hp : rPlain r = (L, r1)) (hc : 0 ≤ c) (h1 : pairL (L.take c.toNat) = some (f, t)) (h2 : pairL (L.drop (c.toNat + 1)) = some (n, m)) (hk : L[c.toNat]? = some k) : rStep c r = rBody k f t n m r1 := by
  unfold rStep
  rw [if_neg (by omega), hp]
  dsimp only
  rw [h1, h2, hk]
  rfl
theorem pairL_le {l : List UInt8} {f t : Nat} (h : pairL l = some (f, t)) : f ≤ t ∧ t ≤ 1000 := by
  rw [pairL_two] at h
  have h1 := Option.filter_eq_some_iff.1 h
  have h2 := two1000_le h1.1
  have h3 := of_decide_eq_true h1.2
  dsimp only at h3
  omega
theorem body_ok {k : UInt8} {f t n m : Nat} {r : List UInt8 × Bool} (hf : f ≤ 1000) (ht : t ≤ 1000) (hn : n ≤ 1000) (hm : m ≤ 1000) (hr : r.1.length ≤ 3000) : SpOk (rBody k f t n m r).1 := by
  have h1 := rOld_le k f t r
  have h2 := rMid_le k (rOld k f t r).2
  have h3 := rNew_le k n m (rMid k (rOld k f t r).2)
  refine ⟨⟨?_, ?_⟩, ⟨?_, ?_⟩, ⟨?_, ?_⟩, ⟨?_, ?_⟩, fun s hs => ?_, fun s hs => ?_⟩
  all_goals (try (unfold rBody; dsimp only; omega))
  · unfold rBody at hs
    dsimp only at hs
    obtain ⟨x, hx, rfl⟩ := List.mem_map.1 hs
    have := h1.2 x hx
    rw [bs_size]
    unfold maxLen
    omega
  · unfold rBody at hs
    dsimp only at hs
    obtain ⟨x, hx, rfl⟩ := List.mem_map.1 hs
    have := h3.2 x hx
    rw [bs_size]
    unfold maxLen
    omega
theorem duo_some {l : List UInt8} {n m : Nat} (h : pairL l = some (n, m)) : duo (pairL l) = .tuple #[.int .i64 (n : Int), .int .i64 (m : Int), .bool true] := by rw [h]; rfl
theorem duo_none {l : List UInt8} (h : pairL l = none) : duo (pairL l) = .tuple #[.int .i64 0, .int .i64 0, .bool false] := by rw [h]; rfl

/-- The zero value of a step, in a block. -/
def SpBlk (w : World) (g : Nat) (v0 v1 v2 v3 v4 v5 : Value) : Prop := w.heap[g]? = some (.cells #[v0, v1, v2, v3, v4, v5] 69 (0, 0))
section
variable {w w' : World} {g : Nat} {v0 v1 v2 v3 v4 v5 : Value}
theorem SpBlk.c0 (h : SpBlk w g v0 v1 v2 v3 v4 v5) : w.cell? ⟨g, 0, none⟩ = some v0 := by unfold SpBlk at h; simp [World.cell?, h]
theorem SpBlk.c1 (h : SpBlk w g v0 v1 v2 v3 v4 v5) : w.cell? ⟨g, 1, none⟩ = some v1 := by unfold SpBlk at h; simp [World.cell?, h]
theorem SpBlk.c2 (h : SpBlk w g v0 v1 v2 v3 v4 v5) : w.cell? ⟨g, 2, none⟩ = some v2 := by unfold SpBlk at h; simp [World.cell?, h]
theorem SpBlk.c3 (h : SpBlk w g v0 v1 v2 v3 v4 v5) : w.cell? ⟨g, 3, none⟩ = some v3 := by unfold SpBlk at h; simp [World.cell?, h]
theorem SpBlk.c4 (h : SpBlk w g v0 v1 v2 v3 v4 v5) : w.cell? ⟨g, 4, none⟩ = some v4 := by unfold SpBlk at h; simp [World.cell?, h]
theorem SpBlk.c5 (h : SpBlk w g v0 v1 v2 v3 v4 v5) : w.cell? ⟨g, 5, none⟩ = some v5 := by unfold SpBlk at h; simp [World.cell?, h]
theorem SpBlk.free (h : SpBlk w g v0 v1 v2 v3 v4 v5) (j : Nat) : w.frozen? ⟨g, j, none⟩ = false := by unfold SpBlk at h; simp [World.frozen?, h]
theorem SpBlk.lt (h : SpBlk w g v0 v1 v2 v3 v4 v5) : g < w.heap.size := (Array.getElem?_eq_some_iff.1 h).1
theorem SpBlk.keep (h : SpBlk w g v0 v1 v2 v3 v4 v5) (hb : Below w.heap.size w w') : SpBlk w' g v0 v1 v2 v3 v4 v5 := (hb.block g h.lt).trans h
theorem SpBlk.wrote {S : Nat → Prop} (h : SpBlk w g v0 v1 v2 v3 v4 v5) (hw : Wrote S w w') (hs : ¬ S g) : SpBlk w' g v0 v1 v2 v3 v4 v5 := (hw.block g h.lt hs).trans h
end

set_option maxHeartbeats 4000000 in
set_option maxRecDepth 100000 in
theorem rstep_any (W0 : World) (b : Nat) (r : List UInt8 × Bool) (w : World) (h : Rdr W0 w b r) :
    Calls Tryz.prog 41 #[.pointer (some ⟨b, 0, none⟩)] w fun e w' => StepOut W0 w w' b r e := by
  have HLT := Lib.hid h.lt
  obtain ⟨L, r1, HC⟩ : ∃ L r1, Hid (rPlain r = (L, r1)) := ⟨_, _, rfl⟩
  have HLN := Lib.hid (show L.length ≤ 3000 ∧ r1.1.length ≤ 3000 by
    have h1 := rPlain_le r
    have h3 := h.small
    rw [HC.out] at h1
    dsimp only at h1
    omega)
  obtain ⟨T, HT⟩ : ∃ T, Hid (T = bs L) := ⟨_, rfl⟩
  have HTL := Lib.hid (show T.data.toList = L by rw [HT.out, bs_list])
  have hTS : T.size = L.length := by rw [HT.out, bs_size]
  have hL3 : L.length ≤ 3000 := HLN.out.1
  obtain ⟨W, HW⟩ : ∃ W, Hid (W = w.alloc (.cells #[.int .i64 0, .int .i64 0, .slice none 0 0, .int .i64 0, .int .i64 0, .slice none 0 0] 69)) := ⟨_, rfl⟩
  have HB := Lib.hid (show Below w.heap.size w W by rw [HW.out]; exact below_alloc w _)
  have HG := Lib.hid (show SpBlk W w.heap.size (.int .i64 0) (.int .i64 0) (.slice none 0 0) (.int .i64 0) (.int .i64 0) (.slice none 0 0) by rw [HW.out]; exact heap_alloc_new w _)
  have HR0 := Lib.hid (h.keep HB.out)
  clear h
  go_enter Tryz.func41, Tryz.ntmps41
  go_wp2_with fail
  rw [← HW.out]
  refine (rplain_any W0 b r _ HR0.out).mono ?_
  rintro e w1 ⟨rfl, h1, hw1⟩
  rw [HC.out] at h1 ⊢
  dsimp only at h1 ⊢
  rw [← HT.out]
  go_wp2_with fail
  refine (IndexAny_acd T (by omega) _).mono ?_
  rintro e w2 ⟨c, rfl, hc, b2⟩
  rw [HTL.out] at hc
  have HOK := Lib.hid (show okCut (rPlain r).1 c by rw [HC.out]; exact hc)
  have HG2 := Lib.hid ((HG.out.wrote hw1 (fun e => by have := HLT.out; omega)).keep b2)
  have H2 := Lib.hid (h1.keep b2)
  have HW2 := Lib.hid (((Wrote.of_below (S := fun i => i = b) HB.out).trans hw1 (fun _ _ e => e)).next b2)
  have hc1 := hc.1
  have hc2 := hc.2.1
  have HCK := Lib.hid hc.2.2.2
  clear hc h1 hw1 b2
  by_cases hneg : c < 0
  · have HS := Lib.hid (rStep_neg (r := r) hneg)
    go_wp2_with fail
    refine (rfail_any W0 b r1 _ H2.out).mono ?_
    rintro e w3 ⟨rfl, h3, hw3⟩
    have HG3 := Lib.hid (HG2.out.wrote hw3 (fun e => by have := HLT.out; omega))
    have z0 := HG3.out.c0; have z1 := HG3.out.c1; have z2 := HG3.out.c2; have z3 := HG3.out.c3; have z4 := HG3.out.c4; have z5 := HG3.out.c5
    have fz := HG3.out.free
    have H3 := Lib.hid h3
    have HW3 := Lib.hid (HW2.out.trans hw3 (fun _ _ e => e))
    clear h3 hw3
    go_wp2
    (try simp only [Exit.inBlock, Exit.then])
    refine bodyPost_ret (v := .agg #[.int .i64 0, .int .i64 0, .slice none 0 0, .int .i64 0, .int .i64 0, .slice none 0 0]) (by simp [results, Tryz.results41, go_sem, z0, z1, z2, z3, z4, z5]) rfl ?_
    have hq := wset6 w3 w.heap.size (.int .i64 0) (.int .i64 0) (.slice none 0 0) (.int .i64 0) (.int .i64 0) (.slice none 0 0)
    exact ⟨c, .slice none 0 0, .slice none 0 0, HOK.out, by rw [HS.out]; rfl, by rw [HS.out]; exact OwnV.nil_, by rw [HS.out]; exact OwnV.nil_, (fun g e => by cases e), by rw [HS.out]; exact blank_ok, by rw [HS.out]; exact H3.out.wrote hq (fun g e => by rw [e]; exact HLT.out), HW3.out.trans hq (fun i hi e => by omega)⟩
  · obtain ⟨k, rfl⟩ := Int.eq_ofNat_of_zero_le (show 0 ≤ c by omega)
    have hk : k < T.size := by omega
    obtain ⟨kk, hkk, hkc⟩ := HCK.out (by omega)
    rw [Int.toNat_natCast] at hkk
    have HX1 := Lib.hid (show (T.extract 0 k).data.toList = L.take k by rw [extract_bs, bs_list, HTL.out]; simp)
    have HX2 := Lib.hid (show (T.extract (k + 1) L.length).data.toList = L.drop (k + 1) by rw [extract_bs, bs_list, HTL.out]; exact List.take_of_length_le (by simp))
    have hX1 : (T.extract 0 k).size ≤ 2097152 := by rw [ByteArray.size_extract]; omega
    have hX2 : (T.extract (k + 1) L.length).size ≤ 2097152 := by rw [ByteArray.size_extract]; omega
    have hkx : (T[k]'hk).toNat = kk.toNat := by
      have e1 : T.data.toList[k]? = some (T[k]'hk) := Lib.data_getElem? T k hk
      rw [HTL.out, hkk] at e1
      rw [Option.some.inj e1]
    have HKK := Lib.hid hkk
    clear hkk HCK hneg hc1 hc2
    obtain ⟨X1, hXe1⟩ : ∃ X, Hid (X = T.extract 0 k) := ⟨_, rfl⟩
    obtain ⟨X2, hXe2⟩ : ∃ X, Hid (X = T.extract (k + 1) L.length) := ⟨_, rfl⟩
    rw [← hXe1.out] at HX1 hX1
    rw [← hXe2.out] at HX2 hX2
    cases hp1 : pairL (L.take k) with
    | none =>
      have HS := Lib.hid (rStep_none1 (c := (k : Int)) HC.out (by rw [Int.toNat_natCast]; exact hp1))
      have HD1 := Lib.hid (show duo (pairL X1.data.toList) = .tuple #[.int .i64 0, .int .i64 0, .bool false] by rw [HX1.out]; exact duo_none hp1)
      clear hp1
      obtain ⟨f2, t2, o2, HD2⟩ : ∃ f2 t2 o2, Hid (duo (pairL X2.data.toList) = .tuple #[.int .i64 f2, .int .i64 t2, .bool o2]) := by
        cases hp2 : pairL X2.data.toList with
        | none => exact ⟨0, 0, false, rfl⟩
        | some x => exact ⟨_, _, true, rfl⟩
      go_wp2_with fail
      rw [← hXe1.out]
      refine (ReadPair_any X1 hX1 _ H2.out.now).mono ?_
      rintro e w3 ⟨rfl, b3⟩
      rw [HD1.out]
      have H3' := Lib.hid (H2.out.keep b3)
      go_wp2_with fail
      rw [← hXe2.out]
      refine (ReadPair_any X2 hX2 _ H3'.out.now).mono ?_
      rintro e w4 ⟨rfl, b4⟩
      rw [HD2.out]
      have H4 := Lib.hid (H3'.out.keep b4)
      have HG4 := Lib.hid ((HG2.out.keep b3).keep b4)
      have HW4 := Lib.hid ((HW2.out.next b3).next b4)
      clear b3 b4
      go_wp2_with fail
      refine (rfail_any W0 b r1 _ H4.out).mono ?_
      rintro e w5 ⟨rfl, h3, hw3⟩
      have HG3 := Lib.hid (HG4.out.wrote hw3 (fun e => by have := HLT.out; omega))
      have z0 := HG3.out.c0; have z1 := HG3.out.c1; have z2 := HG3.out.c2; have z3 := HG3.out.c3; have z4 := HG3.out.c4; have z5 := HG3.out.c5
      have fz := HG3.out.free
      have H3 := Lib.hid h3
      have HW3 := Lib.hid (HW4.out.trans hw3 (fun _ _ e => e))
      clear h3 hw3
      go_wp2
      (try simp only [Exit.inBlock, Exit.then])
      refine bodyPost_ret (v := .agg #[.int .i64 0, .int .i64 0, .slice none 0 0, .int .i64 0, .int .i64 0, .slice none 0 0]) (by simp [results, Tryz.results41, go_sem, z0, z1, z2, z3, z4, z5]) rfl ?_
      have hq := wset6 w5 w.heap.size (.int .i64 0) (.int .i64 0) (.slice none 0 0) (.int .i64 0) (.int .i64 0) (.slice none 0 0)
      exact ⟨_, .slice none 0 0, .slice none 0 0, HOK.out, by rw [HS.out]; rfl, by rw [HS.out]; exact OwnV.nil_, by rw [HS.out]; exact OwnV.nil_, (fun g e => by cases e), by rw [HS.out]; exact blank_ok, by rw [HS.out]; exact H3.out.wrote hq (fun g e => by rw [e]; exact HLT.out), HW3.out.trans hq (fun i hi e => by omega)⟩
    | some x1 =>
      obtain ⟨f, t⟩ := x1
      have hft := pairL_le hp1
      have HD1 := Lib.hid (show duo (pairL X1.data.toList) = .tuple #[.int .i64 (f : Int), .int .i64 (t : Int), .bool true] by rw [HX1.out]; exact duo_some hp1)
      have HP1 := Lib.hid hp1
      clear hp1
      cases hp2 : pairL (L.drop (k + 1)) with
      | none =>
        have HS := Lib.hid (rStep_none2 (c := (k : Int)) HC.out (by rw [Int.toNat_natCast]; exact hp2))
        have HD2 := Lib.hid (show duo (pairL X2.data.toList) = .tuple #[.int .i64 0, .int .i64 0, .bool false] by rw [HX2.out]; exact duo_none hp2)
        clear hp2
        go_wp2_with fail
        rw [← hXe1.out]
        refine (ReadPair_any X1 hX1 _ H2.out.now).mono ?_
        rintro e w3 ⟨rfl, b3⟩
        rw [HD1.out]
        have H3' := Lib.hid (H2.out.keep b3)
        go_wp2_with fail
        rw [← hXe2.out]
        refine (ReadPair_any X2 hX2 _ H3'.out.now).mono ?_
        rintro e w4 ⟨rfl, b4⟩
        rw [HD2.out]
        have H4 := Lib.hid (H3'.out.keep b4)
        have HG4 := Lib.hid ((HG2.out.keep b3).keep b4)
        have HW4 := Lib.hid ((HW2.out.next b3).next b4)
        clear b3 b4
        go_wp2_with fail
        refine (rfail_any W0 b r1 _ H4.out).mono ?_
        rintro e w5 ⟨rfl, h3, hw3⟩
        have HG3 := Lib.hid (HG4.out.wrote hw3 (fun e => by have := HLT.out; omega))
        have z0 := HG3.out.c0; have z1 := HG3.out.c1; have z2 := HG3.out.c2; have z3 := HG3.out.c3; have z4 := HG3.out.c4; have z5 := HG3.out.c5
        have fz := HG3.out.free
        have H3 := Lib.hid h3
        have HW3 := Lib.hid (HW4.out.trans hw3 (fun _ _ e => e))
        clear h3 hw3
        go_wp2
        (try simp only [Exit.inBlock, Exit.then])
        refine bodyPost_ret (v := .agg #[.int .i64 0, .int .i64 0, .slice none 0 0, .int .i64 0, .int .i64 0, .slice none 0 0]) (by simp [results, Tryz.results41, go_sem, z0, z1, z2, z3, z4, z5]) rfl ?_
        have hq := wset6 w5 w.heap.size (.int .i64 0) (.int .i64 0) (.slice none 0 0) (.int .i64 0) (.int .i64 0) (.slice none 0 0)
        exact ⟨_, .slice none 0 0, .slice none 0 0, HOK.out, by rw [HS.out]; rfl, by rw [HS.out]; exact OwnV.nil_, by rw [HS.out]; exact OwnV.nil_, (fun g e => by cases e), by rw [HS.out]; exact blank_ok, by rw [HS.out]; exact H3.out.wrote hq (fun g e => by rw [e]; exact HLT.out), HW3.out.trans hq (fun i hi e => by omega)⟩
      | some x2 =>
        obtain ⟨n, m⟩ := x2
        have hnm := pairL_le hp2
        have HD2 := Lib.hid (show duo (pairL X2.data.toList) = .tuple #[.int .i64 (n : Int), .int .i64 (m : Int), .bool true] by rw [HX2.out]; exact duo_some hp2)
        have HS := Lib.hid (rStep_some (c := (k : Int)) HC.out (by omega) (by rw [Int.toNat_natCast]; exact HP1.out) (by rw [Int.toNat_natCast]; exact hp2) (by rw [Int.toNat_natCast]; exact HKK.out))
        have HBO := Lib.hid (body_ok (k := kk) (f := f) (t := t) (n := n) (m := m) (r := r1) (by omega) (by omega) (by omega) (by omega) HLN.out.2)
        have eo : (t : Int) - (f : Int) + 1 = ((t - f + 1 : Nat) : Int) := by omega
        have en : (m : Int) - (n : Int) + 1 = ((m - n + 1 : Nat) : Int) := by omega
        have EO := Lib.hid eo
        have EN := Lib.hid en
        obtain ⟨hf1, ht1⟩ := hft
        obtain ⟨hn1, hm1⟩ := hnm
        clear hp2 eo en
        go_wp2_with fail
        rw [← hXe1.out]
        refine (ReadPair_any X1 hX1 _ H2.out.now).mono ?_
        rintro e w3 ⟨rfl, b3⟩
        rw [HD1.out]
        have H3' := Lib.hid (H2.out.keep b3)
        go_wp2_with fail
        rw [← hXe2.out]
        refine (ReadPair_any X2 hX2 _ H3'.out.now).mono ?_
        rintro e w4 ⟨rfl, b4⟩
        rw [HD2.out]
        obtain ⟨W5, HW5⟩ : ∃ W5, Hid (W5 = w4.alloc (.cells #[.int .i64 (f : Int), .int .i64 (t : Int), .slice none 0 0, .int .i64 (n : Int), .int .i64 (m : Int), .slice none 0 0] 69)) := ⟨_, rfl⟩
        have b5 : Below w4.heap.size w4 W5 := by rw [HW5.out]; exact below_alloc w4 _
        have HP5 := Lib.hid (show SpBlk W5 w4.heap.size (.int .i64 (f : Int)) (.int .i64 (t : Int)) (.slice none 0 0) (.int .i64 (n : Int)) (.int .i64 (m : Int)) (.slice none 0 0) by rw [HW5.out]; exact heap_alloc_new w4 _)
        have HG4 := Lib.hid ((HG2.out.keep b3).keep b4)
        have HZ := Lib.hid (show b < w.heap.size ∧ w.heap.size < w4.heap.size ∧ w4.heap.size < W5.heap.size from ⟨HLT.out, HG4.out.lt, HP5.out.lt⟩)
        have HG5 := Lib.hid (HG4.out.keep b5)
        have H5 := Lib.hid ((H3'.out.keep b4).keep b5)
        have HW5' := Lib.hid (((HW2.out.next b3).next b4).next b5)
        clear b3 b4 b5 HG4 H3'
        rcases hkc with hkc | hkc | hkc
        · -- a: what comes alone
          subst hkc
          have hkx : (T[k]'hk).toNat = 97 := hkx
          have HQ := Lib.hid (show rBody 97 f t n m r1 = (⟨f, t, [], n, m, (rShowns [62, 32] (m - n + 1) r1).1.map bs⟩, (rShowns [62, 32] (m - n + 1) r1).2) by unfold rBody rOld rMid rNew; simp)
          rw [HQ.out] at HS HBO
          dsimp only at HBO
          go_wp2_with fail
          rw [← HW5.out, EN.out]
          refine (rshowns_any W0 b r1 ⟨#[62, 32]⟩ (by decide) (m - n + 1) (by omega) _ H5.out).mono ?_
          rintro e w6 ⟨v6, rfl, o6, h6, hw6⟩
          obtain ⟨v6a, v6c, rfl, h61, h62⟩ := o6.form rfl
          have HP6 := Lib.hid (HP5.out.wrote hw6 (fun e => by have := HZ.out; omega))
          have HG6 := Lib.hid (HG5.out.wrote hw6 (fun e => by have := HZ.out; omega))
          have O6 := Lib.hid o6
          have H6 := Lib.hid h6
          have HW6 := Lib.hid (HW5'.out.trans hw6 (fun _ _ e => e))
          clear o6 h6 hw6
          obtain ⟨q6, HQ6⟩ : ∃ q6, Hid (q6 = ((rShowns [62, 32] (m - n + 1) r1).1.map bs).length) := ⟨_, rfl⟩
          rw [← HQ6.out] at O6 ⊢
          have p0 := HP6.out.c0; have p1 := HP6.out.c1; have p2 := HP6.out.c2; have p3 := HP6.out.c3; have p4 := HP6.out.c4; have p5 := HP6.out.c5
          have pz := HP6.out.free
          have z0 := HG6.out.c0; have z1 := HG6.out.c1; have z2 := HG6.out.c2; have z3 := HG6.out.c3; have z4 := HG6.out.c4; have z5 := HG6.out.c5
          have fz := HG6.out.free
          have hne : w4.heap.size ≠ w.heap.size := by have := HZ.out; omega
          have hne2 : w.heap.size ≠ w4.heap.size := by have := HZ.out; omega
          go_wp2
          (try simp only [Exit.inBlock, Exit.then])
          refine bodyPost_ret (v := .agg #[.int .i64 (f : Int), .int .i64 (t : Int), .slice none 0 0, .int .i64 (n : Int), .int .i64 (m : Int), .slice v6a q6 v6c]) (by simp [results, Tryz.results41, go_sem, z0, z1, z2, z3, z4, z5, hne, hne2]) rfl ?_
          have hs6 := wset w6 w4.heap.size 5 (.slice v6a q6 v6c)
          have hq := wset6 (w6.setCell ⟨w4.heap.size, 5, none⟩ (.slice v6a q6 v6c)) w.heap.size (.int .i64 (f : Int)) (.int .i64 (t : Int)) (.slice none 0 0) (.int .i64 (n : Int)) (.int .i64 (m : Int)) (.slice v6a q6 v6c)
          exact ⟨_, .slice none 0 0, .slice v6a q6 v6c, HOK.out, by rw [HS.out], by rw [HS.out]; exact OwnV.nil_, by rw [HS.out]; exact ((O6.out.wrote hs6 (fun g e e2 => by have h3 := (O6.out.lt e).1; have h4 := HZ.out; omega)).wrote hq (fun g e e2 => by have h3 := (O6.out.lt e).1; have h4 := HZ.out; omega)).more (by have h4 := HZ.out; omega), (fun g e => by cases e), by rw [HS.out]; exact HBO.out, by rw [HS.out]; exact (H6.out.wrote hs6 (fun g e => by have h4 := HZ.out; omega)).wrote hq (fun g e => by have h4 := HZ.out; omega), (HW6.out.trans hs6 (fun i hi e => by have h4 := HZ.out; omega)).trans hq (fun i hi e => by omega)⟩
        · -- c: both
          subst hkc
          have hkx : (T[k]'hk).toNat = 99 := hkx
          have HQ := Lib.hid (show rBody 99 f t n m r1 = (⟨f, t, (rShowns [60, 32] (t - f + 1) r1).1.map bs, n, m, (rShowns [62, 32] (m - n + 1) (rWord ruleL (rShowns [60, 32] (t - f + 1) r1).2)).1.map bs⟩, (rShowns [62, 32] (m - n + 1) (rWord ruleL (rShowns [60, 32] (t - f + 1) r1).2)).2) by unfold rBody rOld rMid rNew; simp)
          rw [HQ.out] at HS HBO
          dsimp only at HBO
          go_wp2_with fail
          rw [← HW5.out, EO.out]
          refine (rshowns_any W0 b r1 ⟨#[60, 32]⟩ (by decide) (t - f + 1) (by omega) _ H5.out).mono ?_
          rintro e w6 ⟨v6, rfl, o6, h6, hw6⟩
          obtain ⟨q6, HQ6⟩ : ∃ q6, Hid (((rShowns [60, 32] (t - f + 1) r1).1.map bs).length = q6) := ⟨_, rfl⟩
          obtain ⟨v6a, v6c, rfl, h61, h62⟩ := o6.form (n := q6) HQ6.out
          have HP6 := Lib.hid (HP5.out.wrote hw6 (fun e => by have := HZ.out; omega))
          have HG6 := Lib.hid (HG5.out.wrote hw6 (fun e => by have := HZ.out; omega))
          have p2 := HP6.out.c2
          have pz := HP6.out.free
          obtain ⟨V6, HV6⟩ : ∃ V6, Hid (V6 = w6.setCell ⟨w4.heap.size, 2, none⟩ (.slice v6a q6 v6c)) := ⟨_, rfl⟩
          have hs6 : Wrote (fun i => i = w4.heap.size) w6 V6 := by rw [HV6.out]; exact wset _ _ _ _
          have HPV := Lib.hid (show SpBlk V6 w4.heap.size (.int .i64 (f : Int)) (.int .i64 (t : Int)) (.slice v6a q6 v6c) (.int .i64 (n : Int)) (.int .i64 (m : Int)) (.slice none 0 0) by rw [HV6.out]; exact heap_set_same HP6.out)
          have HGV := Lib.hid (HG6.out.wrote hs6 (fun e => by have := HZ.out; omega))
          have OV := Lib.hid (o6.wrote hs6 (fun g e e2 => by have h3 := (o6.lt e).1; have h4 := HZ.out; omega))
          have HRV := Lib.hid (h6.wrote hs6 (fun g e => by have h4 := HZ.out; omega))
          have HWV := Lib.hid ((HW5'.out.trans hw6 (fun _ _ e => e)).trans hs6 (fun i hi e => by have h4 := HZ.out; omega))
          have HZV := Lib.hid (show W5.heap.size ≤ V6.heap.size from Nat.le_trans hw6.size hs6.size)
          clear o6 h6 hw6 hs6
          go_wp2_with fail
          rw [← HV6.out]
          refine (rword_any W0 b _ ⟨#[45, 45, 45, 10]⟩ (by decide) _ HRV.out).mono ?_
          rintro e w7 ⟨rfl, h7, hw7⟩
          have HR7 := Lib.hid (show Rdr W0 w7 b (rWord ruleL (rShowns [60, 32] (t - f + 1) r1).2) from h7)
          go_wp2_with fail
          rw [EN.out]
          refine (rshowns_any W0 b _ ⟨#[62, 32]⟩ (by decide) (m - n + 1) (by omega) _ HR7.out).mono ?_
          rintro e w8 ⟨v8, rfl, o8, h8, hw8⟩
          obtain ⟨q8, HQ8⟩ : ∃ q8, Hid (((rShowns [62, 32] (m - n + 1) (rWord ruleL (rShowns [60, 32] (t - f + 1) r1).2)).1.map bs).length = q8) := ⟨_, rfl⟩
          obtain ⟨v8a, v8c, rfl, h81, h82⟩ := o8.form (n := q8) HQ8.out
          have HP8 := Lib.hid ((HPV.out.wrote hw7 (fun e => by have := HZ.out; omega)).wrote hw8 (fun e => by have := HZ.out; omega))
          have HG8 := Lib.hid ((HGV.out.wrote hw7 (fun e => by have := HZ.out; omega)).wrote hw8 (fun e => by have := HZ.out; omega))
          have OV8 := Lib.hid ((OV.out.wrote hw7 (fun g e e2 => by have h3 := (OV.out.lt e).1; have h4 := HZ.out; omega)).wrote hw8 (fun g e e2 => by have h3 := (OV.out.lt e).1; have h4 := HZ.out; omega))
          have O8 := Lib.hid o8
          have H8 := Lib.hid h8
          have HW8 := Lib.hid ((HWV.out.trans hw7 (fun _ _ e => e)).trans hw8 (fun _ _ e => e))
          have HAP := Lib.hid (show ∀ g, (Value.slice v6a q6 v6c).ownBlock = some g → g < w7.heap.size from fun g e => Nat.lt_of_lt_of_le (OV.out.lt e).2 hw7.size)
          have HZ8 := Lib.hid (show W5.heap.size ≤ w7.heap.size from Nat.le_trans HZV.out hw7.size)
          clear o8 h8 hw8 h7 hw7 p2 pz
          have p0 := HP8.out.c0; have p1 := HP8.out.c1; have p2 := HP8.out.c2; have p3 := HP8.out.c3; have p4 := HP8.out.c4; have p5 := HP8.out.c5
          have pz := HP8.out.free
          have z0 := HG8.out.c0; have z1 := HG8.out.c1; have z2 := HG8.out.c2; have z3 := HG8.out.c3; have z4 := HG8.out.c4; have z5 := HG8.out.c5
          have fz := HG8.out.free
          have hne : w4.heap.size ≠ w.heap.size := by have := HZ.out; omega
          have hne2 : w.heap.size ≠ w4.heap.size := by have := HZ.out; omega
          go_wp2
          (try simp only [Exit.inBlock, Exit.then])
          refine bodyPost_ret (v := .agg #[.int .i64 (f : Int), .int .i64 (t : Int), .slice v6a q6 v6c, .int .i64 (n : Int), .int .i64 (m : Int), .slice v8a q8 v8c]) (by simp [results, Tryz.results41, go_sem, z0, z1, z2, z3, z4, z5, hne, hne2]) rfl ?_
          have hs6 := wset w8 w4.heap.size 5 (.slice v8a q8 v8c)
          have hq := wset6 (w8.setCell ⟨w4.heap.size, 5, none⟩ (.slice v8a q8 v8c)) w.heap.size (.int .i64 (f : Int)) (.int .i64 (t : Int)) (.slice v6a q6 v6c) (.int .i64 (n : Int)) (.int .i64 (m : Int)) (.slice v8a q8 v8c)
          exact ⟨_, .slice v6a q6 v6c, .slice v8a q8 v8c, HOK.out, by rw [HS.out], by rw [HS.out]; exact ((OV8.out.wrote hs6 (fun g e e2 => by have h3 := (OV8.out.lt e).1; have h4 := HZ.out; omega)).wrote hq (fun g e e2 => by have h3 := (OV8.out.lt e).1; have h4 := HZ.out; omega)).more (by have h4 := HZ.out; omega), by rw [HS.out]; exact ((O8.out.wrote hs6 (fun g e e2 => by have h3 := (O8.out.lt e).1; have h4 := HZ.out; have h5 := HZ8.out; omega)).wrote hq (fun g e e2 => by have h3 := (O8.out.lt e).1; have h4 := HZ.out; have h5 := HZ8.out; omega)).more (by have h4 := HZ.out; have h5 := HZ8.out; omega), (fun g e e2 => by have h3 := HAP.out g e; have h4 := (O8.out.lt e2).1; omega), by rw [HS.out]; exact HBO.out, by rw [HS.out]; exact (H8.out.wrote hs6 (fun g e => by have h4 := HZ.out; omega)).wrote hq (fun g e => by have h4 := HZ.out; omega), (HW8.out.trans hs6 (fun i hi e => by have h4 := HZ.out; omega)).trans hq (fun i hi e => by omega)⟩
        · -- d: what goes alone
          subst hkc
          have hkx : (T[k]'hk).toNat = 100 := hkx
          have HQ := Lib.hid (show rBody 100 f t n m r1 = (⟨f, t, (rShowns [60, 32] (t - f + 1) r1).1.map bs, n, m, []⟩, (rShowns [60, 32] (t - f + 1) r1).2) by unfold rBody rOld rMid rNew; simp)
          rw [HQ.out] at HS HBO
          dsimp only at HBO
          go_wp2_with fail
          rw [← HW5.out, EO.out]
          refine (rshowns_any W0 b r1 ⟨#[60, 32]⟩ (by decide) (t - f + 1) (by omega) _ H5.out).mono ?_
          rintro e w6 ⟨v6, rfl, o6, h6, hw6⟩
          obtain ⟨v6a, v6c, rfl, h61, h62⟩ := o6.form rfl
          have HP6 := Lib.hid (HP5.out.wrote hw6 (fun e => by have := HZ.out; omega))
          have HG6 := Lib.hid (HG5.out.wrote hw6 (fun e => by have := HZ.out; omega))
          have O6 := Lib.hid o6
          have H6 := Lib.hid h6
          have HW6 := Lib.hid (HW5'.out.trans hw6 (fun _ _ e => e))
          clear o6 h6 hw6
          obtain ⟨q6, HQ6⟩ : ∃ q6, Hid (q6 = ((rShowns [60, 32] (t - f + 1) r1).1.map bs).length) := ⟨_, rfl⟩
          rw [← HQ6.out] at O6 ⊢
          have p0 := HP6.out.c0; have p1 := HP6.out.c1; have p2 := HP6.out.c2; have p3 := HP6.out.c3; have p4 := HP6.out.c4; have p5 := HP6.out.c5
          have pz := HP6.out.free
          have z0 := HG6.out.c0; have z1 := HG6.out.c1; have z2 := HG6.out.c2; have z3 := HG6.out.c3; have z4 := HG6.out.c4; have z5 := HG6.out.c5
          have fz := HG6.out.free
          have hne : w4.heap.size ≠ w.heap.size := by have := HZ.out; omega
          have hne2 : w.heap.size ≠ w4.heap.size := by have := HZ.out; omega
          go_wp2
          (try simp only [Exit.inBlock, Exit.then])
          refine bodyPost_ret (v := .agg #[.int .i64 (f : Int), .int .i64 (t : Int), .slice v6a q6 v6c, .int .i64 (n : Int), .int .i64 (m : Int), .slice none 0 0]) (by simp [results, Tryz.results41, go_sem, z0, z1, z2, z3, z4, z5, hne, hne2]) rfl ?_
          have hs6 := wset w6 w4.heap.size 2 (.slice v6a q6 v6c)
          have hq := wset6 (w6.setCell ⟨w4.heap.size, 2, none⟩ (.slice v6a q6 v6c)) w.heap.size (.int .i64 (f : Int)) (.int .i64 (t : Int)) (.slice v6a q6 v6c) (.int .i64 (n : Int)) (.int .i64 (m : Int)) (.slice none 0 0)
          exact ⟨_, .slice v6a q6 v6c, .slice none 0 0, HOK.out, by rw [HS.out], by rw [HS.out]; exact ((O6.out.wrote hs6 (fun g e e2 => by have h3 := (O6.out.lt e).1; have h4 := HZ.out; omega)).wrote hq (fun g e e2 => by have h3 := (O6.out.lt e).1; have h4 := HZ.out; omega)).more (by have h4 := HZ.out; omega), by rw [HS.out]; exact OwnV.nil_, (fun g e e2 => by cases e2), by rw [HS.out]; exact HBO.out, by rw [HS.out]; exact (H6.out.wrote hs6 (fun g e => by have h4 := HZ.out; omega)).wrote hq (fun g e => by have h4 := HZ.out; omega), (HW6.out.trans hs6 (fun i hi e => by have h4 := HZ.out; omega)).trans hq (fun i hi e => by omega)⟩

end Go.Proofs.YtnimaadjmejmpaaGreatDoor
