/-
  Heads of groups, read: the program's way of cutting one.
-/
import Derived.Test.YtkamenidgkjodaaGreatDoorQcURow
set_option linter.unusedSimpArgs false
set_option linter.unusedVariables false
namespace Go.Proofs.YtkamenidgkjodaaGreatDoor
open Go.RowKit M

theorem cut2_hit {f s : List UInt8} (h : (32 : UInt8) ∉ f) : Lib.cut (f ++ 32 :: 43 :: s) [32, 43] = (f, s, true) := by
  have hi : Lib.index (f ++ 32 :: 43 :: s) [32, 43] = (f.length : Int) := by
    refine Lib.index_first (by simp) ?_ (fun j hj => ?_)
    · unfold Lib.occAt; rw [List.drop_left]; rfl
    · cases ho : Lib.occAt (f ++ 32 :: 43 :: s) [32, 43] j
      · rfl
      · have := Lib.occAt_head rfl ho
        rw [List.getElem?_append_left hj] at this
        exact absurd (List.mem_of_getElem? this) h
  unfold Lib.cut
  rw [hi, if_pos (by omega)]
  simp
theorem cut2_some {r f s : List UInt8} (h : Lib.cut r [32, 43] = (f, s, true)) : r = f ++ 32 :: 43 :: s := by
  unfold Lib.cut at h
  split at h
  · rename_i hge
    rcases Lib.index_spec r [32, 43] with ⟨e, _⟩ | ⟨i, e, hi, ho, _⟩
    · omega
    · rw [e] at h
      injection h with h1 h2
      injection h2 with h2 _
      simp only [Int.toNat_natCast, List.length_cons, List.length_nil] at h1 h2
      unfold Lib.occAt at ho
      obtain ⟨t, ht⟩ := List.isPrefixOf_iff_prefix.1 ho
      have hd : r.drop i = 32 :: 43 :: t := ht.symm
      have h3 : s = t := by
        rw [← h2, ← List.drop_drop, hd]; rfl
      rw [← h1, h3, ← hd, List.take_append_drop]
  · injection h with _ h2
    injection h2 with _ h3
    cases h3
/-- Does a text end in what ends a head? And what stands ahead of it. -/
def sufB (r : List UInt8) : Bool := decide (3 ≤ r.length) && (r.drop (r.length - 3) == [32, 64, 64])
def sufC (r : List UInt8) : List UInt8 := if sufB r = true then r.take (r.length - 3) else r
theorem suf_yes {r : List UInt8} (h : sufB r = true) : r = sufC r ++ [32, 64, 64] := by
  unfold sufC
  rw [if_pos h]
  unfold sufB at h
  simp only [Bool.and_eq_true, beq_iff_eq] at h
  conv => lhs; rw [← List.take_append_drop (r.length - 3) r, h.2]
theorem suf_self (p : List UInt8) : sufB (p ++ [32, 64, 64]) = true ∧ sufC (p ++ [32, 64, 64]) = p := by
  have h : sufB (p ++ [32, 64, 64]) = true := by
    unfold sufB
    simp
  refine ⟨h, ?_⟩
  have := suf_yes h
  exact (List.append_cancel_right this).symm
/-- What a head is cut into. -/
def preB (l : List UInt8) : Bool := Lib.hasPrefix l [64, 64, 32, 45]
def preC (l : List UInt8) : List UInt8 := if preB l = true then l.drop 4 else l
theorem head_yes {l f s : List UInt8} {a o t c : Nat} (h1 : preB l = true) (h2 : sufB (preC l) = true) (h3 : Lib.cut (sufC (preC l)) [32, 43] = (f, s, true)) (h4 : countL f = some (a, o)) (h5 : countL s = some (t, c)) : HeadIs l a o t c := by
  obtain ⟨l', e⟩ := pre_split h1
  have e2 : preC l = l' := by unfold preC; rw [if_pos h1, e]; rfl
  rw [e2] at h2 h3
  have e3 := suf_yes h2
  rw [cut2_some h3] at e3
  exact ⟨f, s, by rw [e, e3]; simp, h4, h5⟩
theorem head_only {l : List UInt8} {a o t c : Nat} (h : HeadIs l a o t c) : preB l = true ∧ sufB (preC l) = true ∧ ∃ f s, Lib.cut (sufC (preC l)) [32, 43] = (f, s, true) ∧ countL f = some (a, o) ∧ countL s = some (t, c) := by
  obtain ⟨f, s, rfl, h1, h2⟩ := h
  have e : [64, 64, 32, 45] ++ f ++ [32, 43] ++ s ++ [32, 64, 64] = [64, 64, 32, 45] ++ ((f ++ 32 :: 43 :: s) ++ [32, 64, 64]) := by simp
  rw [e]
  have hp : preB ([64, 64, 32, 45] ++ ((f ++ 32 :: 43 :: s) ++ [32, 64, 64])) = true := pre_self _ _
  have e2 : preC ([64, 64, 32, 45] ++ ((f ++ 32 :: 43 :: s) ++ [32, 64, 64])) = (f ++ 32 :: 43 :: s) ++ [32, 64, 64] := by unfold preC; rw [if_pos hp]; rfl
  obtain ⟨q1, q2⟩ := suf_self (f ++ 32 :: 43 :: s)
  rw [e2, q2]
  exact ⟨hp, q1, f, s, cut2_hit (countL_no h1).1, h1, h2⟩
theorem sufC_le (r : List UInt8) : (sufC r).length ≤ r.length := by unfold sufC; split <;> simp
theorem preC_le (r : List UInt8) : (preC r).length ≤ r.length := by unfold preC; split <;> simp
theorem cut2_le (r : List UInt8) : (Lib.cut r [32, 43]).1.length ≤ r.length ∧ (Lib.cut r [32, 43]).2.1.length ≤ r.length := by
  unfold Lib.cut; split <;> simp <;> omega

theorem suf_bytes (r : List UInt8) (h : 3 ≤ r.length) : (((bs r).extract (r.length - 3) r.length).toList == [32, 64, 64]) = sufB r := by
  rw [ByteArray.toList_eq, extract_bs]
  simp only [bs_list]
  unfold sufB
  rw [decide_eq_true h, Bool.true_and]
  have : (r.drop (r.length - 3)).take (r.length - (r.length - 3)) = r.drop (r.length - 3) := List.take_of_length_le (by simp)
  rw [this]
theorem suf_cut {r : List UInt8} (h : sufB r = true) : (bs r).extract 0 (r.length - 3) = bs (sufC r) := by
  rw [extract_bs, bs_list, List.drop_zero, Nat.sub_zero]
  unfold sufC; rw [if_pos h]

set_option maxHeartbeats 1000000 in
theorem HasSuffixU_any (r : List UInt8) (w : World) (hs : r.length ≤ 1048576) :
    Calls Tryz.prog 148 #[.string (bs r), .string ⟨#[32, 64, 64]⟩] w fun e w' => e = .returned (.bool (sufB r)) ∧ w' = w := by
  have hsz : (bs r).size = r.length := bs_size r
  by_cases h0 : 3 ≤ r.length
  · have H := Lib.hid (suf_bytes r h0)
    have hw : IntKind.i64.wrap ((r.length : Int) - 3) = ((r.length - 3 : Nat) : Int) := by rw [IntKind.wrap_i64]; omega
    go_enter Tryz.func148, Tryz.ntmps148
    go_wp2
    go_ret
    exact ⟨ret_bool H.out, rfl⟩
  · have H := Lib.hid (show sufB r = false by unfold sufB; rw [decide_eq_false h0, Bool.false_and])
    go_enter Tryz.func148, Tryz.ntmps148
    go_wp2
    go_ret
    exact ⟨ret_bool H.out.symm, rfl⟩

set_option maxHeartbeats 1000000 in
theorem CutSuf_any (r : List UInt8) (w : World) (hs : r.length ≤ 1048576) :
    Calls Tryz.prog 80 #[.string (bs r), .string ⟨#[32, 64, 64]⟩] w fun e w' => e = .returned (.tuple #[.string (bs (sufC r)), .bool (sufB r)]) ∧ w' = w := by
  have hsz : (bs r).size = r.length := bs_size r
  have h0 : ∀ w, Calls Tryz.prog 123 #[.string (bs r), .string ⟨#[32, 64, 64]⟩] w fun e w' => e = .returned (.tuple #[.string (bs (sufC r)), .bool (sufB r)]) ∧ w' = w := by
    intro w
    cases hb : sufB r
    · have HB := Lib.hid hb
      have HC := Lib.hid (show sufC r = r by unfold sufC; rw [hb]; rfl)
      clear hb
      go_enter Tryz.func123, Tryz.ntmps123
      go_wp2_with fail
      refine (HasSuffixU_any r _ hs).mono ?_
      rintro e w1 ⟨rfl, rfl⟩
      rw [HB.out]
      go_wp2
      go_ret2
      exact ⟨by rw [HC.out]; rfl, rfl⟩
    · have HB := Lib.hid hb
      have hl : 3 ≤ r.length := by unfold sufB at hb; simp only [Bool.and_eq_true, decide_eq_true_eq] at hb; exact hb.1
      have HC := Lib.hid (suf_cut hb)
      have hw : IntKind.i64.wrap ((r.length : Int) - 3) = ((r.length - 3 : Nat) : Int) := by rw [IntKind.wrap_i64]; omega
      have he : (r.length : Int) - 3 = ((r.length - 3 : Nat) : Int) := by omega
      clear hb
      go_enter Tryz.func123, Tryz.ntmps123
      go_wp2_with fail
      refine (HasSuffixU_any r _ hs).mono ?_
      rintro e w1 ⟨rfl, rfl⟩
      rw [HB.out]
      go_wp2
      go_ret2
      exact ⟨by rw [← HC.out]; rfl, rfl⟩
  have H0 := Lib.hid h0
  clear h0
  go_enter Tryz.func80, Tryz.ntmps80
  go_wp2_with fail
  refine (H0.out _).mono ?_
  rintro e w1 ⟨rfl, rfl⟩
  go_wp2
  go_ret2
  exact ⟨rfl, rfl⟩
theorem CutPre_any (l : List UInt8) (w : World) (hs : l.length ≤ 1048576) :
    Calls Tryz.prog 79 #[.string (bs l), .string ⟨#[64, 64, 32, 45]⟩] w fun e w' => e = .returned (.tuple #[.string (bs (preC l)), .bool (preB l)]) ∧ w' = w := by
  cases hb : preB l
  · have := CutPrefix_no (bs l) ⟨#[64, 64, 32, 45]⟩ w (by rw [bs_size]; exact hs) (by decide) (by rw [bs_list]; exact hb)
    have e : preC l = l := by unfold preC; rw [hb]; rfl
    rw [e]; exact this
  · have := CutPrefix_yes (bs l) ⟨#[64, 64, 32, 45]⟩ w (by rw [bs_size]; exact hs) (by decide) (by rw [bs_list]; exact hb)
    rw [bs_list] at this
    have e : preC l = l.drop 4 := by unfold preC; rw [hb]; rfl
    rw [e]; exact this
theorem CutPlus_any (s : List UInt8) (hs : s.length ≤ 3000) (w : World) (hv : Vars w) :
    Calls Tryz.prog 81 #[.string (bs s), .string ⟨#[32, 43]⟩] w fun e w' => e = .returned (.tuple #[.string (bs (Lib.cut s [32, 43]).1), .string (bs (Lib.cut s [32, 43]).2.1), .bool (Lib.cut s [32, 43]).2.2]) ∧ Below w.heap.size w w' := by
  obtain ⟨m, hm⟩ := hv.big
  refine (Tryz.strings_Cut (bs s) ⟨#[32, 43]⟩ m w (by rw [bs_size]; omega) hm).mono ?_
  rintro e w' ⟨rfl, n, rfl⟩
  rw [bs_list]
  exact ⟨rfl, below_drewN (Below.refl _ _) n⟩

/-- What the reader of a group leaves. -/
def GroupPost (W0 : World) (b : Nat) (r : List UInt8 × Bool) (w : World) (e : Ending) (w' : World) : Prop := ∃ x u r2, e = .returned (.agg #[.int .i64 x.at_, .int .i64 x.to_, u]) ∧ OwnRw w' w.heap.size u x.rows ∧ GpOut r x r2 ∧ Rdr W0 w' b r2 ∧ Wrote (fun i => i = b) w w'
/-- A count read: what it is, and whether it is one. -/
theorem duo_form (x : Option (Nat × Nat)) : ∃ i j q, duo x = .tuple #[.int .i64 i, .int .i64 j, .bool q] ∧ (q = true → ∃ a o : Nat, x = some (a, o) ∧ i = (a : Int) ∧ j = (o : Int)) ∧ (q = false → x = none) := by
  cases x with
  | none => exact ⟨0, 0, false, rfl, (fun e => by cases e), fun _ => rfl⟩
  | some x => exact ⟨_, _, true, rfl, fun _ => ⟨x.1, x.2, rfl, rfl, rfl⟩, (fun e => by cases e)⟩

set_option maxHeartbeats 8000000 in
set_option maxRecDepth 100000 in
theorem rgroup_any (W0 : World) (b : Nat) (r : List UInt8 × Bool) (w : World) (h : Rdr W0 w b r) :
    Calls Tryz.prog 40 #[.pointer (some ⟨b, 0, none⟩)] w fun e w' => GroupPost W0 b r w e w' := by
  obtain ⟨W1, HW1⟩ : ∃ W1, Hid (W1 = w.alloc (.cells #[.int .i64 0, .int .i64 0, .slice none 0 0] 60)) := ⟨_, rfl⟩
  have HB1 := Lib.hid (show Below w.heap.size w W1 by rw [HW1.out]; exact below_alloc _ _)
  have H1 := Lib.hid (h.keep HB1.out)
  have hbl : b < w.heap.size := h.lt
  have hbR : w.heap.size ≠ b := by omega
  have HQ := Lib.hid (show W1.heap[w.heap.size]? = some (.cells #[.int .i64 0, .int .i64 0, .slice none 0 0] 60 (0, 0)) by rw [HW1.out]; exact heap_at rfl)
  have HSZ := Lib.hid (show w.heap.size < W1.heap.size by rw [HW1.out]; simp)
  have HSM := Lib.hid h.small
  obtain ⟨L, r1, HP⟩ : ∃ L r1, Hid (rPlain r = (L, r1)) := ⟨_, _, rfl⟩
  have HLL := Lib.hid (show L.length ≤ 3000 by have := (rPlain_le r).1; rw [HP.out] at this; have := HSM.out; dsimp only at *; omega)
  have HRL := Lib.hid (show r1.1.length ≤ r.1.length by have := (rPlain_le r).2.1; rw [HP.out] at this; exact this)
  obtain ⟨f, s, qc, HC⟩ : ∃ f s qc, Hid (Lib.cut (sufC (preC L)) [32, 43] = (f, s, qc)) := ⟨_, _, _, rfl⟩
  have h1 := preC_le L
  have h2 := sufC_le (preC L)
  have h3 := cut2_le (sufC (preC L))
  rw [HC.out] at h3
  dsimp only at h3
  have HPL := Lib.hid (show (preC L).length ≤ 3000 by have := HLL.out; omega)
  have HSL := Lib.hid (show (sufC (preC L)).length ≤ 3000 by have := HLL.out; omega)
  have HFL := Lib.hid (show f.length ≤ 3000 ∧ s.length ≤ 3000 by have := HLL.out; omega)
  obtain ⟨pb, HPB⟩ : ∃ pb, Hid (preB L = pb) := ⟨_, rfl⟩
  obtain ⟨sb, HSB⟩ : ∃ sb, Hid (sufB (preC L) = sb) := ⟨_, rfl⟩
  obtain ⟨i1, j1, q1, hD1, hY1, hN1⟩ := duo_form (countL f)
  obtain ⟨i2, j2, q2, hD2, hY2, hN2⟩ := duo_form (countL s)
  have HD1 := Lib.hid hD1
  have HD2 := Lib.hid hD2
  have HY1 := Lib.hid hY1
  have HN1 := Lib.hid hN1
  have HY2 := Lib.hid hY2
  have HN2 := Lib.hid hN2
  have HBF := Lib.hid (bs_list f)
  have HBS := Lib.hid (bs_list s)
  clear h h1 h2 h3 hD1 hD2 hY1 hY2 hN1 hN2
  by_cases hall : pb = true ∧ sb = true ∧ qc = true ∧ q1 = true ∧ q2 = true
  · obtain ⟨rfl, rfl, rfl, rfl, rfl⟩ := hall
    obtain ⟨ca, co, e1, rfl, rfl⟩ := HY1.out rfl
    obtain ⟨ct, cc, e2, rfl, rfl⟩ := HY2.out rfl
    have HH := Lib.hid (head_yes HPB.out HSB.out HC.out e1 e2)
    obtain ⟨g1, g2, g3, g4⟩ := HH.out.le
    clear e1 e2
    go_enter Tryz.func40, Tryz.ntmps40
    go_wp2_with fail
    rw [← HW1.out]
    refine (rplain_any W0 b r _ H1.out).mono ?_
    rintro e w2 ⟨rfl, hr2, hw2⟩
    rw [HP.out] at hr2 ⊢
    dsimp only at hr2 ⊢
    have R2 := Lib.hid hr2
    have X2 := Lib.hid ((Wrote.of_below (S := fun i => i = b) HB1.out).trans hw2 (fun _ _ e => e))
    have Q2 := Lib.hid ((hw2.block w.heap.size HSZ.out hbR).trans HQ.out)
    clear hr2 hw2
    go_wp2_with fail
    refine (CutPre_any L _ (by have := HLL.out; omega)).mono ?_
    rintro e w3 ⟨rfl, rfl⟩
    rw [HPB.out]
    go_wp2_with fail
    refine (CutSuf_any (preC L) _ (by have := HPL.out; omega)).mono ?_
    rintro e w4 ⟨rfl, rfl⟩
    rw [HSB.out]
    go_wp2_with fail
    refine (CutPlus_any (sufC (preC L)) HSL.out _ R2.out.now.lib).mono ?_
    rintro e w4 ⟨rfl, b4⟩
    rw [HC.out]
    dsimp only
    have R4 := Lib.hid (R2.out.keep b4)
    have X4 := Lib.hid (X2.out.trans (Wrote.of_below (S := fun i => i = b) b4) (fun _ _ e => e))
    have Q4 := Lib.hid ((b4.block w.heap.size (Array.getElem?_eq_some_iff.1 Q2.out).1).trans Q2.out)
    clear b4
    go_wp2_with fail
    refine (ReadCount_any (bs f) (by rw [bs_size]; have := HFL.out; omega) _ R4.out.now.lib).mono ?_
    rintro e w5 ⟨rfl, b5⟩
    rw [HBF.out, HD1.out]
    have R5 := Lib.hid (R4.out.keep b5)
    have X5 := Lib.hid (X4.out.trans (Wrote.of_below (S := fun i => i = b) b5) (fun _ _ e => e))
    have Q5 := Lib.hid ((b5.block w.heap.size (Array.getElem?_eq_some_iff.1 Q4.out).1).trans Q4.out)
    clear b5
    go_wp2_with fail
    refine (ReadCount_any (bs s) (by rw [bs_size]; have := HFL.out; omega) _ R5.out.now.lib).mono ?_
    rintro e w6 ⟨rfl, b6⟩
    rw [HBS.out, HD2.out]
    have R6 := Lib.hid (R5.out.keep b6)
    have X6 := Lib.hid (X5.out.trans (Wrote.of_below (S := fun i => i = b) b6) (fun _ _ e => e))
    have Q6 := Lib.hid ((b6.block w.heap.size (Array.getElem?_eq_some_iff.1 Q5.out).1).trans Q5.out)
    have Z6 := Lib.hid (show w.heap.size < w6.heap.size from (Array.getElem?_eq_some_iff.1 Q6.out).1)
    clear b6
    go_wp2_with fail
    refine (rrows_any W0 b co cc g2 g4 r1 _ R6.out).mono ?_
    rintro e w7 ⟨u, O, r2, rfl, o7, ho7, hr7, hw7⟩
    obtain ⟨ul, HUL⟩ : ∃ m, Hid (O.length = m) := ⟨_, rfl⟩
    obtain ⟨uA, uc, rfl, hu1, _⟩ := o7.form HUL.out
    have HGO := Lib.hid (GpOut.good (r := r) (a := ca) (o := co) (t := ct) (c := cc) (by rw [HP.out]; exact HH.out) (O := O) (r2 := r2) (by rw [HP.out]; exact ho7))
    have HQ7 := Lib.hid ((hw7.block w.heap.size Z6.out hbR).trans Q6.out)
    have HW7 := Lib.hid (X6.out.trans hw7 (fun _ _ e => e))
    have HR7 := Lib.hid hr7
    have HO7 := Lib.hid o7
    have hz7 := Lib.hid (show w.heap.size < w6.heap.size from Z6.out)
    have s0 : w7.cell? ⟨w.heap.size, 0, none⟩ = some (.int .i64 0) := by simp [World.cell?, HQ7.out]
    have s1 : w7.cell? ⟨w.heap.size, 1, none⟩ = some (.int .i64 0) := by simp [World.cell?, HQ7.out]
    have s2 : w7.cell? ⟨w.heap.size, 2, none⟩ = some (.slice none 0 0) := by simp [World.cell?, HQ7.out]
    have sf : ∀ j, w7.frozen? ⟨w.heap.size, j, none⟩ = false := fun j => by simp [World.frozen?, HQ7.out]
    clear o7 ho7 hr7 hw7
    go_wp2
    (try simp only [Exit.inBlock, Exit.then])
    refine bodyPost_ret (v := .agg #[.int .i64 (ca : Int), .int .i64 (ct : Int), .slice uA ul uc]) (by simp [results, Tryz.results40, go_sem, s0, s1, s2]) rfl ?_
    refine ⟨⟨ca, ct, O⟩, _, r2, rfl, ?_, HGO.out, ?_, ?_⟩
    · exact ((((HO7.out.setBelow hz7.out _).setBelow hz7.out _).setBelow hz7.out _).more (Nat.le_of_lt hz7.out))
    · exact ((HR7.out.wrote (wset _ w.heap.size 0 _) (fun g e => by subst e; exact hbl)).wrote (wset _ w.heap.size 1 _) (fun g e => by subst e; exact hbl)).wrote (wset _ w.heap.size 2 _) (fun g e => by subst e; exact hbl)
    · exact ((HW7.out.trans (wset _ w.heap.size 0 _) (fun i hi e => by omega)).trans (wset _ w.heap.size 1 _) (fun i hi e => by omega)).trans (wset _ w.heap.size 2 _) (fun i hi e => by omega)
  · have HNO := Lib.hid (show ∀ a o t c, ¬ HeadIs L a o t c from fun a o t c hh => by
      obtain ⟨y1, y2, f', s', y3, y4, y5⟩ := head_only hh
      rw [HPB.out] at y1
      rw [HSB.out] at y2
      rw [HC.out] at y3
      injection y3 with z1 z2
      injection z2 with z2 z3
      subst z1 z2
      refine hall ⟨y1, y2, z3, ?_, ?_⟩
      · cases q1
        · have := HN1.out rfl; rw [y4] at this; cases this
        · rfl
      · cases q2
        · have := HN2.out rfl; rw [y5] at this; cases this
        · rfl)
    have HBAD := Lib.hid (GpOut.bad (r := r) (by rw [HP.out]; exact HNO.out))
    have h5 : pb = false ∨ (pb = true ∧ sb = false) ∨ (pb = true ∧ sb = true ∧ qc = false) ∨ (pb = true ∧ sb = true ∧ qc = true ∧ q1 = false) ∨ (pb = true ∧ sb = true ∧ qc = true ∧ q1 = true ∧ q2 = false) := by
      cases pb <;> cases sb <;> cases qc <;> cases q1 <;> cases q2 <;> simp at hall ⊢
    clear hall HNO HY1 HY2 HN1 HN2
    rcases h5 with rfl | ⟨rfl, rfl⟩ | ⟨rfl, rfl, rfl⟩ | ⟨rfl, rfl, rfl, rfl⟩ | ⟨rfl, rfl, rfl, rfl, rfl⟩
    · go_enter Tryz.func40, Tryz.ntmps40
      go_wp2_with fail
      rw [← HW1.out]
      refine (rplain_any W0 b r _ H1.out).mono ?_
      rintro e w2 ⟨rfl, hr2, hw2⟩
      rw [HP.out] at hr2 ⊢
      dsimp only at hr2 ⊢
      have R2 := Lib.hid hr2
      have X2 := Lib.hid ((Wrote.of_below (S := fun i => i = b) HB1.out).trans hw2 (fun _ _ e => e))
      have Q2 := Lib.hid ((hw2.block w.heap.size HSZ.out hbR).trans HQ.out)
      clear hr2 hw2
      go_wp2_with fail
      refine (CutPre_any L _ (by have := HLL.out; omega)).mono ?_
      rintro e w3 ⟨rfl, rfl⟩
      rw [HPB.out]
      go_wp2_with fail
      refine (CutSuf_any (preC L) _ (by have := HPL.out; omega)).mono ?_
      rintro e w4 ⟨rfl, rfl⟩
      rw [HSB.out]
      go_wp2_with fail
      refine (CutPlus_any (sufC (preC L)) HSL.out _ R2.out.now.lib).mono ?_
      rintro e w4 ⟨rfl, b4⟩
      rw [HC.out]
      dsimp only
      have R4 := Lib.hid (R2.out.keep b4)
      have X4 := Lib.hid (X2.out.trans (Wrote.of_below (S := fun i => i = b) b4) (fun _ _ e => e))
      have Q4 := Lib.hid ((b4.block w.heap.size (Array.getElem?_eq_some_iff.1 Q2.out).1).trans Q2.out)
      clear b4
      go_wp2_with fail
      refine (ReadCount_any (bs f) (by rw [bs_size]; have := HFL.out; omega) _ R4.out.now.lib).mono ?_
      rintro e w5 ⟨rfl, b5⟩
      rw [HBF.out, HD1.out]
      have R5 := Lib.hid (R4.out.keep b5)
      have X5 := Lib.hid (X4.out.trans (Wrote.of_below (S := fun i => i = b) b5) (fun _ _ e => e))
      have Q5 := Lib.hid ((b5.block w.heap.size (Array.getElem?_eq_some_iff.1 Q4.out).1).trans Q4.out)
      clear b5
      go_wp2_with fail
      refine (ReadCount_any (bs s) (by rw [bs_size]; have := HFL.out; omega) _ R5.out.now.lib).mono ?_
      rintro e w6 ⟨rfl, b6⟩
      rw [HBS.out, HD2.out]
      have R6 := Lib.hid (R5.out.keep b6)
      have X6 := Lib.hid (X5.out.trans (Wrote.of_below (S := fun i => i = b) b6) (fun _ _ e => e))
      have Q6 := Lib.hid ((b6.block w.heap.size (Array.getElem?_eq_some_iff.1 Q5.out).1).trans Q5.out)
      have Z6 := Lib.hid (show w.heap.size < w6.heap.size from (Array.getElem?_eq_some_iff.1 Q6.out).1)
      clear b6
      go_wp2_with fail
      refine (rfail_any W0 b r1 _ R6.out).mono ?_
      rintro e w7 ⟨rfl, hr7, hw7⟩
      have HQ7 := Lib.hid ((hw7.block w.heap.size Z6.out hbR).trans Q6.out)
      have HW7 := Lib.hid (X6.out.trans hw7 (fun _ _ e => e))
      have HR7 := Lib.hid hr7
      have s0 : w7.cell? ⟨w.heap.size, 0, none⟩ = some (.int .i64 0) := by simp [World.cell?, HQ7.out]
      have s1 : w7.cell? ⟨w.heap.size, 1, none⟩ = some (.int .i64 0) := by simp [World.cell?, HQ7.out]
      have s2 : w7.cell? ⟨w.heap.size, 2, none⟩ = some (.slice none 0 0) := by simp [World.cell?, HQ7.out]
      have sf : ∀ j, w7.frozen? ⟨w.heap.size, j, none⟩ = false := fun j => by simp [World.frozen?, HQ7.out]
      clear hr7 hw7
      go_wp2
      (try simp only [Exit.inBlock, Exit.then])
      refine bodyPost_ret (v := .agg #[.int .i64 0, .int .i64 0, .slice none 0 0]) (by simp [results, Tryz.results40, go_sem, s0, s1, s2]) rfl ?_
      refine ⟨blankGp, _, _, rfl, OwnRw.nil_, HBAD.out, ?_, ?_⟩
      · exact ((HR7.out.wrote (wset _ w.heap.size 0 _) (fun g e => by subst e; exact hbl)).wrote (wset _ w.heap.size 1 _) (fun g e => by subst e; exact hbl)).wrote (wset _ w.heap.size 2 _) (fun g e => by subst e; exact hbl)
      · exact ((HW7.out.trans (wset _ w.heap.size 0 _) (fun i hi e => by omega)).trans (wset _ w.heap.size 1 _) (fun i hi e => by omega)).trans (wset _ w.heap.size 2 _) (fun i hi e => by omega)
    · go_enter Tryz.func40, Tryz.ntmps40
      go_wp2_with fail
      rw [← HW1.out]
      refine (rplain_any W0 b r _ H1.out).mono ?_
      rintro e w2 ⟨rfl, hr2, hw2⟩
      rw [HP.out] at hr2 ⊢
      dsimp only at hr2 ⊢
      have R2 := Lib.hid hr2
      have X2 := Lib.hid ((Wrote.of_below (S := fun i => i = b) HB1.out).trans hw2 (fun _ _ e => e))
      have Q2 := Lib.hid ((hw2.block w.heap.size HSZ.out hbR).trans HQ.out)
      clear hr2 hw2
      go_wp2_with fail
      refine (CutPre_any L _ (by have := HLL.out; omega)).mono ?_
      rintro e w3 ⟨rfl, rfl⟩
      rw [HPB.out]
      go_wp2_with fail
      refine (CutSuf_any (preC L) _ (by have := HPL.out; omega)).mono ?_
      rintro e w4 ⟨rfl, rfl⟩
      rw [HSB.out]
      go_wp2_with fail
      refine (CutPlus_any (sufC (preC L)) HSL.out _ R2.out.now.lib).mono ?_
      rintro e w4 ⟨rfl, b4⟩
      rw [HC.out]
      dsimp only
      have R4 := Lib.hid (R2.out.keep b4)
      have X4 := Lib.hid (X2.out.trans (Wrote.of_below (S := fun i => i = b) b4) (fun _ _ e => e))
      have Q4 := Lib.hid ((b4.block w.heap.size (Array.getElem?_eq_some_iff.1 Q2.out).1).trans Q2.out)
      clear b4
      go_wp2_with fail
      refine (ReadCount_any (bs f) (by rw [bs_size]; have := HFL.out; omega) _ R4.out.now.lib).mono ?_
      rintro e w5 ⟨rfl, b5⟩
      rw [HBF.out, HD1.out]
      have R5 := Lib.hid (R4.out.keep b5)
      have X5 := Lib.hid (X4.out.trans (Wrote.of_below (S := fun i => i = b) b5) (fun _ _ e => e))
      have Q5 := Lib.hid ((b5.block w.heap.size (Array.getElem?_eq_some_iff.1 Q4.out).1).trans Q4.out)
      clear b5
      go_wp2_with fail
      refine (ReadCount_any (bs s) (by rw [bs_size]; have := HFL.out; omega) _ R5.out.now.lib).mono ?_
      rintro e w6 ⟨rfl, b6⟩
      rw [HBS.out, HD2.out]
      have R6 := Lib.hid (R5.out.keep b6)
      have X6 := Lib.hid (X5.out.trans (Wrote.of_below (S := fun i => i = b) b6) (fun _ _ e => e))
      have Q6 := Lib.hid ((b6.block w.heap.size (Array.getElem?_eq_some_iff.1 Q5.out).1).trans Q5.out)
      have Z6 := Lib.hid (show w.heap.size < w6.heap.size from (Array.getElem?_eq_some_iff.1 Q6.out).1)
      clear b6
      go_wp2_with fail
      refine (rfail_any W0 b r1 _ R6.out).mono ?_
      rintro e w7 ⟨rfl, hr7, hw7⟩
      have HQ7 := Lib.hid ((hw7.block w.heap.size Z6.out hbR).trans Q6.out)
      have HW7 := Lib.hid (X6.out.trans hw7 (fun _ _ e => e))
      have HR7 := Lib.hid hr7
      have s0 : w7.cell? ⟨w.heap.size, 0, none⟩ = some (.int .i64 0) := by simp [World.cell?, HQ7.out]
      have s1 : w7.cell? ⟨w.heap.size, 1, none⟩ = some (.int .i64 0) := by simp [World.cell?, HQ7.out]
      have s2 : w7.cell? ⟨w.heap.size, 2, none⟩ = some (.slice none 0 0) := by simp [World.cell?, HQ7.out]
      have sf : ∀ j, w7.frozen? ⟨w.heap.size, j, none⟩ = false := fun j => by simp [World.frozen?, HQ7.out]
      clear hr7 hw7
      go_wp2
      (try simp only [Exit.inBlock, Exit.then])
      refine bodyPost_ret (v := .agg #[.int .i64 0, .int .i64 0, .slice none 0 0]) (by simp [results, Tryz.results40, go_sem, s0, s1, s2]) rfl ?_
      refine ⟨blankGp, _, _, rfl, OwnRw.nil_, HBAD.out, ?_, ?_⟩
      · exact ((HR7.out.wrote (wset _ w.heap.size 0 _) (fun g e => by subst e; exact hbl)).wrote (wset _ w.heap.size 1 _) (fun g e => by subst e; exact hbl)).wrote (wset _ w.heap.size 2 _) (fun g e => by subst e; exact hbl)
      · exact ((HW7.out.trans (wset _ w.heap.size 0 _) (fun i hi e => by omega)).trans (wset _ w.heap.size 1 _) (fun i hi e => by omega)).trans (wset _ w.heap.size 2 _) (fun i hi e => by omega)
    · go_enter Tryz.func40, Tryz.ntmps40
      go_wp2_with fail
      rw [← HW1.out]
      refine (rplain_any W0 b r _ H1.out).mono ?_
      rintro e w2 ⟨rfl, hr2, hw2⟩
      rw [HP.out] at hr2 ⊢
      dsimp only at hr2 ⊢
      have R2 := Lib.hid hr2
      have X2 := Lib.hid ((Wrote.of_below (S := fun i => i = b) HB1.out).trans hw2 (fun _ _ e => e))
      have Q2 := Lib.hid ((hw2.block w.heap.size HSZ.out hbR).trans HQ.out)
      clear hr2 hw2
      go_wp2_with fail
      refine (CutPre_any L _ (by have := HLL.out; omega)).mono ?_
      rintro e w3 ⟨rfl, rfl⟩
      rw [HPB.out]
      go_wp2_with fail
      refine (CutSuf_any (preC L) _ (by have := HPL.out; omega)).mono ?_
      rintro e w4 ⟨rfl, rfl⟩
      rw [HSB.out]
      go_wp2_with fail
      refine (CutPlus_any (sufC (preC L)) HSL.out _ R2.out.now.lib).mono ?_
      rintro e w4 ⟨rfl, b4⟩
      rw [HC.out]
      dsimp only
      have R4 := Lib.hid (R2.out.keep b4)
      have X4 := Lib.hid (X2.out.trans (Wrote.of_below (S := fun i => i = b) b4) (fun _ _ e => e))
      have Q4 := Lib.hid ((b4.block w.heap.size (Array.getElem?_eq_some_iff.1 Q2.out).1).trans Q2.out)
      clear b4
      go_wp2_with fail
      refine (ReadCount_any (bs f) (by rw [bs_size]; have := HFL.out; omega) _ R4.out.now.lib).mono ?_
      rintro e w5 ⟨rfl, b5⟩
      rw [HBF.out, HD1.out]
      have R5 := Lib.hid (R4.out.keep b5)
      have X5 := Lib.hid (X4.out.trans (Wrote.of_below (S := fun i => i = b) b5) (fun _ _ e => e))
      have Q5 := Lib.hid ((b5.block w.heap.size (Array.getElem?_eq_some_iff.1 Q4.out).1).trans Q4.out)
      clear b5
      go_wp2_with fail
      refine (ReadCount_any (bs s) (by rw [bs_size]; have := HFL.out; omega) _ R5.out.now.lib).mono ?_
      rintro e w6 ⟨rfl, b6⟩
      rw [HBS.out, HD2.out]
      have R6 := Lib.hid (R5.out.keep b6)
      have X6 := Lib.hid (X5.out.trans (Wrote.of_below (S := fun i => i = b) b6) (fun _ _ e => e))
      have Q6 := Lib.hid ((b6.block w.heap.size (Array.getElem?_eq_some_iff.1 Q5.out).1).trans Q5.out)
      have Z6 := Lib.hid (show w.heap.size < w6.heap.size from (Array.getElem?_eq_some_iff.1 Q6.out).1)
      clear b6
      go_wp2_with fail
      refine (rfail_any W0 b r1 _ R6.out).mono ?_
      rintro e w7 ⟨rfl, hr7, hw7⟩
      have HQ7 := Lib.hid ((hw7.block w.heap.size Z6.out hbR).trans Q6.out)
      have HW7 := Lib.hid (X6.out.trans hw7 (fun _ _ e => e))
      have HR7 := Lib.hid hr7
      have s0 : w7.cell? ⟨w.heap.size, 0, none⟩ = some (.int .i64 0) := by simp [World.cell?, HQ7.out]
      have s1 : w7.cell? ⟨w.heap.size, 1, none⟩ = some (.int .i64 0) := by simp [World.cell?, HQ7.out]
      have s2 : w7.cell? ⟨w.heap.size, 2, none⟩ = some (.slice none 0 0) := by simp [World.cell?, HQ7.out]
      have sf : ∀ j, w7.frozen? ⟨w.heap.size, j, none⟩ = false := fun j => by simp [World.frozen?, HQ7.out]
      clear hr7 hw7
      go_wp2
      (try simp only [Exit.inBlock, Exit.then])
      refine bodyPost_ret (v := .agg #[.int .i64 0, .int .i64 0, .slice none 0 0]) (by simp [results, Tryz.results40, go_sem, s0, s1, s2]) rfl ?_
      refine ⟨blankGp, _, _, rfl, OwnRw.nil_, HBAD.out, ?_, ?_⟩
      · exact ((HR7.out.wrote (wset _ w.heap.size 0 _) (fun g e => by subst e; exact hbl)).wrote (wset _ w.heap.size 1 _) (fun g e => by subst e; exact hbl)).wrote (wset _ w.heap.size 2 _) (fun g e => by subst e; exact hbl)
      · exact ((HW7.out.trans (wset _ w.heap.size 0 _) (fun i hi e => by omega)).trans (wset _ w.heap.size 1 _) (fun i hi e => by omega)).trans (wset _ w.heap.size 2 _) (fun i hi e => by omega)
    · go_enter Tryz.func40, Tryz.ntmps40
      go_wp2_with fail
      rw [← HW1.out]
      refine (rplain_any W0 b r _ H1.out).mono ?_
      rintro e w2 ⟨rfl, hr2, hw2⟩
      rw [HP.out] at hr2 ⊢
      dsimp only at hr2 ⊢
      have R2 := Lib.hid hr2
      have X2 := Lib.hid ((Wrote.of_below (S := fun i => i = b) HB1.out).trans hw2 (fun _ _ e => e))
      have Q2 := Lib.hid ((hw2.block w.heap.size HSZ.out hbR).trans HQ.out)
      clear hr2 hw2
      go_wp2_with fail
      refine (CutPre_any L _ (by have := HLL.out; omega)).mono ?_
      rintro e w3 ⟨rfl, rfl⟩
      rw [HPB.out]
      go_wp2_with fail
      refine (CutSuf_any (preC L) _ (by have := HPL.out; omega)).mono ?_
      rintro e w4 ⟨rfl, rfl⟩
      rw [HSB.out]
      go_wp2_with fail
      refine (CutPlus_any (sufC (preC L)) HSL.out _ R2.out.now.lib).mono ?_
      rintro e w4 ⟨rfl, b4⟩
      rw [HC.out]
      dsimp only
      have R4 := Lib.hid (R2.out.keep b4)
      have X4 := Lib.hid (X2.out.trans (Wrote.of_below (S := fun i => i = b) b4) (fun _ _ e => e))
      have Q4 := Lib.hid ((b4.block w.heap.size (Array.getElem?_eq_some_iff.1 Q2.out).1).trans Q2.out)
      clear b4
      go_wp2_with fail
      refine (ReadCount_any (bs f) (by rw [bs_size]; have := HFL.out; omega) _ R4.out.now.lib).mono ?_
      rintro e w5 ⟨rfl, b5⟩
      rw [HBF.out, HD1.out]
      have R5 := Lib.hid (R4.out.keep b5)
      have X5 := Lib.hid (X4.out.trans (Wrote.of_below (S := fun i => i = b) b5) (fun _ _ e => e))
      have Q5 := Lib.hid ((b5.block w.heap.size (Array.getElem?_eq_some_iff.1 Q4.out).1).trans Q4.out)
      clear b5
      go_wp2_with fail
      refine (ReadCount_any (bs s) (by rw [bs_size]; have := HFL.out; omega) _ R5.out.now.lib).mono ?_
      rintro e w6 ⟨rfl, b6⟩
      rw [HBS.out, HD2.out]
      have R6 := Lib.hid (R5.out.keep b6)
      have X6 := Lib.hid (X5.out.trans (Wrote.of_below (S := fun i => i = b) b6) (fun _ _ e => e))
      have Q6 := Lib.hid ((b6.block w.heap.size (Array.getElem?_eq_some_iff.1 Q5.out).1).trans Q5.out)
      have Z6 := Lib.hid (show w.heap.size < w6.heap.size from (Array.getElem?_eq_some_iff.1 Q6.out).1)
      clear b6
      go_wp2_with fail
      refine (rfail_any W0 b r1 _ R6.out).mono ?_
      rintro e w7 ⟨rfl, hr7, hw7⟩
      have HQ7 := Lib.hid ((hw7.block w.heap.size Z6.out hbR).trans Q6.out)
      have HW7 := Lib.hid (X6.out.trans hw7 (fun _ _ e => e))
      have HR7 := Lib.hid hr7
      have s0 : w7.cell? ⟨w.heap.size, 0, none⟩ = some (.int .i64 0) := by simp [World.cell?, HQ7.out]
      have s1 : w7.cell? ⟨w.heap.size, 1, none⟩ = some (.int .i64 0) := by simp [World.cell?, HQ7.out]
      have s2 : w7.cell? ⟨w.heap.size, 2, none⟩ = some (.slice none 0 0) := by simp [World.cell?, HQ7.out]
      have sf : ∀ j, w7.frozen? ⟨w.heap.size, j, none⟩ = false := fun j => by simp [World.frozen?, HQ7.out]
      clear hr7 hw7
      go_wp2
      (try simp only [Exit.inBlock, Exit.then])
      refine bodyPost_ret (v := .agg #[.int .i64 0, .int .i64 0, .slice none 0 0]) (by simp [results, Tryz.results40, go_sem, s0, s1, s2]) rfl ?_
      refine ⟨blankGp, _, _, rfl, OwnRw.nil_, HBAD.out, ?_, ?_⟩
      · exact ((HR7.out.wrote (wset _ w.heap.size 0 _) (fun g e => by subst e; exact hbl)).wrote (wset _ w.heap.size 1 _) (fun g e => by subst e; exact hbl)).wrote (wset _ w.heap.size 2 _) (fun g e => by subst e; exact hbl)
      · exact ((HW7.out.trans (wset _ w.heap.size 0 _) (fun i hi e => by omega)).trans (wset _ w.heap.size 1 _) (fun i hi e => by omega)).trans (wset _ w.heap.size 2 _) (fun i hi e => by omega)
    · go_enter Tryz.func40, Tryz.ntmps40
      go_wp2_with fail
      rw [← HW1.out]
      refine (rplain_any W0 b r _ H1.out).mono ?_
      rintro e w2 ⟨rfl, hr2, hw2⟩
      rw [HP.out] at hr2 ⊢
      dsimp only at hr2 ⊢
      have R2 := Lib.hid hr2
      have X2 := Lib.hid ((Wrote.of_below (S := fun i => i = b) HB1.out).trans hw2 (fun _ _ e => e))
      have Q2 := Lib.hid ((hw2.block w.heap.size HSZ.out hbR).trans HQ.out)
      clear hr2 hw2
      go_wp2_with fail
      refine (CutPre_any L _ (by have := HLL.out; omega)).mono ?_
      rintro e w3 ⟨rfl, rfl⟩
      rw [HPB.out]
      go_wp2_with fail
      refine (CutSuf_any (preC L) _ (by have := HPL.out; omega)).mono ?_
      rintro e w4 ⟨rfl, rfl⟩
      rw [HSB.out]
      go_wp2_with fail
      refine (CutPlus_any (sufC (preC L)) HSL.out _ R2.out.now.lib).mono ?_
      rintro e w4 ⟨rfl, b4⟩
      rw [HC.out]
      dsimp only
      have R4 := Lib.hid (R2.out.keep b4)
      have X4 := Lib.hid (X2.out.trans (Wrote.of_below (S := fun i => i = b) b4) (fun _ _ e => e))
      have Q4 := Lib.hid ((b4.block w.heap.size (Array.getElem?_eq_some_iff.1 Q2.out).1).trans Q2.out)
      clear b4
      go_wp2_with fail
      refine (ReadCount_any (bs f) (by rw [bs_size]; have := HFL.out; omega) _ R4.out.now.lib).mono ?_
      rintro e w5 ⟨rfl, b5⟩
      rw [HBF.out, HD1.out]
      have R5 := Lib.hid (R4.out.keep b5)
      have X5 := Lib.hid (X4.out.trans (Wrote.of_below (S := fun i => i = b) b5) (fun _ _ e => e))
      have Q5 := Lib.hid ((b5.block w.heap.size (Array.getElem?_eq_some_iff.1 Q4.out).1).trans Q4.out)
      clear b5
      go_wp2_with fail
      refine (ReadCount_any (bs s) (by rw [bs_size]; have := HFL.out; omega) _ R5.out.now.lib).mono ?_
      rintro e w6 ⟨rfl, b6⟩
      rw [HBS.out, HD2.out]
      have R6 := Lib.hid (R5.out.keep b6)
      have X6 := Lib.hid (X5.out.trans (Wrote.of_below (S := fun i => i = b) b6) (fun _ _ e => e))
      have Q6 := Lib.hid ((b6.block w.heap.size (Array.getElem?_eq_some_iff.1 Q5.out).1).trans Q5.out)
      have Z6 := Lib.hid (show w.heap.size < w6.heap.size from (Array.getElem?_eq_some_iff.1 Q6.out).1)
      clear b6
      go_wp2_with fail
      refine (rfail_any W0 b r1 _ R6.out).mono ?_
      rintro e w7 ⟨rfl, hr7, hw7⟩
      have HQ7 := Lib.hid ((hw7.block w.heap.size Z6.out hbR).trans Q6.out)
      have HW7 := Lib.hid (X6.out.trans hw7 (fun _ _ e => e))
      have HR7 := Lib.hid hr7
      have s0 : w7.cell? ⟨w.heap.size, 0, none⟩ = some (.int .i64 0) := by simp [World.cell?, HQ7.out]
      have s1 : w7.cell? ⟨w.heap.size, 1, none⟩ = some (.int .i64 0) := by simp [World.cell?, HQ7.out]
      have s2 : w7.cell? ⟨w.heap.size, 2, none⟩ = some (.slice none 0 0) := by simp [World.cell?, HQ7.out]
      have sf : ∀ j, w7.frozen? ⟨w.heap.size, j, none⟩ = false := fun j => by simp [World.frozen?, HQ7.out]
      clear hr7 hw7
      go_wp2
      (try simp only [Exit.inBlock, Exit.then])
      refine bodyPost_ret (v := .agg #[.int .i64 0, .int .i64 0, .slice none 0 0]) (by simp [results, Tryz.results40, go_sem, s0, s1, s2]) rfl ?_
      refine ⟨blankGp, _, _, rfl, OwnRw.nil_, HBAD.out, ?_, ?_⟩
      · exact ((HR7.out.wrote (wset _ w.heap.size 0 _) (fun g e => by subst e; exact hbl)).wrote (wset _ w.heap.size 1 _) (fun g e => by subst e; exact hbl)).wrote (wset _ w.heap.size 2 _) (fun g e => by subst e; exact hbl)
      · exact ((HW7.out.trans (wset _ w.heap.size 0 _) (fun i hi e => by omega)).trans (wset _ w.heap.size 1 _) (fun i hi e => by omega)).trans (wset _ w.heap.size 2 _) (fun i hi e => by omega)

end Go.Proofs.YtkamenidgkjodaaGreatDoor
