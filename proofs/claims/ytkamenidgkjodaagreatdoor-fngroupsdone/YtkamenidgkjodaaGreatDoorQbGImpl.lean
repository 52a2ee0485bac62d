/-
  GroupsOf, the program's.
-/
import Derived.Test.YtkamenidgkjodaaGreatDoorQbGSpans
import Derived.Test.YtkamenidgkjodaaGreatDoorQbGRowsN
import Derived.Test.YtkamenidgkjodaaGreatDoorQbHPlace
set_option linter.unusedSimpArgs false
set_option linter.unusedVariables false
namespace Go.Proofs.YtkamenidgkjodaaGreatDoor
open Go.RowKit Go.ChangeShapes Go.WideShapes M

def cutH (a : Option Addr) (c lo : Nat) : Option Addr := if c = lo then a else a.map (·.add (lo * 3))
theorem cut_lo_hks (a : Option Addr) (n c lo : Nat) (h1 : lo ≤ n) (h2 : n ≤ c) (w : World) :
    (Instr.slice 34 (.slice a n c) (some (.int .i64 (lo : Int))) none none).run Tryz.prog w = .ok (.slice (cutH a c lo) (n - lo) (c - lo)) w := by
  obtain ⟨i, h3, h4, h5, h6⟩ := info_parts hk_info
  have he : Tryz.prog.elem 34 = 95 := by simp [Program.elem, Tryz.underlying34]
  have := run_slice_l (P := Tryz.prog) w 34 a n c (by rw [he]; exact Tryz.underlying34) .i64 lo (by omega) (by omega)
  rw [this, he]
  simp [sizeOf, typeInfo, h3, h5, sliced, cutH]
theorem cut_lh_hks (a : Option Addr) (n c lo hi : Nat) (h1 : lo ≤ hi) (h2 : hi ≤ c) (w : World) :
    (Instr.slice 34 (.slice a n c) (some (.int .i64 (lo : Int))) (some (.int .i64 (hi : Int))) none).run Tryz.prog w = .ok (.slice (cutH a c lo) (hi - lo) (c - lo)) w := by
  obtain ⟨i, h3, h4, h5, h6⟩ := info_parts hk_info
  have he : Tryz.prog.elem 34 = 95 := by simp [Program.elem, Tryz.underlying34]
  have := run_slice_lh (P := Tryz.prog) w 34 a n c (by rw [he]; exact Tryz.underlying34) .i64 .i64 lo hi (by omega) (by omega) (by omega)
  rw [this, he]
  simp [sizeOf, typeInfo, h3, h5, sliced, cutH]
theorem cut_hi_hks (a : Option Addr) (n c hi : Nat) (h2 : hi ≤ c) (w : World) :
    (Instr.slice 34 (.slice a n c) none (some (.int .i64 (hi : Int))) none).run Tryz.prog w = .ok (.slice a hi c) w := by
  obtain ⟨i, h3, h4, h5, h6⟩ := info_parts hk_info
  have he : Tryz.prog.elem 34 = 95 := by simp [Program.elem, Tryz.underlying34]
  have := run_slice_h (P := Tryz.prog) w 34 a n c (by rw [he]; exact Tryz.underlying34) .i64 hi (by omega) (by omega)
  rw [this, he]
  have h0 := cutA_zero a c
  unfold cutA at h0
  simp [sizeOf, typeInfo, h3, h5, sliced, h0]
theorem cut_hi_strsG (a : Option Addr) (n c hi : Nat) (h2 : hi ≤ c) (w : World) :
    (Instr.slice 33 (.slice a n c) none (some (.int .i64 (hi : Int))) none).run Tryz.prog w = .ok (.slice a hi c) w := by
  obtain ⟨i, h3, h4, h5, h6⟩ := info_parts str_info
  exact run_cut_hi Tryz.underlying33 h3 h5 a n c hi h2 w
theorem Hks.cutG {w : World} {a : Option Addr} {n c lo hi : Nat} {l : List Hk} (h : Hks w a n l) (h1 : lo ≤ hi) (h2 : hi ≤ n) (h3 : n ≤ c) : Hks w (cutH a c lo) (hi - lo) ((l.drop lo).take (hi - lo)) := by
  refine ⟨by simp [h.len]; omega, by have := h.lim; omega, fun k s hs => ?_⟩
  rw [List.getElem?_take] at hs
  split at hs
  case isFalse => cases hs
  case isTrue hk =>
    rw [List.getElem?_drop] at hs
    obtain ⟨b, off, A, m, c', rfl, r0, r1, r2, r3⟩ := h.cell _ _ hs
    refine ⟨b, off + lo * 3, A, m, c', ?_, by rw [← r0]; congr 2; omega, by rw [← r1]; congr 2; omega, by rw [← r2]; congr 2; omega, r3⟩
    unfold cutH
    rw [if_neg (by omega)]
    unfold Addr.add
    by_cases h0 : lo * 3 = 0 <;> simp [h0]
theorem Hks.takeG {w : World} {a : Option Addr} {n k : Nat} {l : List Hk} (h : Hks w a n l) (hk : k ≤ n) : Hks w a k (l.take k) :=
  ⟨by simp [h.len]; omega, by have := h.lim; omega, fun j x hx => h.cell j x (by rw [List.getElem?_take] at hx; split at hx; exact hx; cases hx)⟩
theorem patch_two (l : List ByteArray) (hs : List Hk) : (patchOf l hs).2 = patchOk l hs := by
  unfold patchOf; split
  · rename_i h; rw [h]
  · rename_i h; simpa using h

set_option maxHeartbeats 4000000 in
set_option maxRecDepth 100000 in
theorem implGroupsOf_any (a : Option Addr) (nl cl : Nat) (l : List ByteArray) (b0 : Option Addr) (n c : Nat) (hs : List Hk) (Wi : Int) (w : World) (hl : Strs w a nl l) (hcl : nl ≤ cl) (hh : Hks w b0 n hs) (hc : n ≤ c) (hnl : nl ≤ 1048576) :
    Calls Tryz.prog 54 #[.slice a nl cl, .slice b0 n c, .int .i64 Wi] w fun e w' => ∃ v vs, e = .returned (.tuple #[v, .bool (groupsOf l hs Wi).2]) ∧ OwnGp w' w.heap.size v (groupsOf l hs Wi).1 vs ∧ Below w.heap.size w w' := by
  have HL := Lib.hid hl.len
  have HN := Lib.hid hh.len
  have HPO := Lib.hid (patch_two l hs)
  cases hq : patchOk l hs
  · have hf := Lib.hid (show groupsOf l hs Wi = ([], false) from if_neg (by simp [hq]))
    have HQ := Lib.hid hq
    clear hq
    go_enter Tryz.func54, Tryz.ntmps54
    go_wp2_with fail
    refine (implPatch_any a nl cl l b0 n c hs _ hl hcl hh hnl).mono ?_
    rintro e w1 ⟨v, rfl, o1, b1⟩
    rw [HPO.out, HQ.out]
    go_wp2
    go_ret2
    exact ⟨_, [], by rw [hf.out]; rfl, by rw [hf.out]; exact OwnGp.nil_, b1⟩
  have HQ := Lib.hid hq
  by_cases h0 : 0 ≤ Wi
  case neg =>
    have hf := Lib.hid (show groupsOf l hs Wi = ([], false) from if_neg (fun h => h0 h.2.1))
    have hd : decide (Wi < 0) = true := by simp; omega
    clear hq h0
    go_enter Tryz.func54, Tryz.ntmps54
    go_wp2_with fail
    refine (implPatch_any a nl cl l b0 n c hs _ hl hcl hh hnl).mono ?_
    rintro e w1 ⟨v, rfl, o1, b1⟩
    rw [HPO.out, HQ.out]
    go_wp2
    go_ret2
    exact ⟨_, [], by rw [hf.out]; rfl, by rw [hf.out]; exact OwnGp.nil_, b1⟩
  by_cases h20 : Wi ≤ 20
  case neg =>
    have hf := Lib.hid (show groupsOf l hs Wi = ([], false) from if_neg (fun h => h20 h.2.2))
    have hd : decide (Wi < 0) = false := by simp; omega
    have hd2 : decide (20 < Wi) = true := by simp; omega
    clear hq h0 h20
    go_enter Tryz.func54, Tryz.ntmps54
    go_wp2_with fail
    refine (implPatch_any a nl cl l b0 n c hs _ hl hcl hh hnl).mono ?_
    rintro e w1 ⟨v, rfl, o1, b1⟩
    rw [HPO.out, HQ.out]
    go_wp2
    go_ret2
    exact ⟨_, [], by rw [hf.out]; rfl, by rw [hf.out]; exact OwnGp.nil_, b1⟩
  obtain ⟨W, rfl⟩ := Int.eq_ofNat_of_zero_le h0
  have hW : W ≤ 20 := by omega
  have hf := Lib.hid (show groupsOf l hs (W : Int) = (groupsF l W hs.length 0 hs, true) from if_pos ⟨hq, h0, h20⟩)
  have hd : decide ((W : Int) < 0) = false := by simp
  have hd2 : decide (20 < (W : Int)) = false := by simp; omega
  have hd3 : decide (20 < W) = false := by simp; omega
  simp only [patchOk, Bool.and_eq_true] at hq
  have HG := Lib.hid hq.1.2
  have hn20 : n ≤ 20 := by rw [← HN.out]; exact (goodH_parts hq.1.2).2.2.1
  have hnl40 : nl ≤ 40 := by have := (goodH_parts hq.1.2).2.1; have := HL.out; omega
  have HMB := Lib.hid (show ∀ y ∈ hs, 0 ≤ y.at_ ∧ y.at_ ≤ 40 ∧ 0 ≤ y.gone ∧ y.gone ≤ 40 ∧ y.new.length ≤ 40 from fun y hy => by have := goodH_mem hq.1.2 hy; omega)
  clear hq h0 h20
  go_enter Tryz.func54, Tryz.ntmps54
  go_wp2_with fail
  refine (implPatch_any a nl cl l b0 n c hs _ hl hcl hh hnl).mono ?_
  rintro e w1 ⟨v, rfl, o1, b1⟩
  rw [HPO.out, HQ.out]
  clear o1
  go_wp2
  go_loopw [10, 11] (fun lv i w' => ∃ (v : Value) (vs : List (List D)) (out : List Gp), ∃ i' f : Nat, v = lv ∧ i = .int .i64 (i' : Int) ∧ i' ≤ n ∧ OwnGp w' w.heap.size v out vs ∧ Hid (out.length ≤ i') ∧ Hid (GapAt hs W i') ∧ n - i' ≤ f ∧ Hid (out ++ groupsF l W f (moreH (hs.take i')) (hs.drop i') = groupsF l W hs.length 0 hs) ∧ Below w.heap.size w w') (fun _ i _ => n - (intOf i).toNat)
  case atStart => exact ⟨_, [], [], 0, n, rfl, rfl, by omega, OwnGp.nil_, Nat.le_refl _, .inl rfl, by omega, by rw [HN.out]; rfl, b1⟩
  case round =>
    obtain ⟨v, vs, out, i, f, rfl, rfl, hi, ho, HO, HGAP, hfu, HP, hb⟩ := hrel
    by_cases hlt : i < n
    · obtain ⟨b, off, A, m, c', x, rfl, hx, c0, c1, c2, hst, hmc, i0, i1⟩ := hh.at_ hlt
      obtain ⟨k, f', y, hk, hfu2, hk1, hkn, hgap2, hy, hG⟩ := group_step (l := l) (W := W) (f := f) hx (by rw [HN.out]; exact hfu)
      rw [HN.out] at hfu2 hkn
      obtain ⟨gr1, gr2, gr3, gr4⟩ := group_rest (W := W) HG.out (show ((l.length : Nat) : Int) = ((nl : Nat) : Int) by rw [HL.out]) hx hk1 hy
      have hpl := placeG (W := W) HG.out HGAP.out hx
      have hxb := HMB.out x (List.mem_of_getElem? hx)
      have hyb := HMB.out y (List.mem_of_getElem? hy)
      obtain ⟨b', off', A', m', c2', y', hbo, hy', y0, y1, y2, _, _, _, _⟩ := hh.at_ (show i + k - 1 < n by omega)
      injection hbo with hbo
      injection hbo with hbo1 hbo2
      subst hbo1 hbo2
      rw [hy] at hy'
      injection hy' with hy'
      subst hy'
      obtain ⟨F, HF⟩ : ∃ F, Hid (fromN W x = F) := ⟨_, rfl⟩
      obtain ⟨E, HE⟩ : ∃ E, Hid (endN nl W y = E) := ⟨_, rfl⟩
      obtain ⟨M0, HM0⟩ : ∃ M0, Hid (moreH (hs.take i) = M0) := ⟨_, rfl⟩
      obtain ⟨nx, HNX⟩ : ∃ nx, Hid (i + k = nx) := ⟨_, rfl⟩
      have hmb := moreH_bound (hs := hs.take i) (fun z hz => by have := HMB.out z (List.mem_of_mem_take hz); omega)
      rw [List.length_take] at hmb
      have hM0 : -800 ≤ M0 ∧ M0 ≤ 800 := by rw [HM0.out] at hmb; omega
      have HXF := Lib.hid (show (F : Int) = if x.at_ - (W : Int) < 0 then 0 else x.at_ - (W : Int) by rw [← HF.out]; unfold fromN; split <;> omega)
      have HYE := Lib.hid (show (E : Int) = if y.at_ + y.gone + (W : Int) < (nl : Int) then y.at_ + y.gone + (W : Int) else (nl : Int) by rw [← HE.out]; unfold endN; split <;> omega)
      rw [HF.out, HE.out] at gr2
      rw [HE.out] at gr1 gr4
      rw [HF.out, HE.out] at gr3
      rw [HL.out, HF.out, HM0.out] at hpl
      rw [HL.out, HE.out, HF.out, HM0.out, HNX.out] at hG
      rw [HNX.out] at hfu2 hkn hgap2 y0 y1
      have hn1 : 1 ≤ nx := by have := HNX.out; omega
      have hin : i < nx := by have := HNX.out; omega
      have HDR := Lib.hid (drop_at hx)
      have HKK := Lib.hid hk
      have HG2 := Lib.hid hG
      have HGR1 := Lib.hid gr1
      have HGR2 := Lib.hid gr2
      have HGP := Lib.hid hgap2
      have HPL := Lib.hid hpl
      have HST := Lib.hid hh
      have HLL := Lib.hid hl
      obtain ⟨xa0, xa1, xg0, xg1, xn⟩ := hxb
      obtain ⟨ya0, ya1, yg0, yg1, yn⟩ := hyb
      obtain ⟨hM0, hM1⟩ := hM0
      obtain ⟨xa, xg, xnew⟩ := x
      obtain ⟨ya, yg, ynew⟩ := y
      dsimp only at *
      have k0 := cell_keep hb c0
      have z0 := cell_keep hb y0
      have z1 := cell_keep hb y1
      have hcut1 := cut_lo_hks (some ⟨b, off, none⟩) n c i (by omega) hc
      have hcut2 := cut_hi_hks (some ⟨b, off, none⟩) n c i (by omega)
      have hcut3 := cut_lh_hks (some ⟨b, off, none⟩) n c i nx (by omega) (by omega)
      have hcut4 := cut_hi_strsG a nl cl E (by omega)
      have s1 : IntKind.i64.wrap (xa - (W : Int)) = xa - (W : Int) := by rw [IntKind.wrap_i64]; omega
      clear hx hy hk hG gr1 gr2 hgap2 hpl y0 y1 y2 c0 c1 c2 hst hmb
      go_wp2_with fail
      refine (howManyNear_any (cutH (some ⟨b, off, none⟩) c i) (n - i) (c - i) ⟨xa, xg, xnew⟩ (hs.drop (i + 1)) W _ (by
        have h5 := (HST.out.below hb).cutG (lo := i) (hi := n) (by omega) (Nat.le_refl _) hc
        rw [List.take_of_length_le (by rw [List.length_drop, HN.out]; exact Nat.le_refl _), HDR.out] at h5
        exact h5) (fun z hz => by have := HMB.out z (by rw [← HDR.out] at hz; exact List.mem_of_mem_drop hz); omega) hW (by omega)).mono ?_
      rintro e w2 ⟨rfl, b2⟩
      rw [← HKK.out]
      have hwk : IntKind.i64.wrap ((i : Int) + (k : Int)) = (nx : Int) := by have h := HNX.out; rw [IntKind.wrap_i64]; omega
      have B2 := Lib.hid (hb.next b2)
      have ho2 := ho.below b2
      have k0' := cell_keep b2 k0
      have hmx : (if xa - (W : Int) < 0 then (0 : Int) else xa - (W : Int)) = (F : Int) := HXF.out.symm
      clear k0 ho
      go_wp2_with fail
      refine (implPlaceOf_any (some ⟨b, off, none⟩) i c (hs.take i) (nl : Int) (F : Int) w2 ((HST.out.below B2.out).takeG (by omega)) ⟨by omega, by omega⟩).mono ?_
      rintro e w3 ⟨rfl, b3⟩
      rw [HPL.out]
      have B3 := Lib.hid (B2.out.next b3)
      have z0' := cell_keep b3 (cell_keep b2 z0)
      have z1' := cell_keep b3 (cell_keep b2 z1)
      have ho3 := ho2.below b3
      clear k0' hmx b2 b3 z0 z1 ho2 hcut1 hcut2
      have s2 : IntKind.i64.wrap ((nx : Int) - 1) = (nx : Int) - 1 := by rw [IntKind.wrap_i64]; omega
      have s3 : IntKind.i64.wrap (ya + yg) = ya + yg := by rw [IntKind.wrap_i64]; omega
      have s4 : IntKind.i64.wrap (ya + yg + (W : Int)) = ya + yg + (W : Int) := by rw [IntKind.wrap_i64]; omega
      have j0 : (0 : Int) ≤ (nx : Int) - 1 := by omega
      have j0' : (1 : Int) ≤ (nx : Int) := by omega
      have j1 : (nx : Int) - 1 < (n : Int) := by omega
      have jt : ((nx : Int) - 1).toNat = nx - 1 := by omega
      go_wp2
      have hmn1 : (if (nl : Int) < ya + yg + (W : Int) then (nl : Int) else ya + yg + (W : Int)) = (E : Int) := by rw [HYE.out]; split <;> split <;> omega
      have hmn2 : (if ya + yg + (W : Int) < (nl : Int) then ya + yg + (W : Int) else (nl : Int)) = (E : Int) := HYE.out.symm
      refine wp_region_held_drew (S := fun w' => w'.cell? ⟨b, off + (nx - 1) * 3, none⟩ = some (.int .i64 ya) ∧ w'.cell? ⟨b, off + (nx - 1) * 3 + 1, none⟩ = some (.int .i64 yg)) (by kernel_rfl) ?_ (fun hHeld => ?_)
      · exact ⟨z0', z1'⟩
      refine wpAnyH_take (i := 0) (v := ?_) (by simp only [List.getElem?_toArray, List.getElem?_cons_succ, List.getElem?_cons_zero]; rfl) (by kernel_rfl) (by kernel_rfl) (by kernel_rfl) (by exact fun _ _ _ h => h) (Or.inl ⟨by rfl, ?_⟩) hHeld ?_
      rotate_left 1
      · (intro w hSw; (try dsimp only at hSw); go_simp; (try with_reducible rfl))
      (try simp only [Act.put, List.setIfInBounds_toArray, List.set_cons_zero, List.set_cons_succ])
      refine wpAnyH_take (i := 1) (v := ?_) (by simp only [List.getElem?_toArray, List.getElem?_cons_succ, List.getElem?_cons_zero]; rfl) (by kernel_rfl) (by kernel_rfl) (by kernel_rfl) (by exact fun _ _ _ h => h) (Or.inl ⟨by rfl, ?_⟩) hHeld ?_
      rotate_left 1
      · (intro w hSw; (try dsimp only at hSw); go_simp; (try with_reducible rfl))
      (try simp only [Act.put, List.setIfInBounds_toArray, List.set_cons_zero, List.set_cons_succ])
      refine wpAnyH_take (i := 2) (v := ?_) (by simp only [List.getElem?_toArray, List.getElem?_cons_succ, List.getElem?_cons_zero]; rfl) (by kernel_rfl) (by kernel_rfl) (by kernel_rfl) (by exact fun _ _ _ h => h) (Or.inl ⟨by rfl, ?_⟩) hHeld ?_
      rotate_left 1
      · (intro w hSw; (try dsimp only at hSw); go_simp; (try with_reducible rfl))
      (try simp only [Act.put, List.setIfInBounds_toArray, List.set_cons_zero, List.set_cons_succ])
      refine wpAnyH_take (i := 3) (v := ?_) (by simp only [List.getElem?_toArray, List.getElem?_cons_succ, List.getElem?_cons_zero]; rfl) (by kernel_rfl) (by kernel_rfl) (by kernel_rfl) (by exact fun _ _ _ h => h) (Or.inl ⟨by rfl, ?_⟩) hHeld ?_
      rotate_left 1
      · (intro w hSw; (try dsimp only at hSw); go_simp; (try with_reducible rfl))
      (try simp only [Act.put, List.setIfInBounds_toArray, List.set_cons_zero, List.set_cons_succ])
      refine wpAnyH_take (i := 4) (v := ?_) (by simp only [List.getElem?_toArray, List.getElem?_cons_succ, List.getElem?_cons_zero]; rfl) (by kernel_rfl) (by kernel_rfl) (by kernel_rfl) (by exact fun _ _ _ h => h) (Or.inl ⟨by rfl, ?_⟩) hHeld ?_
      rotate_left 1
      · (intro w hSw; (try dsimp only at hSw); go_simp; (try with_reducible rfl))
      (try simp only [Act.put, List.setIfInBounds_toArray, List.set_cons_zero, List.set_cons_succ])
      refine wpAnyH_take (i := 5) (v := ?_) (by simp only [List.getElem?_toArray, List.getElem?_cons_succ, List.getElem?_cons_zero]; rfl) (by kernel_rfl) (by kernel_rfl) (by kernel_rfl) (by exact fun _ _ _ h => h) (Or.inl ⟨by rfl, ?_⟩) hHeld ?_
      rotate_left 1
      · (intro w hSw; (try dsimp only at hSw); go_simp; (try with_reducible rfl))
      (try simp only [Act.put, List.setIfInBounds_toArray, List.set_cons_zero, List.set_cons_succ])
      refine wpAnyH_take (i := 6) (v := ?_) (by simp only [List.getElem?_toArray, List.getElem?_cons_succ, List.getElem?_cons_zero]; rfl) (by kernel_rfl) (by kernel_rfl) (by kernel_rfl) (by exact fun _ _ _ h => h) (Or.inl ⟨by rfl, ?_⟩) hHeld ?_
      rotate_left 1
      · (intro w hSw; (try dsimp only at hSw); go_simp; (try with_reducible rfl))
      (try simp only [Act.put, List.setIfInBounds_toArray, List.set_cons_zero, List.set_cons_succ])
      refine wpAnyH_take (i := 7) (v := ?_) (by simp only [List.getElem?_toArray, List.getElem?_cons_succ, List.getElem?_cons_zero]; rfl) (by kernel_rfl) (by kernel_rfl) (by kernel_rfl) (by exact fun _ _ _ h => h) (Or.inl ⟨by rfl, ?_⟩) hHeld ?_
      rotate_left 1
      · (intro w hSw; (try dsimp only at hSw); go_simp; (try with_reducible rfl))
      (try simp only [Act.put, List.setIfInBounds_toArray, List.set_cons_zero, List.set_cons_succ])
      refine wpAnyH_take (i := 8) (v := ?_) (by simp only [List.getElem?_toArray, List.getElem?_cons_succ, List.getElem?_cons_zero]; rfl) (by kernel_rfl) (by kernel_rfl) (by kernel_rfl) (by exact fun _ _ _ h => h) (Or.inl ⟨by rfl, ?_⟩) hHeld ?_
      rotate_left 1
      · (intro w hSw; (try dsimp only at hSw); go_simp; (try with_reducible rfl))
      (try simp only [Act.put, List.setIfInBounds_toArray, List.set_cons_zero, List.set_cons_succ])
      refine wpAnyH_take (i := 9) (v := ?_) (by simp only [List.getElem?_toArray, List.getElem?_cons_succ, List.getElem?_cons_zero]; rfl) (by kernel_rfl) (by kernel_rfl) (by kernel_rfl) (by exact fun _ _ _ h => h) (Or.inl ⟨by rfl, ?_⟩) hHeld ?_
      rotate_left 1
      · (intro w hSw; (try dsimp only at hSw); go_simp; (try with_reducible rfl))
      (try simp only [Act.put, List.setIfInBounds_toArray, List.set_cons_zero, List.set_cons_succ])
      refine wpAnyH_take (i := 10) (v := ?_) (by simp only [List.getElem?_toArray, List.getElem?_cons_succ, List.getElem?_cons_zero]; rfl) (by kernel_rfl) (by kernel_rfl) (by kernel_rfl) (by exact fun _ _ _ h => h) (Or.inl ⟨by rfl, ?_⟩) hHeld ?_
      rotate_left 1
      · (intro w hSw; (try dsimp only at hSw); go_simp; (try with_reducible rfl))
      (try simp only [Act.put, List.setIfInBounds_toArray, List.set_cons_zero, List.set_cons_succ])
      refine wpAnyH_take (i := 11) (v := ?_) (by simp only [List.getElem?_toArray, List.getElem?_cons_succ, List.getElem?_cons_zero]; rfl) (by kernel_rfl) (by kernel_rfl) (by kernel_rfl) (by exact fun _ _ _ h => h) (Or.inl ⟨by rfl, ?_⟩) hHeld ?_
      rotate_left 1
      · (intro w hSw; (try dsimp only at hSw); go_simp; (try with_reducible rfl))
      (try simp only [Act.put, List.setIfInBounds_toArray, List.set_cons_zero, List.set_cons_succ])
      refine wpAnyH_take (i := 12) (v := ?_) (by simp only [List.getElem?_toArray, List.getElem?_cons_succ, List.getElem?_cons_zero]; rfl) (by kernel_rfl) (by kernel_rfl) (by kernel_rfl) (by exact fun _ _ _ h => h) (Or.inl ⟨by rfl, ?_⟩) hHeld ?_
      rotate_left 1
      · (intro w hSw; (try dsimp only at hSw); go_simp; (try with_reducible rfl))
      (try simp only [Act.put, List.setIfInBounds_toArray, List.set_cons_zero, List.set_cons_succ])
      refine wpAnyH_take (i := 13) (v := ?_) (by simp only [List.getElem?_toArray, List.getElem?_cons_succ, List.getElem?_cons_zero]; rfl) (by kernel_rfl) (by kernel_rfl) (by kernel_rfl) (by exact fun _ _ _ h => h) (Or.inl ⟨by rfl, ?_⟩) hHeld ?_
      rotate_left 1
      · (intro w hSw; (try dsimp only at hSw); go_simp; (try with_reducible rfl))
      (try simp only [Act.put, List.setIfInBounds_toArray, List.set_cons_zero, List.set_cons_succ])
      refine wpAnyH_take (i := 14) (v := ?_) (by simp only [List.getElem?_toArray, List.getElem?_cons_succ, List.getElem?_cons_zero]; rfl) (by kernel_rfl) (by kernel_rfl) (by kernel_rfl) (by exact fun _ _ _ h => h) (Or.inl ⟨by rfl, ?_⟩) hHeld ?_
      rotate_left 1
      · (intro w hSw; (try dsimp only at hSw); go_simp; (try with_reducible rfl))
      (try simp only [Act.put, List.setIfInBounds_toArray, List.set_cons_zero, List.set_cons_succ])
      refine wpAnyH_take (i := 15) (v := ?_) (by simp only [List.getElem?_toArray, List.getElem?_cons_succ, List.getElem?_cons_zero]; rfl) (by kernel_rfl) (by kernel_rfl) (by kernel_rfl) (by exact fun _ _ _ h => h) (Or.inl ⟨by rfl, ?_⟩) hHeld ?_
      rotate_left 1
      · (intro w hSw; (try dsimp only at hSw); go_simp; (try with_reducible rfl))
      (try simp only [Act.put, List.setIfInBounds_toArray, List.set_cons_zero, List.set_cons_succ])
      refine wpAnyH_take (i := 16) (v := ?_) (by simp only [List.getElem?_toArray, List.getElem?_cons_succ, List.getElem?_cons_zero]; rfl) (by kernel_rfl) (by kernel_rfl) (by kernel_rfl) (by exact fun _ _ _ h => h) (Or.inl ⟨by rfl, ?_⟩) hHeld ?_
      rotate_left 1
      · (intro w hSw; (try dsimp only at hSw); go_simp; (try with_reducible rfl))
      (try simp only [Act.put, List.setIfInBounds_toArray, List.set_cons_zero, List.set_cons_succ])
      refine wpAnyH_take (i := 17) (v := ?_) (by simp only [List.getElem?_toArray, List.getElem?_cons_succ, List.getElem?_cons_zero]; rfl) (by kernel_rfl) (by kernel_rfl) (by kernel_rfl) (by exact fun _ _ _ h => h) (Or.inl ⟨by rfl, ?_⟩) hHeld ?_
      rotate_left 1
      · (intro w hSw; (try dsimp only at hSw); go_simp; (try with_reducible rfl))
      (try simp only [Act.put, List.setIfInBounds_toArray, List.set_cons_zero, List.set_cons_succ])
      refine wpAnyH_take (i := 18) (v := ?_) (by simp only [List.getElem?_toArray, List.getElem?_cons_succ, List.getElem?_cons_zero]; rfl) (by kernel_rfl) (by kernel_rfl) (by kernel_rfl) (by exact fun _ _ _ h => h) (Or.inl ⟨by rfl, ?_⟩) hHeld ?_
      rotate_left 1
      · (intro w hSw; (try dsimp only at hSw); go_simp; (try with_reducible rfl))
      (try simp only [Act.put, List.setIfInBounds_toArray, List.set_cons_zero, List.set_cons_succ])
      refine wpAnyH_done (by kernel_rfl) ?_ _
      have B4 := Lib.hid (B3.out.drew)
      have ho4 := ho3.below (Below.refl _ w3).drew
      obtain ⟨w4, HW4⟩ : ∃ w4, Hid (w4 = w3.drew) := ⟨_, rfl⟩
      rw [← HW4.out] at ho4 B4 ⊢
      clear hHeld z0' z1' hmn1 hmn2 ho3 s2 s3 s4 j0 j0' j1 jt
      go_wp2
      refine wp_region_held_drew (S := fun _ => True) (by kernel_rfl) ?_ (fun hHeld => ?_)
      · exact trivial
      refine wpAnyH_take (i := 0) (v := ?_) (by simp only [List.getElem?_toArray, List.getElem?_cons_succ, List.getElem?_cons_zero]; rfl) (by kernel_rfl) (by kernel_rfl) (by kernel_rfl) (by exact fun _ _ _ h => h) (Or.inl ⟨by rfl, ?_⟩) hHeld ?_
      rotate_left 1
      · (intro w hSw; (try dsimp only at hSw); go_simp; (try with_reducible rfl))
      (try simp only [Act.put, List.setIfInBounds_toArray, List.set_cons_zero, List.set_cons_succ])
      refine wpAnyH_take (i := 1) (v := ?_) (by simp only [List.getElem?_toArray, List.getElem?_cons_succ, List.getElem?_cons_zero]; rfl) (by kernel_rfl) (by kernel_rfl) (by kernel_rfl) (by exact fun _ _ _ h => h) (Or.inl ⟨by rfl, ?_⟩) hHeld ?_
      rotate_left 1
      · (intro w hSw; (try dsimp only at hSw); go_simp; (try with_reducible rfl))
      (try simp only [Act.put, List.setIfInBounds_toArray, List.set_cons_zero, List.set_cons_succ])
      refine wpAnyH_take (i := 2) (v := ?_) (by simp only [List.getElem?_toArray, List.getElem?_cons_succ, List.getElem?_cons_zero]; rfl) (by kernel_rfl) (by kernel_rfl) (by kernel_rfl) (by exact fun _ _ _ h => h) (Or.inl ⟨by rfl, ?_⟩) hHeld ?_
      rotate_left 1
      · (intro w hSw; (try dsimp only at hSw); go_simp; (try with_reducible rfl))
      (try simp only [Act.put, List.setIfInBounds_toArray, List.set_cons_zero, List.set_cons_succ])
      refine wpAnyH_take (i := 3) (v := ?_) (by simp only [List.getElem?_toArray, List.getElem?_cons_succ, List.getElem?_cons_zero]; rfl) (by kernel_rfl) (by kernel_rfl) (by kernel_rfl) (by exact fun _ _ _ h => h) (Or.inl ⟨by rfl, ?_⟩) hHeld ?_
      rotate_left 1
      · (intro w hSw; (try dsimp only at hSw); go_simp; (try with_reducible rfl))
      (try simp only [Act.put, List.setIfInBounds_toArray, List.set_cons_zero, List.set_cons_succ])
      refine wpAnyH_take (i := 4) (v := ?_) (by simp only [List.getElem?_toArray, List.getElem?_cons_succ, List.getElem?_cons_zero]; rfl) (by kernel_rfl) (by kernel_rfl) (by kernel_rfl) (by exact fun _ _ _ h => h) (Or.inl ⟨by rfl, ?_⟩) hHeld ?_
      rotate_left 1
      · (intro w hSw; (try dsimp only at hSw); go_simp; (try with_reducible rfl))
      (try simp only [Act.put, List.setIfInBounds_toArray, List.set_cons_zero, List.set_cons_succ])
      refine wpAnyH_take (i := 5) (v := ?_) (by simp only [List.getElem?_toArray, List.getElem?_cons_succ, List.getElem?_cons_zero]; rfl) (by kernel_rfl) (by kernel_rfl) (by kernel_rfl) (by exact fun _ _ _ h => h) (Or.inl ⟨by rfl, ?_⟩) hHeld ?_
      rotate_left 1
      · (intro w hSw; (try dsimp only at hSw); go_simp; (try with_reducible rfl))
      (try simp only [Act.put, List.setIfInBounds_toArray, List.set_cons_zero, List.set_cons_succ])
      refine wpAnyH_take (i := 6) (v := ?_) (by simp only [List.getElem?_toArray, List.getElem?_cons_succ, List.getElem?_cons_zero]; rfl) (by kernel_rfl) (by kernel_rfl) (by kernel_rfl) (by exact fun _ _ _ h => h) (Or.inl ⟨by rfl, ?_⟩) hHeld ?_
      rotate_left 1
      · (intro w hSw; (try dsimp only at hSw); go_simp; (try with_reducible rfl))
      (try simp only [Act.put, List.setIfInBounds_toArray, List.set_cons_zero, List.set_cons_succ])
      refine wpAnyH_take (i := 7) (v := ?_) (by simp only [List.getElem?_toArray, List.getElem?_cons_succ, List.getElem?_cons_zero]; rfl) (by kernel_rfl) (by kernel_rfl) (by kernel_rfl) (by exact fun _ _ _ h => h) (Or.inl ⟨by rfl, ?_⟩) hHeld ?_
      rotate_left 1
      · (intro w hSw; (try dsimp only at hSw); go_simp; (try with_reducible rfl))
      (try simp only [Act.put, List.setIfInBounds_toArray, List.set_cons_zero, List.set_cons_succ])
      refine wpAnyH_take (i := 8) (v := ?_) (by simp only [List.getElem?_toArray, List.getElem?_cons_succ, List.getElem?_cons_zero]; rfl) (by kernel_rfl) (by kernel_rfl) (by kernel_rfl) (by exact fun _ _ _ h => h) (Or.inl ⟨by rfl, ?_⟩) hHeld ?_
      rotate_left 1
      · (intro w hSw; (try dsimp only at hSw); go_simp; (try with_reducible rfl))
      (try simp only [Act.put, List.setIfInBounds_toArray, List.set_cons_zero, List.set_cons_succ])
      refine wpAnyH_take (i := 9) (v := ?_) (by simp only [List.getElem?_toArray, List.getElem?_cons_succ, List.getElem?_cons_zero]; rfl) (by kernel_rfl) (by kernel_rfl) (by kernel_rfl) (by exact fun _ _ _ h => h) (Or.inl ⟨by rfl, ?_⟩) hHeld ?_
      rotate_left 1
      · (intro w hSw; (try dsimp only at hSw); go_simp; (try with_reducible rfl))
      (try simp only [Act.put, List.setIfInBounds_toArray, List.set_cons_zero, List.set_cons_succ])
      refine wpAnyH_take (i := 10) (v := ?_) (by simp only [List.getElem?_toArray, List.getElem?_cons_succ, List.getElem?_cons_zero]; rfl) (by kernel_rfl) (by kernel_rfl) (by kernel_rfl) (by exact fun _ _ _ h => h) (Or.inl ⟨by rfl, ?_⟩) hHeld ?_
      rotate_left 1
      · (intro w hSw; (try dsimp only at hSw); go_simp; (try with_reducible rfl))
      (try simp only [Act.put, List.setIfInBounds_toArray, List.set_cons_zero, List.set_cons_succ])
      refine wpAnyH_ready (rs := [11]) (by kernel_rfl) (by simp) ?_
      refine AllReadyH.cons (by simp only [List.getElem?_toArray, List.getElem?_cons_succ, List.getElem?_cons_zero]; rfl) (fun K hK => ?_) AllReadyH.nil
      go_simp
      go_at_call 100
      refine (rowsOf_any a E cl (l.take E) (cutH (some ⟨b, off, none⟩) c i) (nx - i) (c - i) ((hs.drop i).take k) F w4.drew ((HLL.out.below B4.out.drew).take_ gr4) (by omega) (by
        have h5 := (HST.out.below B4.out.drew).cutG (lo := i) (hi := nx) (by omega) (by omega) hc
        rw [show nx - i = k by have := HNX.out; omega] at h5 ⊢
        exact h5) HGR2.out gr3 (by omega) (by omega)).mono ?_
      rintro e w5 ⟨u, rfl, o5, b5⟩
      obtain ⟨ul, HUL⟩ : ∃ ul, Hid ((rowsI (l.take E) F ((hs.drop i).take k)).length = ul) := ⟨_, rfl⟩
      obtain ⟨uA, uc, rfl, hu1, _⟩ := o5.form HUL.out
      have D5 := Lib.hid (show Below w4.heap.size w4 w5 from (Below.refl _ w4).drew.next b5)
      have o5' : OwnRw w5 w.heap.size (.slice uA ul uc) (rowsM l E F ((hs.drop i).take k)) := by
        have h5 := o5.more (show w.heap.size ≤ w4.drew.heap.size from B4.out.drew.size)
        rw [rows_eq HGR1.out] at h5
        exact h5
      have hfr : ∀ g, (Value.slice uA ul uc).ownBlock = some g → ¬ BlkR v vs g := fun g e e2 => by
        have h6 := (o5.lt e).1
        have h7 := (ho4.lt e2).2
        simp at h6
        omega
      clear b5
      refine hK.out _ _ ?_ (fun hHeld => ?_)
      · exact trivial
      clear hK K
      (try simp only [Act.put, List.setIfInBounds_toArray, List.set_cons_zero, List.set_cons_succ])
      refine wpAnyH_take (i := 12) (v := ?_) (by simp only [List.getElem?_toArray, List.getElem?_cons_succ, List.getElem?_cons_zero]; rfl) (by kernel_rfl) (by kernel_rfl) (by kernel_rfl) (by exact fun _ _ _ h => h) (Or.inl ⟨by rfl, ?_⟩) hHeld ?_
      rotate_left 1
      · (intro w hSw; (try dsimp only at hSw); go_simp; (try with_reducible rfl))
      (try simp only [Act.put, List.setIfInBounds_toArray, List.set_cons_zero, List.set_cons_succ])
      refine wpAnyH_ready (rs := [13]) (by kernel_rfl) (by simp) ?_
      refine AllReadyH.cons (by simp only [List.getElem?_toArray, List.getElem?_cons_succ, List.getElem?_cons_zero]; rfl) (fun K hK => ?_) AllReadyH.nil
      go_simp
      obtain ⟨w6, HW6⟩ : ∃ w6, Hid (w6 = w5.alloc (.cells #[.int .i64 (F : Int), .int .i64 ((F : Int) + M0), .slice uA ul uc] 60)) := ⟨_, rfl⟩
      have b56 : Below w5.heap.size w5 w6 := by rw [HW6.out]; exact below_alloc _ _
      have D6 := Lib.hid (D5.out.next b56)
      have o6 := o5'.below b56
      have ho6 := (ho4.below D5.out).below b56
      have g0 : w6.cell? ⟨w5.heap.size, 0, none⟩ = some (.int .i64 (F : Int)) := by rw [HW6.out]; simp
      have g1 : w6.cell? ⟨w5.heap.size, 1, none⟩ = some (.int .i64 ((F : Int) + M0)) := by rw [HW6.out]; simp
      have g2 : w6.cell? ⟨w5.heap.size, 2, none⟩ = some (.slice uA ul uc) := by rw [HW6.out]; simp
      have hF0 : i64ok (F : Int) := ⟨by omega, by omega⟩
      have hF1 : i64ok ((F : Int) + M0) := ⟨by omega, by omega⟩
      have hz6 : w.heap.size ≤ w6.heap.size := (B4.out.next D6.out).size
      rw [← HW6.out]
      clear b56
      refine hK.out _ _ ?_ (fun hHeld => ?_)
      · exact trivial
      clear hK K
      (try simp only [Act.put, List.setIfInBounds_toArray, List.set_cons_zero, List.set_cons_succ])
      refine wpAnyH_ready (rs := [14]) (by kernel_rfl) (by simp) ?_
      refine AllReadyH.cons (by simp only [List.getElem?_toArray, List.getElem?_cons_succ, List.getElem?_cons_zero]; rfl) (fun K hK => ?_) AllReadyH.nil
      refine step_gp (.tmp 80) (.tmp 93) w.heap.size v out vs ho6 ⟨(F : Int), (F : Int) + M0, rowsM l E F ((hs.drop i).take k)⟩ ⟨hF0, hF1, o6.ok⟩ (.slice uA ul uc) o6 hfr w5.heap.size g0 g1 g2 (by have := HO.out; omega) hz6 rfl rfl rfl rfl ?_
      intro v7 w7 o7 gr7 p7
      have B7 := Lib.hid (Below.grown (B4.out.next D6.out) gr7 hz6 (fun g e => (ho6.lt (List.mem_append.2 (.inl (by simp [e])))).1))
      clear gr7 p7
      refine hK.out _ _ ?_ (fun hHeld => ?_)
      · exact trivial
      clear hK K
      (try simp only [Act.put, List.setIfInBounds_toArray, List.set_cons_zero, List.set_cons_succ])
      refine wpAnyH_take (i := 15) (v := ?_) (by simp only [List.getElem?_toArray, List.getElem?_cons_succ, List.getElem?_cons_zero]; rfl) (by kernel_rfl) (by kernel_rfl) (by kernel_rfl) (by exact fun _ _ _ h => h) (Or.inl ⟨by rfl, ?_⟩) hHeld ?_
      rotate_left 1
      · (intro w hSw; (try dsimp only at hSw); go_simp; (try with_reducible rfl))
      (try simp only [Act.put, List.setIfInBounds_toArray, List.set_cons_zero, List.set_cons_succ])
      refine wpAnyH_done (by kernel_rfl) ?_ _
      go_wp2
      go_roundw
      case rel => exact ⟨v7, _, out ++ [⟨(F : Int), (F : Int) + M0, rowsM l E F ((hs.drop i).take k)⟩], nx, f', rfl, rfl, hkn, o7, show _ ≤ _ by rw [List.length_append]; have := HO.out; simp; omega, HGP.out, hfu2, show _ = _ by
        rw [← HP.out, HM0.out, HG2.out]
        simp only [List.append_assoc, List.singleton_append], B7.out⟩
      case measure => simp [intOf]; omega
    · have hfin := Lib.hid (show out = groupsF l W hs.length 0 hs by rw [← HP.out, List.drop_eq_nil_of_le (by rw [HN.out]; omega), groupsF_nil, List.append_nil])
      go_wp2
      go_ret2
      exact ⟨v, vs, by rw [hf.out]; rfl, by rw [hf.out]; dsimp only; rw [← hfin.out]; exact ho, hb⟩

end Go.Proofs.YtkamenidgkjodaaGreatDoor
