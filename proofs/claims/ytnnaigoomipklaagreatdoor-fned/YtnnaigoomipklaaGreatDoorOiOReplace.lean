/-
  slices.Replace at texts: in a slice of the call's own, by texts that lie in another block.
-/
import Derived.Test.YtnnaigoomipklaaGreatDoorOiOInsert
set_option linter.unusedSimpArgs false
set_option linter.unusedVariables false
namespace Go.Proofs.YtnnaigoomipklaaGreatDoor
open Go.RowKit Go.ChangeShapes Go.WideShapes M

theorem take_tv {cur : List Value} {l : List ByteArray} {n i : Nat} (h : cur.take n = tv l) (hi : i ≤ n) : cur.take i = tv (l.take i) := by rw [tv_take, ← take_of_take h hi]

theorem Put.inplace {w w2 : World} {g base n q cap : Nat} {cur : List Value} {L : List ByteArray} (hr : RowV w2 g cur) (hb : base ≤ g) (hl : L.length = q) (hq : q ≤ cap) (hcm : cap ≤ maxLen) (hcl : cur.length = cap) (ht : cur.take q = tv L) (hs : ∀ s ∈ L, s.size ≤ maxLen) (hw : Wrote (fun k => k = g) w w2) :
    Put w w2 base (.slice (some ⟨g, 0, none⟩) n cap) (.slice (some ⟨g, 0, none⟩) q cap) L :=
  ⟨ownV_of_row hr hb hl hq hcm hcl ht hs, hw.mono (fun j _ e => by rw [e]; rfl), fun k e => .inl e⟩
theorem Put.fresh {w w1 w3 : World} {v : Value} {N base q G : Nat} {cur : List Value} {L : List ByteArray} (hr : RowV w3 N cur) (hN : w.heap.size = N) (hb : base ≤ w.heap.size) (hl : L.length = q) (hq : q ≤ G) (hcm : G ≤ maxLen) (hcl : cur.length = G) (ht : cur.take q = tv L) (hs : ∀ s ∈ L, s.size ≤ maxLen) (h1 : Below w.heap.size w w1) (hw : Wrote (fun k => k = N) w1 w3) :
    Put w w3 base v (.slice (some ⟨N, 0, none⟩) q G) L :=
  ⟨ownV_of_row hr (by omega) hl hq hcm hcl ht hs, (Wrote.of_below h1).trans hw (fun j hj e => by omega), fun k e => .inr (by injection e with e; simp at e; omega)⟩
theorem OwnV.take_ {w : World} {base n cap i : Nat} {A : Option Addr} {l : List ByteArray} (h : OwnV w base (.slice A n cap) l) (hi : i ≤ n) (h0 : 0 < n) : OwnV w base (.slice A i cap) (l.take i) := by
  obtain ⟨g, rfl, hb, _, _⟩ := h.at_ h0
  obtain ⟨cur, h1, h2, h3, h4, h5, h6, h7⟩ := row_of_ownV h
  exact ownV_of_row h1 h2 (by simp; omega) (by omega) h5 h6 (take_tv h7 hi) (fun s hs => h.small s (List.mem_of_mem_take hs))

set_option maxHeartbeats 4000000 in
set_option maxRecDepth 100000 in
theorem replaceS_any (base : Nat) (A : Option Addr) (n cap : Nat) (l : List ByteArray) (B : Option Addr) (m c : Nat) (r : List ByteArray) (i j : Nat) (w : World) (ho : OwnV w base (.slice A n cap) l) (hr : Strs w B m r) (hmc : m ≤ c) (hpl : PlainAt w B)
    (hne : ∀ a b, A = some a → B = some b → a.block ≠ b.block) (hij : i ≤ j) (hjn : j ≤ n) (hn : n ≤ 1048576) (hm : m ≤ 1048576) (hbase : base ≤ w.heap.size) :
    Calls Tryz.prog 216 #[.slice A n cap, .int .i64 (i : Int), .int .i64 (j : Int), .slice B m c] w fun e w' => ∃ v', e = .returned v' ∧ Put w w' base (.slice A n cap) v' (l.take i ++ (r ++ l.drop j)) := by
  have HL := Lib.hid ho.strs.len
  have HR := Lib.hid hr.len
  obtain ⟨A0, cap0, e0, hnc, hcm⟩ := ho.form HL.out
  injection e0 with e1 e2 e3
  subst e1 e3
  clear e2
  have hcut := cut_strs A n cap i j hij (by omega)
  by_cases heq : i = j
  · subst heq
    have hq : ((i : Int) == (i : Int)) = true := by simp
    go_enter Tryz.func216, Tryz.ntmps216
    go_wp2_with fail
    refine (insertS_any base A n cap l B m c r i w ho hr hmc hpl hne hjn hn hm hbase).mono ?_
    rintro e w1 ⟨v1, rfl, p1⟩
    go_wp2
    go_ret
    exact ⟨v1, rfl, p1⟩
  have hq : ((i : Int) == (j : Int)) = false := by simp; omega
  have hlt : i < j := by omega
  obtain ⟨g, rfl, hgb, hgl, _⟩ := ho.at_ (show i < n by omega)
  obtain ⟨cur, HROW, hgb2, _, _, _, hcl, htk⟩ := row_of_ownV ho
  obtain ⟨k, HK⟩ : ∃ k : Nat, Hid (k = i + m) := ⟨_, rfl⟩
  have hk1 : IntKind.i64.wrap ((i : Int) + (m : Int)) = (k : Int) := by rw [HK.out, IntKind.wrap_i64]; omega
  have hcuti := cut_hi_w (some ⟨g, 0, none⟩) n cap i (by omega)
  have HTK := Lib.hid htk
  have HCL := Lib.hid hcl
  have HRW := Lib.hid HROW
  have HSRC := Lib.hid (strs_src hr)
  have hsmall : Hid (∀ s ∈ l.take i ++ (r ++ l.drop j), s.size ≤ maxLen) := fun s hs => by
    rcases List.mem_append.1 hs with h | h
    · exact ho.small s (List.mem_of_mem_take h)
    · rcases List.mem_append.1 h with h | h
      · exact hr.small s h
      · exact ho.small s (List.mem_of_mem_drop h)
  clear heq htk hcl HROW
  by_cases hjn' : j = n
  · subst hjn'
    have hq2 : ((j : Int) == (j : Int)) = true := by simp
    have hdr : l.drop j = [] := List.drop_of_length_le (by rw [HL.out]; exact Nat.le_refl _)
    have HDR := Lib.hid hdr
    clear hdr
    by_cases hkn : k < j
    · -- in place, and the rest is cleared
      have hcutk := cut_lo_strs (some ⟨g, 0, none⟩) j cap k (by omega) hnc
      rw [cutA_some (show k < cap by omega)] at hcutk
      have hlss : decide ((k : Int) < (j : Int)) = true := by simp; omega
      go_enter Tryz.func216, Tryz.ntmps216
      go_wp2_with (first
        | (at_builtin; refine wpList_room_w (.tmp 32) (.tmp 33) g i cap B m c cur (tv r) HRW.out (by rw [tv_len, HR.out]) (by have := HK.out; omega) (by rw [HCL.out]; exact Nat.le_refl _) HSRC.out (tv_one r) rfl rfl rfl rfl ?_
           intro w1 hr1 g1
           rw [← HK.out])
        | (refine wpList_clear_w (.tmp 43) g k (j - k) (cap - k) (splice cur i (tv r)) hr1 (by omega) (by rw [length_splice _ _ _ (by rw [tv_len, HR.out, HCL.out]; have := HK.out; omega), HCL.out]; omega) rfl rfl rfl ?_
           intro w2 Z hzl hr2 g2))
      go_ret
      refine ⟨_, rfl, Put.inplace hr2 hgb (by have h1 := HL.out; have h2 := HR.out; have h3 := HK.out; rw [HDR.out]; simp; omega) (by omega) hcm ?_ ?_ hsmall.out (g1.trans g2 (fun _ _ e => e))⟩
      · rw [length_splice _ _ _ (by rw [length_splice _ _ _ (by rw [tv_len, HR.out, HCL.out]; have := HK.out; omega), HCL.out, hzl]; omega), length_splice _ _ _ (by rw [tv_len, HR.out, HCL.out]; have := HK.out; omega)]
        exact HCL.out
      · rw [splice_take _ _ (Nat.le_refl _) (by rw [length_splice _ _ _ (by rw [tv_len, HR.out, HCL.out]; have := HK.out; omega), HCL.out]; omega), splice_in0 _ _ (by rw [tv_len, HR.out, HK.out]) (by rw [HCL.out]; omega), HDR.out, List.append_nil, tv_app, take_tv HTK.out (by omega)]
    · -- at the end
      have hlss : decide ((k : Int) < (j : Int)) = false := by simp; omega
      have hf := Lib.hid (show l.take i ++ (r ++ l.drop j) = l.take i ++ r by rw [HDR.out, List.append_nil])
      go_enter Tryz.func216, Tryz.ntmps216
      go_wp2_with (at_builtin; refine app_strs (.tmp 32) (.tmp 33) base (.slice (some ⟨g, 0, none⟩) i cap) (l.take i) (ho.take_ (by omega) (by omega)) B m c r hr (by rw [List.length_take, HL.out]; omega) hbase rfl rfl rfl rfl ?_
                   intro v3 w3 o3 g3 p3
                   obtain ⟨A3, c3, rfl, hc31, hc32⟩ := o3.form (n := k) (by have h1 := HL.out; have h2 := HR.out; have h3 := HK.out; simp; omega))
      go_ret
      refine ⟨_, rfl, by rw [hf.out]; exact o3, Wrote.of_grown g3 (fun k e => e), fun kk e => ?_⟩
      have e2 : (Value.slice A3 k c3).ownBlock = some kk := e
      rcases p3 with p3 | p3
      · rw [p3] at e2
        exact .inl e2
      · rw [p3] at e2
        injection e2 with e2
        exact .inr (by omega)
  have hq2 : ((j : Int) == (n : Int)) = false := by simp; omega
  obtain ⟨e, HE⟩ : ∃ e : Nat, Hid (e = n - j) := ⟨_, rfl⟩
  have hcutj := cut_lo_strs (some ⟨g, 0, none⟩) n cap j hjn hnc
  rw [show n - j = e from HE.out.symm, cutA_some (show j < cap by omega)] at hcutj
  obtain ⟨q, HQ⟩ : ∃ q : Nat, Hid (q = k + e) := ⟨_, rfl⟩
  have hq1 : IntKind.i64.wrap ((k : Int) + (e : Int)) = (q : Int) := by have := HK.out; have := HE.out; rw [HQ.out, IntKind.wrap_i64]; omega
  have HJN := Lib.hid (show j < n by omega)
  have hLQ := Lib.hid (show (l.take i ++ (r ++ l.drop j)).length = q by
    have h1 := HL.out; have h2 := HR.out; have h3 := HK.out; have h4 := HQ.out; have h5 := HE.out
    simp; omega)
  have hTL := Lib.hid (show (tv (l.drop j)).length = e by rw [tv_len, List.length_drop, HL.out, HE.out])
  have hTR := Lib.hid (show (tv r).length = m by rw [tv_len, HR.out])
  clear hjn'
  by_cases hroom : cap < q
  · -- no room
    obtain ⟨d, HD⟩ : ∃ d : Nat, Hid (d = q - i) := ⟨_, rfl⟩
    have hd1 : IntKind.i64.wrap ((q : Int) - (i : Int)) = (d : Int) := by have := HQ.out; have := HK.out; have := HE.out; rw [HD.out, IntKind.wrap_i64]; omega
    obtain ⟨N, HN⟩ : ∃ N, Hid (w.heap.size = N) := ⟨_, rfl⟩
    go_enter Tryz.func216, Tryz.ntmps216
    go_wp2
    go_quiet (fail)
    obtain ⟨W0, HW0⟩ : ∃ W0, Hid (W0 = w.drewN nq) := ⟨_, rfl⟩
    rw [← HW0.out]
    have HB0 := Lib.hid (show Below w.heap.size w W0 by rw [HW0.out]; exact below_drewN (Below.refl _ _) _)
    have HN0 := Lib.hid (show W0.heap.size = N by rw [HW0.out]; exact HN.out)
    have HRW0 := Lib.hid (HRW.out.below HB0.out)
    clear HW0
    go_wp2_with (first
      | (at_builtin; refine wpList_blanks_w (.tmp 63) (.tmp 66) i cap d q cur g HRW0.out (by rw [HCL.out]; omega) (by have := HD.out; have := HQ.out; have := HK.out; omega) (by have := HD.out; have := HQ.out; have := HK.out; omega) hroom (by have := HQ.out; have := HK.out; have := HE.out; omega) rfl rfl rfl rfl ?_
         intro w1 G Z hr1 hzl hqG hGm b1
         rw [HN0.out] at hr1 ⊢
         have B1 := HB0.out.next b1
         have hcut3 := cut_lo_strs (some ⟨N, 0, none⟩) q G i (by have := HQ.out; have := HK.out; omega) hqG
         have hcut4 := cut_lo_strs (some ⟨N, 0, none⟩) q G k (by have := HQ.out; omega) hqG
         rw [cutA_some (show i < G by have := HQ.out; have := HK.out; have := HE.out; have := HJN.out; omega)] at hcut3
         rw [cutA_some (show k < G by have := HQ.out; have := HK.out; have := HE.out; have := HJN.out; omega)] at hcut4)
      | (refine wpList_copy_w (.tmp 70) (.tmp 71) (some ⟨N, i, none⟩) B (q - i) (G - i) m c N i (cur.take i ++ Z) (tv r) hr1 (minL hTR.out (by have := HQ.out; have := HK.out; omega)) (fun h => by obtain ⟨ad, e1, e2⟩ := HSRC.out (by rw [hTR.out] at h; exact h); exact ⟨rfl, ad, e1, fun j v hv => cell_keep B1 (e2 j v hv)⟩) (by rw [hTR.out]; have := HCL.out; have := HQ.out; have := HK.out; simp; omega) (tv_one r) rfl rfl rfl rfl ?_
         intro w2 hr2 g2))
    have hsz1 : i + (tv r).length ≤ (cur.take i ++ Z).length := by
      rw [hTR.out, List.length_append, List.length_take, HCL.out]; have := HQ.out; have := HK.out; omega
    have hlen1 : (cur.take i ++ Z).length = G := by
      rw [List.length_append, List.length_take, HCL.out, Nat.min_eq_left (by omega)]; exact hzl
    have e1 : (tv (l.drop j)).length = Nat.min e (q - k) := minL hTL.out (by have := HQ.out; omega)
    have e2 : RowV w2.drew N (splice (cur.take i ++ Z) i (tv r)) := hr2
    have e6 : RowV w2 g cur := RowV.wrote (S := fun k => k = N) (HRW.out.below B1) g2 (by show ¬ g = N; have := HN.out; omega)
    have e5 : RowV w2.drew g cur := e6
    clear e6
    have e3 : 0 < (tv (l.drop j)).length → (some ⟨N, k, none⟩ : Option Addr) = some ⟨N, k, none⟩ ∧ ∃ ad, (some ⟨g, j, none⟩ : Option Addr) = some ad ∧ ∀ x v, (tv (l.drop j))[x]? = some v → w2.drew.cell? (ad.add x) = some v := fun _ => ⟨rfl, _, rfl, row_src e5 _ (tail_src HTK.out)⟩
    have e4 : k + (tv (l.drop j)).length ≤ (splice (cur.take i ++ Z) i (tv r)).length := by
      rw [length_splice _ _ _ hsz1, hlen1, hTL.out]; have := HQ.out; omega
    have E1 := Lib.hid e1
    have E2 := Lib.hid e2
    have E3 := Lib.hid e3
    have E4 := Lib.hid e4
    have HS1 := Lib.hid hsz1
    have HLN1 := Lib.hid hlen1
    clear e1 e2 e3 e4 e5 hsz1 hlen1
    go_region_law (refine step_copy_w (.tmp 78) (.tmp 81) (some ⟨N, k, none⟩) (some ⟨g, j, none⟩) (q - k) (G - k) e (cap - j) N k (splice (cur.take i ++ Z) i (tv r)) (tv (l.drop j)) E2.out E1.out E3.out E4.out (tv_one _) (by rfl) (by rfl) (by simp [Act.eval, Act.put]) (by simp [Act.eval, Act.put]) ?_; intro w3 hr3 g3)
    go_wp2
    go_ret
    refine ⟨_, rfl, Put.fresh hr3 HN.out hbase hLQ.out hqG hGm ?_ ?_ hsmall.out B1 ((g2.next (Below.refl _ w2).drew).trans g3 (fun _ _ e => e))⟩
    · rw [length_splice _ _ _ E4.out, length_splice _ _ _ HS1.out]
      exact HLN1.out
    · have h1 := splice_in2 (cur.take i ++ Z) (tv (l.drop j)) (tv r) (i := i) (k := k) (by rw [hTR.out, HK.out]) (by have := E4.out; rwa [length_splice _ _ _ HS1.out] at this)
      have h2 : k + (tv (l.drop j)).length = q := by rw [hTL.out, HQ.out]
      rw [h2] at h1
      rw [h1, tv_app, tv_app, ← take_tv HTK.out (by omega), List.take_append_of_le_length (by rw [List.length_take, HCL.out]; omega), List.take_take, Nat.min_self]
  · -- in place
    have hqc : q ≤ cap := by omega
    have hcutq := cut_hi_w (some ⟨g, 0, none⟩) n cap q hqc
    have hcut3 := cut_lo_strs (some ⟨g, 0, none⟩) q cap i (by have := HQ.out; have := HK.out; omega) hqc
    have hcut4 := cut_lo_strs (some ⟨g, 0, none⟩) q cap k (by have := HQ.out; omega) hqc
    rw [cutA_some (show i < cap by omega)] at hcut3
    rw [cutA_some (show k < cap by have := HQ.out; have := HE.out; have := HJN.out; omega)] at hcut4
    by_cases hkj : k ≤ j
    · have hcutz := cut_lo_strs (some ⟨g, 0, none⟩) n cap q (by have := HQ.out; have := HE.out; omega) hnc
      go_enter Tryz.func216, Tryz.ntmps216
      go_wp2
      go_quiet (fail)
      obtain ⟨W0, HW0⟩ : ∃ W0, Hid (W0 = w.drewN nq) := ⟨_, rfl⟩
      rw [← HW0.out]
      have HB0 := Lib.hid (show Below w.heap.size w W0 by rw [HW0.out]; exact below_drewN (Below.refl _ _) _)
      have HRW0 := Lib.hid (HRW.out.below HB0.out)
      have hsz1 := Lib.hid (show i + (tv r).length ≤ cur.length by rw [hTR.out, HCL.out]; have := HK.out; omega)
      clear HW0
      go_wp2_with (refine wpList_copy_w (.tmp 95) (.tmp 96) (some ⟨g, i, none⟩) B (q - i) (cap - i) m c g i cur (tv r) HRW0.out (minL hTR.out (by have := HQ.out; have := HK.out; omega)) (fun h => by obtain ⟨ad, e1, e2⟩ := HSRC.out (by rw [hTR.out] at h; exact h); exact ⟨rfl, ad, e1, fun j v hv => cell_keep HB0.out (e2 j v hv)⟩) hsz1.out (tv_one r) rfl rfl rfl rfl ?_
                   intro w2 hr2 g2)
      have e1 : (tv (l.drop j)).length = Nat.min e (q - k) := minL hTL.out (by have := HQ.out; omega)
      have e2 : RowV w2.drew g (splice cur i (tv r)) := hr2
      have e3 : 0 < (tv (l.drop j)).length → (some ⟨g, k, none⟩ : Option Addr) = some ⟨g, k, none⟩ ∧ ∃ ad, (some ⟨g, j, none⟩ : Option Addr) = some ad ∧ ∀ x v, (tv (l.drop j))[x]? = some v → w2.drew.cell? (ad.add x) = some v := fun _ => ⟨rfl, _, rfl, row_src e2 _ (fun x v hv => by
        rw [splice_past _ _ (by rw [hTR.out]; have := HK.out; omega) hsz1.out]
        exact tail_src HTK.out x v hv)⟩
      have e4 : k + (tv (l.drop j)).length ≤ (splice cur i (tv r)).length := by
        rw [length_splice _ _ _ hsz1.out, hTL.out, HCL.out]; have := HQ.out; omega
      have E1 := Lib.hid e1
      have E2 := Lib.hid e2
      have E3 := Lib.hid e3
      have E4 := Lib.hid e4
      clear e1 e2 e3 e4
      go_region_law (refine step_copy_w (.tmp 103) (.tmp 106) (some ⟨g, k, none⟩) (some ⟨g, j, none⟩) (q - k) (cap - k) e (cap - j) g k (splice cur i (tv r)) (tv (l.drop j)) E2.out E1.out E3.out E4.out (tv_one _) (by rfl) (by rfl) (by simp [Act.eval, Act.put]) (by simp [Act.eval, Act.put]) ?_; intro w3 hr3 g3)
      have hlen3 : (splice (splice cur i (tv r)) k (tv (l.drop j))).length = cap := by rw [length_splice _ _ _ E4.out, length_splice _ _ _ hsz1.out, HCL.out]
      have htake3 : (splice (splice cur i (tv r)) k (tv (l.drop j))).take q = tv (l.take i ++ (r ++ l.drop j)) := by
        have h1 := splice_in2 cur (tv (l.drop j)) (tv r) (i := i) (k := k) (by rw [hTR.out, HK.out]) (by rw [hTL.out, HCL.out]; have := HQ.out; omega)
        have h2 : k + (tv (l.drop j)).length = q := by rw [hTL.out, HQ.out]
        rw [h2] at h1
        rw [h1, tv_app, tv_app, ← take_tv HTK.out (by omega)]
      have G03 : Wrote (fun k => k = g) w w3 := ((Wrote.of_below HB0.out).trans g2 (fun _ _ e => e)).next (Below.refl _ w2).drew |>.trans g3 (fun _ _ e => e)
      by_cases hz : k = j
      · have hnq : n - q = 0 := by have := HQ.out; have := HE.out; omega
        rw [hnq] at hcutz
        clear hnq hz
        go_wp2_with (refine wpList_clear_none (.tmp 110) _ _ rfl rfl rfl ?_)
        go_ret
        exact ⟨_, rfl, Put.inplace hr3 hgb hLQ.out hqc hcm hlen3 htake3 hsmall.out G03⟩
      · have hqn : q < n := by have := HQ.out; have := HE.out; omega
        rw [cutA_some (show q < cap by omega)] at hcutz
        go_wp2_with (refine wpList_clear_w (.tmp 110) g q (n - q) (cap - q) _ hr3 (by omega) (by rw [hlen3]; omega) rfl rfl rfl ?_
                     intro w4 Z hzl hr4 g4)
        go_ret
        refine ⟨_, rfl, Put.inplace hr4 hgb hLQ.out hqc hcm ?_ ?_ hsmall.out (G03.trans g4 (fun _ _ e => e))⟩
        · rw [length_splice _ _ _ (by rw [hlen3, hzl]; omega), hlen3]
        · rw [splice_take _ _ (Nat.le_refl _) (by rw [hlen3]; omega), htake3]
    · -- more lines than went
      obtain ⟨ad, rfl, hsrc⟩ := HSRC.out (by have := HK.out; omega)
      obtain ⟨vc, HV⟩ := hpl ad rfl
      have hv0 : vc ≠ [] := by
        have h0 : 0 < (tv r).length := by rw [hTR.out]; have := HK.out; omega
        exact HV.ne (block_add ad 0) (hsrc 0 _ (List.getElem?_eq_getElem h0))
      have HNE := Lib.hid (hne _ _ rfl rfl)
      have HS := Lib.hid hsrc
      have hov : ∀ N, (callFunc 231 #[.slice (some ⟨g, k, none⟩) (q - k) (cap - k), .slice (some ad) m c]).run Tryz.prog (w.drewN N) = .ok (.value (.bool false)) (w.drewN N) := fun N =>
        run_overlaps_w (w.drewN N) ⟨g, k, none⟩ ad (q - k) (cap - k) m c HNE.out (show RowV (w.drewN N) g cur from HRW.out) (show RowV (w.drewN N) ad.block vc from HV) hv0 rfl
      clear HV hv0 vc hsrc
      go_enter Tryz.func216, Tryz.ntmps216
      go_wp2
      go_quiet (fail)
      go_wp2
      have e1 : (tv (l.drop j)).length = Nat.min e (q - k) := minL hTL.out (by have := HQ.out; omega)
      have e2 : RowV (w.drewN nq).drew g cur := HRW.out
      have e3 : 0 < (tv (l.drop j)).length → (some ⟨g, k, none⟩ : Option Addr) = some ⟨g, k, none⟩ ∧ ∃ ad, (some ⟨g, j, none⟩ : Option Addr) = some ad ∧ ∀ x v, (tv (l.drop j))[x]? = some v → (w.drewN nq).drew.cell? (ad.add x) = some v := fun _ => ⟨rfl, _, rfl, row_src e2 _ (tail_src HTK.out)⟩
      have e4 : k + (tv (l.drop j)).length ≤ cur.length := by
        rw [hTL.out, HCL.out]; have := HQ.out; omega
      have E1 := Lib.hid e1
      have E2 := Lib.hid e2
      have E3 := Lib.hid e3
      have E4 := Lib.hid e4
      clear e1 e2 e3 e4
      go_region_law (refine step_copy_w (.tmp 126) (.tmp 129) (some ⟨g, k, none⟩) (some ⟨g, j, none⟩) (q - k) (cap - k) e (cap - j) g k cur (tv (l.drop j)) E2.out E1.out E3.out E4.out (tv_one _) (by rfl) (by rfl) (by simp [Act.eval, Act.put]) (by simp [Act.eval, Act.put]) ?_; intro w3 hr3 g3)
      have G03 : Wrote (fun k => k = g) w w3 := (Wrote.of_below (below_drewN (Below.refl _ w) nq).drew).trans g3 (fun _ _ e => e)
      have e4 : i + (tv r).length ≤ (splice cur k (tv (l.drop j))).length := by
        rw [length_splice _ _ _ E4.out, hTR.out, HCL.out]
        have := HQ.out; have := HK.out; omega
      go_wp2_with (refine wpList_copy_w (.tmp 133) (.tmp 134) (some ⟨g, i, none⟩) (some ad) (q - i) (cap - i) m c g i (splice cur k (tv (l.drop j))) (tv r) hr3 (minL hTR.out (by have := HQ.out; have := HK.out; omega)) (fun _ => ⟨rfl, ad, rfl, src_wrote G03 (fun e => HNE.out e.symm) HS.out⟩) e4 (tv_one r) rfl rfl rfl rfl ?_; intro w4 hr4 g4)
      go_ret
      refine ⟨_, rfl, Put.inplace hr4 hgb hLQ.out hqc hcm ?_ ?_ hsmall.out (G03.trans g4 (fun _ _ e => e))⟩
      · rw [length_splice _ _ _ e4, length_splice _ _ _ E4.out]
        exact HCL.out
      · have h1 := splice_in1 cur (tv (l.drop j)) (tv r) (i := i) (k := k) (by rw [hTR.out, HK.out]) E4.out
        have h2 : k + (tv (l.drop j)).length = q := by rw [hTL.out, HQ.out]
        rw [h2] at h1
        rw [h1, tv_app, tv_app, ← take_tv HTK.out (by omega)]

end Go.Proofs.YtnnaigoomipklaaGreatDoor
