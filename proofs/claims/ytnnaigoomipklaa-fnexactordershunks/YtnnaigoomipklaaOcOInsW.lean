/-
  slices.Insert at texts, walked.
-/
import Derived.Test.YtnnaigoomipklaaOcOInsert
set_option linter.unusedSimpArgs false
set_option linter.unusedVariables false
namespace Go.Proofs.Ytnnaigoomipklaa
open Go.RowKit Go.ChangeShapes Go.WideShapes M

/-- What comes of texts put into a slice of the call's own. -/
structure Put (w w' : World) (base : Nat) (v v' : Value) (l : List ByteArray) : Prop where
  own : OwnV w' base v' l
  wrote : Wrote (fun k => v.ownBlock = some k) w w'
  place : ∀ k, v'.ownBlock = some k → v.ownBlock = some k ∨ w.heap.size ≤ k

set_option maxHeartbeats 2000000 in
set_option maxRecDepth 100000 in
theorem insertS_any (base : Nat) (A : Option Addr) (n cap : Nat) (l : List ByteArray) (B : Option Addr) (m c : Nat) (r : List ByteArray) (i : Nat) (w : World) (ho : OwnV w base (.slice A n cap) l) (hr : Strs w B m r) (hmc : m ≤ c) (hpl : PlainAt w B)
    (hne : ∀ a b, A = some a → B = some b → a.block ≠ b.block) (hin : i ≤ n) (hn : n ≤ 1048576) (hm : m ≤ 1048576) (hbase : base ≤ w.heap.size) :
    Calls Try.prog 96 #[.slice A n cap, .int .i64 (i : Int), .slice B m c] w fun e w' => ∃ v', e = .returned v' ∧ Put w w' base (.slice A n cap) v' (l.take i ++ (r ++ l.drop i)) := by
  have HL := Lib.hid ho.strs.len
  have HR := Lib.hid hr.len
  obtain ⟨A0, cap0, e0, hnc, hcm⟩ := ho.form HL.out
  injection e0 with e1 e2 e3
  subst e1 e3
  clear e2
  have hcut := cut_lo_strs A n cap i hin hnc
  by_cases hm0 : m = 0
  · have hq : ((m : Int) == 0) = true := by simp [hm0]
    have hf := Lib.hid (show l.take i ++ (r ++ l.drop i) = l by
      have : r = [] := List.eq_nil_of_length_eq_zero (by rw [HR.out, hm0])
      rw [this]; simp)
    clear hm0
    go_enter Try.func96, Try.ntmps96
    go_wp2
    go_ret
    exact ⟨_, rfl, by rw [hf.out]; exact ho, Wrote.refl _ _, fun k e => .inl e⟩
  have hm1 : ((m : Int) == 0) = false := by simp; omega
  by_cases hi : i = n
  · have hq : ((i : Int) == (n : Int)) = true := by simp [hi]
    have hf := Lib.hid (show l.take i ++ (r ++ l.drop i) = l ++ r by
      have hl := HL.out
      rw [List.take_of_length_le (by omega), List.drop_of_length_le (by omega), List.append_nil])
    clear hi
    go_enter Try.func96, Try.ntmps96
    go_wp2_with (at_builtin; refine app_strs (.tmp 23) (.tmp 24) base (.slice A n cap) l ho B m c r hr (by rw [HL.out]; omega) hbase rfl rfl rfl rfl ?_; intro v3 w3 o3 g3 p3)
    go_ret
    refine ⟨v3, rfl, by rw [hf.out]; exact o3, Wrote.of_grown g3 (fun k e => e), fun k e => ?_⟩
    rcases p3 with p3 | p3
    · exact .inl (p3 ▸ e)
    · rw [p3] at e; injection e with e; exact .inr (by omega)
  have hq : ((i : Int) == (n : Int)) = false := by simp; omega
  have hlt : i < n := by omega
  obtain ⟨g, rfl, hgb, hgl, _⟩ := ho.at_ hlt
  obtain ⟨cur, HROW, hgb2, _, _, _, hcl, htk⟩ := row_of_ownV ho
  obtain ⟨ad, rfl, hsrc⟩ := strs_src hr (by omega)
  obtain ⟨q, HQ⟩ : ∃ q : Nat, Hid (q = n + m) := ⟨_, rfl⟩
  have hq1 : IntKind.i64.wrap ((n : Int) + (m : Int)) = (q : Int) := by rw [HQ.out, IntKind.wrap_i64]; omega
  obtain ⟨k, HK⟩ : ∃ k : Nat, Hid (k = i + m) := ⟨_, rfl⟩
  have hk1 : IntKind.i64.wrap ((i : Int) + (m : Int)) = (k : Int) := by rw [HK.out, IntKind.wrap_i64]; omega
  have HTK := Lib.hid htk
  have HCL := Lib.hid hcl
  have HRW := Lib.hid HROW
  have HNE := Lib.hid (hne _ _ rfl rfl)
  have HSRC := Lib.hid hsrc
  have hmp := Lib.hid (show 0 < m by omega)
  clear hi hm0 htk hcl HROW hne hsrc
  by_cases hroom : cap < q
  · -- no room
    obtain ⟨d, HD⟩ : ∃ d : Nat, Hid (d = q - i) := ⟨_, rfl⟩
    have hd1 : IntKind.i64.wrap ((q : Int) - (i : Int)) = (d : Int) := by have := HQ.out; rw [HD.out, IntKind.wrap_i64]; omega
    have hcut2 := cut_hi_w (some ⟨g, 0, none⟩) n cap i (by omega)
    obtain ⟨N, HN⟩ : ∃ N, Hid (w.heap.size = N) := ⟨_, rfl⟩
    go_enter Try.func96, Try.ntmps96
    go_wp2_with (first
      | (at_builtin; refine wpList_blanks_w (.tmp 34) (.tmp 39) i cap d q cur g HRW.out (by rw [HCL.out]; omega) (by have := HD.out; have := HQ.out; omega) (by have := HD.out; have := HQ.out; omega) hroom (by have := HQ.out; omega) rfl rfl rfl rfl ?_
         intro w1 G Z hr1 hzl hqG hGm b1
         rw [HN.out] at hr1 ⊢
         have hcut3 := cut_lo_strs (some ⟨N, 0, none⟩) q G i (by have := HQ.out; omega) hqG
         have hcut4 := cut_lo_strs (some ⟨N, 0, none⟩) q G k (by have := HQ.out; have := HK.out; omega) hqG)
      | (refine wpList_copy_w (.tmp 43) (.tmp 44) (cutA (some ⟨N, 0, none⟩) G i) (some ad) (q - i) (G - i) m c N i (cur.take i ++ Z) (tv r) hr1 (minL (by rw [tv_len, HR.out]) (by have := HQ.out; omega)) (fun _ => ⟨cutA_some (by have := HQ.out; omega), ad, rfl, fun j v hv => cell_keep b1 (HSRC.out j v hv)⟩) (by rw [tv_len, HR.out]; have := HCL.out; have := HQ.out; simp; omega) (tv_one r) rfl rfl rfl rfl ?_
         intro w2 hr2 g2))
    have e1 : (tv (l.drop i)).length = Nat.min (n - i) (q - k) := minL (by rw [tv_len, List.length_drop, HL.out]) (by have := HQ.out; have := HK.out; omega)
    have e2 : RowV w2.drew N (splice (cur.take i ++ Z) i (tv r)) := hr2
    have e6 : RowV w2 g cur := RowV.wrote (S := fun k => k = N) (HRW.out.below b1) g2 (by show ¬ g = N; have := HN.out; omega)
    have e5 : RowV w2.drew g cur := e6
    clear e6
    have e3 : 0 < (tv (l.drop i)).length → cutA (some ⟨N, 0, none⟩) G k = some ⟨N, k, none⟩ ∧ ∃ ad, cutA (some ⟨g, 0, none⟩) cap i = some ad ∧ ∀ j v, (tv (l.drop i))[j]? = some v → w2.drew.cell? (ad.add j) = some v := fun _ => ⟨cutA_some (by have := HQ.out; have := HK.out; omega), _, cutA_some (by omega), row_src e5 _ (tail_src HTK.out)⟩
    have e4 : k + (tv (l.drop i)).length ≤ (splice (cur.take i ++ Z) i (tv r)).length := by
      rw [length_splice _ _ _ (by rw [tv_len, HR.out]; have := HCL.out; have := HQ.out; simp; omega), tv_len, List.length_drop, HL.out]
      have := HCL.out; have := HQ.out; have := HK.out
      simp; omega
    have E1 := Lib.hid e1
    have E2 := Lib.hid e2
    have E3 := Lib.hid e3
    have E4 := Lib.hid e4
    clear e1 e2 e3 e4 e5
    go_region_law (refine step_copy_w (.tmp 50) (.tmp 53) (cutA (some ⟨N, 0, none⟩) G k) (cutA (some ⟨g, 0, none⟩) cap i) (q - k) (G - k) (n - i) (cap - i) N k (splice (cur.take i ++ Z) i (tv r)) (tv (l.drop i)) E2.out E1.out E3.out E4.out (tv_one _) (by rfl) (by rfl) (by simp [Act.eval, Act.put]) (by simp [Act.eval, Act.put]) ?_; intro w3 hr3 g3)
    go_wp2
    go_ret
    have hsmall : ∀ s ∈ l.take i ++ (r ++ l.drop i), s.size ≤ maxLen := fun s hs => by
      rcases List.mem_append.1 hs with h | h
      · exact ho.small s (List.mem_of_mem_take h)
      · rcases List.mem_append.1 h with h | h
        · exact hr.small s h
        · exact ho.small s (List.mem_of_mem_drop h)
    refine ⟨_, rfl, ownV_of_row hr3 (by have := HN.out; omega) ?_ hqG hGm ?_ ?_ hsmall, ?_, fun k e => ?_⟩
    · have h1 := HL.out; have h2 := HR.out; have h3 := HQ.out
      simp; omega
    · rw [length_splice _ _ _ E4.out, length_splice _ _ _ (by rw [tv_len, HR.out]; have := HCL.out; have := HQ.out; simp; omega), List.length_append, List.length_take, HCL.out, Nat.min_eq_left (by omega)]
      exact hzl
    · have h1 := splice_in2 (cur.take i ++ Z) (tv (l.drop i)) (tv r) (i := i) (k := k) (by rw [tv_len, HR.out, HK.out]) (by have := E4.out; rwa [length_splice _ _ _ (by rw [tv_len, HR.out]; have := HCL.out; have := HQ.out; simp; omega)] at this)
      have h2 : k + (tv (l.drop i)).length = q := by rw [tv_len, List.length_drop, HL.out]; have := HQ.out; have := HK.out; omega
      rw [h2] at h1
      rw [h1, tv_app, tv_app, tv_take, ← take_of_take HTK.out hin, List.take_append_of_le_length (by rw [List.length_take, HCL.out]; omega), List.take_take, Nat.min_self]
    · have g12 : Wrote (fun k => (Value.slice (some ⟨g, 0, none⟩) n cap).ownBlock = some k) w w2 := (Wrote.of_below b1).trans g2 (fun j hj e => by have := HN.out; omega)
      exact (g12.next (Below.refl _ w2).drew).trans g3 (fun j hj e => by have := HN.out; omega)
    · right
      have := HN.out
      injection e with e
      simp at e
      omega
  · -- in place
    have hqc : q ≤ cap := by omega
    have hcut2 := cut_hi_w (some ⟨g, 0, none⟩) n cap q (by omega)
    have hcut3 := cut_lo_strs (some ⟨g, 0, none⟩) q cap k (by have := HQ.out; have := HK.out; omega) hqc
    have hcut4 := cut_lo_strs (some ⟨g, 0, none⟩) q cap i (by have := HQ.out; omega) hqc
    obtain ⟨vc, HV⟩ := hpl ad rfl
    have hsp : ad.spot = none := by
      obtain ⟨b', off', e', _⟩ := hr.cell 0 _ (List.getElem?_eq_getElem (show 0 < r.length by rw [HR.out]; exact hmp.out))
      injection e' with e'
      rw [e']
    have hov : (callFunc 97 #[.slice (some ad) m c, .slice (cutA (some ⟨g, 0, none⟩) cap k) (q - k) (cap - k)]).run Try.prog w = .ok (.value (.bool false)) w := by
      rw [cutA_some (by have := HQ.out; have := HK.out; omega)]
      exact run_overlaps_w w ad ⟨g, k, none⟩ m c (q - k) (cap - k) (fun e => HNE.out e.symm) HV HRW.out (fun e => by have := HCL.out; rw [e] at this; simp at this; omega) hsp
    clear HV vc
    have e1 : (tv (l.drop i)).length = Nat.min (q - i) (q - k) := minR (by rw [tv_len, List.length_drop, HL.out]; have := HQ.out; have := HK.out; omega) (by have := HK.out; omega)
    have e2 : RowV w.drew g cur := HRW.out
    have e3 : 0 < (tv (l.drop i)).length → cutA (some ⟨g, 0, none⟩) cap k = some ⟨g, k, none⟩ ∧ ∃ ad, cutA (some ⟨g, 0, none⟩) cap i = some ad ∧ ∀ j v, (tv (l.drop i))[j]? = some v → w.drew.cell? (ad.add j) = some v := fun _ => ⟨cutA_some (by have := HQ.out; have := HK.out; omega), _, cutA_some (by omega), row_src e2 _ (tail_src HTK.out)⟩
    have e4 : k + (tv (l.drop i)).length ≤ cur.length := by
      rw [tv_len, List.length_drop, HL.out]
      have := HCL.out; have := HQ.out; have := HK.out
      omega
    have E1 := Lib.hid e1
    have E2 := Lib.hid e2
    have E3 := Lib.hid e3
    have E4 := Lib.hid e4
    clear e1 e2 e3 e4
    go_enter Try.func96, Try.ntmps96
    go_wp2
    go_region_law (refine step_copy_w (.tmp 73) (.tmp 76) (cutA (some ⟨g, 0, none⟩) cap k) (cutA (some ⟨g, 0, none⟩) cap i) (q - k) (cap - k) (q - i) (cap - i) g k cur (tv (l.drop i)) E2.out E1.out E3.out E4.out (tv_one _) (by rfl) (by rfl) (by simp [Act.eval, Act.put]) (by simp [Act.eval, Act.put]) ?_; intro w3 hr3 g3)
    have g3' : Wrote (fun k => k = g) w w3 := (Wrote.of_below (Below.refl _ w).drew).trans g3 (fun _ _ e => e)
    have e4 : i + (tv r).length ≤ (splice cur k (tv (l.drop i))).length := by
      rw [length_splice _ _ _ E4.out, tv_len, HR.out, HCL.out]
      have := HQ.out; omega
    go_wp2_with (refine wpList_copy_w (.tmp 80) (.tmp 81) (cutA (some ⟨g, 0, none⟩) cap i) (some ad) (q - i) (cap - i) m c g i (splice cur k (tv (l.drop i))) (tv r) hr3 (minL (by rw [tv_len, HR.out]) (by have := HQ.out; omega)) (fun _ => ⟨cutA_some (by omega), ad, rfl, src_wrote g3' (fun e => HNE.out e.symm) HSRC.out⟩) e4 (tv_one r) rfl rfl rfl rfl ?_; intro w4 hr4 g4)
    go_ret
    have hsmall : ∀ s ∈ l.take i ++ (r ++ l.drop i), s.size ≤ maxLen := fun s hs => by
      rcases List.mem_append.1 hs with h | h
      · exact ho.small s (List.mem_of_mem_take h)
      · rcases List.mem_append.1 h with h | h
        · exact hr.small s h
        · exact ho.small s (List.mem_of_mem_drop h)
    refine ⟨_, rfl, ownV_of_row hr4 hgb ?_ hqc hcm ?_ ?_ hsmall, ?_, fun k e => .inl e⟩
    · have h1 := HL.out; have h2 := HR.out; have h3 := HQ.out
      simp; omega
    · rw [length_splice _ _ _ e4, length_splice _ _ _ E4.out]
      exact HCL.out
    · have h1 := splice_in1 cur (tv (l.drop i)) (tv r) (i := i) (k := k) (by rw [tv_len, HR.out, HK.out]) E4.out
      have h2 : k + (tv (l.drop i)).length = q := by rw [tv_len, List.length_drop, HL.out]; have := HQ.out; have := HK.out; omega
      rw [h2] at h1
      rw [h1, tv_app, tv_app, tv_take, ← take_of_take HTK.out hin]
    · exact (g3'.trans g4 (fun _ _ e => e)).mono (fun j _ e => by rw [e]; rfl)

end Go.Proofs.Ytnnaigoomipklaa
