/-
  ReadNormal, the model's.
-/
import Derived.Test.YtnimaadjmejmpaaGreatDoorRNorm
import Derived.Test.YtnimaadjmejmpaaGreatDoorRTake
import Derived.Test.YtnimaadjmejmpaaGreatDoorSTxtS
import Derived.Test.YtnimaadjmejmpaaGreatDoorSGoods
import Derived.Test.YtnimaadjmejmpaaGreatDoorLinesS
import Derived.Test.YtnimaadjmejmpaaGreatDoorPart
set_option linter.unusedSimpArgs false
set_option linter.unusedVariables false
namespace Go.Proofs.YtnimaadjmejmpaaGreatDoor
open Go.RowKit M

theorem size_le_total {x : ByteArray} : ∀ {l : List ByteArray}, x ∈ l → x.size ≤ total l
  | [], h => by simp at h
  | y :: l, h => by
    rw [total]
    rcases List.mem_cons.1 h with e | e
    · rw [e]; omega
    · have := size_le_total e; omega
theorem cut_sizes (s : ByteArray) : ∀ x ∈ cutOf s, 1 ≤ x.size ∧ x.size ≤ s.size := by
  intro x hx
  obtain ⟨k, hk, e⟩ := List.getElem_of_mem hx
  have h1 := (cutGo_prop s.data.toList [] (by simp) k x (by rw [show cutGo [] s.data.toList = cutOf s from rfl, List.getElem?_eq_getElem hk, e])).1
  have h2 := size_le_total hx
  rw [← cat_size, cut_cat] at h2
  unfold propB at h1
  simp only [Bool.and_eq_true, decide_eq_true_eq] at h1
  exact ⟨h1.1, h2⟩
theorem cut_count (s : ByteArray) : (cutOf s).length ≤ s.size := by
  have := cut_length s.data.toList []
  rw [Lib.size_eq]
  simpa [cutOf] using this
theorem plain_list (s : ByteArray) : (plain s).data.toList = plainL s.data.toList := by
  unfold plain plainL
  have e : endsL s.data.toList = endsB s := rfl
  rw [e]
  cases h : endsB s
  · rw [if_neg (by simp), if_neg (by simp)]
  · rw [if_pos rfl, if_pos rfl, extract_bs, bs_list, List.drop_zero, Nat.sub_zero, List.dropLast_eq_take, Lib.size_eq]
theorem plain_le (s : ByteArray) : (plain s).size ≤ s.size := by
  unfold plain
  split
  · rw [ByteArray.size_extract]; omega
  · exact Nat.le_refl _
theorem headO_some (f t : Nat) (c : UInt8) (n m k : Nat) (h : c.toNat = k) : headO (some (f, t, c, n, m)) = .tuple #[.agg #[.int .i64 (f : Int), .int .i64 (t : Int), .slice none 0 0, .int .i64 (n : Int), .int .i64 (m : Int), .slice none 0 0], .int .u8 (k : Int), .bool true] := by
  rw [← h]; rfl
theorem sNew_a {l O : List (List UInt8)} {k : Nat} (h : takeS [62, 32] l = (O, l.drop k)) (f t n m : Nat) : sStep f t 97 n m l = ⟨f, t, [], n, m, O.map bs⟩ ∧ (sNew 97 l).2 = l.drop k := by
  have e1 : sOld 97 l = ([], l) := rfl
  have e2 : sMid 97 l = l := rfl
  have e3 : sNew 97 l = (O, l.drop k) := by unfold sNew; rw [e2]; exact h
  unfold sStep
  rw [e1, e3]
  exact ⟨rfl, rfl⟩
theorem sNew_d {l O : List (List UInt8)} {k : Nat} (h : takeS [60, 32] l = (O, l.drop k)) (f t n m : Nat) : sStep f t 100 n m l = ⟨f, t, O.map bs, n, m, []⟩ ∧ (sNew 100 l).2 = l.drop k := by
  have e1 : sOld 100 l = (O, l.drop k) := h
  have e2 : sMid 100 l = l.drop k := by unfold sMid; rw [e1]; rfl
  have e3 : sNew 100 l = ([], l.drop k) := by unfold sNew; rw [e2]; rfl
  unfold sStep
  rw [e1, e3]
  exact ⟨rfl, rfl⟩
theorem sNew_c {l O O2 : List (List UInt8)} {k d k2 : Nat} (h : takeS [60, 32] l = (O, l.drop k)) (hd : (l.drop k).drop 1 = (l.drop k).drop d) (h2 : takeS [62, 32] ((l.drop k).drop d) = (O2, ((l.drop k).drop d).drop k2)) (f t n m : Nat) : sStep f t 99 n m l = ⟨f, t, O.map bs, n, m, O2.map bs⟩ ∧ (sNew 99 l).2 = ((l.drop k).drop d).drop k2 := by
  have e1 : sOld 99 l = (O, l.drop k) := h
  have e2 : sMid 99 l = (l.drop k).drop d := by unfold sMid; rw [e1]; exact hd
  have e3 : sNew 99 l = (O2, ((l.drop k).drop d).drop k2) := by unfold sNew; rw [e2]; exact h2
  unfold sStep
  rw [e1, e3]
  exact ⟨rfl, rfl⟩
theorem cut_one (a : Option Addr) (n c : Nat) (h1 : 1 ≤ n) (h2 : n ≤ c) (w : World) :
    (Instr.slice 33 (.slice a n c) (some (.int .i64 1)) none none).run Tryz.prog w = .ok (.slice (cutA a c 1) (n - 1) (c - 1)) w := by
  have := cut_lo_strs a n c 1 h1 h2 w
  simpa using this
theorem empty_bad {p : List Sp} {x : Sp} (hx : x ∈ p) {t : ByteArray} (ht : t ∈ x.old ++ x.new) (h0 : t.size = 0) : stepsB p = false := by
  cases h : stepsB p with
  | false => rfl
  | true =>
    exfalso
    unfold stepsB at h
    simp only [Bool.and_eq_true] at h
    obtain ⟨s1, s2, _⟩ := stepB_parts (List.all_eq_true.1 h.1 x hx)
    obtain ⟨_, _, _, _, _, _, g1, _⟩ := side_le s1
    obtain ⟨_, _, _, _, _, _, g2, _⟩ := side_le s2
    have : lineB t = true := by
      rcases List.mem_append.1 ht with h5 | h5
      · exact good_lines g1 t h5
      · exact good_lines g2 t h5
    have := (lineB_size this).1
    omega
theorem step_strs3 {w : World} {ops : Array Oper} {o : Oper} {a : Act} {K : Act → World → Prop} {Q : Exit → Act → World → Prop} {E : Prop} (s x : Operand) (base : Nat) (v : Value) (l : List ByteArray) (hown : OwnV w base v l) (A : Option Addr) (m c : Nat) (r : List ByteArray) (hr : Strs w A m r)
    (hbound : l.length + m ≤ 4294967296) (hbase : base ≤ w.heap.size) (hgd : Region.wanted o (yielded ops a.tmps) = true) (ho : o.op = .call { callee := .builtin .append, args := #[s, x], argTypes := #[33, 33] }) (hs : a.eval s = v) (hx : a.eval x = .slice A m c)
    (h : ∀ v' w', OwnV w' base v' (l ++ r) → w.grownBy w' v.ownBlock → (v'.ownBlock = v.ownBlock ∨ v'.ownBlock = some w.heap.size) → K (a.put o.dst v') w') : if Region.wanted o (yielded ops a.tmps) = true then Oper.wp Tryz.prog o a w K Q else E := by
  obtain ⟨i, h1, h2, h3, h4⟩ := info_parts str_info
  exact step_app Tryz.underlying33 h1 h2 h3 h4 s x base v l hown A m c r hr hbound hbase hgd ho hs hx h

set_option maxHeartbeats 8000000 in
set_option maxRecDepth 100000 in
theorem specReadNormal_any (s : ByteArray) (hs : s.size ≤ 1048576) (w : World) :
    Calls Tryz.prog 15 #[.string s] w fun e w' => ∃ v rows, e = .returned (.tuple #[v, .int .i64 (readN s.data.toList).2.1, .bool (readN s.data.toList).2.2]) ∧ OwnSt w' w.heap.size v (readN s.data.toList).1 rows ∧ Below w.heap.size w w' := by
  have HSZ := Lib.hid (Lib.size_eq s)
  by_cases h3 : 3000 < s.size
  · have HB := Lib.hid (readN_long (s := s.data.toList) (by have := HSZ.out; omega))
    go_enter Tryz.func15, Tryz.ntmps15
    go_wp2
    go_ret3
    exact ⟨_, [], by rw [HB.out]; rfl, by rw [HB.out]; exact OwnSt.nil_, Below.refl _ _⟩
  · have HCNT := Lib.hid (cut_count s)
    have HCS := Lib.hid (cut_sizes s)
    go_enter Tryz.func15, Tryz.ntmps15
    go_wp2_with fail
    refine (l1Cut_any s _ hs).mono ?_
    rintro e w1 ⟨v0, rfl, o0, b0⟩
    obtain ⟨n0, HN0⟩ : ∃ n0, Hid ((cutOf s).length = n0) := ⟨_, rfl⟩
    obtain ⟨A0, c0, rfl, h01, h02⟩ := o0.form HN0.out
    have HB0 := Lib.hid b0
    have HST0 := Lib.hid o0.strs
    clear o0 b0
    go_wp2
    go_loopw [5, 6] (fun lv ov w' => ∃ (A : Option Addr) (n c : Nat) (L : List ByteArray) (u : Value) (out : List Sp) (rows : List (List D)), lv = .slice A n c ∧ u = ov ∧ n ≤ c ∧ Strs w1 A n L ∧ OwnSt w' w1.heap.size u out rows ∧ Hid (Parsed s.data.toList out (L.map (·.data.toList))) ∧ Hid (∀ x ∈ L, 1 ≤ x.size ∧ x.size ≤ 3000) ∧ Hid (out.length + n ≤ 3000) ∧ Hid (∀ x ∈ out, x.old.length ≤ 1048576 ∧ x.new.length ≤ 1048576) ∧ Below w1.heap.size w1 w') (fun lv _ _ => slen lv)
    case atStart => exact ⟨A0, n0, c0, cutOf s, _, [], [], rfl, rfl, h01, HST0.out, OwnSt.nil_, Lib.hid (Parsed.start _), Lib.hid (fun x hx => by have := HCS.out x hx; omega), Lib.hid (by have := HCNT.out; have := HN0.out; simp only [List.length_nil]; omega), Lib.hid (fun x hx => by simp at hx), Below.refl _ _⟩
    case round =>
      obtain ⟨A, n, c, L, u, out, rows, rfl, rfl, hnc, hst, ho, HPA, HLS, HOL, HOB, hb⟩ := hrel
      have HSTL := Lib.hid hst.len
      by_cases hn0 : n = 0
      · have hL0 : L = [] := List.eq_nil_of_length_eq_zero (by rw [HSTL.out]; exact hn0)
        subst hL0
        have HPE := Lib.hid (show Parsed s.data.toList out [] from HPA.out)
        have hq0 : decide (0 < n) = false := by simp; omega
        obtain ⟨N, HN⟩ : ∃ N, Hid (out.length = N) := ⟨_, rfl⟩
        obtain ⟨A9, c9, rfl, h91, h92⟩ := ho.form HN.out
        have hN3 : N ≤ 3000 := by have := HOL.out; have := HN.out; omega
        have HSP := Lib.hid ho.sps
        have HOW := Lib.hid ho
        have HBW := Lib.hid hb
        obtain ⟨w2, hw2⟩ : ∃ w2, w2 = wr := ⟨_, rfl⟩
        subst hw2
        clear ho hb hst hn0 HPA HLS HSTL
        go_wp2
        go_loopw [78] (fun i w' => ∃ j : Nat, i = .int .i64 j ∧ j ≤ N ∧ Below w2.heap.size w2 w') (fun i _ => N - (intOf i).toNat)
        case atStart => exact ⟨0, rfl, by omega, Below.refl _ _⟩
        case round =>
          obtain ⟨j, rfl, hj, hbj⟩ := hrel
          by_cases hlt : j < N
          · obtain ⟨b, off, B1, m1, d1, B2, m2, d2, x, rfl, hx, k0, k1, k2, k3, k4, k5, hs1, hmm1, hs2, hmm2, hok⟩ := (HSP.out.below hbj).at_ hlt
            have HXM := Lib.hid (List.mem_of_getElem? hx)
            have hm1 : m1 ≤ 1048576 := by rw [← hs1.len]; exact (HOB.out x HXM.out).1
            have hm2 : m2 ≤ 1048576 := by rw [← hs2.len]; exact (HOB.out x HXM.out).2
            have HL1 := Lib.hid hs1.len
            have HL2 := Lib.hid hs2.len
            obtain ⟨w3, hw3⟩ : ∃ w3, w3 = wr := ⟨_, rfl⟩
            subst hw3
            obtain ⟨W6, HW6⟩ : ∃ W6, Hid (W6 = w3.alloc (.cells #[.int .i64 x.fr, .int .i64 x.to_, .slice B1 m1 d1, .int .i64 x.at_, .int .i64 x.en, .slice B2 m2 d2] 69)) := ⟨_, rfl⟩
            have B6 := Lib.hid (show Below w3.heap.size w3 W6 by rw [HW6.out]; exact below_alloc _ _)
            have q2 : W6.cell? ⟨w3.heap.size, 2, none⟩ = some (.slice B1 m1 d1) := by rw [HW6.out]; simp
            have q5 : W6.cell? ⟨w3.heap.size, 5, none⟩ = some (.slice B2 m2 d2) := by rw [HW6.out]; simp
            have HQL := Lib.hid (cell_lt q2)
            have HS1 := Lib.hid (hs1.below B6.out)
            have HS2 := Lib.hid (hs2.below B6.out)
            obtain ⟨M, HM⟩ : ∃ M, Hid ((x.old ++ x.new).length = M) := ⟨_, rfl⟩
            have hM3 : M ≤ 2097152 := by have h5 := HM.out; rw [List.length_append] at h5; have := HL1.out; have := HL2.out; omega
            have HBJ := Lib.hid hbj
            clear hx hs1 hs2 hok hbj
            go_wp2
            rw [← HW6.out]
            go_region_held3 (fun w' => w'.cell? ⟨w3.heap.size, 2, none⟩ = some (.slice B1 m1 d1) ∧ w'.cell? ⟨w3.heap.size, 5, none⟩ = some (.slice B2 m2 d2)) (first | exact ⟨q2, q5⟩ | exact ⟨cell_keep B5.out q2, cell_keep B5.out q5⟩ | exact K7 | go_keep)
              (first
                | (go_at_call 50; refine (l1OwnT_any B1 m1 d1 x.old W6.drew (HS1.out.below (Below.refl _ W6).drew) hm1).mono ?_; rintro e w5 ⟨v5, rfl, o5, b5⟩
                   have B5 := Lib.hid (show Below W6.heap.size W6 w5 from (Below.refl _ W6).drew.next b5)
                   have O5 := Lib.hid (show OwnV w5 W6.heap.size v5 x.old from o5)
                   clear o5 b5)
                | (refine step_strs3 (.tmp 84) (.tmp 86) W6.heap.size v5 x.old O5.out B2 m2 d2 x.new (HS2.out.below B5.out) (by have := HL1.out; omega) B5.out.size rfl rfl rfl rfl ?_
                   intro v7 w7 o7 g7 p7
                   obtain ⟨A7, c7, rfl, h71, h72⟩ := o7.form HM.out
                   have K7 := (show w7.cell? ⟨w3.heap.size, 2, none⟩ = some (.slice B1 m1 d1) ∧ w7.cell? ⟨w3.heap.size, 5, none⟩ = some (.slice B2 m2 d2) from ⟨g7.cell (cell_keep B5.out q2) (fun e => by have h5 := (O5.out.lt e.symm).1; have h6 := HQL.out; dsimp only at h5 h6; omega), g7.cell (cell_keep B5.out q5) (fun e => by have h5 := (O5.out.lt e.symm).1; have h6 := HQL.out; dsimp only at h5 h6; omega)⟩))
                | fail)
            have HB7 := Lib.hid (show Below W6.heap.size W6 w7 from B5.out.grown g7 B5.out.size (fun k e => (O5.out.lt e).1))
            have O7 := Lib.hid o7
            clear o7 g7 p7 K7
            go_wp2
            go_loopw [89] (fun i w' => ∃ q : Nat, i = .int .i64 q ∧ q ≤ M ∧ Below w7.heap.size w7 w') (fun i _ => M - (intOf i).toNat)
            case atStart => exact ⟨0, rfl, by omega, Below.refl _ _⟩
            case round =>
              obtain ⟨q, rfl, hq, hbq⟩ := hrel
              have HBA := Lib.hid (show Below w2.heap.size w2 wr from ((HBJ.out.next B6.out).next HB7.out).next hbq)
              by_cases hlq : q < M
              · obtain ⟨b7, off7, tx, rfl, htx, htm, e7⟩ := (O7.out.strs.below hbq).at_ hlq
                by_cases h0 : tx.size = 0
                · have HBAD := Lib.hid (HPE.out.no (.inl (empty_bad HXM.out (List.mem_of_getElem? htx) h0)))
                  have hem : tx.toList.isEmpty = true := by
                    rw [ByteArray.toList_eq, List.isEmpty_iff]
                    exact List.eq_nil_of_length_eq_zero (by rw [← Lib.size_eq]; exact h0)
                  clear h0
                  go_wp2
                  go_ret3
                  exact ⟨_, [], by rw [HBAD.out]; rfl, by rw [HBAD.out]; exact OwnSt.nil_, (HB0.out.next HBW.out).next HBA.out⟩
                · have hem : tx.toList.isEmpty = false := by
                    rw [ByteArray.toList_eq]
                    cases hl : tx.data.toList with
                    | nil => exact absurd (by rw [Lib.size_eq, hl]; rfl) h0
                    | cons _ _ => rfl
                  clear h0
                  go_wp2
                  go_roundw
                  case rel => exact ⟨q + 1, by go_num, by omega, hbq⟩
                  case measure => simp [intOf]; omega
              · go_wp2
                go_roundw
                case rel => exact ⟨j + 1, by go_num, by omega, HBA.out⟩
                case measure => simp [intOf]; omega
          · have HSJ := Lib.hid (HSP.out.below hbj)
            have HBJ := Lib.hid hbj
            clear hbj
            cases hg : stepsB out
            · have HBAD := Lib.hid (HPE.out.no (.inl hg))
              have HG := Lib.hid hg
              clear hg
              go_wp2_with fail
              refine (specGoodSteps_any A9 N c9 out _ HSJ.out HOB.out).mono ?_
              rintro e w4 ⟨rfl, b4⟩
              rw [HG.out]
              go_wp2
              go_ret3
              exact ⟨_, [], by rw [HBAD.out]; rfl, by rw [HBAD.out]; exact OwnSt.nil_, ((HB0.out.next HBW.out).next HBJ.out).next b4⟩
            · have HG := Lib.hid hg
              obtain ⟨T, HT⟩ : ∃ T, Hid (bs (stepsT out) = T) := ⟨_, rfl⟩
              by_cases hts : T = s
              · have hq : (T.toList == s.toList) = true := by rw [hts]; exact beq_same s
                have HGD := Lib.hid (HPE.out.yes (by have := HSZ.out; omega) hg (by have e := HT.out; rw [hts] at e; rw [← e, bs_list]))
                clear hg hts
                go_wp2_with fail
                refine (specGoodSteps_any A9 N c9 out _ HSJ.out HOB.out).mono ?_
                rintro e w4 ⟨rfl, b4⟩
                rw [HG.out]
                go_wp2_with fail
                refine (l5Text_any A9 N c9 out _ (HSJ.out.below b4) HG.out).mono ?_
                rintro e w5 ⟨rfl, b5⟩
                rw [HT.out]
                go_wp2
                go_ret3
                exact ⟨_, rows, by rw [HGD.out]; rfl, by rw [HGD.out]; exact (((HOW.out.below HBJ.out).below b4).below b5).more HB0.out.size, (((HB0.out.next HBW.out).next HBJ.out).next b4).next b5⟩
              · have hq : (T.toList == s.toList) = false := beq_other hts
                have HBAD := Lib.hid (HPE.out.no (.inr (fun e => hts (by rw [← HT.out, e, bs_self]))))
                clear hg hts
                go_wp2_with fail
                refine (specGoodSteps_any A9 N c9 out _ HSJ.out HOB.out).mono ?_
                rintro e w4 ⟨rfl, b4⟩
                rw [HG.out]
                go_wp2_with fail
                refine (l5Text_any A9 N c9 out _ (HSJ.out.below b4) HG.out).mono ?_
                rintro e w5 ⟨rfl, b5⟩
                rw [HT.out]
                go_wp2
                go_ret3
                exact ⟨_, [], by rw [HBAD.out]; rfl, by rw [HBAD.out]; exact OwnSt.nil_, (((HB0.out.next HBW.out).next HBJ.out).next b4).next b5⟩

      · obtain ⟨x, L', rfl⟩ : ∃ x L', L = x :: L' := by
          cases L with
          | nil => exact absurd HSTL.out.symm hn0
          | cons x L' => exact ⟨x, L', rfl⟩
        obtain ⟨b, off, x', rfl, hx', hxm, d0⟩ := (hst.below hb).at_ (k := 0) (by omega)
        obtain rfl : x' = x := by simpa using hx'.symm
        have d00 : wr.cell? ⟨b, off, none⟩ = some (.string x') := by simpa using d0
        have hxs := HLS.out x' (by simp)
        have hxs1 := hxs.1
        have hxs2 := hxs.2
        have HPL' := Lib.hid (plain_list x')
        obtain ⟨n1, Hn1⟩ : ∃ n1, Hid (n - 1 = n1) := ⟨_, rfl⟩
        obtain ⟨c1, Hc1⟩ : ∃ c1, Hid (c - 1 = c1) := ⟨_, rfl⟩
        obtain ⟨A1, HA1⟩ : ∃ A1, Hid (cutA (some ⟨b, off, none⟩) c 1 = A1) := ⟨_, rfl⟩
        have hcut1 : ∀ w, (Instr.slice 33 (.slice (some ⟨b, off, none⟩) n c) (some (.int .i64 1)) none none).run Tryz.prog w = .ok (.slice A1 n1 c1) w := fun w => by
          have := cut_one (some ⟨b, off, none⟩) n c (by omega) hnc w
          rw [HA1.out, Hn1.out, Hc1.out] at this
          exact this
        have HST1 := Lib.hid (show Strs w1 A1 n1 L' by
          have := hst.drop_ (lo := 1) (by omega) hnc
          rw [HA1.out, Hn1.out] at this
          exact this)
        have hn1 : n1 + 1 = n := by have := Hn1.out; omega
        have hn1c : n1 ≤ c1 := by have := Hc1.out; omega
        have hn3 : n ≤ 3000 := by have := HOL.out; omega
        have HLS1 := Lib.hid (show ∀ y ∈ L', y.size ≤ 3000 from fun y hy => (HLS.out y (by simp [hy])).2)
        have HLS2 := Lib.hid (show ∀ y ∈ L', 1 ≤ y.size ∧ y.size ≤ 3000 from fun y hy => HLS.out y (by simp [hy]))
        have HPM := Lib.hid (show Parsed s.data.toList out (x'.data.toList :: L'.map (·.data.toList)) from HPA.out)
        have HO := Lib.hid ho
        have HBW := Lib.hid hb
        have HOUL := Lib.hid (show out.length ≤ 1048576 by have := HOL.out; omega)
        have hpl : (plain x').size ≤ 3000 := by have := plain_le x'; omega
        clear hx' d0 hxm hst ho hb hxs HPA HLS HSTL hn0
        cases hrh : readHead (plainL x'.data.toList) with
        | none =>
          have HBAD := Lib.hid (readN_bad (HPM.out.bad hrh))
          have HH := Lib.hid (show headO (readHead (plain x').data.toList) = .tuple #[.agg #[.int .i64 0, .int .i64 0, .slice none 0 0, .int .i64 0, .int .i64 0, .slice none 0 0], .int .u8 0, .bool false] by rw [HPL'.out, hrh]; rfl)
          clear hrh
          go_wp2_with fail
          refine (l1Plain_any x' _ (by unfold maxLen; omega) (by omega)).mono ?_
          rintro e w2 ⟨rfl, rfl⟩
          go_wp2_with fail
          refine (l5Head_any (plain x') hpl _).mono ?_
          rintro e w3 ⟨rfl, b3⟩
          rw [HH.out]
          go_wp2
          go_ret3
          exact ⟨_, [], by rw [HBAD.out]; rfl, by rw [HBAD.out]; exact OwnSt.nil_, ((HB0.out.next HBW.out).next b3).next (below_alloc _ _)⟩
        | some y =>
          obtain ⟨f, t, cc, n', m'⟩ := y
          obtain ⟨hf, ht, hn', hm'⟩ := readHead_le hrh
          have HMORE := Lib.hid (HPM.out.more hrh)
          have HLET := Lib.hid (readHead_letter hrh)
          have HHD := Lib.hid (show headO (readHead (plain x').data.toList) = headO (some (f, t, cc, n', m')) by rw [HPL'.out, hrh])
          clear hrh
          rcases HLET.out with hcc | hcc | hcc
          · -- a: what comes alone
            subst hcc
            have HH := Lib.hid (HHD.out.trans (headO_some f t 97 n' m' 97 rfl))
            go_wp2_with fail
            refine (l1Plain_any x' _ (by unfold maxLen; omega) (by omega)).mono ?_
            rintro e w2 ⟨rfl, rfl⟩
            go_wp2_with fail
            refine (l5Head_any (plain x') hpl _).mono ?_
            rintro e w3 ⟨rfl, b3⟩
            rw [HH.out]
            obtain ⟨W5, HW5⟩ : ∃ W5, Hid (W5 = w3.alloc (.cells #[.int .i64 (f : Int), .int .i64 (t : Int), .slice none 0 0, .int .i64 (n' : Int), .int .i64 (m' : Int), .slice none 0 0] 69)) := ⟨_, rfl⟩
            have b5 : Below w3.heap.size w3 W5 := by rw [HW5.out]; exact below_alloc w3 _
            have HP5 := Lib.hid (show SpBlk W5 w3.heap.size (.int .i64 (f : Int)) (.int .i64 (t : Int)) (.slice none 0 0) (.int .i64 (n' : Int)) (.int .i64 (m' : Int)) (.slice none 0 0) by rw [HW5.out]; exact heap_alloc_new w3 _)
            have B5 := Lib.hid (b3.next b5)
            have HZ := Lib.hid (show w1.heap.size ≤ wr.heap.size ∧ wr.heap.size ≤ w3.heap.size ∧ w3.heap.size < W5.heap.size from ⟨HBW.out.size, b3.size, HP5.out.lt⟩)
            clear b3 b5
            go_wp2_with fail
            rw [← HW5.out]
            refine (l5Take_any A1 n1 c1 L' ⟨#[62, 32]⟩ _ (HST1.out.below (HBW.out.next B5.out)) rfl (by omega) HLS1.out).mono ?_
            rintro e w6 ⟨v6, k, O, rfl, o6, hk, hO, htk, b6⟩
            obtain ⟨q6, Hq6⟩ : ∃ q, Hid ((O.map bs).length = q) := ⟨_, rfl⟩
            obtain ⟨v6a, v6c, rfl, hv61, hv62⟩ := o6.form Hq6.out
            have Hq63 : q6 ≤ 3000 := by have := Hq6.out; rw [List.length_map] at this; omega
            have HTk := Lib.hid htk
            clear htk
            have HPL := Lib.hid (HP5.out.keep b6)
            have HOL6 := Lib.hid ((HO.out.below B5.out).below b6)
            have O6 := Lib.hid o6
            have B6 := Lib.hid b6
            clear o6 b6
            have HOKX := Lib.hid (show SpOk (⟨(f : Int), (t : Int), [], (n' : Int), (m' : Int), O.map bs⟩ : Sp) from ⟨⟨by dsimp only; omega, by dsimp only; omega⟩, ⟨by dsimp only; omega, by dsimp only; omega⟩, ⟨by dsimp only; omega, by dsimp only; omega⟩, ⟨by dsimp only; omega, by dsimp only; omega⟩, ((OwnV.nil_ : OwnV w6 0 (.slice none 0 0) [])).small, (O6.out).small⟩)
            have hcutL := cut_lo_strs A1 n1 c1 k hk hn1c
            have p0 := HPL.out.c0; have p1 := HPL.out.c1; have p2 := HPL.out.c2; have p3 := HPL.out.c3; have p4 := HPL.out.c4; have p5 := HPL.out.c5
            have pz := HPL.out.free
            obtain ⟨wL, HWL⟩ : ∃ wL, Hid (wL = w6.setCell ⟨w3.heap.size, 5, none⟩ (.slice v6a q6 v6c)) := ⟨_, rfl⟩
            have hsL : Wrote (fun i => i = w3.heap.size) w6 wL := by rw [HWL.out]; exact wset _ _ _ _
            have HSL := Lib.hid hsL
            have HSZL := Lib.hid (show w6.heap.size = wL.heap.size by rw [HWL.out]; simp [World.setCell])
            have OUT := Lib.hid (HOL6.out.wrote hsL (fun g e e2 => by have h5 := (HO.out.lt e).2; have h6 := HZ.out; omega))
            have OX5 := Lib.hid (show OwnV wL w1.heap.size (.slice none 0 0) (⟨(f : Int), (t : Int), [], (n' : Int), (m' : Int), O.map bs⟩ : Sp).old from OwnV.nil_)
            have OX6 := Lib.hid (show OwnV wL w1.heap.size (.slice v6a q6 v6c) (⟨(f : Int), (t : Int), [], (n' : Int), (m' : Int), O.map bs⟩ : Sp).new from ((O6.out.wrote HSL.out (fun g e e2 => by have h5 := (O6.out.lt e).1; have h6 := HZ.out; omega)).more (by have h6 := HZ.out; omega)))
            have HF5 := Lib.hid (show ∀ g, (.slice none 0 0 : Value).ownBlock = some g → ¬ BlkR u rows g from (fun g e => by cases e))
            have HF6 := Lib.hid (show ∀ g, (.slice v6a q6 v6c : Value).ownBlock = some g → ¬ BlkR u rows g from (fun g e e2 => by have h5 := (O6.out.lt e).1; have h6 := (HO.out.lt e2).2; have h7 := HZ.out; omega))
            have HNE := Lib.hid (show ∀ g, (.slice none 0 0 : Value).ownBlock = some g → (.slice v6a q6 v6c : Value).ownBlock ≠ some g from (fun g e => by cases e))
            have HBL := Lib.hid (show Below w1.heap.size w1 wL from Wrote.below' ((HBW.out.next B5.out).next B6.out) hsL (fun g e => by have h6 := HZ.out; omega))
            have HLZ := Lib.hid HBL.out.size
            clear hsL
            go_wp2_with (first
              | (at_builtin; rw [← HWL.out]; refine wpList_sp (.tmp 72) (.tmp 74) w1.heap.size u out rows (OUT.out.below (below_alloc _ _)) (⟨(f : Int), (t : Int), [], (n' : Int), (m' : Int), O.map bs⟩ : Sp) HOKX.out (.slice none 0 0) (.slice v6a q6 v6c) (OX5.out.below (below_alloc _ _)) (OX6.out.below (below_alloc _ _)) HF5.out HF6.out HNE.out w6.heap.size (by rw [HSZL.out]; simp) (by rw [HSZL.out]; simp) (by rw [HSZL.out]; simp) (by rw [HSZL.out]; simp) (by rw [HSZL.out]; simp) (by rw [HSZL.out]; simp) HOUL.out (Nat.le_trans HLZ.out (below_alloc _ _).size) rfl rfl rfl rfl ?_
                 intro v9 w9 o9 g9 p9)
              | fail)
            go_roundw
            case rel =>
              refine ⟨_, n1 - k, c1 - k, L'.drop k, v9, out ++ [(⟨(f : Int), (t : Int), [], (n' : Int), (m' : Int), O.map bs⟩ : Sp)], _, rfl, rfl, by omega, HST1.out.drop_ hk hn1c, o9, Lib.hid ?_, Lib.hid (fun y hy => HLS2.out y (by first | exact hy | exact List.mem_of_mem_drop hy | exact List.mem_of_mem_drop (List.mem_of_mem_drop hy) | exact List.mem_of_mem_drop (List.mem_of_mem_drop (List.mem_of_mem_drop hy)))), Lib.hid (by have := HOL.out; rw [List.length_append, List.length_singleton]; omega), Lib.hid (fun y hy => ?_), (HBL.out.next (below_alloc _ _)).grown g9 (Nat.le_trans HLZ.out (below_alloc _ _).size) (fun g e => (HO.out.lt (show BlkR u rows g from List.mem_append.2 (.inl (by simp [e])))).1)⟩
              · have h5 := HMORE.out
                obtain ⟨e1, e2⟩ := sNew_a HTk.out f t n' m'
                rw [e1, e2] at h5
                simpa [List.map_drop] using h5
              · rcases List.mem_append.1 hy with h5 | h5
                · exact HOB.out y h5
                · rw [List.mem_singleton.1 h5]; exact ⟨by simp, by have := Hq6.out; dsimp only; omega⟩
            case measure => simp [slen]; omega
          · -- c: both
            subst hcc
            have HH := Lib.hid (HHD.out.trans (headO_some f t 99 n' m' 99 rfl))
            go_wp2_with fail
            refine (l1Plain_any x' _ (by unfold maxLen; omega) (by omega)).mono ?_
            rintro e w2 ⟨rfl, rfl⟩
            go_wp2_with fail
            refine (l5Head_any (plain x') hpl _).mono ?_
            rintro e w3 ⟨rfl, b3⟩
            rw [HH.out]
            obtain ⟨W5, HW5⟩ : ∃ W5, Hid (W5 = w3.alloc (.cells #[.int .i64 (f : Int), .int .i64 (t : Int), .slice none 0 0, .int .i64 (n' : Int), .int .i64 (m' : Int), .slice none 0 0] 69)) := ⟨_, rfl⟩
            have b5 : Below w3.heap.size w3 W5 := by rw [HW5.out]; exact below_alloc w3 _
            have HP5 := Lib.hid (show SpBlk W5 w3.heap.size (.int .i64 (f : Int)) (.int .i64 (t : Int)) (.slice none 0 0) (.int .i64 (n' : Int)) (.int .i64 (m' : Int)) (.slice none 0 0) by rw [HW5.out]; exact heap_alloc_new w3 _)
            have B5 := Lib.hid (b3.next b5)
            have HZ := Lib.hid (show w1.heap.size ≤ wr.heap.size ∧ wr.heap.size ≤ w3.heap.size ∧ w3.heap.size < W5.heap.size from ⟨HBW.out.size, b3.size, HP5.out.lt⟩)
            clear b3 b5
            go_wp2_with fail
            rw [← HW5.out]
            refine (l5Take_any A1 n1 c1 L' ⟨#[60, 32]⟩ _ (HST1.out.below (HBW.out.next B5.out)) rfl (by omega) HLS1.out).mono ?_
            rintro e w6 ⟨v6, k, O, rfl, o6, hk, hO, htk, b6⟩
            obtain ⟨q6, Hq6⟩ : ∃ q, Hid ((O.map bs).length = q) := ⟨_, rfl⟩
            obtain ⟨v6a, v6c, rfl, hv61, hv62⟩ := o6.form Hq6.out
            have Hq63 : q6 ≤ 3000 := by have := Hq6.out; rw [List.length_map] at this; omega
            have HTk := Lib.hid htk
            clear htk
            have HP6 := Lib.hid (HP5.out.keep b6)
            have p2' := HP6.out.c2
            have pz' := HP6.out.free
            obtain ⟨V6, HV6⟩ : ∃ V6, Hid (V6 = w6.setCell ⟨w3.heap.size, 2, none⟩ (.slice v6a q6 v6c)) := ⟨_, rfl⟩
            have hs6 : Wrote (fun i => i = w3.heap.size) w6 V6 := by rw [HV6.out]; exact wset _ _ _ _
            have HPV := Lib.hid (show SpBlk V6 w3.heap.size (.int .i64 (f : Int)) (.int .i64 (t : Int)) (.slice v6a q6 v6c) (.int .i64 (n' : Int)) (.int .i64 (m' : Int)) (.slice none 0 0) by rw [HV6.out]; exact heap_set_same HP6.out)
            have HOV := Lib.hid (((HO.out.below B5.out).below b6).wrote hs6 (fun g e e2 => by have h5 := (HO.out.lt e).2; have h6 := HZ.out; omega))
            have OV6 := Lib.hid (o6.wrote hs6 (fun g e e2 => by have h5 := (o6.lt e).1; have h6 := HZ.out; omega))
            have HBV := Lib.hid (show Below w1.heap.size w1 V6 from Wrote.below' ((HBW.out.next B5.out).next b6) hs6 (fun g e => by have h6 := HZ.out; omega))
            have HZV := Lib.hid (show W5.heap.size ≤ V6.heap.size from Nat.le_trans b6.size hs6.size)
            obtain ⟨n2, Hn2⟩ : ∃ n2, Hid (n1 - k = n2) := ⟨_, rfl⟩
            obtain ⟨c2, Hc2⟩ : ∃ c2, Hid (c1 - k = c2) := ⟨_, rfl⟩
            obtain ⟨A2, HA2⟩ : ∃ A2, Hid (cutA A1 c1 k = A2) := ⟨_, rfl⟩
            have hcut2 : ∀ w, (Instr.slice 33 (.slice A1 n1 c1) (some (.int .i64 (k : Int))) none none).run Tryz.prog w = .ok (.slice A2 n2 c2) w := fun w => by
              have := cut_lo_strs A1 n1 c1 k hk hn1c w
              rw [HA2.out, Hn2.out, Hc2.out] at this
              exact this
            have HST2 := Lib.hid (show Strs w1 A2 n2 (L'.drop k) by
              have := HST1.out.drop_ hk hn1c
              rw [HA2.out, Hn2.out] at this
              exact this)
            have hn2c : n2 ≤ c2 := by have := Hn2.out; have := Hc2.out; omega
            have hn2 : n2 + k = n1 := by have := Hn2.out; omega
            clear o6 b6 hs6
            by_cases h0 : n2 = 0
            · have hq0 : decide (0 < n2) = false := by simp; omega
              have hq0' : ((n2 : Int) > 0) = False := by simp; omega
              have HD := Lib.hid (show ((L'.map (·.data.toList)).drop k).drop 1 = ((L'.map (·.data.toList)).drop k).drop 0 by
                have h5 : ((L'.map (·.data.toList)).drop k).length = 0 := by have := HST2.out.len; simp at this ⊢; omega
                rw [List.eq_nil_of_length_eq_zero h5]; rfl)
              have H0 := Lib.hid h0
              clear h0
              go_wp2_with fail
              rw [← HV6.out]
              refine (l5Take_any A2 n2 c2 (L'.drop k) ⟨#[62, 32]⟩ _ (HST2.out.below HBV.out) rfl (by omega) (fun y hy => HLS1.out y (List.mem_of_mem_drop hy))).mono ?_
              rintro e w8 ⟨v8, k2, O2, rfl, o8, hk2, hO2, htk2, b8⟩
              obtain ⟨q8, Hq8⟩ : ∃ q, Hid ((O2.map bs).length = q) := ⟨_, rfl⟩
              obtain ⟨v8a, v8c, rfl, hv81, hv82⟩ := o8.form Hq8.out
              have Hq83 : q8 ≤ 3000 := by have := Hq8.out; rw [List.length_map] at this; omega
              have HTk2 := Lib.hid htk2
              clear htk2
              have HPL := Lib.hid (HPV.out.keep b8)
              have HOL6 := Lib.hid (HOV.out.below b8)
              have O6 := Lib.hid (OV6.out.below b8)
              have O8 := Lib.hid o8
              have B8 := Lib.hid b8
              have HAP := Lib.hid (show ∀ g, (Value.slice v6a q6 v6c).ownBlock = some g → g < V6.heap.size from fun g e => (OV6.out.lt e).2)
              clear o8 b8
              have HOKX := Lib.hid (show SpOk (⟨(f : Int), (t : Int), O.map bs, (n' : Int), (m' : Int), O2.map bs⟩ : Sp) from ⟨⟨by dsimp only; omega, by dsimp only; omega⟩, ⟨by dsimp only; omega, by dsimp only; omega⟩, ⟨by dsimp only; omega, by dsimp only; omega⟩, ⟨by dsimp only; omega, by dsimp only; omega⟩, (O6.out).small, (O8.out).small⟩)
              have hcutL := cut_lo_strs A2 n2 c2 k2 hk2 hn2c
              have p0 := HPL.out.c0; have p1 := HPL.out.c1; have p2 := HPL.out.c2; have p3 := HPL.out.c3; have p4 := HPL.out.c4; have p5 := HPL.out.c5
              have pz := HPL.out.free
              obtain ⟨wL, HWL⟩ : ∃ wL, Hid (wL = w8.setCell ⟨w3.heap.size, 5, none⟩ (.slice v8a q8 v8c)) := ⟨_, rfl⟩
              have hsL : Wrote (fun i => i = w3.heap.size) w8 wL := by rw [HWL.out]; exact wset _ _ _ _
              have HSL := Lib.hid hsL
              have HSZL := Lib.hid (show w8.heap.size = wL.heap.size by rw [HWL.out]; simp [World.setCell])
              have OUT := Lib.hid (HOL6.out.wrote hsL (fun g e e2 => by have h5 := (HO.out.lt e).2; have h6 := HZ.out; omega))
              have OX5 := Lib.hid (show OwnV wL w1.heap.size (.slice v6a q6 v6c) (⟨(f : Int), (t : Int), O.map bs, (n' : Int), (m' : Int), O2.map bs⟩ : Sp).old from ((O6.out.wrote HSL.out (fun g e e2 => by have h5 := (O6.out.lt e).1; have h6 := HZ.out; omega)).more (by have h6 := HZ.out; omega)))
              have OX6 := Lib.hid (show OwnV wL w1.heap.size (.slice v8a q8 v8c) (⟨(f : Int), (t : Int), O.map bs, (n' : Int), (m' : Int), O2.map bs⟩ : Sp).new from ((O8.out.wrote HSL.out (fun g e e2 => by have h5 := (O8.out.lt e).1; have h6 := HZ.out; have h7 := HZV.out; omega)).more (by have h6 := HZ.out; have h7 := HZV.out; omega)))
              have HF5 := Lib.hid (show ∀ g, (.slice v6a q6 v6c : Value).ownBlock = some g → ¬ BlkR u rows g from (fun g e e2 => by have h5 := (O6.out.lt e).1; have h6 := (HO.out.lt e2).2; have h7 := HZ.out; omega))
              have HF6 := Lib.hid (show ∀ g, (.slice v8a q8 v8c : Value).ownBlock = some g → ¬ BlkR u rows g from (fun g e e2 => by have h5 := (O8.out.lt e).1; have h6 := (HO.out.lt e2).2; have h7 := HZ.out; have h8 := HZV.out; omega))
              have HNE := Lib.hid (show ∀ g, (.slice v6a q6 v6c : Value).ownBlock = some g → (.slice v8a q8 v8c : Value).ownBlock ≠ some g from (fun g e e2 => by have h5 := HAP.out g e; have h6 := (O8.out.lt e2).1; omega))
              have HBL := Lib.hid (show Below w1.heap.size w1 wL from Wrote.below' (HBV.out.next B8.out) hsL (fun g e => by have h6 := HZ.out; omega))
              have HLZ := Lib.hid HBL.out.size
              clear hsL
              go_wp2_with (first
                | (at_builtin; rw [← HWL.out]; refine wpList_sp (.tmp 72) (.tmp 74) w1.heap.size u out rows (OUT.out.below (below_alloc _ _)) (⟨(f : Int), (t : Int), O.map bs, (n' : Int), (m' : Int), O2.map bs⟩ : Sp) HOKX.out (.slice v6a q6 v6c) (.slice v8a q8 v8c) (OX5.out.below (below_alloc _ _)) (OX6.out.below (below_alloc _ _)) HF5.out HF6.out HNE.out w8.heap.size (by rw [HSZL.out]; simp) (by rw [HSZL.out]; simp) (by rw [HSZL.out]; simp) (by rw [HSZL.out]; simp) (by rw [HSZL.out]; simp) (by rw [HSZL.out]; simp) HOUL.out (Nat.le_trans HLZ.out (below_alloc _ _).size) rfl rfl rfl rfl ?_
                   intro v9 w9 o9 g9 p9)
                | fail)
              go_roundw
              case rel =>
                refine ⟨_, n2 - k2, c2 - k2, (L'.drop k).drop k2, v9, out ++ [(⟨(f : Int), (t : Int), O.map bs, (n' : Int), (m' : Int), O2.map bs⟩ : Sp)], _, rfl, rfl, by omega, HST2.out.drop_ hk2 hn2c, o9, Lib.hid ?_, Lib.hid (fun y hy => HLS2.out y (by first | exact hy | exact List.mem_of_mem_drop hy | exact List.mem_of_mem_drop (List.mem_of_mem_drop hy) | exact List.mem_of_mem_drop (List.mem_of_mem_drop (List.mem_of_mem_drop hy)))), Lib.hid (by have := HOL.out; rw [List.length_append, List.length_singleton]; omega), Lib.hid (fun y hy => ?_), (HBL.out.next (below_alloc _ _)).grown g9 (Nat.le_trans HLZ.out (below_alloc _ _).size) (fun g e => (HO.out.lt (show BlkR u rows g from List.mem_append.2 (.inl (by simp [e])))).1)⟩
                · have h5 := HMORE.out
                  obtain ⟨e1, e2⟩ := sNew_c HTk.out HD.out (show takeS [62, 32] (((L'.map (·.data.toList)).drop k).drop 0) = (O2, (((L'.map (·.data.toList)).drop k).drop 0).drop k2) by have := HTk2.out; simpa [List.map_drop] using this) f t n' m'
                  rw [e1, e2] at h5
                  simpa [List.map_drop] using h5
                · rcases List.mem_append.1 hy with h5 | h5
                  · exact HOB.out y h5
                  · rw [List.mem_singleton.1 h5]; exact ⟨by have := Hq6.out; dsimp only; omega, by have := Hq8.out; dsimp only; omega⟩
              case measure => simp [slen]; omega
            · have hq0 : decide (0 < n2) = true := by simp; omega
              obtain ⟨n3, Hn3⟩ : ∃ n3, Hid (n2 - 1 = n3) := ⟨_, rfl⟩
              obtain ⟨c3, Hc3⟩ : ∃ c3, Hid (c2 - 1 = c3) := ⟨_, rfl⟩
              obtain ⟨A3, HA3⟩ : ∃ A3, Hid (cutA A2 c2 1 = A3) := ⟨_, rfl⟩
              have hcut3 : ∀ w, (Instr.slice 33 (.slice A2 n2 c2) (some (.int .i64 1)) none none).run Tryz.prog w = .ok (.slice A3 n3 c3) w := fun w => by
                have := cut_one A2 n2 c2 (by omega) hn2c w
                rw [HA3.out, Hn3.out, Hc3.out] at this
                exact this
              have HST3 := Lib.hid (show Strs w1 A3 n3 ((L'.drop k).drop 1) by
                have := HST2.out.drop_ (lo := 1) (by omega) hn2c
                rw [HA3.out, Hn3.out] at this
                exact this)
              have hn3c : n3 ≤ c3 := by have := Hn3.out; have := Hc3.out; omega
              have hn23 : n3 + 1 = n2 := by have := Hn3.out; omega
              go_wp2_with fail
              rw [← HV6.out]
              refine (l5Take_any A3 n3 c3 ((L'.drop k).drop 1) ⟨#[62, 32]⟩ _ (HST3.out.below HBV.out) rfl (by omega) (fun y hy => HLS1.out y (List.mem_of_mem_drop (List.mem_of_mem_drop hy)))).mono ?_
              rintro e w8 ⟨v8, k2, O2, rfl, o8, hk2, hO2, htk2, b8⟩
              obtain ⟨q8, Hq8⟩ : ∃ q, Hid ((O2.map bs).length = q) := ⟨_, rfl⟩
              obtain ⟨v8a, v8c, rfl, hv81, hv82⟩ := o8.form Hq8.out
              have Hq83 : q8 ≤ 3000 := by have := Hq8.out; rw [List.length_map] at this; omega
              have HTk2 := Lib.hid htk2
              clear htk2
              have HPL := Lib.hid (HPV.out.keep b8)
              have HOL6 := Lib.hid (HOV.out.below b8)
              have O6 := Lib.hid (OV6.out.below b8)
              have O8 := Lib.hid o8
              have B8 := Lib.hid b8
              have HAP := Lib.hid (show ∀ g, (Value.slice v6a q6 v6c).ownBlock = some g → g < V6.heap.size from fun g e => (OV6.out.lt e).2)
              clear o8 b8
              have HOKX := Lib.hid (show SpOk (⟨(f : Int), (t : Int), O.map bs, (n' : Int), (m' : Int), O2.map bs⟩ : Sp) from ⟨⟨by dsimp only; omega, by dsimp only; omega⟩, ⟨by dsimp only; omega, by dsimp only; omega⟩, ⟨by dsimp only; omega, by dsimp only; omega⟩, ⟨by dsimp only; omega, by dsimp only; omega⟩, (O6.out).small, (O8.out).small⟩)
              have hcutL := cut_lo_strs A3 n3 c3 k2 hk2 hn3c
              have p0 := HPL.out.c0; have p1 := HPL.out.c1; have p2 := HPL.out.c2; have p3 := HPL.out.c3; have p4 := HPL.out.c4; have p5 := HPL.out.c5
              have pz := HPL.out.free
              obtain ⟨wL, HWL⟩ : ∃ wL, Hid (wL = w8.setCell ⟨w3.heap.size, 5, none⟩ (.slice v8a q8 v8c)) := ⟨_, rfl⟩
              have hsL : Wrote (fun i => i = w3.heap.size) w8 wL := by rw [HWL.out]; exact wset _ _ _ _
              have HSL := Lib.hid hsL
              have HSZL := Lib.hid (show w8.heap.size = wL.heap.size by rw [HWL.out]; simp [World.setCell])
              have OUT := Lib.hid (HOL6.out.wrote hsL (fun g e e2 => by have h5 := (HO.out.lt e).2; have h6 := HZ.out; omega))
              have OX5 := Lib.hid (show OwnV wL w1.heap.size (.slice v6a q6 v6c) (⟨(f : Int), (t : Int), O.map bs, (n' : Int), (m' : Int), O2.map bs⟩ : Sp).old from ((O6.out.wrote HSL.out (fun g e e2 => by have h5 := (O6.out.lt e).1; have h6 := HZ.out; omega)).more (by have h6 := HZ.out; omega)))
              have OX6 := Lib.hid (show OwnV wL w1.heap.size (.slice v8a q8 v8c) (⟨(f : Int), (t : Int), O.map bs, (n' : Int), (m' : Int), O2.map bs⟩ : Sp).new from ((O8.out.wrote HSL.out (fun g e e2 => by have h5 := (O8.out.lt e).1; have h6 := HZ.out; have h7 := HZV.out; omega)).more (by have h6 := HZ.out; have h7 := HZV.out; omega)))
              have HF5 := Lib.hid (show ∀ g, (.slice v6a q6 v6c : Value).ownBlock = some g → ¬ BlkR u rows g from (fun g e e2 => by have h5 := (O6.out.lt e).1; have h6 := (HO.out.lt e2).2; have h7 := HZ.out; omega))
              have HF6 := Lib.hid (show ∀ g, (.slice v8a q8 v8c : Value).ownBlock = some g → ¬ BlkR u rows g from (fun g e e2 => by have h5 := (O8.out.lt e).1; have h6 := (HO.out.lt e2).2; have h7 := HZ.out; have h8 := HZV.out; omega))
              have HNE := Lib.hid (show ∀ g, (.slice v6a q6 v6c : Value).ownBlock = some g → (.slice v8a q8 v8c : Value).ownBlock ≠ some g from (fun g e e2 => by have h5 := HAP.out g e; have h6 := (O8.out.lt e2).1; omega))
              have HBL := Lib.hid (show Below w1.heap.size w1 wL from Wrote.below' (HBV.out.next B8.out) hsL (fun g e => by have h6 := HZ.out; omega))
              have HLZ := Lib.hid HBL.out.size
              clear hsL
              go_wp2_with (first
                | (at_builtin; rw [← HWL.out]; refine wpList_sp (.tmp 72) (.tmp 74) w1.heap.size u out rows (OUT.out.below (below_alloc _ _)) (⟨(f : Int), (t : Int), O.map bs, (n' : Int), (m' : Int), O2.map bs⟩ : Sp) HOKX.out (.slice v6a q6 v6c) (.slice v8a q8 v8c) (OX5.out.below (below_alloc _ _)) (OX6.out.below (below_alloc _ _)) HF5.out HF6.out HNE.out w8.heap.size (by rw [HSZL.out]; simp) (by rw [HSZL.out]; simp) (by rw [HSZL.out]; simp) (by rw [HSZL.out]; simp) (by rw [HSZL.out]; simp) (by rw [HSZL.out]; simp) HOUL.out (Nat.le_trans HLZ.out (below_alloc _ _).size) rfl rfl rfl rfl ?_
                   intro v9 w9 o9 g9 p9)
                | fail)
              go_roundw
              case rel =>
                refine ⟨_, n3 - k2, c3 - k2, ((L'.drop k).drop 1).drop k2, v9, out ++ [(⟨(f : Int), (t : Int), O.map bs, (n' : Int), (m' : Int), O2.map bs⟩ : Sp)], _, rfl, rfl, by omega, HST3.out.drop_ hk2 hn3c, o9, Lib.hid ?_, Lib.hid (fun y hy => HLS2.out y (by first | exact hy | exact List.mem_of_mem_drop hy | exact List.mem_of_mem_drop (List.mem_of_mem_drop hy) | exact List.mem_of_mem_drop (List.mem_of_mem_drop (List.mem_of_mem_drop hy)))), Lib.hid (by have := HOL.out; rw [List.length_append, List.length_singleton]; omega), Lib.hid (fun y hy => ?_), (HBL.out.next (below_alloc _ _)).grown g9 (Nat.le_trans HLZ.out (below_alloc _ _).size) (fun g e => (HO.out.lt (show BlkR u rows g from List.mem_append.2 (.inl (by simp [e])))).1)⟩
                · have h5 := HMORE.out
                  obtain ⟨e1, e2⟩ := sNew_c HTk.out rfl (show takeS [62, 32] (((L'.map (·.data.toList)).drop k).drop 1) = (O2, (((L'.map (·.data.toList)).drop k).drop 1).drop k2) by have := HTk2.out; simpa [List.map_drop] using this) f t n' m'
                  rw [e1, e2] at h5
                  simpa [List.map_drop] using h5
                · rcases List.mem_append.1 hy with h5 | h5
                  · exact HOB.out y h5
                  · rw [List.mem_singleton.1 h5]; exact ⟨by have := Hq6.out; dsimp only; omega, by have := Hq8.out; dsimp only; omega⟩
              case measure => simp [slen]; omega
          · -- d: what goes alone
            subst hcc
            have HH := Lib.hid (HHD.out.trans (headO_some f t 100 n' m' 100 rfl))
            go_wp2_with fail
            refine (l1Plain_any x' _ (by unfold maxLen; omega) (by omega)).mono ?_
            rintro e w2 ⟨rfl, rfl⟩
            go_wp2_with fail
            refine (l5Head_any (plain x') hpl _).mono ?_
            rintro e w3 ⟨rfl, b3⟩
            rw [HH.out]
            obtain ⟨W5, HW5⟩ : ∃ W5, Hid (W5 = w3.alloc (.cells #[.int .i64 (f : Int), .int .i64 (t : Int), .slice none 0 0, .int .i64 (n' : Int), .int .i64 (m' : Int), .slice none 0 0] 69)) := ⟨_, rfl⟩
            have b5 : Below w3.heap.size w3 W5 := by rw [HW5.out]; exact below_alloc w3 _
            have HP5 := Lib.hid (show SpBlk W5 w3.heap.size (.int .i64 (f : Int)) (.int .i64 (t : Int)) (.slice none 0 0) (.int .i64 (n' : Int)) (.int .i64 (m' : Int)) (.slice none 0 0) by rw [HW5.out]; exact heap_alloc_new w3 _)
            have B5 := Lib.hid (b3.next b5)
            have HZ := Lib.hid (show w1.heap.size ≤ wr.heap.size ∧ wr.heap.size ≤ w3.heap.size ∧ w3.heap.size < W5.heap.size from ⟨HBW.out.size, b3.size, HP5.out.lt⟩)
            clear b3 b5
            go_wp2_with fail
            rw [← HW5.out]
            refine (l5Take_any A1 n1 c1 L' ⟨#[60, 32]⟩ _ (HST1.out.below (HBW.out.next B5.out)) rfl (by omega) HLS1.out).mono ?_
            rintro e w6 ⟨v6, k, O, rfl, o6, hk, hO, htk, b6⟩
            obtain ⟨q6, Hq6⟩ : ∃ q, Hid ((O.map bs).length = q) := ⟨_, rfl⟩
            obtain ⟨v6a, v6c, rfl, hv61, hv62⟩ := o6.form Hq6.out
            have Hq63 : q6 ≤ 3000 := by have := Hq6.out; rw [List.length_map] at this; omega
            have HTk := Lib.hid htk
            clear htk
            have HPL := Lib.hid (HP5.out.keep b6)
            have HOL6 := Lib.hid ((HO.out.below B5.out).below b6)
            have O6 := Lib.hid o6
            have B6 := Lib.hid b6
            clear o6 b6
            have HOKX := Lib.hid (show SpOk (⟨(f : Int), (t : Int), O.map bs, (n' : Int), (m' : Int), []⟩ : Sp) from ⟨⟨by dsimp only; omega, by dsimp only; omega⟩, ⟨by dsimp only; omega, by dsimp only; omega⟩, ⟨by dsimp only; omega, by dsimp only; omega⟩, ⟨by dsimp only; omega, by dsimp only; omega⟩, (O6.out).small, ((OwnV.nil_ : OwnV w6 0 (.slice none 0 0) [])).small⟩)
            have hcutL := cut_lo_strs A1 n1 c1 k hk hn1c
            have p0 := HPL.out.c0; have p1 := HPL.out.c1; have p2 := HPL.out.c2; have p3 := HPL.out.c3; have p4 := HPL.out.c4; have p5 := HPL.out.c5
            have pz := HPL.out.free
            obtain ⟨wL, HWL⟩ : ∃ wL, Hid (wL = w6.setCell ⟨w3.heap.size, 2, none⟩ (.slice v6a q6 v6c)) := ⟨_, rfl⟩
            have hsL : Wrote (fun i => i = w3.heap.size) w6 wL := by rw [HWL.out]; exact wset _ _ _ _
            have HSL := Lib.hid hsL
            have HSZL := Lib.hid (show w6.heap.size = wL.heap.size by rw [HWL.out]; simp [World.setCell])
            have OUT := Lib.hid (HOL6.out.wrote hsL (fun g e e2 => by have h5 := (HO.out.lt e).2; have h6 := HZ.out; omega))
            have OX5 := Lib.hid (show OwnV wL w1.heap.size (.slice v6a q6 v6c) (⟨(f : Int), (t : Int), O.map bs, (n' : Int), (m' : Int), []⟩ : Sp).old from ((O6.out.wrote HSL.out (fun g e e2 => by have h5 := (O6.out.lt e).1; have h6 := HZ.out; omega)).more (by have h6 := HZ.out; omega)))
            have OX6 := Lib.hid (show OwnV wL w1.heap.size (.slice none 0 0) (⟨(f : Int), (t : Int), O.map bs, (n' : Int), (m' : Int), []⟩ : Sp).new from OwnV.nil_)
            have HF5 := Lib.hid (show ∀ g, (.slice v6a q6 v6c : Value).ownBlock = some g → ¬ BlkR u rows g from (fun g e e2 => by have h5 := (O6.out.lt e).1; have h6 := (HO.out.lt e2).2; have h7 := HZ.out; omega))
            have HF6 := Lib.hid (show ∀ g, (.slice none 0 0 : Value).ownBlock = some g → ¬ BlkR u rows g from (fun g e => by cases e))
            have HNE := Lib.hid (show ∀ g, (.slice v6a q6 v6c : Value).ownBlock = some g → (.slice none 0 0 : Value).ownBlock ≠ some g from (fun g e e2 => by cases e2))
            have HBL := Lib.hid (show Below w1.heap.size w1 wL from Wrote.below' ((HBW.out.next B5.out).next B6.out) hsL (fun g e => by have h6 := HZ.out; omega))
            have HLZ := Lib.hid HBL.out.size
            clear hsL
            go_wp2_with (first
              | (at_builtin; rw [← HWL.out]; refine wpList_sp (.tmp 72) (.tmp 74) w1.heap.size u out rows (OUT.out.below (below_alloc _ _)) (⟨(f : Int), (t : Int), O.map bs, (n' : Int), (m' : Int), []⟩ : Sp) HOKX.out (.slice v6a q6 v6c) (.slice none 0 0) (OX5.out.below (below_alloc _ _)) (OX6.out.below (below_alloc _ _)) HF5.out HF6.out HNE.out w6.heap.size (by rw [HSZL.out]; simp) (by rw [HSZL.out]; simp) (by rw [HSZL.out]; simp) (by rw [HSZL.out]; simp) (by rw [HSZL.out]; simp) (by rw [HSZL.out]; simp) HOUL.out (Nat.le_trans HLZ.out (below_alloc _ _).size) rfl rfl rfl rfl ?_
                 intro v9 w9 o9 g9 p9)
              | fail)
            go_roundw
            case rel =>
              refine ⟨_, n1 - k, c1 - k, L'.drop k, v9, out ++ [(⟨(f : Int), (t : Int), O.map bs, (n' : Int), (m' : Int), []⟩ : Sp)], _, rfl, rfl, by omega, HST1.out.drop_ hk hn1c, o9, Lib.hid ?_, Lib.hid (fun y hy => HLS2.out y (by first | exact hy | exact List.mem_of_mem_drop hy | exact List.mem_of_mem_drop (List.mem_of_mem_drop hy) | exact List.mem_of_mem_drop (List.mem_of_mem_drop (List.mem_of_mem_drop hy)))), Lib.hid (by have := HOL.out; rw [List.length_append, List.length_singleton]; omega), Lib.hid (fun y hy => ?_), (HBL.out.next (below_alloc _ _)).grown g9 (Nat.le_trans HLZ.out (below_alloc _ _).size) (fun g e => (HO.out.lt (show BlkR u rows g from List.mem_append.2 (.inl (by simp [e])))).1)⟩
              · have h5 := HMORE.out
                obtain ⟨e1, e2⟩ := sNew_d HTk.out f t n' m'
                rw [e1, e2] at h5
                simpa [List.map_drop] using h5
              · rcases List.mem_append.1 hy with h5 | h5
                · exact HOB.out y h5
                · rw [List.mem_singleton.1 h5]; exact ⟨by have := Hq6.out; dsimp only; omega, by simp⟩
            case measure => simp [slen]; omega

end Go.Proofs.YtnimaadjmejmpaaGreatDoor
