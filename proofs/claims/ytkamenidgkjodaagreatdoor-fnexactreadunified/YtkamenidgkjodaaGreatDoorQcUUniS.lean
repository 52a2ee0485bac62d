/-
  ReadUnified, the model's: the loop over the lines.
-/
import Derived.Test.YtkamenidgkjodaaGreatDoorQcUHeadS
import Derived.Test.YtkamenidgkjodaaGreatDoorQcHPatch
import Derived.Test.YtkamenidgkjodaaGreatDoorQcUTexts
import Derived.Test.YtkamenidgkjodaaGreatDoorQcGGoodT
set_option linter.unusedSimpArgs false
set_option linter.unusedVariables false
namespace Go.Proofs.YtkamenidgkjodaaGreatDoor
open Go.RowKit M

theorem map_data (L : List ByteArray) (n : Nat) : (L.drop n).map (·.data.toList) = (L.map (·.data.toList)).drop n := List.map_drop
theorem cat_bs (L : List ByteArray) : cat L = bs ((L.map (·.data.toList)).flatten) := by
  apply bytes_ext
  rw [bs_list]; rfl

set_option maxHeartbeats 8000000 in
set_option maxRecDepth 100000 in
theorem specReadUnified_any (s : ByteArray) (hs : s.size ≤ 1048576) (w : World) :
    Calls Tryz.prog 15 #[.string s] w fun e w' => ReadPost s w e w' := by
  have HSZ := Lib.hid (Lib.size_eq s)
  by_cases h3 : 3000 < s.size
  · have HB := Lib.hid (ReadIs.long (s := s.data.toList) (by have := HSZ.out; omega))
    have hq := eq_true (show (3000 : Int) < (s.size : Int) by omega)
    clear h3
    go_enter Tryz.func15, Tryz.ntmps15
    go_wp2
    go_ret3
    exact ⟨_, [], [], 1, false, rfl, OwnGp.nil_, HB.out, Below.refl _ _⟩
  have hq := eq_false (show ¬ (3000 : Int) < (s.size : Int) by omega)
  have HS3 := Lib.hid (show s.data.toList.length ≤ 3000 by have := HSZ.out; omega)
  have HCN := Lib.hid (cut_count s)
  have HCS := Lib.hid (cut_sizes s)
  have HS4 := Lib.hid (show s.size ≤ 3000 by omega)
  clear h3
  go_enter Tryz.func15, Tryz.ntmps15
  go_wp2_with fail
  refine (l1Cut_any s _ hs).mono ?_
  rintro e w1 ⟨v0, rfl, o0, b0⟩
  obtain ⟨n0, HN0⟩ : ∃ n0, Hid ((cutOf s).length = n0) := ⟨_, rfl⟩
  obtain ⟨A0, c0, rfl, h01, h02⟩ := o0.form HN0.out
  have HST0 := Lib.hid o0.strs
  have HB0 := Lib.hid b0
  clear o0 b0
  go_wp2
  go_loopw [5, 6, 7] (fun lv ov wv w' => ∃ (A : Option Addr) (n c : Nat) (L : List ByteArray) (v : Value) (vs : List (List D)) (out : List Gp) (want : List UInt8), lv = .slice A n c ∧ v = ov ∧ wv = .string (bs want) ∧ n ≤ c ∧ Hid (Strs w1 A n L) ∧ Hid (OwnGp w' w1.heap.size v out vs) ∧ Hid (LinesAt s.data.toList out want (L.map (·.data.toList))) ∧ Hid (∀ x ∈ L, 1 ≤ x.size ∧ x.size ≤ 3000) ∧ Below w1.heap.size w1 w') (fun lv _ _ _ => slenU lv)
  case atStart => exact ⟨A0, n0, c0, cutOf s, _, [], [], [], rfl, rfl, rfl, h01, HST0, Lib.hid OwnGp.nil_, Lib.hid (LinesAt.start (lines_cut s) (flat_cut s) (by rw [List.length_map]; have := HCN.out; have := HSZ.out; omega)), Lib.hid (fun x hx => by have := HCS.out x hx; have := HS4.out; omega), Below.refl _ _⟩
  case round =>
    obtain ⟨A, n, c, L, v, vs, out, want, rfl, rfl, rfl, hnc, HST, HO, HA, HLS, hb⟩ := hrel
    have HBB := Lib.hid hb
    have HLN := Lib.hid HST.out.len
    have hmany := HA.out.many
    rw [List.length_map, HLN.out] at hmany
    have hs3 := HS3.out
    have hout : out.length ≤ 3000 := by omega
    have hn3 : n ≤ 3000 := by omega
    have HFT := Lib.hid HA.out.flat
    have HWD := Lib.hid HA.out.wide
    clear hb
    by_cases hn0 : n = 0
    · have hz : decide (0 < n) = false := by simp; omega
      have hL0 : L = [] := List.eq_nil_of_length_eq_zero (by rw [HLN.out]; exact hn0)
      subst hL0
      have HE := Lib.hid (show LinesAt s.data.toList out want [] from HA.out)
      obtain ⟨N, HN⟩ : ∃ N, Hid (out.length = N) := ⟨_, rfl⟩
      obtain ⟨A9, c9, rfl, h91, _⟩ := HO.out.form HN.out
      have HSMW := Lib.hid (show ∀ x ∈ out, x.rows.length ≤ 1048576 from fun x hx => by obtain ⟨_, _, _, _, _, h⟩ := HE.out.size x hx; omega)
      clear hn0
      cases hgg : goodG out
      · have HGG := Lib.hid hgg
        have HB := Lib.hid (HE.out.no (.inl hgg))
        clear hgg
        go_wp2_with fail
        refine (l6Good_any A9 N c9 out _ HO.out.gps HSMW.out).mono ?_
        rintro e w2 ⟨rfl, b2⟩
        rw [HGG.out]
        go_wp2
        go_ret3
        exact ⟨_, [], [], 1, false, rfl, OwnGp.nil_, HB.out, HB0.out.next (HBB.out.next b2)⟩
      · have HGG := Lib.hid hgg
        by_cases htx : gpsT out = want
        · have HB := Lib.hid (HE.out.yes hgg htx HS3.out)
          have q9 : ((bs (gpsT out)).toList == (bs want).toList) = true := by rw [htx]; simp
          clear hgg htx
          go_wp2_with fail
          refine (l6Good_any A9 N c9 out _ HO.out.gps HSMW.out).mono ?_
          rintro e w2 ⟨rfl, b2⟩
          rw [HGG.out]
          have O2 := Lib.hid (HO.out.below b2)
          have B2 := Lib.hid (HBB.out.next b2)
          clear b2
          go_wp2_with fail
          refine (l7Text_any A9 N c9 out _ O2.out.gps HGG.out).mono ?_
          rintro e w3 ⟨rfl, b3⟩
          go_wp2
          go_ret3
          exact ⟨_, vs, out, 0, true, rfl, (O2.out.below b3).more HB0.out.size, HB.out, HB0.out.next (B2.out.next b3)⟩
        · have HB := Lib.hid (HE.out.no (.inr htx))
          have q9 : ((bs (gpsT out)).toList == (bs want).toList) = false := by
            rw [ByteArray.toList_eq, ByteArray.toList_eq, bs_list, bs_list, beq_eq_false_iff_ne]; exact htx
          clear hgg htx
          go_wp2_with fail
          refine (l6Good_any A9 N c9 out _ HO.out.gps HSMW.out).mono ?_
          rintro e w2 ⟨rfl, b2⟩
          rw [HGG.out]
          have O2 := Lib.hid (HO.out.below b2)
          have B2 := Lib.hid (HBB.out.next b2)
          clear b2
          go_wp2_with fail
          refine (l7Text_any A9 N c9 out _ O2.out.gps HGG.out).mono ?_
          rintro e w3 ⟨rfl, b3⟩
          go_wp2
          go_ret3
          exact ⟨_, [], [], 1, false, rfl, OwnGp.nil_, HB.out, HB0.out.next (B2.out.next b3)⟩
    · have hz : ((0 : Int) < (n : Int)) = True := eq_true (by omega)
      have hi0 : (0 : Int) < (n : Int) := by omega
      obtain ⟨x0, L', rfl⟩ : ∃ x0 L', L = x0 :: L' := by
        cases L with
        | nil => exact absurd (HLN.out.symm) hn0
        | cons x l => exact ⟨x, l, rfl⟩
      obtain ⟨b9, off9, rfl, hc9⟩ := (HST.out.below HBB.out).cell 0 x0 rfl
      replace hc9 : wr.cell? ⟨b9, off9, none⟩ = some (.string x0) := by simpa using hc9
      have hx0 := HLS.out x0 (by simp)
      have hpl : plain x0 = bs (plainL x0.data.toList) := by rw [← plain_list, bs_self]
      obtain ⟨hd, HHD⟩ : ∃ hd, Hid (plainL x0.data.toList = hd) := ⟨_, rfl⟩
      rw [HHD.out] at hpl
      have HPL := Lib.hid hpl
      have HDL := Lib.hid (show hd.length ≤ 3000 by have := plain_le x0; rw [hpl, bs_size] at this; omega)
      have HAX := Lib.hid (show LinesAt s.data.toList out want (x0.data.toList :: L'.map (·.data.toList)) from HA.out)
      have hL1 : L'.length + 1 = n := HLN.out
      have hx1 := hx0.1
      have hx2 : x0.size ≤ maxLen := by unfold maxLen; omega
      clear hn0 hpl hmany
      go_wp2_with fail
      refine (l1Plain_any x0 _ hx2 hx1).mono ?_
      rintro e w2 ⟨rfl, rfl⟩
      rw [HPL.out]
      go_wp2_with fail
      refine (l7Head_any hd HDL.out _).mono ?_
      rintro e w3 ⟨ha, ho, ht, hc, ok, rfl, hyes, hno, b3⟩
      have B3 := Lib.hid (HBB.out.next b3)
      have R3 := Lib.hid b3
      have HY := Lib.hid hyes
      have HNO := Lib.hid hno
      clear b3 hyes hno
      cases ok
      · have HB := Lib.hid (HAX.out.bad (.inl (by rw [HHD.out]; exact HNO.out rfl)))
        go_wp2
        go_ret3
        exact ⟨_, [], [], 1, false, rfl, OwnGp.nil_, HB.out, HB0.out.next (B3.out.next (below_alloc _ _))⟩
      · obtain ⟨a', o', t', c', hh, rfl, rfl, rfl, rfl⟩ := HY.out rfl
        have HH := Lib.hid (show HeadIs (plainL x0.data.toList) a' o' t' c' by rw [HHD.out]; exact hh)
        obtain ⟨l1, l2, l3, l4⟩ := HH.out.le
        clear hh
        obtain ⟨W4, HW4⟩ : ∃ W4, Hid (W4 = w3.alloc (.cells #[.int .i64 (a' : Int), .int .i64 (t' : Int), .slice none 0 0] 60)) := ⟨_, rfl⟩
        have HB4 := Lib.hid (show Below w3.heap.size w3 W4 by rw [HW4.out]; exact below_alloc _ _)
        have B4 := Lib.hid (B3.out.next HB4.out)
        have X4 := Lib.hid (show W4.heap[w3.heap.size]? = some (.cells #[.int .i64 (a' : Int), .int .i64 (t' : Int), .slice none 0 0] 60 (0, 0)) by rw [HW4.out]; exact heap_at rfl)
        have XL := Lib.hid (show w3.heap.size < W4.heap.size by rw [HW4.out]; simp)
        have XB := Lib.hid (show w1.heap.size ≤ w3.heap.size from B3.out.size)
        have HSTW := Lib.hid (HST.out.below B4.out)
        have HS1 := Lib.hid (show Strs W4 (cutA (some ⟨b9, off9, none⟩) c 1) (n - 1) L' from by
          have := HSTW.out.cut (c := c) (lo := 1) (hi := n) (by omega) (Nat.le_refl _) hnc
          rw [List.take_of_length_le (by rw [HLN.out]; exact Nat.le_refl _)] at this
          exact this)
        have hcut1 : ∀ w', (Instr.slice 33 (.slice (some ⟨b9, off9, none⟩) n c) (some (.int .i64 1)) none none).run Tryz.prog w' = .ok (.slice (cutA (some ⟨b9, off9, none⟩) c 1) (n - 1) (c - 1)) w' := fun w' => cut_lo_strs (some ⟨b9, off9, none⟩) n c 1 (by omega) hnc w'
        obtain ⟨LA, HLA⟩ : ∃ LA, Hid (cutA (some ⟨b9, off9, none⟩) c 1 = LA) := ⟨_, rfl⟩
        rw [HLA.out] at HS1
        simp only [HLA.out] at hcut1
        have hn11 : n - 1 ≤ 3000 := by omega
        have HLK := Lib.hid HAX.out.lines.2
        have HLS' := Lib.hid (show ∀ x ∈ L', x.size ≤ 3000 from fun x hx => (HLS.out x (by simp [hx])).2)
        go_wp2_with fail
        rw [← HW4.out]
        with_reducible refine (l7Rows_any LA (n - 1) (c - 1) L' o' c' l2 l4 _ HS1.out HLK.out hn11 HLS'.out).mono ?_
        rintro e w5 ⟨v5, O, nn, rfl, o5, hto, b5⟩
        obtain ⟨q5, HQ5⟩ : ∃ q, Hid (O.length = q) := ⟨_, rfl⟩
        obtain ⟨A5, k5, rfl, hk5, _⟩ := o5.form HQ5.out
        have B5 := Lib.hid (B4.out.next b5)
        have R5 := Lib.hid ((R3.out.next HB4.out).next b5)
        have X5 := Lib.hid ((b5.block w3.heap.size XL.out).trans X4.out)
        have O5 := Lib.hid o5
        have HTO := Lib.hid hto
        have hnn : nn ≤ n - 1 := by have := hto.le; rw [List.length_map] at this; omega
        have HXL5 := Lib.hid (show w3.heap.size < w5.heap.size from (Array.getElem?_eq_some_iff.1 X5.out).1)
        have HW45 := Lib.hid (show W4.heap.size ≤ w5.heap.size from b5.size)
        clear o5 hto b5
        obtain ⟨W6, HW6⟩ : ∃ W6, Hid (W6 = w5.setCell ⟨w3.heap.size, 2, none⟩ (.slice A5 q5 k5)) := ⟨_, rfl⟩
        have X6 := Lib.hid (show W6.heap[w3.heap.size]? = some (.cells #[.int .i64 (a' : Int), .int .i64 (t' : Int), .slice A5 q5 k5] 60 (0, 0)) by rw [HW6.out]; simp [World.setCell, Array.getElem?_modify, X5.out])
        have xc := X5.out
        have xf : ∀ j, w5.frozen? ⟨w3.heap.size, j, none⟩ = false := fun j => by simp [World.frozen?, xc]
        have x2 : w5.cell? ⟨w3.heap.size, 2, none⟩ = some (.slice none 0 0) := by simp [World.cell?, xc]
        have k0 : W6.cell? ⟨w3.heap.size, 0, none⟩ = some (.int .i64 (a' : Int)) := by simp [World.cell?, X6.out]
        have k1 : W6.cell? ⟨w3.heap.size, 1, none⟩ = some (.int .i64 (t' : Int)) := by simp [World.cell?, X6.out]
        have k2 : W6.cell? ⟨w3.heap.size, 2, none⟩ = some (.slice A5 q5 k5) := by simp [World.cell?, X6.out]
        have B6 := Lib.hid (show Below w1.heap.size w1 W6 by rw [HW6.out]; exact B5.out.setCell XB.out _)
        have O6 := Lib.hid (show OwnRw W6 W4.heap.size (.slice A5 q5 k5) O by rw [HW6.out]; exact O5.out.setBelow XL.out _)
        obtain ⟨C1, HC1⟩ : ∃ C, Hid (bs (countT a' o') = C) := ⟨_, rfl⟩
        obtain ⟨C2, HC2⟩ : ∃ C, Hid (bs (countT t' c') = C) := ⟨_, rfl⟩
        have z1 : C1.size ≤ 9 := by rw [← HC1.out, bs_size]; exact countT_len l1 l2
        have z2 : C2.size ≤ 9 := by rw [← HC2.out, bs_size]; exact countT_len l3 l4
        have y1 : (9223372036854775807 < 4 + C1.size) = False := eq_false (by omega)
        have y2 : (9223372036854775807 < 4 + C1.size + 2) = False := eq_false (by omega)
        have y3 : (9223372036854775807 < 4 + C1.size + 2 + C2.size) = False := eq_false (by omega)
        have y4 : (9223372036854775807 < 4 + C1.size + 2 + C2.size + 4) = False := eq_false (by omega)
        clear xc
        go_wp2
        rw [← HW6.out]
        clear x2 xf
        go_region_held3 (fun w' => w'.cell? ⟨w3.heap.size, 0, none⟩ = some (.int .i64 (a' : Int)) ∧ w'.cell? ⟨w3.heap.size, 1, none⟩ = some (.int .i64 (t' : Int))) (first | with_reducible exact ⟨k0, k1⟩ | with_reducible exact ⟨cell_keep D7.out k0, cell_keep D7.out k1⟩ | with_reducible exact ⟨cell_keep D8.out k0, cell_keep D8.out k1⟩ | go_keep)
          (first
            | (go_at_call 50; with_reducible show Calls _ _ #[.int .i64 (a' : Int), .int .i64 (o' : Int)] _ _; refine (l4Count_any a' o' l1 l2 W6.drew).mono ?_; rintro e w7 ⟨rfl, b7⟩
               rw [HC1.out]
               have D7 := Lib.hid (show Below W6.heap.size W6 w7 from (Below.refl _ W6).drew.next b7)
               clear b7)
            | (go_at_call 50; refine (l4Count_any t' c' l3 l4 w7).mono ?_; rintro e w8 ⟨rfl, b8⟩
               rw [HC2.out]
               have D8 := Lib.hid (show Below W6.heap.size W6 w8 from D7.out.next b8)
               clear b8)
            | fail)
        replace k0 := cell_keep D8.out k0
        replace k1 := cell_keep D8.out k1
        replace k2 := cell_keep D8.out k2
        have R8 := Lib.hid (show Below wr.heap.size wr w8 from (show Below wr.heap.size wr W6 by rw [HW6.out]; exact R5.out.setCell R3.out.size _).next D8.out)
        have B8 := Lib.hid (B6.out.next D8.out)
        have HO8 := Lib.hid (HO.out.below R8.out)
        have HU8 := Lib.hid ((O6.out.below D8.out).more (show w1.heap.size ≤ W4.heap.size from B4.out.size))
        have hc8 := cell_keep R8.out hc9
        have HBK := Lib.hid (show ∀ g, BlkR v vs g → g < wr.heap.size from fun g e => (HO.out.lt e).2)
        have hfr := Lib.hid (show ∀ g', (Value.slice A5 q5 k5).ownBlock = some g' → ¬ BlkR v vs g' from fun g' e e2 => by have h4 := ((O6.out.below D8.out).lt e).1; have h5 := HBK.out g' e2; have h6 := R3.out.size; have h7 := XL.out; omega)
        obtain ⟨hi, Hhi⟩ : ∃ hi, Hid (hi = 1 + nn) := ⟨_, rfl⟩
        have hhi := Hhi.out
        have hwn : IntKind.i64.wrap ((1 : Int) + (nn : Int)) = (hi : Int) := by rw [IntKind.wrap_i64]; omega
        have hcut2 : ∀ w', (Instr.slice 33 (.slice (some ⟨b9, off9, none⟩) n c) (some (.int .i64 1)) (some (.int .i64 (hi : Int))) none).run Tryz.prog w' = .ok (.slice LA (hi - 1) (c - 1)) w' := fun w' => by
          have := cut_strs (some ⟨b9, off9, none⟩) n c 1 hi (by omega) (by omega) w'
          rw [HLA.out] at this
          exact this
        have hcut3 := cut_lo_strs (some ⟨b9, off9, none⟩) n c hi (by omega) hnc
        have HST8 := Lib.hid (show Strs w8 LA (hi - 1) (L'.take nn) by
          have := (HST.out.below B8.out).cut (c := c) (lo := 1) (hi := hi) (by omega) (by omega) hnc
          rw [HLA.out, hhi, Nat.add_comm 1 nn, List.take_succ_cons, List.drop_succ_cons, List.drop_zero] at this
          rw [hhi, Nat.add_comm 1 nn]
          exact this)
        have HST9 := Lib.hid (show Strs w1 (cutA (some ⟨b9, off9, none⟩) c hi) (n - hi) (L'.drop nn) by
          have := HST.out.cut (c := c) (lo := hi) (hi := n) (by omega) (Nat.le_refl _) hnc
          rw [List.take_of_length_le (by rw [HLN.out]; exact Nat.le_refl _), hhi, Nat.add_comm 1 nn, List.drop_succ_cons] at this
          rw [hhi, Nat.add_comm 1 nn]
          exact this)
        obtain ⟨TT, HTT⟩ : ∃ TT, Hid (cat (L'.take nn) = TT) := ⟨_, rfl⟩
        have HCT := Lib.hid (show TT = bs (((L'.map (·.data.toList)).take nn).flatten) by rw [← HTT.out, cat_bs, List.map_take])
        have zT : TT.size ≤ 3000 := by
          rw [HCT.out, bs_size]
          have h1 := congrArg List.length (flat_take_drop (L'.map (·.data.toList)) nn)
          have h2 := HFT.out
          rw [List.map_cons, List.flatten_cons, List.length_append] at h2
          rw [List.length_append] at h1
          omega
        have htot : total (L'.take nn) ≤ 4294967296 := by rw [← cat_size, HTT.out]; omega
        obtain ⟨WW, HWW⟩ : ∃ WW, Hid (bs want = WW) := ⟨_, rfl⟩
        have zW : WW.size ≤ 90000 := by rw [← HWW.out, bs_size]; have := HWD.out; omega
        rw [HWW.out]
        have y5 : (9223372036854775807 < 4 + C1.size + 2 + C2.size + 4 + TT.size) = False := eq_false (by omega)
        have y6 : (9223372036854775807 < WW.size + (4 + C1.size + 2 + C2.size + 4 + TT.size)) = False := eq_false (by omega)
        have HSTR := Lib.hid (show WW ++ (((⟨#[64, 64, 32, 45]⟩ : ByteArray) ++ C1 ++ ⟨#[32, 43]⟩ ++ C2 ++ ⟨#[32, 64, 64, 10]⟩) ++ TT) = bs (want ++ (headT a' o' t' c' ++ 10 :: ((L'.map (·.data.toList)).take nn).flatten)) by
          rw [← HWW.out, ← HC1.out, ← HC2.out, HCT.out]
          simp only [add_bs, bs_list]
          unfold headT
          simp)
        have HGO := Lib.hid (show GpOk ⟨a', t', O⟩ from ⟨⟨by dsimp only; omega, by dsimp only; omega⟩, ⟨by dsimp only; omega, by dsimp only; omega⟩, fun y hy => by
          obtain ⟨e1, e2, e3⟩ := HTO.out.size y hy
          have h2 := HFT.out
          rw [List.map_cons, List.flatten_cons, List.length_append] at h2
          exact ⟨⟨by omega, by omega⟩, by unfold maxLen; omega⟩⟩)
        obtain ⟨eb, HEB⟩ : ∃ eb, Hid (endsB x0 = eb) := ⟨_, rfl⟩
        have HOA := Lib.hid (HO8.out.below (below_alloc w8 (.cells #[.int .i64 (a' : Int), .int .i64 (t' : Int), .slice A5 q5 k5] 60)))
        have HUA := Lib.hid (HU8.out.below (below_alloc w8 (.cells #[.int .i64 (a' : Int), .int .i64 (t' : Int), .slice A5 q5 k5] 60)))
        have BA8 := Lib.hid (B8.out.next (below_alloc w8 (.cells #[.int .i64 (a' : Int), .int .i64 (t' : Int), .slice A5 q5 k5] 60)))
        have hol : out.length ≤ 1048576 := by omega
        cases eb
        · have HB := Lib.hid (HAX.out.bad (.inr HEB.out))
          clear hhi
          go_wp2_with fail
          refine (l1TextU_any LA (hi - 1) (c - 1) (L'.take nn) _ HST8.out htot).mono ?_
          rintro e w9 ⟨rfl, rfl⟩
          rw [HTT.out]
          go_wp2_with fail
          refine (l1Ends_any x0 _ hx2 hx1).mono ?_
          rintro e w9 ⟨rfl, rfl⟩
          rw [HEB.out]
          go_wp2
          go_ret3
          exact ⟨_, [], [], 1, false, rfl, OwnGp.nil_, HB.out, HB0.out.next B8.out⟩
        · have HNX := Lib.hid (HAX.out.next HH.out HEB.out HTO.out)
          clear hhi
          go_wp2_with fail
          refine (l1TextU_any LA (hi - 1) (c - 1) (L'.take nn) _ HST8.out htot).mono ?_
          rintro e w9 ⟨rfl, rfl⟩
          rw [HTT.out]
          go_wp2_with fail
          refine (l1Ends_any x0 _ hx2 hx1).mono ?_
          rintro e w9 ⟨rfl, rfl⟩
          rw [HEB.out]
          go_wp2_with (first
            | (at_builtin; refine wpList_gp (.tmp 75) (.tmp 77) w1.heap.size v out vs HOA.out ⟨a', t', O⟩ HGO.out (.slice A5 q5 k5) HUA.out hfr.out w8.heap.size (by simp) (by simp) (by simp) hol BA8.out.size rfl rfl rfl rfl ?_
               intro v9 w9 o9 g9 p9
               have O9 := Lib.hid o9
               have B9 := Lib.hid (Below.grown BA8.out g9 BA8.out.size (fun g' e => (HOA.out.lt (g := g') (List.mem_append.2 (.inl (by rw [e]; simp)))).1))
               clear o9 g9 p9)
            | fail)
          go_roundw
          case rel => exact ⟨_, n - hi, c - hi, L'.drop nn, v9, _, out ++ [⟨a', t', O⟩], _, rfl, rfl, congrArg Value.string HSTR.out, by omega, HST9, O9, Lib.hid (by rw [map_data]; exact HNX.out), Lib.hid (fun x hx => HLS.out x (List.mem_cons_of_mem _ (List.mem_of_mem_drop hx))), B9.out⟩
          case measure => have := Hhi.out; show n - hi < n; omega

end Go.Proofs.YtkamenidgkjodaaGreatDoor
