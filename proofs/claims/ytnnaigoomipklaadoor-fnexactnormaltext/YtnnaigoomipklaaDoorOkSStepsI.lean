/-
  NormalSteps, the program's.
-/
import Derived.Test.YtnnaigoomipklaaDoorOkSSteps
import Derived.Test.YtnnaigoomipklaaDoorOkHBack
set_option linter.unusedSimpArgs false
set_option linter.unusedVariables false
namespace Go.Proofs.YtnnaigoomipklaaDoor
open Go.RowKit Go.ChangeShapes Go.WideShapes M

theorem back_at {l : List ByteArray} : ∀ {hs : List Hk} {j : Nat} {x : Hk} {m : Int}, (∀ y ∈ hs, 0 ≤ y.gone ∧ y.gone ≤ 40 ∧ y.new.length ≤ 40) → hs[j]? = some x →
    ∃ more : Int, m - 40 * (j : Int) ≤ more ∧ more ≤ m + 40 * (j : Int) ∧ (backFrom l m hs)[j]? = some ⟨x.at_ + more, x.new.length, oldOf l x⟩ ∧ (normFrom l m hs).take (j + 1) = (normFrom l m hs).take j ++ [stepOf l more x]
  | [], j, x, m, _, h => by simp at h
  | y :: hs, 0, x, m, _, h => by simp at h; subst h; exact ⟨m, by omega, by omega, rfl, rfl⟩
  | y :: hs, j + 1, x, m, hb, h => by
    obtain ⟨more, b1, b2, h1, h2⟩ := back_at (l := l) (m := m + (y.new.length - y.gone)) (fun z hz => hb z (by simp [hz])) (show hs[j]? = some x by simpa using h)
    obtain ⟨q0, q1, q2⟩ := hb y (by simp)
    refine ⟨more, by omega, by omega, by simpa [backFrom] using h1, ?_⟩
    rw [normFrom, List.take_succ_cons, List.take_succ_cons, h2, List.cons_append]

theorem blk_snoc {v' v : Value} {rows : List (List D)} {x : Sp} {u u2 : Value} {g : Nat} (h : BlkR v' (rows ++ [spRow x u u2]) g) : v'.ownBlock = some g ∨ BlkR v rows g ∨ u.ownBlock = some g ∨ u2.ownBlock = some g := by
  rcases List.mem_append.1 h with h | h
  · exact .inl (by simpa using h)
  · rw [List.flatten_append, D.blocksL_append] at h
    rcases List.mem_append.1 h with h | h
    · exact .inr (.inl (List.mem_append.2 (.inr h)))
    · simp only [List.flatten_cons, List.flatten_nil, List.append_nil, spRow, D.blocksL, D.blocks, textsD_blocks, List.nil_append] at h
      rcases List.mem_append.1 h with h | h
      · exact .inr (.inr (.inl (by simpa using h)))
      · exact .inr (.inr (.inr (by simpa using h)))

set_option maxHeartbeats 4000000 in
set_option maxRecDepth 100000 in
theorem implNormalSteps_any (a : Option Addr) (nl cl : Nat) (l : List ByteArray) (b0 : Option Addr) (n c : Nat) (hs : List Hk) (w : World) (hl : Strs w a nl l) (hcl : nl ≤ cl) (hh : Hks w b0 n hs) (hnl : nl ≤ 1048576) :
    Calls Tryd.prog 43 #[.slice a nl cl, .slice b0 n c] w fun e w' => ∃ v vs, e = .returned (.tuple #[v, .bool (normOf l hs).2]) ∧ OwnSt w' w.heap.size v (normOf l hs).1 vs ∧ Below w.heap.size w w' := by
  cases hq : patchOk l hs
  · have hf := Lib.hid (show normOf l hs = ([], false) from if_neg (by simp [hq]))
    have hb0 := Lib.hid (show backOf l hs = ([], false) from if_neg (by simp [hq]))
    clear hq
    go_enter Tryd.func43, Tryd.ntmps43
    go_wp2_with fail
    refine (implBackHunks_any a nl cl l b0 n c hs _ hl hcl hh hnl).mono ?_
    rintro e w1 ⟨v, vs, rfl, o1, b1⟩
    rw [hb0.out] at o1 ⊢
    dsimp only at o1 ⊢
    go_wp2
    go_ret2
    exact ⟨_, [], by rw [hf.out]; rfl, by rw [hf.out]; exact OwnSt.nil_, b1⟩
  · have hf := Lib.hid (show normOf l hs = (normH l hs, true) from if_pos hq)
    have hb0 := Lib.hid (show backOf l hs = (backH l hs, true) from if_pos hq)
    have hg := (patchOk_parts hq).2.1
    have HL := Lib.hid hl.len
    have HN := Lib.hid hh.len
    have hn20 : n ≤ 20 := by rw [← HN.out]; exact (goodH_parts hg).2.2.1
    have hnl40 : nl ≤ 40 := by have := (goodH_parts hg).2.1; have := HL.out; omega
    have HMEM := Lib.hid (show ∀ y ∈ hs, 0 ≤ y.at_ ∧ 0 ≤ y.gone ∧ y.at_ + y.gone ≤ (nl : Int) ∧ y.new.length ≤ 40 from fun y hy => by
      have h5 := goodH_mem hg hy; have h6 := HL.out; omega)
    have HBL := Lib.hid (show (backH l hs).length = n by unfold backH; rw [back_len, HN.out])
    have HNL := Lib.hid (show (normH l hs).length = n by unfold normH; rw [norm_len, HN.out])
    clear hg hq
    go_enter Tryd.func43, Tryd.ntmps43
    go_wp2_with fail
    refine (implBackHunks_any a nl cl l b0 n c hs _ hl hcl hh hnl).mono ?_
    rintro e w1 ⟨v1, vs1, rfl, o1, b1⟩
    rw [hb0.out] at o1 ⊢
    dsimp only at o1 ⊢
    obtain ⟨AB, cB, rfl, hB1, hB2⟩ := o1.form HBL.out
    have HBK := Lib.hid (show ∀ g, Blk (.slice AB n cB) vs1 g → g < w1.heap.size from fun g e => (o1.lt e).2)
    have HAP := Lib.hid o1.apart2
    have HW1S := Lib.hid b1.size
    go_wp2
    go_loopw [8, 22] (fun v i w' => ∃ j : Nat, ∃ out rows, i = .int .i64 j ∧ j ≤ n ∧ OwnSt w' w.heap.size v out rows ∧ OwnH w' w.heap.size (.slice AB n cB) (backH l hs) vs1 ∧ Hid (∀ g, v.ownBlock = some g → w1.heap.size ≤ g) ∧ Hid (∀ g, BlkR v rows g → ∀ (k : Nat) u, j ≤ k → vs1[k]? = some u → u.ownBlock ≠ some g) ∧ Hid (out = (normH l hs).take j) ∧ Below w.heap.size w w' ∧ Hid (w1.heap.size ≤ w'.heap.size)) (fun _ i _ => n - (intOf i).toNat)
    case atStart => exact ⟨0, [], [], rfl, by omega, OwnSt.nil_, o1, Lib.hid (fun g e => by cases e), Lib.hid (fun g e => by simp [BlkR, Value.ownBlock, D.blocksL] at e), Lib.hid (by simp), b1, Lib.hid (Nat.le_refl _)⟩
    case round =>
      obtain ⟨j, out, rows, rfl, hj, ho, hk, HV, HD, HO, hb, HS1⟩ := hrel
      by_cases hlt : j < n
      · obtain ⟨b, off, A, m, c', x, rfl, hx, c0, c1, c2, hst, hmc, i0, i1⟩ := hh.at_ hlt
        have hmem := HMEM.out x (List.mem_of_getElem? hx)
        obtain ⟨more, hm0, hm1, hbx, hnx⟩ := back_at (l := l) (m := 0) (fun y hy => by have := HMEM.out y hy; omega) hx
        obtain ⟨at', go, ea, eg⟩ : ∃ at' go : Nat, x.at_ = (at' : Int) ∧ x.gone = (go : Int) := ⟨x.at_.toNat, x.gone.toNat, by omega, by omega⟩
        obtain ⟨xa, xg, xn⟩ := x
        dsimp only at ea eg c0 c1 c2 hst i0 i1 hmem hbx
        subst ea eg
        have hm40 : m ≤ 40 := by rw [← hst.len]; exact hmem.2.2.2
        obtain ⟨hi, Hhi⟩ : ∃ hi : Nat, Hid (hi = at' + go) := ⟨_, rfl⟩
        have hih : at' ≤ hi ∧ hi ≤ nl := by have := Hhi.out; omega
        obtain ⟨hi0, hi1⟩ := hih
        obtain ⟨am, Ham⟩ : ∃ am : Int, Hid (am = (at' : Int) + more) := ⟨_, rfl⟩
        have ham : -1000 ≤ am ∧ am ≤ 1000 := by have := Ham.out; omega
        obtain ⟨ham0, ham1⟩ := ham
        have HM := Lib.hid hst.len
        obtain ⟨gB, y, aO, mO, cO, hAB, hgB0, hgB1, hy, hu, hmcO, e0, e1, e2, oO, iy0, iy1, hfz⟩ := hk.at_ hlt
        have hyx : y = ⟨(at' : Int) + more, (xn.length : Int), oldOf l ⟨(at' : Int), (go : Int), xn⟩⟩ := by
          have h5 : (backH l hs)[j]? = _ := hbx
          rw [hy] at h5; injection h5
        subst hyx
        dsimp only at e0 e1 oO
        rw [oldOf_nat, ← Hhi.out] at oO
        have hgo : mO = go := by rw [← oO.strs.len, seg_len, HL.out]; have := Hhi.out; omega
        subst hgo
        rw [← Ham.out] at e0
        rw [HM.out] at e1
        have hABg : AB = some ⟨gB, 0, none⟩ := hAB
        subst hABg
        have HX := Lib.hid (show stepOf l more ⟨(at' : Int), (mO : Int), xn⟩ = ⟨numI (at' : Int) mO, (hi : Int), seg l at' hi, numI am m, am + (m : Int), xn⟩ by
          unfold stepOf; dsimp only; rw [oldOf_nat, ← Hhi.out, HM.out, ← Ham.out, Int.toNat_natCast]
          have := Hhi.out
          congr 1
          omega)
        have k0 := cell_keep hb c0
        have k1 := cell_keep hb c1
        have k2 := cell_keep hb c2
        have k3 := e0
        have k4 := e1
        have k5 := e2
        have HC := Lib.hid (show w.cell? ⟨b, off + j * 3, none⟩ = some (.int .i64 (at' : Int)) ∧ w.cell? ⟨b, off + j * 3 + 1, none⟩ = some (.int .i64 (mO : Int)) ∧ w.cell? ⟨b, off + j * 3 + 2, none⟩ = some (.slice A m c') from ⟨c0, c1, c2⟩)
        have HN0 : 0 ≤ numI (at' : Int) mO ∧ numI (at' : Int) mO ≤ 1000 := by unfold numI; split <;> omega
        have HN1 : -1001 ≤ numI am m ∧ numI am m ≤ 1001 := by unfold numI; split <;> omega
        have HOK := Lib.hid (show SpOk ⟨numI (at' : Int) mO, (hi : Int), seg l at' hi, numI am m, am + (m : Int), xn⟩ from ⟨(show i64ok (numI (at' : Int) mO) from ⟨by omega, by omega⟩), (show i64ok (hi : Int) from ⟨by omega, by omega⟩), (show i64ok (numI am m) from ⟨by omega, by omega⟩), (show i64ok (am + (m : Int)) from ⟨by omega, by omega⟩), oO.small, hst.small⟩)
        have hwe : IntKind.i64.wrap ((at' : Int) + (mO : Int)) = (hi : Int) := by rw [IntKind.wrap_i64]; have := Hhi.out; omega
        have hwn : IntKind.i64.wrap (am + (m : Int)) = am + (m : Int) := by rw [IntKind.wrap_i64]; omega
        have HOW := Lib.hid ho
        have HBK2 := Lib.hid hk
        have HOO := Lib.hid oO
        have HBB := Lib.hid hb
        have HU := Lib.hid hu
        have HNX := Lib.hid (show (normH l hs).take (j + 1) = (normH l hs).take j ++ [stepOf l more ⟨(at' : Int), (mO : Int), xn⟩] from hnx)
        have HOL := Lib.hid (show out.length ≤ 1048576 by rw [HO.out]; simp; omega)
        have HLT := Lib.hid (show u8.ownBlock ≠ some gB from fun e => by have h5 := HV.out gB e; have h6 := HBK.out gB (.inl rfl); omega)
        have HST := Lib.hid hst
        have hj0 : (0 : Int) ≤ (j : Int) := by omega
        have hj1 : (j : Int) < (n : Int) := by omega
        clear hx hnx hbx hy hu c0 c1 c2 hst ho hk oO hb hmem HN0 HN1 hm0 hm1 e0 e1 e2 i0 i1 iy0 iy1 hfz hmcO hAB
        go_wp2
        go_quiet (fail)
        go_wp2
        obtain ⟨W1, HW1⟩ : ∃ W1, Hid (W1 = wr.drewN nq) := ⟨_, rfl⟩
        rw [← HW1.out]
        have BR := Lib.hid (show Below wr.heap.size wr W1 by rw [HW1.out]; exact below_drewN (Below.refl _ _) nq)
        have HSZ := Lib.hid (show W1.heap.size = wr.heap.size by rw [HW1.out]; rfl)
        replace k0 := cell_keep BR.out k0
        replace k1 := cell_keep BR.out k1
        replace k2 := cell_keep BR.out k2
        replace k3 := cell_keep BR.out k3
        replace k4 := cell_keep BR.out k4
        replace k5 := cell_keep BR.out k5
        have HST1 := Lib.hid ((HST.out.below HBB.out).below BR.out)
        have HOW1 := Lib.hid (HOW.out.below BR.out)
        have HOO1 := Lib.hid (HOO.out.below BR.out)
        have HF5 := Lib.hid (show ∀ g, (Value.slice aO mO cO).ownBlock = some g → ¬ BlkR u8 rows g from fun g e e2 => HD.out g e2 j _ (Nat.le_refl _) HU.out e)
        have HFB := Lib.hid (show ∀ g, (Value.slice aO mO cO).ownBlock = some g → g < W1.heap.size from fun g e => (HOO1.out.lt e).2)
        have HNB := Lib.hid (show u8.ownBlock ≠ some b from fun e => by have h5 := HV.out b e; have h6 : b < w.heap.size := cell_lt HC.out.1; have h7 := HW1S.out; omega)
        have HWS := Lib.hid (show w.heap.size ≤ W1.heap.size from (HBB.out.next BR.out).size)
        go_region_held3 (fun w' => w'.cell? ⟨b, off + j * 3, none⟩ = some (.int .i64 (at' : Int)) ∧ w'.cell? ⟨b, off + j * 3 + 1, none⟩ = some (.int .i64 (mO : Int)) ∧ w'.cell? ⟨b, off + j * 3 + 2, none⟩ = some (.slice A m c') ∧ w'.cell? ⟨gB, j * 3, none⟩ = some (.int .i64 am) ∧ w'.cell? ⟨gB, j * 3 + 1, none⟩ = some (.int .i64 (m : Int)) ∧ w'.cell? ⟨gB, j * 3 + 2, none⟩ = some (.slice aO mO cO))
          (first | exact ⟨k0, k1, k2, k3, k4, k5⟩ | exact ⟨cell_keep B6.out k0, cell_keep B6.out k1, cell_keep B6.out k2, cell_keep B6.out k3, cell_keep B6.out k4, cell_keep B6.out k5⟩ | exact ⟨cell_keep (B6.out.next (below_alloc w6 _)) k0, cell_keep (B6.out.next (below_alloc w6 _)) k1, cell_keep (B6.out.next (below_alloc w6 _)) k2, cell_keep (B6.out.next (below_alloc w6 _)) k3, cell_keep (B6.out.next (below_alloc w6 _)) k4, cell_keep (B6.out.next (below_alloc w6 _)) k5⟩ | exact K7 | go_keep)
          (first
            | (go_at_call 70; with_reducible show Calls _ _ #[.int .i64 (at' : Int), .int .i64 (mO : Int)] _ _; refine (numberAtI_any (at' : Int) mO (by omega) (by omega) _).mono ?_; rintro e w9 ⟨rfl, rfl⟩)
            | (go_at_call 70; with_reducible show Calls _ _ #[.int .i64 am, .int .i64 (m : Int)] _ _; refine (numberAtI_any am m (by omega) (by omega) _).mono ?_; rintro e w9 ⟨rfl, rfl⟩)
            | (go_at_call 71; refine (copyOf_any A m c' xn W1.drew (HST1.out.below (Below.refl _ W1).drew) (by omega)).mono ?_; rintro e w6 ⟨v6, rfl, o6, b6⟩
               obtain ⟨v6a, v6c, rfl, h61, h62⟩ := o6.form HM.out
               have B6 := Lib.hid (show Below W1.heap.size W1 w6 from (Below.refl _ W1).drew.next b6)
               have O6 := Lib.hid (show OwnV w6 W1.heap.size (.slice v6a m v6c) xn from o6)
               clear o6 b6)
            | (refine step_sp (.tmp 31) (.tmp 78) w.heap.size u8 out rows ((HOW1.out.below B6.out).below (below_alloc _ _)) ⟨numI (at' : Int) mO, (hi : Int), seg l at' hi, numI am m, am + (m : Int), xn⟩ HOK.out (.slice aO mO cO) (.slice v6a m v6c) ((HOO1.out.below B6.out).below (below_alloc _ _)) ((O6.out.more HWS.out).below (below_alloc _ _)) HF5.out (fun g e e2 => by
                 have h3 := (O6.out.lt e).1; have h4 := (HOW1.out.lt e2).2; omega) (fun g e e2 => by have h3 := HFB.out g e; have h4 := (O6.out.lt e2).1; omega) w6.heap.size (by simp) (by simp) (by simp) (by simp) (by simp) (by simp) HOL.out (Nat.le_trans HWS.out (Nat.le_trans B6.out.size (by simp))) rfl rfl rfl rfl ?_
               intro v7 w7 o7 g7 p7
               have K7 := (show w7.cell? ⟨b, off + j * 3, none⟩ = some (.int .i64 (at' : Int)) ∧ w7.cell? ⟨b, off + j * 3 + 1, none⟩ = some (.int .i64 (mO : Int)) ∧ w7.cell? ⟨b, off + j * 3 + 2, none⟩ = some (.slice A m c') ∧ w7.cell? ⟨gB, j * 3, none⟩ = some (.int .i64 am) ∧ w7.cell? ⟨gB, j * 3 + 1, none⟩ = some (.int .i64 (m : Int)) ∧ w7.cell? ⟨gB, j * 3 + 2, none⟩ = some (.slice aO mO cO) from
                 ⟨g7.cell (cell_keep (B6.out.next (below_alloc w6 _)) k0) (fun e => HNB.out e.symm), g7.cell (cell_keep (B6.out.next (below_alloc w6 _)) k1) (fun e => HNB.out e.symm), g7.cell (cell_keep (B6.out.next (below_alloc w6 _)) k2) (fun e => HNB.out e.symm), g7.cell (cell_keep (B6.out.next (below_alloc w6 _)) k3) (fun e => HLT.out e.symm), g7.cell (cell_keep (B6.out.next (below_alloc w6 _)) k4) (fun e => HLT.out e.symm), g7.cell (cell_keep (B6.out.next (below_alloc w6 _)) k5) (fun e => HLT.out e.symm)⟩))
            | fail)
        have HB7 := Lib.hid (Below.grown (((HBB.out.next BR.out).next B6.out).next (below_alloc w6 _)) g7 (Nat.le_trans HWS.out (Nat.le_trans B6.out.size (by simp))) (fun k e => (HOW.out.own.lt (List.mem_append.2 (.inl (by simp [e])))).1))
        have HV7 := Lib.hid (show ∀ g, v7.ownBlock = some g → w1.heap.size ≤ g from fun g e => by
          rcases p7 with p7 | p7
          · exact HV.out g (p7 ▸ e)
          · rw [p7] at e; injection e with e; have h3 := HS1.out; have h4 := BR.out.size; have h5 := B6.out.size; simp at e; omega)
        have HK7 := Lib.hid (show OwnH w7 w.heap.size (.slice (some ⟨gB, 0, none⟩) n cB) (backH l hs) vs1 from
          (((HBK2.out.below BR.out).below B6.out).below (below_alloc w6 _)).wrote (Wrote.of_grown (S := fun i => u8.ownBlock = some i) g7 (fun _ e => e)) (fun g e e2 => by have h3 := HBK.out g e; have h4 := HV.out g e2; omega))
        have HD7 := Lib.hid (show ∀ g, BlkR v7 (rows ++ [spRow ⟨numI (at' : Int) mO, (hi : Int), seg l at' hi, numI am m, am + (m : Int), xn⟩ (.slice aO mO cO) (.slice v6a m v6c)]) g → ∀ (k : Nat) u, j + 1 ≤ k → vs1[k]? = some u → u.ownBlock ≠ some g from fun g hg k u hk hu e => by
          have hub := HBK.out g (.inr ⟨k, u, hu, e⟩)
          rcases blk_snoc (v := u8) hg with h | h | h | h
          · have := HV7.out g h; omega
          · exact HD.out g h k u (by omega) hu e
          · have := HAP.out j k _ u g HU.out hu h e; omega
          · have h3 := (O6.out.lt h).1; have h4 := HSZ.out; have h5 := HS1.out; omega)
        have HS7 := Lib.hid (show w1.heap.size ≤ w7.heap.size by have h3 := g7.size; have h4 := HS1.out; have h5 := BR.out.size; have h6 := B6.out.size; simp at h3; omega)
        have HO7 := Lib.hid (show out ++ [⟨numI (at' : Int) mO, (hi : Int), seg l at' hi, numI am m, am + (m : Int), xn⟩] = (normH l hs).take (j + 1) by rw [HNX.out, HX.out, ← HO.out])
        clear k0 k1 k2 k3 k4 k5 K7 g7 p7
        go_wp2
        go_roundw
        case rel => exact ⟨j + 1, _, _, by go_num, by omega, o7, HK7.out, HV7, HD7, HO7, HB7.out, HS7⟩
        case measure => simp [intOf]; omega
      · have hfin := Lib.hid (show out = normH l hs by rw [HO.out, List.take_of_length_le (by rw [HNL.out]; omega)])
        go_wp2
        go_ret2
        exact ⟨_, rows, by rw [hf.out]; rfl, by rw [hf.out]; rw [hfin.out] at ho; exact ho, hb⟩

end Go.Proofs.YtnnaigoomipklaaDoor
