/-
  TrimHunks of the program, whole, and its law.
-/
import Derived.Test.YtaajldodobclaaaHTrimI
set_option linter.unusedSimpArgs false
set_option linter.unusedVariables false
namespace Go.Proofs.Ytaajldodobclaaa
open Go.RowKit M

set_option maxHeartbeats 4000000 in
set_option maxRecDepth 100000 in
theorem implTrimHunks_any (a : Option Addr) (nl cl : Nat) (l : List ByteArray) (b0 : Option Addr) (n c : Nat) (hs : List Hk) (w : World) (hl : Strs w a nl l) (hcl : nl ≤ cl) (hh : Hks w b0 n hs) (hnl : nl ≤ 1048576) :
    Calls Try.prog 31 #[.slice a nl cl, .slice b0 n c] w fun e w' => ∃ v vs, e = .returned (.tuple #[v, .bool (trimOf l hs).2]) ∧ OwnH w' w.heap.size v (trimOf l hs).1 vs ∧ Below w.heap.size w w' := by
  have hpo := patchOf_ok l hs
  cases hq : patchOk l hs
  · have hf := Lib.hid (show trimOf l hs = ([], false) from if_neg (by simp [hq]))
    rw [hq] at hpo
    go_enter Try.func31, Try.ntmps31
    go_wp2_with fail
    refine (implPatch_any a nl cl l b0 n c hs _ hl hcl hh hnl).mono ?_
    rintro e w1 ⟨v, rfl, o1, b1⟩
    rw [hpo]
    go_wp2
    go_ret2
    exact ⟨_, [], by rw [hf.out]; rfl, by rw [hf.out]; exact OwnH.nil_, b1⟩
  · have hf := Lib.hid (show trimOf l hs = (trimH l hs, true) from if_pos hq)
    have hg := (patchOk_parts hq).2.1
    have HGL := Lib.hid (patchOk_parts hq).1
    have HGX := Lib.hid (fun x hx => new_good hq (x := x) hx)
    rw [hq] at hpo
    have HL := Lib.hid hl.len
    have HN := Lib.hid hh.len
    have hn20 : n ≤ 20 := by rw [← HN.out]; exact (goodH_parts hg).2.2.1
    have hnl40 : nl ≤ 40 := by have := (goodH_parts hg).2.1; have := HL.out; omega
    have HR0 := Lib.hid (rest_start hg)
    clear hg hq
    go_enter Try.func31, Try.ntmps31
    go_wp2_with fail
    refine (implPatch_any a nl cl l b0 n c hs _ hl hcl hh hnl).mono ?_
    rintro e w1 ⟨v, rfl, o1, b1⟩
    rw [hpo]
    clear hpo o1
    go_wp2
    go_loopw [8, 21] (fun v i w' => ∃ j p : Nat, ∃ out vs, i = .int .i64 j ∧ j ≤ n ∧ OwnH w' w.heap.size v out vs ∧ Hid (out.length ≤ j) ∧ Hid (restOk l.length (hs.drop j) p) ∧ Hid (out ++ trimH l (hs.drop j) = trimH l hs) ∧ Below w.heap.size w w') (fun _ i _ => n - (intOf i).toNat)
    case atStart => exact ⟨0, 0, [], [], rfl, by omega, OwnH.nil_, show _ ≤ _ by simp, HR0.out, rfl, b1⟩
    case round =>
      obtain ⟨j, p, out, vs, rfl, hj, ho, HO, HR, HP, hb⟩ := hrel
      by_cases hlt : j < n
      · obtain ⟨b, off, A, m, c', x, rfl, hx, c0, c1, c2, hst, hmc, i0, i1⟩ := hh.at_ hlt
        obtain ⟨at', go, ea, eg, hpa, hag, hln, hno, hrest⟩ := rest_step hx HR.out
        have hgx := HGX.out x (List.mem_of_getElem? hx)
        obtain ⟨xa, xg, xn⟩ := x
        dsimp only at ea eg hln c0 c1 c2 hst i0 i1 hgx
        subst ea eg
        have hm40 : m ≤ 40 := by rw [← hst.len]; exact linesB_len hln
        have hag2 : at' + go ≤ nl := by rw [HL.out] at hag; omega
        have HREST := Lib.hid hrest
        have HX := Lib.hid hx
        clear hx hrest hag hln hno
        have HOW := Lib.hid ho
        have HBB := Lib.hid hb
        clear ho
        obtain ⟨y, HY⟩ : ∃ y, Hid (y = trimOne l ⟨(at' : Int), (go : Int), xn⟩) := ⟨_, rfl⟩
        go_wp2_with fail
        refine (trimmed_any a nl cl l b (off + j * 3) at' go A m c' xn _ (hl.below HBB.out) hcl hnl40 (cell_keep HBB.out c0) (cell_keep HBB.out c1) (cell_keep HBB.out c2) (hst.below HBB.out) hmc hm40 hag2 HGL.out hgx).mono ?_
        rintro e w5 ⟨v5a, q, v5c, rfl, hq1, ok0, ok1, o5, b5⟩
        rw [← HY.out] at ok0 ok1 o5 ⊢
        obtain ⟨W7, HW7⟩ : ∃ W7, Hid (W7 = w5.alloc (.cells #[.int .i64 y.at_, .int .i64 y.gone, .slice v5a q v5c] 63)) := ⟨_, rfl⟩
        have HOW7 := Lib.hid (show OwnH W7 w.heap.size u8 out vs by rw [HW7.out]; exact (HOW.out.below b5).below (below_alloc _ _))
        have O7 := Lib.hid (show OwnV W7 w.heap.size (.slice v5a q v5c) y.new by rw [HW7.out]; exact (o5.more HBB.out.size).below (below_alloc _ _))
        have HF7 := Lib.hid (show ∀ g, (Value.slice v5a q v5c).ownBlock = some g → ¬ Blk u8 vs g from fun g e e2 => by
          have h3 := (o5.lt e).1; have h4 := (HOW.out.lt e2).2; omega)
        have HB7 := Lib.hid (show Below w.heap.size w W7 by rw [HW7.out]; exact (HBB.out.next b5).next (below_alloc _ _))
        have m0 : W7.cell? ⟨w5.heap.size, 0, none⟩ = some (.int .i64 y.at_) := by rw [HW7.out]; simp
        have m1 : W7.cell? ⟨w5.heap.size, 1, none⟩ = some (.int .i64 y.gone) := by rw [HW7.out]; simp
        have m2 : W7.cell? ⟨w5.heap.size, 2, none⟩ = some (.slice v5a q v5c) := by rw [HW7.out]; simp
        have HOK := Lib.hid (show i64ok y.at_ ∧ i64ok y.gone from ⟨ok0, ok1⟩)
        clear ok0 ok1
        go_wp2_with fail
        rw [← HW7.out]
        refine (isNothing_any w5.heap.size 0 y v5a q v5c _ ⟨m0, m1, m2, O7.out.strs, hq1, HOK.out.1, HOK.out.2⟩).mono ?_
        rintro e w8 ⟨rfl, rfl⟩
        cases hy : nothing y
        · have HRR := Lib.hid (trim_yes (l := l) HX.out (by rw [← HY.out]; exact hy))
          clear hy
          go_wp2_with (first
            | (at_builtin; refine wpList_hk (.tmp 31) (.tmp 33) w.heap.size u8 out vs (HOW7.out.below (below_alloc _ _)) y HOK.out (.slice v5a q v5c) (O7.out.below (below_alloc _ _)) HF7.out _ (by simp) (by simp) (by simp) (by have := HO.out; omega) (Nat.le_trans HB7.out.size (by simp)) rfl rfl rfl rfl ?_
               intro v8 w8 o8 g8 p8
               have HB8 := Lib.hid (Below.grown (HB7.out.next (below_alloc _ _)) g8 (Nat.le_trans HB7.out.size (by simp)) (fun k e => (HOW.out.lt (.inl e)).1)))
            | fail)
          go_roundw
          case rel => exact ⟨j + 1, at' + go, _, _, by go_num, by omega, o8, show _ ≤ _ by have := HO.out; simp; omega, HREST.out, show _ = _ by
            rw [← HP.out, HRR.out, ← HY.out]; simp, HB8.out⟩
          case measure => simp [intOf]; omega
        · have HRR := Lib.hid (trim_no (l := l) HX.out (by rw [← HY.out]; exact hy))
          clear hy
          go_wp2
          go_roundw
          case rel => exact ⟨j + 1, at' + go, _, _, by go_num, by omega, HOW7.out, show _ ≤ _ by have := HO.out; omega, HREST.out, show _ = _ by rw [← HP.out, HRR.out], HB7.out⟩
          case measure => simp [intOf]; omega
      · have hfin := Lib.hid (trim_end (l := l) (hs := hs) (j := j) (by rw [HN.out]; omega))
        go_wp2
        go_ret2
        exact ⟨_, vs, by rw [hf.out]; rfl, by rw [hf.out]; show OwnH _ _ _ (trimH l hs) _; rw [← HP.out, hfin.out, List.append_nil]; exact ho, hb⟩

end Go.Proofs.Ytaajldodobclaaa
