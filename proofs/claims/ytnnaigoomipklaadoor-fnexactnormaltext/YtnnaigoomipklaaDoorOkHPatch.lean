/-
  Patch, the program's and the model's, and its law.
-/
import Derived.Test.YtnnaigoomipklaaDoorOkHGoods
import Derived.Test.YtnnaigoomipklaaDoorOkHBases
set_option linter.unusedSimpArgs false
set_option linter.unusedVariables false
namespace Go.Proofs.YtnnaigoomipklaaDoor
open Go.RowKit M

theorem cut_lo_strs (a : Option Addr) (n c lo : Nat) (h1 : lo ≤ n) (h2 : n ≤ c) (w : World) :
    (Instr.slice 30 (.slice a n c) (some (.int .i64 (lo : Int))) none none).run Tryd.prog w = .ok (.slice (cutA a c lo) (n - lo) (c - lo)) w := by
  obtain ⟨i, h3, h4, h5, h6⟩ := info_parts str_info
  exact run_cut_lo Tryd.underlying30 h3 h5 a n c lo h1 h2 w

theorem own_block_le {w : World} {base : Nat} {v : Value} {l : List ByteArray} (o : OwnV w base v l) : ∀ k, v.ownBlock = some k → base ≤ k := fun k e => (o.lt e).1

set_option maxHeartbeats 2000000 in
theorem l2Patch_any (a : Option Addr) (nl cl : Nat) (l : List ByteArray) (b0 : Option Addr) (n c : Nat) (hs : List Hk) (w : World) (hl : Strs w a nl l) (hcl : nl ≤ cl) (hh : Hks w b0 n hs) (hg : goodH l.length hs = true) :
    Calls Tryd.prog 93 #[.slice a nl cl, .slice b0 n c] w fun e w' => ∃ v, e = .returned v ∧ OwnV w' w.heap.size v (patchH l hs) ∧ Below w.heap.size w w' := by
  have HL := Lib.hid hl.len
  have HN := Lib.hid hh.len
  have hn20 : n ≤ 20 := by rw [← HN.out]; exact (goodH_parts hg).2.2.1
  have hnl40 : nl ≤ 40 := by have := (goodH_parts hg).2.1; have := HL.out; omega
  have HR0 := Lib.hid (rest_start hg)
  clear hg
  go_enter Tryd.func93, Tryd.ntmps93
  go_wp2
  go_loopw [5, 6, 11] (fun v q i w' => ∃ j p : Nat, ∃ out, i = .int .i64 j ∧ q = .int .i64 p ∧ j ≤ n ∧ p ≤ nl ∧ OwnV w' w.heap.size v out ∧ Hid (out.length ≤ 80 * j) ∧ Hid (restOk l.length (hs.drop j) p) ∧ Hid (out ++ patchFrom l p (hs.drop j) = patchH l hs) ∧ Below w.heap.size w w') (fun _ _ i _ => n - (intOf i).toNat)
  case atStart => exact ⟨0, 0, [], rfl, rfl, by omega, by omega, OwnV.nil_, show _ ≤ _ by simp, HR0.out, rfl, Below.refl _ _⟩
  case round =>
    obtain ⟨j, p, out, rfl, rfl, hj, hp, ho, HO, HR, HP, hb⟩ := hrel
    by_cases hlt : j < n
    · obtain ⟨b, off, A, m, c', x, rfl, hx, c0, c1, c2, hst, hmc, i0, i1⟩ := hh.at_ hlt
      obtain ⟨at', go, ea, eg, hpa, hag, hln, hno, hrest⟩ := rest_step hx HR.out
      have hstep := Lib.hid (patch_step (l := l) (p := p) hx)
      obtain ⟨xa, xg, xn⟩ := x
      dsimp only at ea eg hln c0 c1 c2 hst i0 i1
      subst ea eg
      have c0 := cell_keep hb c0
      have c1 := cell_keep hb c1
      have c2 := cell_keep hb c2
      have hm40 : m ≤ 40 := by rw [← hst.len]; exact linesB_len hln
      have hag2 : at' + go ≤ nl := by rw [HL.out] at hag; omega
      have HREST := Lib.hid hrest
      have HM := Lib.hid hst.len
      clear hx hrest hag hln hno
      have hcut := cut_strs a nl cl p at' hpa (by omega)
      have b1 : Below wr.heap.size wr (wr.alloc (.cells #[.int .i64 (at' : Int), .int .i64 (go : Int), .slice A m c'] 73)) := below_alloc _ _
      have ho1 := ho.below b1
      have hB := Lib.hid (hb.next b1)
      have hne : u5.ownBlock ≠ some wr.heap.size := fun e => by have := (ho.lt e).2; omega
      have HNE := Lib.hid hne
      clear hne
      go_wp2_with (first
        | (at_builtin; refine app_strs (.tmp 15) (.tmp 20) w.heap.size _ out ho1 (cutA a cl p) (at' - p) (cl - p) (seg l p at') ((hl.below hB.out).cut hpa (by omega) hcl) (by have := HO.out; omega) hB.out.size rfl rfl rfl rfl ?_
           intro v2 w2 o2 g2 p2
           have b2 := hB.out.grown g2 hB.out.size (own_block_le ho1)
           have HNE2 : Hid (v2.ownBlock ≠ some wr.heap.size) := by
             rcases p2 with p2 | p2
             · show _ ≠ _; rw [p2]; exact HNE.out
             · show _ ≠ _; rw [p2]; simp
           have k0 : w2.cell? ⟨wr.heap.size, 0, none⟩ = some (.int .i64 (at' : Int)) := g2.cell (by simp) (fun e => HNE.out e.symm)
           have k1 : w2.cell? ⟨wr.heap.size, 1, none⟩ = some (.int .i64 (go : Int)) := g2.cell (by simp) (fun e => HNE.out e.symm)
           have k2 : w2.cell? ⟨wr.heap.size, 2, none⟩ = some (.slice A m c') := g2.cell (by simp) (fun e => HNE.out e.symm)
           clear g2 p2)
        | (at_builtin; refine app_strs (.tmp 22) (.tmp 24) w.heap.size v2 (out ++ seg l p at') o2 A m c' xn (hst.below b2) (by have := HO.out; rw [List.length_append, seg_len, HL.out]; omega) b2.size rfl rfl rfl rfl ?_
           intro v3 w3 o3 g3 p3
           have b3 := b2.grown g3 b2.size (own_block_le o2)
           have k03 : w3.cell? ⟨wr.heap.size, 0, none⟩ = some (.int .i64 (at' : Int)) := g3.cell k0 (fun e => HNE2.out e.symm)
           have k13 : w3.cell? ⟨wr.heap.size, 1, none⟩ = some (.int .i64 (go : Int)) := g3.cell k1 (fun e => HNE2.out e.symm)
           clear g3 p3)
        | fail)
      go_roundw
      case rel => exact ⟨j + 1, at' + go, out ++ seg l p at' ++ xn, by go_num, by go_num, by omega, hag2, o3, show _ ≤ _ by have := HO.out; rw [List.length_append, List.length_append, seg_len, HL.out, HM.out]; omega, HREST.out, show _ = _ by
        have h5 := hstep.out
        dsimp only at h5
        rw [Int.toNat_natCast, show ((at' : Int) + (go : Int)).toNat = at' + go from by omega] at h5
        rw [← HP.out, h5]
        simp only [List.append_assoc], b3⟩
      case measure => simp [intOf]; omega
    · have hcut := cut_lo_strs a nl cl p hp hcl
      have hfin := Lib.hid (patch_end (l := l) (hs := hs) (p := p) (j := j) (by rw [HN.out]; omega))
      go_wp2_with (first
        | (at_builtin; refine app_strs (.tmp 32) (.tmp 35) w.heap.size _ out ho (cutA a cl p) (nl - p) (cl - p) (l.drop p) ((hl.below hb).drop_ hp hcl) (by have := HO.out; omega) hb.size rfl rfl rfl rfl ?_
           intro v2 w2 o2 g2 p2
           have b2 := hb.grown g2 hb.size (own_block_le ho))
        | fail)
      go_ret
      exact ⟨_, rfl, by rw [← HP.out, hfin.out]; exact o2, b2⟩

theorem i64_len {n : Nat} (h : n ≤ 1048576) : i64ok (n : Int) := ⟨by omega, by omega⟩
set_option maxHeartbeats 400000 in
theorem l2Asked_any (a : Option Addr) (nl cl : Nat) (l : List ByteArray) (b0 : Option Addr) (n c : Nat) (hs : List Hk) (w : World) (hl : Strs w a nl l) (hh : Hks w b0 n hs) (hnew : ∀ x ∈ hs, x.new.length ≤ 1048576) (hnl : nl ≤ 1048576) :
    Calls Tryd.prog 92 #[.slice a nl cl, .slice b0 n c] w fun e w' => e = .returned (.bool (goodB l && goodH l.length hs)) ∧ Below w.heap.size w w' := by
  have HL := Lib.hid hl.len
  cases hg : goodB l
  · go_enter Tryd.func92, Tryd.ntmps92
    go_wp2_with fail
    refine (l1Good_any a nl cl l _ hl).mono ?_
    rintro e w1 ⟨rfl, rfl⟩
    rw [hg]
    go_wp2
    go_ret
    exact ⟨rfl, Below.refl _ _⟩
  · go_enter Tryd.func92, Tryd.ntmps92
    go_wp2_with fail
    refine (l1Good_any a nl cl l _ hl).mono ?_
    rintro e w1 ⟨rfl, rfl⟩
    rw [hg]
    go_wp2_with fail
    refine (l2Hunks_any (nl : Int) b0 n c hs _ hh (i64_len hnl) hnew).mono ?_
    rintro e w1 ⟨rfl, b1⟩
    go_wp2
    go_ret
    exact ⟨ret_bool (by rw [HL.out]; rfl), b1⟩

set_option maxHeartbeats 400000 in
theorem specPatch_any (a : Option Addr) (nl cl : Nat) (l : List ByteArray) (b0 : Option Addr) (n c : Nat) (hs : List Hk) (w : World) (hl : Strs w a nl l) (hcl : nl ≤ cl) (hh : Hks w b0 n hs) (hnew : ∀ x ∈ hs, x.new.length ≤ 1048576) (hnl : nl ≤ 1048576) :
    Calls Tryd.prog 67 #[.slice a nl cl, .slice b0 n c] w fun e w' => ∃ v, e = .returned (.tuple #[v, .bool (patchOf l hs).2]) ∧ OwnV w' w.heap.size v (patchOf l hs).1 ∧ Below w.heap.size w w' := by
  cases hq : (goodB l && goodH l.length hs)
  · have hf := Lib.hid (show patchOf l hs = ([], false) from if_neg (by simp [patchOk, hq]))
    go_enter Tryd.func67, Tryd.ntmps67
    go_wp2_with fail
    refine (l2Asked_any a nl cl l b0 n c hs _ hl hh hnew hnl).mono ?_
    rintro e w1 ⟨rfl, b1⟩
    rw [hq]
    go_wp2
    go_ret2
    exact ⟨_, by rw [hf.out]; rfl, by rw [hf.out]; exact OwnV.nil_, b1⟩
  · have hg : goodH l.length hs = true := by rw [Bool.and_eq_true] at hq; exact hq.2
    cases hp : goodB (patchH l hs)
    · have hf := Lib.hid (show patchOf l hs = ([], false) from if_neg (by simp [patchOk, hp]))
      go_enter Tryd.func67, Tryd.ntmps67
      go_wp2_with fail
      refine (l2Asked_any a nl cl l b0 n c hs _ hl hh hnew hnl).mono ?_
      rintro e w1 ⟨rfl, b1⟩
      rw [hq]
      go_wp2_with fail
      refine (l2Patch_any a nl cl l b0 n c hs _ (hl.below b1) hcl (hh.below b1) hg).mono ?_
      rintro e w2 ⟨v, rfl, o2, b2⟩
      obtain ⟨A, cap, rfl, hc1, hc2⟩ := o2.form rfl
      go_wp2_with fail
      refine (l1Good_any _ _ _ _ _ o2.strs).mono ?_
      rintro e w3 ⟨rfl, rfl⟩
      rw [hp]
      go_wp2
      go_ret2
      exact ⟨_, by rw [hf.out]; rfl, by rw [hf.out]; exact OwnV.nil_, b1.next b2⟩
    · have hf := Lib.hid (show patchOf l hs = (patchH l hs, true) from if_pos (by simp only [patchOk, hq, hp]; rfl))
      go_enter Tryd.func67, Tryd.ntmps67
      go_wp2_with fail
      refine (l2Asked_any a nl cl l b0 n c hs _ hl hh hnew hnl).mono ?_
      rintro e w1 ⟨rfl, b1⟩
      rw [hq]
      go_wp2_with fail
      refine (l2Patch_any a nl cl l b0 n c hs _ (hl.below b1) hcl (hh.below b1) hg).mono ?_
      rintro e w2 ⟨v, rfl, o2, b2⟩
      obtain ⟨A, cap, rfl, hc1, hc2⟩ := o2.form rfl
      go_wp2_with fail
      refine (l1Good_any _ _ _ _ _ o2.strs).mono ?_
      rintro e w3 ⟨rfl, rfl⟩
      rw [hp]
      go_wp2
      go_ret2
      exact ⟨_, by rw [hf.out]; rfl, by rw [hf.out]; exact o2.more b1.size, b1.next b2⟩

set_option maxHeartbeats 2000000 in
theorem implPatch_any (a : Option Addr) (nl cl : Nat) (l : List ByteArray) (b0 : Option Addr) (n c : Nat) (hs : List Hk) (w : World) (hl : Strs w a nl l) (hcl : nl ≤ cl) (hh : Hks w b0 n hs) (hnl : nl ≤ 1048576) :
    Calls Tryd.prog 63 #[.slice a nl cl, .slice b0 n c] w fun e w' => ∃ v, e = .returned (.tuple #[v, .bool (patchOf l hs).2]) ∧ OwnV w' w.heap.size v (patchOf l hs).1 ∧ Below w.heap.size w w' := by
  have HL := Lib.hid hl.len
  have HN := Lib.hid hh.len
  cases hgl : goodB l
  · have hf := Lib.hid (show patchOf l hs = ([], false) from if_neg (by simp [patchOk, hgl]))
    go_enter Tryd.func63, Tryd.ntmps63
    go_wp2_with fail
    refine (implGoodLines_any a nl cl l _ hl).mono ?_
    rintro e w1 ⟨rfl, b1⟩
    rw [hgl]
    go_wp2
    go_ret2
    exact ⟨_, by rw [hf.out]; rfl, by rw [hf.out]; exact OwnV.nil_, b1⟩
  · cases hg : goodH l.length hs
    · have hf := Lib.hid (show patchOf l hs = ([], false) from if_neg (by simp [patchOk, hg]))
      rw [HL.out] at hg
      go_enter Tryd.func63, Tryd.ntmps63
      go_wp2_with fail
      refine (implGoodLines_any a nl cl l _ hl).mono ?_
      rintro e w1 ⟨rfl, b1⟩
      rw [hgl]
      go_wp2_with fail
      refine (implGoodHunks_any (nl : Int) b0 n c hs _ (hh.below b1) (i64_len hnl)).mono ?_
      rintro e w2 ⟨rfl, b2⟩
      rw [hg]
      go_wp2
      go_ret2
      exact ⟨_, by rw [hf.out]; rfl, by rw [hf.out]; exact OwnV.nil_, b1.next b2⟩
    · have hn20 : n ≤ 20 := by rw [← HN.out]; exact (goodH_parts hg).2.2.1
      have hnl40 : nl ≤ 40 := by have := (goodH_parts hg).2.1; have := HL.out; omega
      have HR0 := Lib.hid (rest_start hg)
      have HGL := Lib.hid hgl
      have HG := Lib.hid hg
      rw [HL.out] at hg
      go_enter Tryd.func63, Tryd.ntmps63
      go_wp2_with fail
      refine (implGoodLines_any a nl cl l _ hl).mono ?_
      rintro e w1 ⟨rfl, b1⟩
      rw [hgl]
      go_wp2_with fail
      refine (implGoodHunks_any (nl : Int) b0 n c hs _ (hh.below b1) (i64_len hnl)).mono ?_
      rintro e w2 ⟨rfl, b2⟩
      rw [hg]
      have B2 := b1.next b2
      clear hg hgl b1 b2
      go_wp2
      go_loopw [6, 7, 22] (fun v q i w' => ∃ j p : Nat, ∃ out, i = .int .i64 j ∧ q = .int .i64 p ∧ j ≤ n ∧ p ≤ nl ∧ OwnV w' w.heap.size v out ∧ Hid (out.length ≤ 80 * j) ∧ Hid (restOk l.length (hs.drop j) p) ∧ Hid (out ++ patchFrom l p (hs.drop j) = patchH l hs) ∧ Below w.heap.size w w') (fun _ _ i _ => n - (intOf i).toNat)
      case atStart => exact ⟨0, 0, [], rfl, rfl, by omega, by omega, OwnV.nil_, show _ ≤ _ by simp, HR0.out, rfl, B2⟩
      case round =>
        obtain ⟨j, p, out, rfl, rfl, hj, hp, ho, HO, HR, HP, hb⟩ := hrel
        by_cases hlt : j < n
        · obtain ⟨b, off, A, m, c', x, rfl, hx, c0, c1, c2, hst, hmc, i0, i1⟩ := hh.at_ hlt
          obtain ⟨at', go, ea, eg, hpa, hag, hln, hno, hrest⟩ := rest_step hx HR.out
          have hstep := Lib.hid (patch_step (l := l) (p := p) hx)
          obtain ⟨xa, xg, xn⟩ := x
          dsimp only at ea eg hln c0 c1 c2 hst i0 i1
          subst ea eg
          have hm40 : m ≤ 40 := by rw [← hst.len]; exact linesB_len hln
          have hag2 : at' + go ≤ nl := by rw [HL.out] at hag; omega
          have HREST := Lib.hid hrest
          have HM := Lib.hid hst.len
          clear hx hrest hag hln hno
          have hcut := cut_strs a nl cl p at' hpa (by omega)
          have hwe : IntKind.i64.wrap ((at' : Int) + (go : Int)) = ((at' + go : Nat) : Int) := by rw [IntKind.wrap_i64]; omega
          have d0 := cell_keep hb c0
          go_wp2_with (first
            | (at_builtin; refine app_strs (.tmp 28) (.tmp 35) w.heap.size _ out ho (cutA a cl p) (at' - p) (cl - p) (seg l p at') ((hl.below hb).cut hpa (by omega) hcl) (by have := HO.out; omega) hb.size rfl rfl rfl rfl ?_
               intro v2 w2 o2 g2 p2
               have b2 := hb.grown g2 hb.size (own_block_le ho)
               have k2 := cell_keep b2 c2
               clear g2 p2)
            | (at_builtin; refine app_strs (.tmp 37) (.tmp 41) w.heap.size v2 (out ++ seg l p at') o2 A m c' xn (hst.below b2) (by have := HO.out; rw [List.length_append, seg_len, HL.out]; omega) b2.size rfl rfl rfl rfl ?_
               intro v3 w3 o3 g3 p3
               have b3 := b2.grown g3 b2.size (own_block_le o2)
               have k03 := cell_keep b3 c0
               have k13 := cell_keep b3 c1
               clear g3 p3)
            | fail)
          go_quiet (fail)
          go_wp2
          go_roundw
          case rel => exact ⟨j + 1, at' + go, out ++ seg l p at' ++ xn, by go_num, rfl, by omega, hag2, o3.below (below_drewN (Below.refl _ _) _), show _ ≤ _ by have := HO.out; rw [List.length_append, List.length_append, seg_len, HL.out, HM.out]; omega, HREST.out, show _ = _ by
            have h5 := hstep.out
            try dsimp only at h5
            rw [Int.toNat_natCast, show ((at' : Int) + (go : Int)).toNat = at' + go from by omega] at h5
            rw [← HP.out, h5]
            simp only [List.append_assoc], below_drewN b3 _⟩
          case measure => simp [intOf]; omega
        · have hcut := cut_lo_strs a nl cl p hp hcl
          have hfin := Lib.hid (patch_end (l := l) (hs := hs) (p := p) (j := j) (by rw [HN.out]; omega))
          go_wp2_with (first
            | (at_builtin; refine app_strs (.tmp 53) (.tmp 56) w.heap.size _ out ho (cutA a cl p) (nl - p) (cl - p) (l.drop p) ((hl.below hb).drop_ hp hcl) (by have := HO.out; omega) hb.size rfl rfl rfl rfl ?_
               intro v2 w2 o2 g2 p2
               have b2 := hb.grown g2 hb.size (own_block_le ho)
               have o2 : OwnV w2 w.heap.size v2 (patchH l hs) := by rw [← HP.out, hfin.out]; exact o2
               obtain ⟨A2, cap2, rfl, hc1, hc2⟩ := o2.form rfl)
            | fail)
          refine (implGoodLines_any _ _ _ _ _ o2.strs).mono ?_
          rintro e w3 ⟨rfl, b3⟩
          cases hpg : goodB (patchH l hs)
          · have hf := Lib.hid (show patchOf l hs = ([], false) from if_neg (by simp [patchOk, hpg]))
            go_wp2
            go_ret2
            exact ⟨_, by rw [hf.out]; rfl, by rw [hf.out]; exact OwnV.nil_, b2.next b3⟩
          · have hf := Lib.hid (show patchOf l hs = (patchH l hs, true) from if_pos (by simp only [patchOk, HGL.out, HG.out, hpg]; rfl))
            go_wp2
            go_ret2
            exact ⟨_, by rw [hf.out]; rfl, by rw [hf.out]; exact o2.below b3, b2.next b3⟩

end Go.Proofs.YtnnaigoomipklaaDoor
