/-
  GroupsOf, the model's.
-/
import Derived.Test.YtgohaemmnpifbaaGOneW
import Derived.Test.YtgohaemmnpifbaaGImpl
set_option linter.unusedSimpArgs false
set_option linter.unusedVariables false
namespace Go.Proofs.Ytgohaemmnpifbaa
open Go.RowKit Go.ChangeShapes Go.WideShapes M

set_option maxHeartbeats 8000000 in
set_option maxRecDepth 100000 in
theorem l6Groups_any (a : Option Addr) (nl cl : Nat) (l : List ByteArray) (b0 : Option Addr) (n c : Nat) (hs : List Hk) (W : Nat) (w : World) (hl : Strs w a nl l) (hcl : nl ≤ cl) (hh : Hks w b0 n hs) (hc : n ≤ c) (hg : goodH l.length hs = true) (hW : W ≤ 20) :
    Calls Try.prog 39 #[.slice a nl cl, .slice b0 n c, .int .i64 (W : Int)] w fun e w' => ∃ v vs, e = .returned v ∧ OwnGp w' w.heap.size v (groupsF l W hs.length 0 hs) vs ∧ Below w.heap.size w w' := by
  have HL := Lib.hid hl.len
  have HN := Lib.hid hh.len
  have HG := Lib.hid hg
  have hn20 : n ≤ 20 := by rw [← HN.out]; exact (goodH_parts hg).2.2.1
  have hnl40 : nl ≤ 40 := by have := (goodH_parts hg).2.1; have := HL.out; omega
  have HMB := Lib.hid (show ∀ y ∈ hs, 0 ≤ y.at_ ∧ y.at_ ≤ 40 ∧ 0 ≤ y.gone ∧ y.gone ≤ 40 ∧ y.new.length ≤ 40 from fun y hy => by have := goodH_mem hg hy; omega)
  have HMR := Lib.hid (show ∀ i, -800 ≤ moreH (hs.take i) ∧ moreH (hs.take i) ≤ 800 from fun i => by
    have h := moreH_bound (hs := hs.take i) (fun z hz => by have := HMB.out z (List.mem_of_mem_take hz); omega)
    rw [List.length_take] at h
    have := HN.out
    omega)
  clear hg
  go_enter Try.func39, Try.ntmps39
  go_wp2
  go_loopw [7, 8, 9] (fun lv mv i w' => ∃ (v : Value) (vs : List (List D)) (out : List Gp) (M0 : Int), ∃ i' f : Nat, v = lv ∧ i = .int .i64 (i' : Int) ∧ mv = .int .i64 M0 ∧ Hid (moreH (hs.take i') = M0) ∧ i' ≤ n ∧ OwnGp w' w.heap.size v out vs ∧ Hid (out.length ≤ i') ∧ n - i' ≤ f ∧ Hid (out ++ groupsF l W f (moreH (hs.take i')) (hs.drop i') = groupsF l W hs.length 0 hs) ∧ Below w.heap.size w w') (fun _ _ i _ => n - (intOf i).toNat)
  case atStart => exact ⟨_, [], [], 0, 0, n, rfl, rfl, rfl, rfl, by omega, OwnGp.nil_, Nat.le_refl _, by omega, by rw [HN.out]; rfl, Below.refl _ _⟩
  case round =>
    obtain ⟨v, vs, out, M0, i, f, rfl, rfl, rfl, HM0, hi, ho, HO, hfu, HP, hb⟩ := hrel
    by_cases hlt : i < n
    · obtain ⟨b, off, A, m, c', x, rfl, hx, c0, c1, c2, hst, hmc, i0, i1⟩ := hh.at_ hlt
      obtain ⟨k, f', y, hk, hfu2, hk1, hkn, hgap2, hy, hG⟩ := group_step (l := l) (W := W) (f := f) hx (by rw [HN.out]; exact hfu)
      rw [HN.out] at hfu2 hkn
      obtain ⟨gr1, gr2, gr3, gr4⟩ := group_rest (W := W) HG.out (show ((l.length : Nat) : Int) = ((nl : Nat) : Int) by rw [HL.out]) hx hk1 hy
      obtain ⟨F, HF⟩ : ∃ F, Hid (fromN W x = F) := ⟨_, rfl⟩
      obtain ⟨E, HE⟩ : ∃ E, Hid (endN nl W y = E) := ⟨_, rfl⟩
      obtain ⟨nx, HNX⟩ : ∃ nx, Hid (i + k = nx) := ⟨_, rfl⟩
      have hM := HMR.out i
      rw [HM0.out] at hM
      obtain ⟨hM0, hM1⟩ := hM
      rw [HF.out, HE.out] at gr2
      rw [HE.out] at gr1 gr4
      rw [HF.out, HE.out] at gr3
      rw [HL.out, HE.out, HF.out, HM0.out, HNX.out] at hG
      have hy0 := hy
      rw [HNX.out] at hfu2 hkn hy
      have hn1 : 1 ≤ nx := by have := HNX.out; omega
      have hin : i < nx := by have := HNX.out; omega
      have HKK := Lib.hid hk
      have HG2 := Lib.hid hG
      have HGR2 := Lib.hid gr2
      have HST := Lib.hid hh
      have HLL := Lib.hid hl
      have HXX := Lib.hid hx
      have HYY := Lib.hid hy
      have HFB := Lib.hid (show F ≤ 40 by omega)
      clear hy hy0 hk hG gr1 gr2 hgap2 c0 c1 c2 hst i0 i1 hmc
      go_wp2
      go_loopw [10] (fun q w' => ∃ jj : Nat, q = .int .i64 (jj : Int) ∧ i + 1 ≤ jj ∧ jj ≤ n ∧ Hid (∃ z, hs[jj - 1]? = some z ∧ runF W x (hs.drop (i + 1)) = (jj - (i + 1)) + runF W z (hs.drop jj)) ∧ Below wr.heap.size wr w') (fun q _ => n - (intOf q).toNat)
      case atStart => exact ⟨i + 1, by go_num, by omega, by omega, ⟨x, by rw [Nat.add_sub_cancel]; exact HXX.out, by omega⟩, Below.refl _ _⟩
      case round =>
        rename World => wq
        obtain ⟨jj, rfl, hj1, hj2, HJ, hbq⟩ := hrel
        have hbw := hb.next hbq
        have s4 : IntKind.i64.wrap (2 * (W : Int)) = 2 * (W : Int) := by rw [IntKind.wrap_i64]; omega
        by_cases hjn : jj < n
        · obtain ⟨bz, oz, Az, mz, cz, z, hbz, hz, z0, z1, z2, _, _, _, _⟩ := (HST.out.below hbw).at_ hjn
          obtain ⟨bp, op, Ap, mp, cp, p, hbp, hp, p0, p1, p2, _, _, _, _⟩ := (HST.out.below hbw).at_ (show jj - 1 < n by omega)
          injection hbz with hbz
          injection hbz with hbz1 hbz2
          subst hbz1 hbz2
          injection hbp with hbp
          injection hbp with hbp1 hbp2
          subst hbp1 hbp2
          have hzb := HMB.out z (List.mem_of_getElem? hz)
          have hpb := HMB.out p (List.mem_of_getElem? hp)
          have HRUN := Lib.hid (show runF W x (hs.drop (i + 1)) = (jj - (i + 1)) + (if z.at_ - p.at_ - p.gone ≤ 2 * (W : Int) then runF W z (hs.drop (jj + 1)) + 1 else 0) by
            obtain ⟨p', hp', e⟩ := HJ.out
            rw [hp] at hp'
            injection hp' with hp'
            subst hp'
            rw [e, drop_at hz]
            rfl)
          have HZ := Lib.hid hz
          obtain ⟨za0, za1, zg0, zg1, _⟩ := hzb
          obtain ⟨pa0, pa1, pg0, pg1, _⟩ := hpb
          obtain ⟨za, zg, zn⟩ := z
          obtain ⟨pa, pg, pn⟩ := p
          dsimp only at *
          have s1 : IntKind.i64.wrap ((jj : Int) - 1) = (jj : Int) - 1 := by rw [IntKind.wrap_i64]; omega
          have s2 : IntKind.i64.wrap (pa + pg) = pa + pg := by rw [IntKind.wrap_i64]; omega
          have s3 : IntKind.i64.wrap (za - (pa + pg)) = za - (pa + pg) := by rw [IntKind.wrap_i64]; omega
          have j0 : (0 : Int) ≤ (jj : Int) - 1 := by omega
          have j0' : (1 : Int) ≤ (jj : Int) := by omega
          have j1 : (jj : Int) - 1 < (n : Int) := by omega
          have j2 : (0 : Int) ≤ (jj : Int) := by omega
          have j3 : (jj : Int) < (n : Int) := by omega
          have jt : ((jj : Int) - 1).toNat = jj - 1 := by omega
          have hd : decide ((jj : Int) < (n : Int)) = true := by simp; omega
          have hd' : decide (jj < n) = true := by simp [hjn]
          clear hz hp
          by_cases q : za - pa - pg ≤ 2 * (W : Int)
          · have e1 : decide (za - (pa + pg) ≤ 2 * (W : Int)) = true := decide_eq_true (by omega)
            have HNN := Lib.hid (show runF W x (hs.drop (i + 1)) = (jj + 1 - (i + 1)) + runF W ⟨za, zg, zn⟩ (hs.drop (jj + 1)) by rw [HRUN.out, if_pos q]; omega)
            clear q
            go_wp2
            refine wp_region_held_drew (S := fun w' => w'.cell? ⟨b, off + jj * 3, none⟩ = some (.int .i64 za) ∧ w'.cell? ⟨b, off + (jj - 1) * 3, none⟩ = some (.int .i64 pa) ∧ w'.cell? ⟨b, off + (jj - 1) * 3 + 1, none⟩ = some (.int .i64 pg)) (by kernel_rfl) ?_ (fun hHeld => ?_)
            · exact ⟨z0, p0, p1⟩
            refine wpAnyH_take (i := 0) (v := ?_) (by simp only [List.getElem?_toArray, List.getElem?_cons_succ, List.getElem?_cons_zero]; rfl) (by kernel_rfl) (by kernel_rfl) (by kernel_rfl) (by exact fun _ _ _ h => h) (Or.inl ⟨by rfl, ?_⟩) hHeld ?_
            rotate_left 1
            · (intro w hSw; (try dsimp only at hSw); go_simp; (try with_reducible rfl))
            (try simp only [Act.put, List.setIfInBounds_toArray, List.set_cons_zero, List.set_cons_succ])
            refine wpAnyH_take (i := 1) (v := ?_) (by simp only [List.getElem?_toArray, List.getElem?_cons_succ, List.getElem?_cons_zero]; rfl) (by kernel_rfl) (by kernel_rfl) (by kernel_rfl) (by exact fun _ _ _ h => h) (Or.inl ⟨by rfl, ?_⟩) hHeld ?_
            rotate_left 1
            · (intro w hSw; (try dsimp only at hSw); go_simp; (try with_reducible rfl))
            (try simp only [Act.put, List.setIfInBounds_toArray, List.set_cons_zero, List.set_cons_succ])
            refine wpAnyH_take (i := 2) (v := ?_) (by simp only [List.getElem?_toArray, List.getElem?_cons_succ, List.getElem?_cons_zero]; rfl) (by kernel_rfl) (by kernel_rfl) (by kernel_rfl) (by exact fun _ _ _ h => h) (Or.inl ⟨by rfl, ?_⟩) hHeld ?_
            rotate_left 1
            · (intro w hSw; (try dsimp only at hSw); go_simp; (try with_reducible rfl))
            (try simp only [Act.put, List.setIfInBounds_toArray, List.set_cons_zero, List.set_cons_succ])
            refine wpAnyH_take (i := 3) (v := ?_) (by simp only [List.getElem?_toArray, List.getElem?_cons_succ, List.getElem?_cons_zero]; rfl) (by kernel_rfl) (by kernel_rfl) (by kernel_rfl) (by exact fun _ _ _ h => h) (Or.inl ⟨by rfl, ?_⟩) hHeld ?_
            rotate_left 1
            · (intro w hSw; (try dsimp only at hSw); go_simp; (try with_reducible rfl))
            (try simp only [Act.put, List.setIfInBounds_toArray, List.set_cons_zero, List.set_cons_succ])
            refine wpAnyH_take (i := 4) (v := ?_) (by simp only [List.getElem?_toArray, List.getElem?_cons_succ, List.getElem?_cons_zero]; rfl) (by kernel_rfl) (by kernel_rfl) (by kernel_rfl) (by exact fun _ _ _ h => h) (Or.inl ⟨by rfl, ?_⟩) hHeld ?_
            rotate_left 1
            · (intro w hSw; (try dsimp only at hSw); go_simp; (try with_reducible rfl))
            (try simp only [Act.put, List.setIfInBounds_toArray, List.set_cons_zero, List.set_cons_succ])
            refine wpAnyH_take (i := 5) (v := ?_) (by simp only [List.getElem?_toArray, List.getElem?_cons_succ, List.getElem?_cons_zero]; rfl) (by kernel_rfl) (by kernel_rfl) (by kernel_rfl) (by exact fun _ _ _ h => h) (Or.inl ⟨by rfl, ?_⟩) hHeld ?_
            rotate_left 1
            · (intro w hSw; (try dsimp only at hSw); go_simp; (try with_reducible rfl))
            (try simp only [Act.put, List.setIfInBounds_toArray, List.set_cons_zero, List.set_cons_succ])
            refine wpAnyH_take (i := 6) (v := ?_) (by simp only [List.getElem?_toArray, List.getElem?_cons_succ, List.getElem?_cons_zero]; rfl) (by kernel_rfl) (by kernel_rfl) (by kernel_rfl) (by exact fun _ _ _ h => h) (Or.inl ⟨by rfl, ?_⟩) hHeld ?_
            rotate_left 1
            · (intro w hSw; (try dsimp only at hSw); go_simp; (try with_reducible rfl))
            (try simp only [Act.put, List.setIfInBounds_toArray, List.set_cons_zero, List.set_cons_succ])
            refine wpAnyH_take (i := 7) (v := ?_) (by simp only [List.getElem?_toArray, List.getElem?_cons_succ, List.getElem?_cons_zero]; rfl) (by kernel_rfl) (by kernel_rfl) (by kernel_rfl) (by exact fun _ _ _ h => h) (Or.inl ⟨by rfl, ?_⟩) hHeld ?_
            rotate_left 1
            · (intro w hSw; (try dsimp only at hSw); go_simp; (try with_reducible rfl))
            (try simp only [Act.put, List.setIfInBounds_toArray, List.set_cons_zero, List.set_cons_succ])
            refine wpAnyH_take (i := 8) (v := ?_) (by simp only [List.getElem?_toArray, List.getElem?_cons_succ, List.getElem?_cons_zero]; rfl) (by kernel_rfl) (by kernel_rfl) (by kernel_rfl) (by exact fun _ _ _ h => h) (Or.inl ⟨by rfl, ?_⟩) hHeld ?_
            rotate_left 1
            · (intro w hSw; (try dsimp only at hSw); go_simp; (try with_reducible rfl))
            (try simp only [Act.put, List.setIfInBounds_toArray, List.set_cons_zero, List.set_cons_succ])
            refine wpAnyH_take (i := 9) (v := ?_) (by simp only [List.getElem?_toArray, List.getElem?_cons_succ, List.getElem?_cons_zero]; rfl) (by kernel_rfl) (by kernel_rfl) (by kernel_rfl) (by exact fun _ _ _ h => h) (Or.inl ⟨by rfl, ?_⟩) hHeld ?_
            rotate_left 1
            · (intro w hSw; (try dsimp only at hSw); go_simp; (try with_reducible rfl))
            (try simp only [Act.put, List.setIfInBounds_toArray, List.set_cons_zero, List.set_cons_succ])
            refine wpAnyH_take (i := 10) (v := ?_) (by simp only [List.getElem?_toArray, List.getElem?_cons_succ, List.getElem?_cons_zero]; rfl) (by kernel_rfl) (by kernel_rfl) (by kernel_rfl) (by exact fun _ _ _ h => h) (Or.inl ⟨by rfl, ?_⟩) hHeld ?_
            rotate_left 1
            · (intro w hSw; (try dsimp only at hSw); go_simp; (try with_reducible rfl))
            (try simp only [Act.put, List.setIfInBounds_toArray, List.set_cons_zero, List.set_cons_succ])
            refine wpAnyH_take (i := 11) (v := ?_) (by simp only [List.getElem?_toArray, List.getElem?_cons_succ, List.getElem?_cons_zero]; rfl) (by kernel_rfl) (by kernel_rfl) (by kernel_rfl) (by exact fun _ _ _ h => h) (Or.inl ⟨by rfl, ?_⟩) hHeld ?_
            rotate_left 1
            · (intro w hSw; (try dsimp only at hSw); go_simp; (try with_reducible rfl))
            (try simp only [Act.put, List.setIfInBounds_toArray, List.set_cons_zero, List.set_cons_succ])
            refine wpAnyH_take (i := 12) (v := ?_) (by simp only [List.getElem?_toArray, List.getElem?_cons_succ, List.getElem?_cons_zero]; rfl) (by kernel_rfl) (by kernel_rfl) (by kernel_rfl) (by exact fun _ _ _ h => h) (Or.inl ⟨by rfl, ?_⟩) hHeld ?_
            rotate_left 1
            · (intro w hSw; (try dsimp only at hSw); go_simp; (try with_reducible rfl))
            (try simp only [Act.put, List.setIfInBounds_toArray, List.set_cons_zero, List.set_cons_succ])
            refine wpAnyH_take (i := 13) (v := ?_) (by simp only [List.getElem?_toArray, List.getElem?_cons_succ, List.getElem?_cons_zero]; rfl) (by kernel_rfl) (by kernel_rfl) (by kernel_rfl) (by exact fun _ _ _ h => h) (Or.inl ⟨by rfl, ?_⟩) hHeld ?_
            rotate_left 1
            · (intro w hSw; (try dsimp only at hSw); go_simp; (try with_reducible rfl))
            (try simp only [Act.put, List.setIfInBounds_toArray, List.set_cons_zero, List.set_cons_succ])
            refine wpAnyH_take (i := 14) (v := ?_) (by simp only [List.getElem?_toArray, List.getElem?_cons_succ, List.getElem?_cons_zero]; rfl) (by kernel_rfl) (by kernel_rfl) (by kernel_rfl) (by exact fun _ _ _ h => h) (Or.inl ⟨by rfl, ?_⟩) hHeld ?_
            rotate_left 1
            · (intro w hSw; (try dsimp only at hSw); go_simp; (try with_reducible rfl))
            (try simp only [Act.put, List.setIfInBounds_toArray, List.set_cons_zero, List.set_cons_succ])
            refine wpAnyH_take (i := 15) (v := ?_) (by simp only [List.getElem?_toArray, List.getElem?_cons_succ, List.getElem?_cons_zero]; rfl) (by kernel_rfl) (by kernel_rfl) (by kernel_rfl) (by exact fun _ _ _ h => h) (Or.inl ⟨by rfl, ?_⟩) hHeld ?_
            rotate_left 1
            · (intro w hSw; (try dsimp only at hSw); go_simp; (try with_reducible rfl))
            (try simp only [Act.put, List.setIfInBounds_toArray, List.set_cons_zero, List.set_cons_succ])
            refine wpAnyH_take (i := 16) (v := ?_) (by simp only [List.getElem?_toArray, List.getElem?_cons_succ, List.getElem?_cons_zero]; rfl) (by kernel_rfl) (by kernel_rfl) (by kernel_rfl) (by exact fun _ _ _ h => h) (Or.inl ⟨by rfl, ?_⟩) hHeld ?_
            rotate_left 1
            · (intro w hSw; (try dsimp only at hSw); go_simp; (try with_reducible rfl))
            (try simp only [Act.put, List.setIfInBounds_toArray, List.set_cons_zero, List.set_cons_succ])
            refine wpAnyH_take (i := 17) (v := ?_) (by simp only [List.getElem?_toArray, List.getElem?_cons_succ, List.getElem?_cons_zero]; rfl) (by kernel_rfl) (by kernel_rfl) (by kernel_rfl) (by exact fun _ _ _ h => h) (Or.inl ⟨by rfl, ?_⟩) hHeld ?_
            rotate_left 1
            · (intro w hSw; (try dsimp only at hSw); go_simp; (try with_reducible rfl))
            (try simp only [Act.put, List.setIfInBounds_toArray, List.set_cons_zero, List.set_cons_succ])
            refine wpAnyH_take (i := 18) (v := ?_) (by simp only [List.getElem?_toArray, List.getElem?_cons_succ, List.getElem?_cons_zero]; rfl) (by kernel_rfl) (by kernel_rfl) (by kernel_rfl) (by exact fun _ _ _ h => h) (Or.inl ⟨by rfl, ?_⟩) hHeld ?_
            rotate_left 1
            · (intro w hSw; (try dsimp only at hSw); go_simp; (try with_reducible rfl))
            (try simp only [Act.put, List.setIfInBounds_toArray, List.set_cons_zero, List.set_cons_succ])
            refine wpAnyH_take (i := 19) (v := ?_) (by simp only [List.getElem?_toArray, List.getElem?_cons_succ, List.getElem?_cons_zero]; rfl) (by kernel_rfl) (by kernel_rfl) (by kernel_rfl) (by exact fun _ _ _ h => h) (Or.inl ⟨by rfl, ?_⟩) hHeld ?_
            rotate_left 1
            · (intro w hSw; (try dsimp only at hSw); go_simp; (try with_reducible rfl))
            (try simp only [Act.put, List.setIfInBounds_toArray, List.set_cons_zero, List.set_cons_succ])
            refine wpAnyH_take (i := 20) (v := ?_) (by simp only [List.getElem?_toArray, List.getElem?_cons_succ, List.getElem?_cons_zero]; rfl) (by kernel_rfl) (by kernel_rfl) (by kernel_rfl) (by exact fun _ _ _ h => h) (Or.inl ⟨by rfl, ?_⟩) hHeld ?_
            rotate_left 1
            · (intro w hSw; (try dsimp only at hSw); go_simp; (try with_reducible rfl))
            (try simp only [Act.put, List.setIfInBounds_toArray, List.set_cons_zero, List.set_cons_succ])
            refine wpAnyH_take (i := 21) (v := ?_) (by simp only [List.getElem?_toArray, List.getElem?_cons_succ, List.getElem?_cons_zero]; rfl) (by kernel_rfl) (by kernel_rfl) (by kernel_rfl) (by exact fun _ _ _ h => h) (Or.inl ⟨by rfl, ?_⟩) hHeld ?_
            rotate_left 1
            · (intro w hSw; (try dsimp only at hSw); go_simp; (try with_reducible rfl))
            (try simp only [Act.put, List.setIfInBounds_toArray, List.set_cons_zero, List.set_cons_succ])
            refine wpAnyH_take (i := 22) (v := ?_) (by simp only [List.getElem?_toArray, List.getElem?_cons_succ, List.getElem?_cons_zero]; rfl) (by kernel_rfl) (by kernel_rfl) (by kernel_rfl) (by exact fun _ _ _ h => h) (Or.inl ⟨by rfl, ?_⟩) hHeld ?_
            rotate_left 1
            · (intro w hSw; (try dsimp only at hSw); go_simp; (try with_reducible rfl))
            (try simp only [Act.put, List.setIfInBounds_toArray, List.set_cons_zero, List.set_cons_succ])
            refine wpAnyH_take (i := 23) (v := ?_) (by simp only [List.getElem?_toArray, List.getElem?_cons_succ, List.getElem?_cons_zero]; rfl) (by kernel_rfl) (by kernel_rfl) (by kernel_rfl) (by exact fun _ _ _ h => h) (Or.inl ⟨by rfl, ?_⟩) hHeld ?_
            rotate_left 1
            · (intro w hSw; (try dsimp only at hSw); go_simp; (try with_reducible rfl))
            (try simp only [Act.put, List.setIfInBounds_toArray, List.set_cons_zero, List.set_cons_succ])
            refine wpAnyH_take (i := 24) (v := ?_) (by simp only [List.getElem?_toArray, List.getElem?_cons_succ, List.getElem?_cons_zero]; rfl) (by kernel_rfl) (by kernel_rfl) (by kernel_rfl) (by exact fun _ _ _ h => h) (Or.inl ⟨by rfl, ?_⟩) hHeld ?_
            rotate_left 1
            · (intro w hSw; (try dsimp only at hSw); go_simp; (try with_reducible rfl))
            (try simp only [Act.put, List.setIfInBounds_toArray, List.set_cons_zero, List.set_cons_succ])
            refine wpAnyH_take (i := 25) (v := ?_) (by simp only [List.getElem?_toArray, List.getElem?_cons_succ, List.getElem?_cons_zero]; rfl) (by kernel_rfl) (by kernel_rfl) (by kernel_rfl) (by exact fun _ _ _ h => h) (Or.inl ⟨by rfl, ?_⟩) hHeld ?_
            rotate_left 1
            · (intro w hSw; (try dsimp only at hSw); go_simp; (try with_reducible rfl))
            (try simp only [Act.put, List.setIfInBounds_toArray, List.set_cons_zero, List.set_cons_succ])
            refine wpAnyH_take (i := 26) (v := ?_) (by simp only [List.getElem?_toArray, List.getElem?_cons_succ, List.getElem?_cons_zero]; rfl) (by kernel_rfl) (by kernel_rfl) (by kernel_rfl) (by exact fun _ _ _ h => h) (Or.inl ⟨by rfl, ?_⟩) hHeld ?_
            rotate_left 1
            · (intro w hSw; (try dsimp only at hSw); go_simp; (try with_reducible rfl))
            (try simp only [Act.put, List.setIfInBounds_toArray, List.set_cons_zero, List.set_cons_succ])
            refine wpAnyH_take (i := 27) (v := ?_) (by simp only [List.getElem?_toArray, List.getElem?_cons_succ, List.getElem?_cons_zero]; rfl) (by kernel_rfl) (by kernel_rfl) (by kernel_rfl) (by exact fun _ _ _ h => h) (Or.inl ⟨by rfl, ?_⟩) hHeld ?_
            rotate_left 1
            · (intro w hSw; (try dsimp only at hSw); go_simp; (try with_reducible rfl))
            (try simp only [Act.put, List.setIfInBounds_toArray, List.set_cons_zero, List.set_cons_succ])
            refine wpAnyH_done (by kernel_rfl) ?_ _
            go_wp2
            go_roundw
            case rel => exact ⟨jj + 1, by go_num, by omega, by omega, ⟨⟨za, zg, zn⟩, by rw [Nat.add_sub_cancel]; exact HZ.out, HNN.out⟩, hbq.drew⟩
            case measure => simp [intOf]; omega
          · have e1 : decide (za - (pa + pg) ≤ 2 * (W : Int)) = false := decide_eq_false (by omega)
            have hjx : jj = nx := by have h1 := HRUN.out; rw [if_neg q] at h1; have := HKK.out; have := HNX.out; omega
            have HJX := Lib.hid hjx
            clear q hjx
            go_wp2
            refine wp_region_held_drew (S := fun w' => w'.cell? ⟨b, off + jj * 3, none⟩ = some (.int .i64 za) ∧ w'.cell? ⟨b, off + (jj - 1) * 3, none⟩ = some (.int .i64 pa) ∧ w'.cell? ⟨b, off + (jj - 1) * 3 + 1, none⟩ = some (.int .i64 pg)) (by kernel_rfl) ?_ (fun hHeld => ?_)
            · exact ⟨z0, p0, p1⟩
            refine wpAnyH_take (i := 0) (v := ?_) (by simp only [List.getElem?_toArray, List.getElem?_cons_succ, List.getElem?_cons_zero]; rfl) (by kernel_rfl) (by kernel_rfl) (by kernel_rfl) (by exact fun _ _ _ h => h) (Or.inl ⟨by rfl, ?_⟩) hHeld ?_
            rotate_left 1
            · (intro w hSw; (try dsimp only at hSw); go_simp; (try with_reducible rfl))
            (try simp only [Act.put, List.setIfInBounds_toArray, List.set_cons_zero, List.set_cons_succ])
            refine wpAnyH_take (i := 1) (v := ?_) (by simp only [List.getElem?_toArray, List.getElem?_cons_succ, List.getElem?_cons_zero]; rfl) (by kernel_rfl) (by kernel_rfl) (by kernel_rfl) (by exact fun _ _ _ h => h) (Or.inl ⟨by rfl, ?_⟩) hHeld ?_
            rotate_left 1
            · (intro w hSw; (try dsimp only at hSw); go_simp; (try with_reducible rfl))
            (try simp only [Act.put, List.setIfInBounds_toArray, List.set_cons_zero, List.set_cons_succ])
            refine wpAnyH_take (i := 2) (v := ?_) (by simp only [List.getElem?_toArray, List.getElem?_cons_succ, List.getElem?_cons_zero]; rfl) (by kernel_rfl) (by kernel_rfl) (by kernel_rfl) (by exact fun _ _ _ h => h) (Or.inl ⟨by rfl, ?_⟩) hHeld ?_
            rotate_left 1
            · (intro w hSw; (try dsimp only at hSw); go_simp; (try with_reducible rfl))
            (try simp only [Act.put, List.setIfInBounds_toArray, List.set_cons_zero, List.set_cons_succ])
            refine wpAnyH_take (i := 3) (v := ?_) (by simp only [List.getElem?_toArray, List.getElem?_cons_succ, List.getElem?_cons_zero]; rfl) (by kernel_rfl) (by kernel_rfl) (by kernel_rfl) (by exact fun _ _ _ h => h) (Or.inl ⟨by rfl, ?_⟩) hHeld ?_
            rotate_left 1
            · (intro w hSw; (try dsimp only at hSw); go_simp; (try with_reducible rfl))
            (try simp only [Act.put, List.setIfInBounds_toArray, List.set_cons_zero, List.set_cons_succ])
            refine wpAnyH_take (i := 4) (v := ?_) (by simp only [List.getElem?_toArray, List.getElem?_cons_succ, List.getElem?_cons_zero]; rfl) (by kernel_rfl) (by kernel_rfl) (by kernel_rfl) (by exact fun _ _ _ h => h) (Or.inl ⟨by rfl, ?_⟩) hHeld ?_
            rotate_left 1
            · (intro w hSw; (try dsimp only at hSw); go_simp; (try with_reducible rfl))
            (try simp only [Act.put, List.setIfInBounds_toArray, List.set_cons_zero, List.set_cons_succ])
            refine wpAnyH_take (i := 5) (v := ?_) (by simp only [List.getElem?_toArray, List.getElem?_cons_succ, List.getElem?_cons_zero]; rfl) (by kernel_rfl) (by kernel_rfl) (by kernel_rfl) (by exact fun _ _ _ h => h) (Or.inl ⟨by rfl, ?_⟩) hHeld ?_
            rotate_left 1
            · (intro w hSw; (try dsimp only at hSw); go_simp; (try with_reducible rfl))
            (try simp only [Act.put, List.setIfInBounds_toArray, List.set_cons_zero, List.set_cons_succ])
            refine wpAnyH_take (i := 6) (v := ?_) (by simp only [List.getElem?_toArray, List.getElem?_cons_succ, List.getElem?_cons_zero]; rfl) (by kernel_rfl) (by kernel_rfl) (by kernel_rfl) (by exact fun _ _ _ h => h) (Or.inl ⟨by rfl, ?_⟩) hHeld ?_
            rotate_left 1
            · (intro w hSw; (try dsimp only at hSw); go_simp; (try with_reducible rfl))
            (try simp only [Act.put, List.setIfInBounds_toArray, List.set_cons_zero, List.set_cons_succ])
            refine wpAnyH_take (i := 7) (v := ?_) (by simp only [List.getElem?_toArray, List.getElem?_cons_succ, List.getElem?_cons_zero]; rfl) (by kernel_rfl) (by kernel_rfl) (by kernel_rfl) (by exact fun _ _ _ h => h) (Or.inl ⟨by rfl, ?_⟩) hHeld ?_
            rotate_left 1
            · (intro w hSw; (try dsimp only at hSw); go_simp; (try with_reducible rfl))
            (try simp only [Act.put, List.setIfInBounds_toArray, List.set_cons_zero, List.set_cons_succ])
            refine wpAnyH_take (i := 8) (v := ?_) (by simp only [List.getElem?_toArray, List.getElem?_cons_succ, List.getElem?_cons_zero]; rfl) (by kernel_rfl) (by kernel_rfl) (by kernel_rfl) (by exact fun _ _ _ h => h) (Or.inl ⟨by rfl, ?_⟩) hHeld ?_
            rotate_left 1
            · (intro w hSw; (try dsimp only at hSw); go_simp; (try with_reducible rfl))
            (try simp only [Act.put, List.setIfInBounds_toArray, List.set_cons_zero, List.set_cons_succ])
            refine wpAnyH_take (i := 9) (v := ?_) (by simp only [List.getElem?_toArray, List.getElem?_cons_succ, List.getElem?_cons_zero]; rfl) (by kernel_rfl) (by kernel_rfl) (by kernel_rfl) (by exact fun _ _ _ h => h) (Or.inl ⟨by rfl, ?_⟩) hHeld ?_
            rotate_left 1
            · (intro w hSw; (try dsimp only at hSw); go_simp; (try with_reducible rfl))
            (try simp only [Act.put, List.setIfInBounds_toArray, List.set_cons_zero, List.set_cons_succ])
            refine wpAnyH_take (i := 10) (v := ?_) (by simp only [List.getElem?_toArray, List.getElem?_cons_succ, List.getElem?_cons_zero]; rfl) (by kernel_rfl) (by kernel_rfl) (by kernel_rfl) (by exact fun _ _ _ h => h) (Or.inl ⟨by rfl, ?_⟩) hHeld ?_
            rotate_left 1
            · (intro w hSw; (try dsimp only at hSw); go_simp; (try with_reducible rfl))
            (try simp only [Act.put, List.setIfInBounds_toArray, List.set_cons_zero, List.set_cons_succ])
            refine wpAnyH_take (i := 11) (v := ?_) (by simp only [List.getElem?_toArray, List.getElem?_cons_succ, List.getElem?_cons_zero]; rfl) (by kernel_rfl) (by kernel_rfl) (by kernel_rfl) (by exact fun _ _ _ h => h) (Or.inl ⟨by rfl, ?_⟩) hHeld ?_
            rotate_left 1
            · (intro w hSw; (try dsimp only at hSw); go_simp; (try with_reducible rfl))
            (try simp only [Act.put, List.setIfInBounds_toArray, List.set_cons_zero, List.set_cons_succ])
            refine wpAnyH_take (i := 12) (v := ?_) (by simp only [List.getElem?_toArray, List.getElem?_cons_succ, List.getElem?_cons_zero]; rfl) (by kernel_rfl) (by kernel_rfl) (by kernel_rfl) (by exact fun _ _ _ h => h) (Or.inl ⟨by rfl, ?_⟩) hHeld ?_
            rotate_left 1
            · (intro w hSw; (try dsimp only at hSw); go_simp; (try with_reducible rfl))
            (try simp only [Act.put, List.setIfInBounds_toArray, List.set_cons_zero, List.set_cons_succ])
            refine wpAnyH_take (i := 13) (v := ?_) (by simp only [List.getElem?_toArray, List.getElem?_cons_succ, List.getElem?_cons_zero]; rfl) (by kernel_rfl) (by kernel_rfl) (by kernel_rfl) (by exact fun _ _ _ h => h) (Or.inl ⟨by rfl, ?_⟩) hHeld ?_
            rotate_left 1
            · (intro w hSw; (try dsimp only at hSw); go_simp; (try with_reducible rfl))
            (try simp only [Act.put, List.setIfInBounds_toArray, List.set_cons_zero, List.set_cons_succ])
            refine wpAnyH_take (i := 14) (v := ?_) (by simp only [List.getElem?_toArray, List.getElem?_cons_succ, List.getElem?_cons_zero]; rfl) (by kernel_rfl) (by kernel_rfl) (by kernel_rfl) (by exact fun _ _ _ h => h) (Or.inl ⟨by rfl, ?_⟩) hHeld ?_
            rotate_left 1
            · (intro w hSw; (try dsimp only at hSw); go_simp; (try with_reducible rfl))
            (try simp only [Act.put, List.setIfInBounds_toArray, List.set_cons_zero, List.set_cons_succ])
            refine wpAnyH_take (i := 15) (v := ?_) (by simp only [List.getElem?_toArray, List.getElem?_cons_succ, List.getElem?_cons_zero]; rfl) (by kernel_rfl) (by kernel_rfl) (by kernel_rfl) (by exact fun _ _ _ h => h) (Or.inl ⟨by rfl, ?_⟩) hHeld ?_
            rotate_left 1
            · (intro w hSw; (try dsimp only at hSw); go_simp; (try with_reducible rfl))
            (try simp only [Act.put, List.setIfInBounds_toArray, List.set_cons_zero, List.set_cons_succ])
            refine wpAnyH_take (i := 16) (v := ?_) (by simp only [List.getElem?_toArray, List.getElem?_cons_succ, List.getElem?_cons_zero]; rfl) (by kernel_rfl) (by kernel_rfl) (by kernel_rfl) (by exact fun _ _ _ h => h) (Or.inl ⟨by rfl, ?_⟩) hHeld ?_
            rotate_left 1
            · (intro w hSw; (try dsimp only at hSw); go_simp; (try with_reducible rfl))
            (try simp only [Act.put, List.setIfInBounds_toArray, List.set_cons_zero, List.set_cons_succ])
            refine wpAnyH_take (i := 17) (v := ?_) (by simp only [List.getElem?_toArray, List.getElem?_cons_succ, List.getElem?_cons_zero]; rfl) (by kernel_rfl) (by kernel_rfl) (by kernel_rfl) (by exact fun _ _ _ h => h) (Or.inl ⟨by rfl, ?_⟩) hHeld ?_
            rotate_left 1
            · (intro w hSw; (try dsimp only at hSw); go_simp; (try with_reducible rfl))
            (try simp only [Act.put, List.setIfInBounds_toArray, List.set_cons_zero, List.set_cons_succ])
            refine wpAnyH_take (i := 18) (v := ?_) (by simp only [List.getElem?_toArray, List.getElem?_cons_succ, List.getElem?_cons_zero]; rfl) (by kernel_rfl) (by kernel_rfl) (by kernel_rfl) (by exact fun _ _ _ h => h) (Or.inl ⟨by rfl, ?_⟩) hHeld ?_
            rotate_left 1
            · (intro w hSw; (try dsimp only at hSw); go_simp; (try with_reducible rfl))
            (try simp only [Act.put, List.setIfInBounds_toArray, List.set_cons_zero, List.set_cons_succ])
            refine wpAnyH_take (i := 19) (v := ?_) (by simp only [List.getElem?_toArray, List.getElem?_cons_succ, List.getElem?_cons_zero]; rfl) (by kernel_rfl) (by kernel_rfl) (by kernel_rfl) (by exact fun _ _ _ h => h) (Or.inl ⟨by rfl, ?_⟩) hHeld ?_
            rotate_left 1
            · (intro w hSw; (try dsimp only at hSw); go_simp; (try with_reducible rfl))
            (try simp only [Act.put, List.setIfInBounds_toArray, List.set_cons_zero, List.set_cons_succ])
            refine wpAnyH_take (i := 20) (v := ?_) (by simp only [List.getElem?_toArray, List.getElem?_cons_succ, List.getElem?_cons_zero]; rfl) (by kernel_rfl) (by kernel_rfl) (by kernel_rfl) (by exact fun _ _ _ h => h) (Or.inl ⟨by rfl, ?_⟩) hHeld ?_
            rotate_left 1
            · (intro w hSw; (try dsimp only at hSw); go_simp; (try with_reducible rfl))
            (try simp only [Act.put, List.setIfInBounds_toArray, List.set_cons_zero, List.set_cons_succ])
            refine wpAnyH_take (i := 21) (v := ?_) (by simp only [List.getElem?_toArray, List.getElem?_cons_succ, List.getElem?_cons_zero]; rfl) (by kernel_rfl) (by kernel_rfl) (by kernel_rfl) (by exact fun _ _ _ h => h) (Or.inl ⟨by rfl, ?_⟩) hHeld ?_
            rotate_left 1
            · (intro w hSw; (try dsimp only at hSw); go_simp; (try with_reducible rfl))
            (try simp only [Act.put, List.setIfInBounds_toArray, List.set_cons_zero, List.set_cons_succ])
            refine wpAnyH_take (i := 22) (v := ?_) (by simp only [List.getElem?_toArray, List.getElem?_cons_succ, List.getElem?_cons_zero]; rfl) (by kernel_rfl) (by kernel_rfl) (by kernel_rfl) (by exact fun _ _ _ h => h) (Or.inl ⟨by rfl, ?_⟩) hHeld ?_
            rotate_left 1
            · (intro w hSw; (try dsimp only at hSw); go_simp; (try with_reducible rfl))
            (try simp only [Act.put, List.setIfInBounds_toArray, List.set_cons_zero, List.set_cons_succ])
            refine wpAnyH_take (i := 23) (v := ?_) (by simp only [List.getElem?_toArray, List.getElem?_cons_succ, List.getElem?_cons_zero]; rfl) (by kernel_rfl) (by kernel_rfl) (by kernel_rfl) (by exact fun _ _ _ h => h) (Or.inl ⟨by rfl, ?_⟩) hHeld ?_
            rotate_left 1
            · (intro w hSw; (try dsimp only at hSw); go_simp; (try with_reducible rfl))
            (try simp only [Act.put, List.setIfInBounds_toArray, List.set_cons_zero, List.set_cons_succ])
            refine wpAnyH_take (i := 24) (v := ?_) (by simp only [List.getElem?_toArray, List.getElem?_cons_succ, List.getElem?_cons_zero]; rfl) (by kernel_rfl) (by kernel_rfl) (by kernel_rfl) (by exact fun _ _ _ h => h) (Or.inl ⟨by rfl, ?_⟩) hHeld ?_
            rotate_left 1
            · (intro w hSw; (try dsimp only at hSw); go_simp; (try with_reducible rfl))
            (try simp only [Act.put, List.setIfInBounds_toArray, List.set_cons_zero, List.set_cons_succ])
            refine wpAnyH_take (i := 25) (v := ?_) (by simp only [List.getElem?_toArray, List.getElem?_cons_succ, List.getElem?_cons_zero]; rfl) (by kernel_rfl) (by kernel_rfl) (by kernel_rfl) (by exact fun _ _ _ h => h) (Or.inl ⟨by rfl, ?_⟩) hHeld ?_
            rotate_left 1
            · (intro w hSw; (try dsimp only at hSw); go_simp; (try with_reducible rfl))
            (try simp only [Act.put, List.setIfInBounds_toArray, List.set_cons_zero, List.set_cons_succ])
            refine wpAnyH_take (i := 26) (v := ?_) (by simp only [List.getElem?_toArray, List.getElem?_cons_succ, List.getElem?_cons_zero]; rfl) (by kernel_rfl) (by kernel_rfl) (by kernel_rfl) (by exact fun _ _ _ h => h) (Or.inl ⟨by rfl, ?_⟩) hHeld ?_
            rotate_left 1
            · (intro w hSw; (try dsimp only at hSw); go_simp; (try with_reducible rfl))
            (try simp only [Act.put, List.setIfInBounds_toArray, List.set_cons_zero, List.set_cons_succ])
            refine wpAnyH_take (i := 27) (v := ?_) (by simp only [List.getElem?_toArray, List.getElem?_cons_succ, List.getElem?_cons_zero]; rfl) (by kernel_rfl) (by kernel_rfl) (by kernel_rfl) (by exact fun _ _ _ h => h) (Or.inl ⟨by rfl, ?_⟩) hHeld ?_
            rotate_left 1
            · (intro w hSw; (try dsimp only at hSw); go_simp; (try with_reducible rfl))
            (try simp only [Act.put, List.setIfInBounds_toArray, List.set_cons_zero, List.set_cons_succ])
            refine wpAnyH_done (by kernel_rfl) ?_ _
            have hjx := HJX.out.symm
            subst hjx
            clear s1 s2 s3 s4 j0 j0' j1 j2 j3 jt hd hd' e1 z0 z1 z2 p0 p1 p2 hHeld
            obtain ⟨wd, HWD⟩ : ∃ wd, Hid (wd = wq.drew) := ⟨_, rfl⟩
            have hbd := Lib.hid (show Below w.heap.size w wd by rw [HWD.out]; exact hbw.drew)
            have hod := Lib.hid (show OwnGp wd w.heap.size v out vs by rw [HWD.out]; exact (ho.below hbq).below (Below.refl _ _).drew)
            rw [← HWD.out]
            have hcut := cut_lh_hks (some ⟨b, off, none⟩) n c i nx (by omega) (by omega)
            go_wp2_with fail
            refine (l6One_any a nl cl l (cutH (some ⟨b, off, none⟩) c i) (nx - i) (c - i) ((hs.drop i).take k) x y W F E M0 wd (HLL.out.below hbd.out) hcl (by
              have h5 := (HST.out.below hbd.out).cutG (lo := i) (hi := nx) (by omega) (by omega) hc
              rw [show nx - i = k by have := HNX.out; omega] at h5 ⊢
              exact h5) (by rw [List.getElem?_take, if_pos (by omega), List.getElem?_drop]; exact HXX.out) (by
              rw [List.getElem?_take, if_pos (by have := HNX.out; omega), List.getElem?_drop, show i + (nx - i - 1) = nx - 1 by omega]; exact HYY.out) HF.out HE.out HGR2.out gr3 gr4 hnl40 (by omega) hW hM0 hM1 (fun z hz => HMB.out z (List.mem_of_mem_drop (List.mem_of_mem_take hz)))).mono ?_
            rintro e w2 ⟨u, rfl, o2, b2⟩
            obtain ⟨ul, HUL⟩ : ∃ ul, Hid ((rowsM l E F ((hs.drop i).take k)).length = ul) := ⟨_, rfl⟩
            obtain ⟨uA, uc, rfl, hu1, _⟩ := o2.form HUL.out
            have B2 := Lib.hid (hbd.out.next b2)
            have ho2 := hod.out.below b2
            have o2b := o2.more hbd.out.size
            have hfr : ∀ g, (Value.slice uA ul uc).ownBlock = some g → ¬ BlkR v vs g := fun g e e2 => by
              have h6 := (o2.lt e).1
              have h7 := (hod.out.lt e2).2
              omega
            have hF0 : i64ok (F : Int) := ⟨by omega, by omega⟩
            have hF1 : i64ok ((F : Int) + M0) := ⟨by have := HFB.out; omega, by have := HFB.out; omega⟩
            have hb3 : Below w2.heap.size w2 (w2.alloc (.cells #[.int .i64 (F : Int), .int .i64 ((F : Int) + M0), .slice uA ul uc] 51)) := below_alloc _ _
            have ho3 := ho2.below hb3
            have o3 := o2b.below hb3
            have hz3 : w.heap.size ≤ w2.heap.size := B2.out.size
            have hlo : out.length ≤ 1048576 := by have := HO.out; omega
            have hbk : ∀ g, v.ownBlock = some g → w.heap.size ≤ g := fun g e => (ho2.lt (List.mem_append.2 (.inl (by simp [e])))).1
            clear b2 o2
            go_wp2_with (at_builtin; refine wpList_gp (.tmp 49) (.tmp 58) w.heap.size v out vs ho3 ⟨(F : Int), (F : Int) + M0, rowsM l E F ((hs.drop i).take k)⟩ ⟨hF0, hF1, o3.ok⟩ (.slice uA ul uc) o3 hfr w2.heap.size (by simp) (by simp) (by simp) hlo (by simp; omega) rfl rfl rfl rfl ?_; intro v7 w7 o7 g7 p7)
            have B7 := Lib.hid (Below.grown (B2.out.next hb3) g7 (by simp; omega) hbk)
            clear g7 p7 hb3 ho3 o3 o2b ho2 hfr hod hbk
            go_loopw [8, 65] (fun q ix w' => ∃ t : Nat, ∃ Mt : Int, ix = .int .i64 (t : Int) ∧ q = .int .i64 Mt ∧ t ≤ k ∧ Hid (moreH (hs.take (i + t)) = Mt) ∧ Below w7.heap.size w7 w') (fun _ ix _ => k - (intOf ix).toNat)
            case atStart => exact ⟨0, M0, rfl, rfl, by omega, HM0.out, Below.refl _ _⟩
            case round =>
              rename World => ws
              obtain ⟨t, Mt, rfl, rfl, ht, HMT, hbs⟩ := hrel
              have hbz := B7.out.next hbs
              have hnk : nx - i = k := by have := HNX.out; omega
              by_cases htk : t < k
              · have hcutH := (HST.out.below hbz).cutG (lo := i) (hi := nx) (by omega) (by omega) hc
                obtain ⟨bt, ot, At, mt, ct, zt, hbt, hzt, t0, t1, t2, hstt, hmct, _, _⟩ := hcutH.at_ (show t < nx - i by omega)
                rw [hbt]
                rw [List.getElem?_take, if_pos (by omega), List.getElem?_drop] at hzt
                have hzb := HMB.out zt (List.mem_of_getElem? hzt)
                have HSN := Lib.hid (moreH_snoc hzt)
                have hMn := HMR.out (i + t + 1)
                have hMt := HMR.out (i + t)
                rw [HMT.out] at hMt HSN
                have HLT := Lib.hid hstt.len
                obtain ⟨zb0, zb1, zb2, zb3, zb4⟩ := hzb
                obtain ⟨hMt0, hMt1⟩ := hMt
                have hmt : mt ≤ 40 := by rw [← HLT.out]; exact zb4
                obtain ⟨ta, tg, tn⟩ := zt
                dsimp only at *
                have q1 : IntKind.i64.wrap ((mt : Int) - tg) = (mt : Int) - tg := by rw [IntKind.wrap_i64]; omega
                have q2 : IntKind.i64.wrap (Mt + ((mt : Int) - tg)) = Mt + ((mt : Int) - tg) := by rw [IntKind.wrap_i64]; omega
                have hi2 : (t : Int) < ((nx - i : Nat) : Int) := by omega
                clear hzt hcutH hbt hMn
                go_wp2
                go_roundw
                case rel => exact ⟨t + 1, Mt + ((mt : Int) - tg), by go_num, rfl, by omega, by rw [← Nat.add_assoc, HSN.out, HLT.out]; rfl, hbs.next (below_alloc _ _)⟩
                case measure => simp [intOf]; omega
              · have htk2 : t = k := by omega
                subst htk2
                have HMT2 := Lib.hid (show moreH (hs.take nx) = Mt by rw [← HNX.out]; exact HMT.out)
                go_wp2
                go_roundw
                case rel => exact ⟨v7, _, out ++ [⟨(F : Int), (F : Int) + M0, rowsM l E F ((hs.drop i).take t)⟩], Mt, nx, f', rfl, rfl, rfl, HMT2.out, hkn, o7.below hbs, show _ ≤ _ by rw [List.length_append]; have := HO.out; simp; omega, hfu2, show _ = _ by
                  rw [← HP.out, HM0.out, HG2.out]
                  simp only [List.append_assoc, List.singleton_append], hbz⟩
                case measure => simp [intOf]; omega
        · have hjx : jj = nx := by
            obtain ⟨p', hp', e⟩ := HJ.out
            rw [List.drop_eq_nil_of_le (show hs.length ≤ jj by rw [HN.out]; omega)] at e
            simp only [runF] at e
            have := HKK.out
            have := HNX.out
            omega
          have HJX := Lib.hid hjx
          clear hjx
          have hd : decide ((jj : Int) < (n : Int)) = false := by simp; omega
          have hd' : decide (jj < n) = false := by simp [hjn]
          go_wp2
          refine wp_region_held_drew (S := fun _ => True) (by kernel_rfl) ?_ (fun hHeld => ?_)
          · exact trivial
          refine wpAnyH_take (i := 0) (v := ?_) (by simp only [List.getElem?_toArray, List.getElem?_cons_succ, List.getElem?_cons_zero]; rfl) (by kernel_rfl) (by kernel_rfl) (by kernel_rfl) (by exact fun _ _ _ h => h) (Or.inl ⟨by rfl, ?_⟩) hHeld ?_
          rotate_left 1
          · (intro w hSw; (try dsimp only at hSw); go_simp; (try with_reducible rfl))
          (try simp only [Act.put, List.setIfInBounds_toArray, List.set_cons_zero, List.set_cons_succ])
          refine wpAnyH_take (i := 1) (v := ?_) (by simp only [List.getElem?_toArray, List.getElem?_cons_succ, List.getElem?_cons_zero]; rfl) (by kernel_rfl) (by kernel_rfl) (by kernel_rfl) (by exact fun _ _ _ h => h) (Or.inl ⟨by rfl, ?_⟩) hHeld ?_
          rotate_left 1
          · (intro w hSw; (try dsimp only at hSw); go_simp; (try with_reducible rfl))
          (try simp only [Act.put, List.setIfInBounds_toArray, List.set_cons_zero, List.set_cons_succ])
          refine wpAnyH_take (i := 2) (v := ?_) (by simp only [List.getElem?_toArray, List.getElem?_cons_succ, List.getElem?_cons_zero]; rfl) (by kernel_rfl) (by kernel_rfl) (by kernel_rfl) (by exact fun _ _ _ h => h) (Or.inl ⟨by rfl, ?_⟩) hHeld ?_
          rotate_left 1
          · (intro w hSw; (try dsimp only at hSw); go_simp; (try with_reducible rfl))
          (try simp only [Act.put, List.setIfInBounds_toArray, List.set_cons_zero, List.set_cons_succ])
          refine wpAnyH_take (i := 3) (v := ?_) (by simp only [List.getElem?_toArray, List.getElem?_cons_succ, List.getElem?_cons_zero]; rfl) (by kernel_rfl) (by kernel_rfl) (by kernel_rfl) (by exact fun _ _ _ h => h) (Or.inl ⟨by rfl, ?_⟩) hHeld ?_
          rotate_left 1
          · (intro w hSw; (try dsimp only at hSw); go_simp; (try with_reducible rfl))
          (try simp only [Act.put, List.setIfInBounds_toArray, List.set_cons_zero, List.set_cons_succ])
          refine wpAnyH_take (i := 4) (v := ?_) (by simp only [List.getElem?_toArray, List.getElem?_cons_succ, List.getElem?_cons_zero]; rfl) (by kernel_rfl) (by kernel_rfl) (by kernel_rfl) (by exact fun _ _ _ h => h) (Or.inl ⟨by rfl, ?_⟩) hHeld ?_
          rotate_left 1
          · (intro w hSw; (try dsimp only at hSw); go_simp; (try with_reducible rfl))
          (try simp only [Act.put, List.setIfInBounds_toArray, List.set_cons_zero, List.set_cons_succ])
          refine takeU (i := 5) (by simp only [List.getElem?_toArray, List.getElem?_cons_succ, List.getElem?_cons_zero]; rfl) (by kernel_rfl) (by kernel_rfl) (by kernel_rfl) (by exact fun _ _ _ h => h) (by rfl) hHeld ?_
          (try simp only [Act.put, List.setIfInBounds_toArray, List.set_cons_zero, List.set_cons_succ])
          refine takeU (i := 6) (by simp only [List.getElem?_toArray, List.getElem?_cons_succ, List.getElem?_cons_zero]; rfl) (by kernel_rfl) (by kernel_rfl) (by kernel_rfl) (by exact fun _ _ _ h => h) (by rfl) hHeld ?_
          (try simp only [Act.put, List.setIfInBounds_toArray, List.set_cons_zero, List.set_cons_succ])
          refine takeU (i := 7) (by simp only [List.getElem?_toArray, List.getElem?_cons_succ, List.getElem?_cons_zero]; rfl) (by kernel_rfl) (by kernel_rfl) (by kernel_rfl) (by exact fun _ _ _ h => h) (by rfl) hHeld ?_
          (try simp only [Act.put, List.setIfInBounds_toArray, List.set_cons_zero, List.set_cons_succ])
          refine takeU (i := 8) (by simp only [List.getElem?_toArray, List.getElem?_cons_succ, List.getElem?_cons_zero]; rfl) (by kernel_rfl) (by kernel_rfl) (by kernel_rfl) (by exact fun _ _ _ h => h) (by rfl) hHeld ?_
          (try simp only [Act.put, List.setIfInBounds_toArray, List.set_cons_zero, List.set_cons_succ])
          refine takeU (i := 9) (by simp only [List.getElem?_toArray, List.getElem?_cons_succ, List.getElem?_cons_zero]; rfl) (by kernel_rfl) (by kernel_rfl) (by kernel_rfl) (by exact fun _ _ _ h => h) (by rfl) hHeld ?_
          (try simp only [Act.put, List.setIfInBounds_toArray, List.set_cons_zero, List.set_cons_succ])
          refine takeU (i := 10) (by simp only [List.getElem?_toArray, List.getElem?_cons_succ, List.getElem?_cons_zero]; rfl) (by kernel_rfl) (by kernel_rfl) (by kernel_rfl) (by exact fun _ _ _ h => h) (by rfl) hHeld ?_
          (try simp only [Act.put, List.setIfInBounds_toArray, List.set_cons_zero, List.set_cons_succ])
          refine takeU (i := 11) (by simp only [List.getElem?_toArray, List.getElem?_cons_succ, List.getElem?_cons_zero]; rfl) (by kernel_rfl) (by kernel_rfl) (by kernel_rfl) (by exact fun _ _ _ h => h) (by rfl) hHeld ?_
          (try simp only [Act.put, List.setIfInBounds_toArray, List.set_cons_zero, List.set_cons_succ])
          refine takeU (i := 12) (by simp only [List.getElem?_toArray, List.getElem?_cons_succ, List.getElem?_cons_zero]; rfl) (by kernel_rfl) (by kernel_rfl) (by kernel_rfl) (by exact fun _ _ _ h => h) (by rfl) hHeld ?_
          (try simp only [Act.put, List.setIfInBounds_toArray, List.set_cons_zero, List.set_cons_succ])
          refine takeU (i := 13) (by simp only [List.getElem?_toArray, List.getElem?_cons_succ, List.getElem?_cons_zero]; rfl) (by kernel_rfl) (by kernel_rfl) (by kernel_rfl) (by exact fun _ _ _ h => h) (by rfl) hHeld ?_
          (try simp only [Act.put, List.setIfInBounds_toArray, List.set_cons_zero, List.set_cons_succ])
          refine takeU (i := 14) (by simp only [List.getElem?_toArray, List.getElem?_cons_succ, List.getElem?_cons_zero]; rfl) (by kernel_rfl) (by kernel_rfl) (by kernel_rfl) (by exact fun _ _ _ h => h) (by rfl) hHeld ?_
          (try simp only [Act.put, List.setIfInBounds_toArray, List.set_cons_zero, List.set_cons_succ])
          refine takeU (i := 15) (by simp only [List.getElem?_toArray, List.getElem?_cons_succ, List.getElem?_cons_zero]; rfl) (by kernel_rfl) (by kernel_rfl) (by kernel_rfl) (by exact fun _ _ _ h => h) (by rfl) hHeld ?_
          (try simp only [Act.put, List.setIfInBounds_toArray, List.set_cons_zero, List.set_cons_succ])
          refine takeU (i := 16) (by simp only [List.getElem?_toArray, List.getElem?_cons_succ, List.getElem?_cons_zero]; rfl) (by kernel_rfl) (by kernel_rfl) (by kernel_rfl) (by exact fun _ _ _ h => h) (by rfl) hHeld ?_
          (try simp only [Act.put, List.setIfInBounds_toArray, List.set_cons_zero, List.set_cons_succ])
          refine takeU (i := 17) (by simp only [List.getElem?_toArray, List.getElem?_cons_succ, List.getElem?_cons_zero]; rfl) (by kernel_rfl) (by kernel_rfl) (by kernel_rfl) (by exact fun _ _ _ h => h) (by rfl) hHeld ?_
          (try simp only [Act.put, List.setIfInBounds_toArray, List.set_cons_zero, List.set_cons_succ])
          refine takeU (i := 18) (by simp only [List.getElem?_toArray, List.getElem?_cons_succ, List.getElem?_cons_zero]; rfl) (by kernel_rfl) (by kernel_rfl) (by kernel_rfl) (by exact fun _ _ _ h => h) (by rfl) hHeld ?_
          (try simp only [Act.put, List.setIfInBounds_toArray, List.set_cons_zero, List.set_cons_succ])
          refine takeU (i := 19) (by simp only [List.getElem?_toArray, List.getElem?_cons_succ, List.getElem?_cons_zero]; rfl) (by kernel_rfl) (by kernel_rfl) (by kernel_rfl) (by exact fun _ _ _ h => h) (by rfl) hHeld ?_
          (try simp only [Act.put, List.setIfInBounds_toArray, List.set_cons_zero, List.set_cons_succ])
          refine takeU (i := 20) (by simp only [List.getElem?_toArray, List.getElem?_cons_succ, List.getElem?_cons_zero]; rfl) (by kernel_rfl) (by kernel_rfl) (by kernel_rfl) (by exact fun _ _ _ h => h) (by rfl) hHeld ?_
          (try simp only [Act.put, List.setIfInBounds_toArray, List.set_cons_zero, List.set_cons_succ])
          refine takeU (i := 21) (by simp only [List.getElem?_toArray, List.getElem?_cons_succ, List.getElem?_cons_zero]; rfl) (by kernel_rfl) (by kernel_rfl) (by kernel_rfl) (by exact fun _ _ _ h => h) (by rfl) hHeld ?_
          (try simp only [Act.put, List.setIfInBounds_toArray, List.set_cons_zero, List.set_cons_succ])
          refine takeU (i := 22) (by simp only [List.getElem?_toArray, List.getElem?_cons_succ, List.getElem?_cons_zero]; rfl) (by kernel_rfl) (by kernel_rfl) (by kernel_rfl) (by exact fun _ _ _ h => h) (by rfl) hHeld ?_
          (try simp only [Act.put, List.setIfInBounds_toArray, List.set_cons_zero, List.set_cons_succ])
          refine takeU (i := 23) (by simp only [List.getElem?_toArray, List.getElem?_cons_succ, List.getElem?_cons_zero]; rfl) (by kernel_rfl) (by kernel_rfl) (by kernel_rfl) (by exact fun _ _ _ h => h) (by rfl) hHeld ?_
          (try simp only [Act.put, List.setIfInBounds_toArray, List.set_cons_zero, List.set_cons_succ])
          refine takeU (i := 24) (by simp only [List.getElem?_toArray, List.getElem?_cons_succ, List.getElem?_cons_zero]; rfl) (by kernel_rfl) (by kernel_rfl) (by kernel_rfl) (by exact fun _ _ _ h => h) (by rfl) hHeld ?_
          (try simp only [Act.put, List.setIfInBounds_toArray, List.set_cons_zero, List.set_cons_succ])
          refine takeU (i := 25) (by simp only [List.getElem?_toArray, List.getElem?_cons_succ, List.getElem?_cons_zero]; rfl) (by kernel_rfl) (by kernel_rfl) (by kernel_rfl) (by exact fun _ _ _ h => h) (by rfl) hHeld ?_
          (try simp only [Act.put, List.setIfInBounds_toArray, List.set_cons_zero, List.set_cons_succ])
          refine takeU (i := 26) (by simp only [List.getElem?_toArray, List.getElem?_cons_succ, List.getElem?_cons_zero]; rfl) (by kernel_rfl) (by kernel_rfl) (by kernel_rfl) (by exact fun _ _ _ h => h) (by rfl) hHeld ?_
          (try simp only [Act.put, List.setIfInBounds_toArray, List.set_cons_zero, List.set_cons_succ])
          refine wpAnyH_take (i := 27) (v := ?_) (by simp only [List.getElem?_toArray, List.getElem?_cons_succ, List.getElem?_cons_zero]; rfl) (by kernel_rfl) (by kernel_rfl) (by kernel_rfl) (by exact fun _ _ _ h => h) (Or.inl ⟨by rfl, ?_⟩) hHeld ?_
          rotate_left 1
          · (intro w hSw; (try dsimp only at hSw); go_simp; (try with_reducible rfl))
          (try simp only [Act.put, List.setIfInBounds_toArray, List.set_cons_zero, List.set_cons_succ])
          refine wpAnyH_done (by kernel_rfl) ?_ _
          have hjx := HJX.out.symm
          subst hjx
          clear s4 hd hd' hHeld
          obtain ⟨wd, HWD⟩ : ∃ wd, Hid (wd = wq.drew) := ⟨_, rfl⟩
          have hbd := Lib.hid (show Below w.heap.size w wd by rw [HWD.out]; exact hbw.drew)
          have hod := Lib.hid (show OwnGp wd w.heap.size v out vs by rw [HWD.out]; exact (ho.below hbq).below (Below.refl _ _).drew)
          rw [← HWD.out]
          have hcut := cut_lh_hks (some ⟨b, off, none⟩) n c i nx (by omega) (by omega)
          go_wp2_with fail
          refine (l6One_any a nl cl l (cutH (some ⟨b, off, none⟩) c i) (nx - i) (c - i) ((hs.drop i).take k) x y W F E M0 wd (HLL.out.below hbd.out) hcl (by
            have h5 := (HST.out.below hbd.out).cutG (lo := i) (hi := nx) (by omega) (by omega) hc
            rw [show nx - i = k by have := HNX.out; omega] at h5 ⊢
            exact h5) (by rw [List.getElem?_take, if_pos (by omega), List.getElem?_drop]; exact HXX.out) (by
            rw [List.getElem?_take, if_pos (by have := HNX.out; omega), List.getElem?_drop, show i + (nx - i - 1) = nx - 1 by omega]; exact HYY.out) HF.out HE.out HGR2.out gr3 gr4 hnl40 (by omega) hW hM0 hM1 (fun z hz => HMB.out z (List.mem_of_mem_drop (List.mem_of_mem_take hz)))).mono ?_
          rintro e w2 ⟨u, rfl, o2, b2⟩
          obtain ⟨ul, HUL⟩ : ∃ ul, Hid ((rowsM l E F ((hs.drop i).take k)).length = ul) := ⟨_, rfl⟩
          obtain ⟨uA, uc, rfl, hu1, _⟩ := o2.form HUL.out
          have B2 := Lib.hid (hbd.out.next b2)
          have ho2 := hod.out.below b2
          have o2b := o2.more hbd.out.size
          have hfr : ∀ g, (Value.slice uA ul uc).ownBlock = some g → ¬ BlkR v vs g := fun g e e2 => by
            have h6 := (o2.lt e).1
            have h7 := (hod.out.lt e2).2
            omega
          have hF0 : i64ok (F : Int) := ⟨by omega, by omega⟩
          have hF1 : i64ok ((F : Int) + M0) := ⟨by have := HFB.out; omega, by have := HFB.out; omega⟩
          have hb3 : Below w2.heap.size w2 (w2.alloc (.cells #[.int .i64 (F : Int), .int .i64 ((F : Int) + M0), .slice uA ul uc] 51)) := below_alloc _ _
          have ho3 := ho2.below hb3
          have o3 := o2b.below hb3
          have hz3 : w.heap.size ≤ w2.heap.size := B2.out.size
          have hlo : out.length ≤ 1048576 := by have := HO.out; omega
          have hbk : ∀ g, v.ownBlock = some g → w.heap.size ≤ g := fun g e => (ho2.lt (List.mem_append.2 (.inl (by simp [e])))).1
          clear b2 o2
          go_wp2_with (at_builtin; refine wpList_gp (.tmp 49) (.tmp 58) w.heap.size v out vs ho3 ⟨(F : Int), (F : Int) + M0, rowsM l E F ((hs.drop i).take k)⟩ ⟨hF0, hF1, o3.ok⟩ (.slice uA ul uc) o3 hfr w2.heap.size (by simp) (by simp) (by simp) hlo (by simp; omega) rfl rfl rfl rfl ?_; intro v7 w7 o7 g7 p7)
          have B7 := Lib.hid (Below.grown (B2.out.next hb3) g7 (by simp; omega) hbk)
          clear g7 p7 hb3 ho3 o3 o2b ho2 hfr hod hbk
          go_loopw [8, 65] (fun q ix w' => ∃ t : Nat, ∃ Mt : Int, ix = .int .i64 (t : Int) ∧ q = .int .i64 Mt ∧ t ≤ k ∧ Hid (moreH (hs.take (i + t)) = Mt) ∧ Below w7.heap.size w7 w') (fun _ ix _ => k - (intOf ix).toNat)
          case atStart => exact ⟨0, M0, rfl, rfl, by omega, HM0.out, Below.refl _ _⟩
          case round =>
            rename World => ws
            obtain ⟨t, Mt, rfl, rfl, ht, HMT, hbs⟩ := hrel
            have hbz := B7.out.next hbs
            have hnk : nx - i = k := by have := HNX.out; omega
            by_cases htk : t < k
            · have hcutH := (HST.out.below hbz).cutG (lo := i) (hi := nx) (by omega) (by omega) hc
              obtain ⟨bt, ot, At, mt, ct, zt, hbt, hzt, t0, t1, t2, hstt, hmct, _, _⟩ := hcutH.at_ (show t < nx - i by omega)
              rw [hbt]
              rw [List.getElem?_take, if_pos (by omega), List.getElem?_drop] at hzt
              have hzb := HMB.out zt (List.mem_of_getElem? hzt)
              have HSN := Lib.hid (moreH_snoc hzt)
              have hMn := HMR.out (i + t + 1)
              have hMt := HMR.out (i + t)
              rw [HMT.out] at hMt HSN
              have HLT := Lib.hid hstt.len
              obtain ⟨zb0, zb1, zb2, zb3, zb4⟩ := hzb
              obtain ⟨hMt0, hMt1⟩ := hMt
              have hmt : mt ≤ 40 := by rw [← HLT.out]; exact zb4
              obtain ⟨ta, tg, tn⟩ := zt
              dsimp only at *
              have q1 : IntKind.i64.wrap ((mt : Int) - tg) = (mt : Int) - tg := by rw [IntKind.wrap_i64]; omega
              have q2 : IntKind.i64.wrap (Mt + ((mt : Int) - tg)) = Mt + ((mt : Int) - tg) := by rw [IntKind.wrap_i64]; omega
              have hi2 : (t : Int) < ((nx - i : Nat) : Int) := by omega
              clear hzt hcutH hbt hMn
              go_wp2
              go_roundw
              case rel => exact ⟨t + 1, Mt + ((mt : Int) - tg), by go_num, rfl, by omega, by rw [← Nat.add_assoc, HSN.out, HLT.out]; rfl, hbs.next (below_alloc _ _)⟩
              case measure => simp [intOf]; omega
            · have htk2 : t = k := by omega
              subst htk2
              have HMT2 := Lib.hid (show moreH (hs.take nx) = Mt by rw [← HNX.out]; exact HMT.out)
              go_wp2
              go_roundw
              case rel => exact ⟨v7, _, out ++ [⟨(F : Int), (F : Int) + M0, rowsM l E F ((hs.drop i).take t)⟩], Mt, nx, f', rfl, rfl, rfl, HMT2.out, hkn, o7.below hbs, show _ ≤ _ by rw [List.length_append]; have := HO.out; simp; omega, hfu2, show _ = _ by
                rw [← HP.out, HM0.out, HG2.out]
                simp only [List.append_assoc, List.singleton_append], hbz⟩
              case measure => simp [intOf]; omega
    · have hfin := Lib.hid (show out = groupsF l W hs.length 0 hs by rw [← HP.out, List.drop_eq_nil_of_le (by rw [HN.out]; omega), groupsF_nil, List.append_nil])
      go_wp2
      go_ret
      exact ⟨v, vs, rfl, by rw [← hfin.out]; exact ho, hb⟩

set_option maxHeartbeats 1000000 in
theorem specGroupsOf_any (a : Option Addr) (nl cl : Nat) (l : List ByteArray) (b0 : Option Addr) (n c : Nat) (hs : List Hk) (Wi : Int) (w : World) (hl : Strs w a nl l) (hcl : nl ≤ cl) (hh : Hks w b0 n hs) (hc : n ≤ c) (hnew : ∀ x ∈ hs, x.new.length ≤ 1048576) (hnl : nl ≤ 1048576) :
    Calls Try.prog 10 #[.slice a nl cl, .slice b0 n c, .int .i64 Wi] w fun e w' => ∃ v vs, e = .returned (.tuple #[v, .bool (groupsOf l hs Wi).2]) ∧ OwnGp w' w.heap.size v (groupsOf l hs Wi).1 vs ∧ Below w.heap.size w w' := by
  have HPO := Lib.hid (patch_two l hs)
  cases hq : patchOk l hs
  · have hf := Lib.hid (show groupsOf l hs Wi = ([], false) from if_neg (by simp [hq]))
    have HQ := Lib.hid hq
    clear hq
    go_enter Try.func10, Try.ntmps10
    go_wp2_with fail
    refine (specPatch_any a nl cl l b0 n c hs _ hl hcl hh hnew hnl).mono ?_
    rintro e w1 ⟨v, rfl, o1, b1⟩
    rw [HPO.out, HQ.out]
    go_wp2
    go_ret2
    exact ⟨_, [], by rw [hf.out]; rfl, by rw [hf.out]; exact OwnGp.nil_, b1⟩
  have HQ := Lib.hid hq
  cases hr : (decide (0 ≤ Wi) && decide (Wi ≤ 20))
  · have hf := Lib.hid (show groupsOf l hs Wi = ([], false) from if_neg (fun h => by
      rw [decide_eq_true h.2.1, decide_eq_true h.2.2] at hr; cases hr))
    have HR := Lib.hid hr
    clear hq hr
    go_enter Try.func10, Try.ntmps10
    go_wp2_with fail
    refine (specPatch_any a nl cl l b0 n c hs _ hl hcl hh hnew hnl).mono ?_
    rintro e w1 ⟨v, rfl, o1, b1⟩
    rw [HPO.out, HQ.out]
    go_wp2_with fail
    refine (l1In_any _ _ _ _).mono ?_
    rintro e w' ⟨rfl, rfl⟩
    rw [HR.out]
    go_wp2
    go_ret2
    exact ⟨_, [], by rw [hf.out]; rfl, by rw [hf.out]; exact OwnGp.nil_, b1⟩
  · have HR := Lib.hid hr
    have hb : 0 ≤ Wi ∧ Wi ≤ 20 := by simpa using hr
    obtain ⟨W, rfl⟩ := Int.eq_ofNat_of_zero_le hb.1
    have hW : W ≤ 20 := by have := hb.2; omega
    have hf := Lib.hid (show groupsOf l hs (W : Int) = (groupsF l W hs.length 0 hs, true) from if_pos ⟨hq, hb.1, hb.2⟩)
    have HG := Lib.hid (show goodH l.length hs = true by simp only [patchOk, Bool.and_eq_true] at hq; exact hq.1.2)
    clear hq hr hb
    go_enter Try.func10, Try.ntmps10
    go_wp2_with fail
    refine (specPatch_any a nl cl l b0 n c hs _ hl hcl hh hnew hnl).mono ?_
    rintro e w1 ⟨v, rfl, o1, b1⟩
    rw [HPO.out, HQ.out]
    go_wp2_with fail
    refine (l1In_any _ _ _ _).mono ?_
    rintro e w' ⟨rfl, rfl⟩
    rw [HR.out]
    have hz := b1.size
    go_wp2_with fail
    refine (l6Groups_any a nl cl l b0 n c hs W _ (hl.below b1) hcl (hh.below b1) hc HG.out hW).mono ?_
    rintro e w2 ⟨v2, vs2, rfl, o2, b2⟩
    go_wp2
    go_ret2
    exact ⟨v2, vs2, by rw [hf.out]; rfl, by rw [hf.out]; exact o2.more hz, b1.next b2⟩

end Go.Proofs.Ytgohaemmnpifbaa
