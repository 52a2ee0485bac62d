/-
  Lines and hunks drawn for trimming.
-/
import Derived.Test.YtaajldodobclaaaHDrawE
set_option linter.unusedSimpArgs false
set_option linter.unusedVariables false
namespace Go.Proofs.Ytaajldodobclaaa
open Go.RowKit M

/-- What is known of a hunk drawn for trimming. -/
def smallT (x : Hk) : Prop := 0 ≤ x.gone ∧ x.gone ≤ 9 ∧ x.new.length ≤ 5
theorem smallA.t {x : Hk} (h : smallA x) : smallT x := ⟨h.2.2.1, h.2.2.2.1, by have := h.2.2.2.2.1; omega⟩

set_option maxHeartbeats 2000000 in
set_option maxRecDepth 100000 in
theorem DrawTrimHunks_any (a : Option Addr) (n c : Nat) (w : World) (h : Bytes w a n) (hn : n ≤ 1048576) :
    Calls Try.prog 30 #[.slice a n c] w fun e w' => ∃ A n1 c1 l A2 n2 c2 hs, e = .returned (.tuple #[.slice A n1 c1, .slice A2 n2 c2]) ∧ Strs w' A n1 l ∧ n1 ≤ c1 ∧ n1 ≤ 9 ∧ Hks w' A2 n2 hs ∧ n2 ≤ 6 ∧ (∀ x ∈ hs, smallT x) ∧ Below w.heap.size w w' := by
  have c0 := Curs.new (c := c) h hn
  go_enter Try.func30, Try.ntmps30
  go_wp2_with fail
  refine (hunked_any _ 0 _ c0 (by omega)).mono ?_
  rintro e w1 ⟨A, n1, c1, l, A2, n2, c2, out, vs, B, rfl, o1, h1, h2, h3, h4, h5, h6, o2, h7, h8, cu, g1⟩
  have H6 := Lib.hid h6
  have H8 := Lib.hid h8
  have H8T := Lib.hid (show ∀ x ∈ out, smallT x from fun x hx => (h8 x hx).t)
  have HL := Lib.hid o1.strs.len
  have HO1 := Lib.hid o1
  have HO2 := Lib.hid o2
  have hzz : w.heap.size < B := by simp at h5; omega
  have HA := Lib.hid (show ∀ b, (Value.slice A n1 c1).ownBlock = some b → b ≠ w.heap.size from fun b e => by
    have := (o1.lt e).1
    simp at this
    omega)
  clear h3 h4 h6 h8 o1 o2 h5
  go_wp2_with fail
  refine (l2Asked_any A n1 c1 l A2 n2 c2 out _ HO1.out.strs HO2.out.hks (new_of H8.out) (by omega)).mono ?_
  rintro e w2 ⟨rfl, b2⟩
  have cu2 := cu.below b2
  have HP1 := Lib.hid (HO1.out.below b2)
  have HP2 := Lib.hid (HO2.out.below b2)
  have G2 := Lib.hid (g1.trans (grown_of_below b2 (some w.heap.size)))
  cases hq : (goodB l && goodH l.length out)
  · go_wp2
    go_ret2
    exact ⟨A, n1, c1, l, A2, n2, c2, out, rfl, HP1.out.strs, h1, h2, HP2.out.hks, h7, H8T.out, below_new G2.out⟩
  · have HGH := Lib.hid (show goodH n1 out = true by rw [Bool.and_eq_true, HL.out] at hq; exact hq.2)
    clear hq
    go_wp2_with fail
    refine (one_any _ _ 2 _ cu2 (by omega) (by omega)).mono ?_
    rintro e w3 ⟨bb, rfl, cu3, g3⟩
    have HQ1 := Lib.hid (HP1.out.kept g3 (fun g e e2 => by injection e with e; exact HA.out g e2 e.symm))
    have HQ2 := Lib.hid (HP2.out.keptg g3 hzz)
    have HB3 := Lib.hid (below_new (G2.out.trans g3))
    have hw3 : w.heap.size ≤ w3.heap.size := HB3.out.size
    cases bb
    · go_wp2
      go_ret2
      exact ⟨A, n1, c1, l, A2, n2, c2, out, rfl, HQ1.out.strs, h1, h2, HQ2.out.hks, h7, H8T.out, HB3.out⟩
    · clear cu cu2 cu3 g1 g3 c0
      go_wp2
      go_loopw [26] (fun i w' => ∃ k : Nat, ∃ cur vs, i = .int .i64 k ∧ k ≤ n2 ∧ OwnH w' B (.slice A2 n2 c2) cur vs ∧ Wrote (fun i => B ≤ i) w3 w' ∧ Hid (∀ j : Nat, k ≤ j → cur[j]? = out[j]?) ∧ Hid (∀ x ∈ cur, smallT x)) (fun i _ => n2 - (intOf i).toNat)
      case atStart => exact ⟨0, out, vs, rfl, by omega, HQ2.out, Wrote.refl _ _, fun j _ => rfl, H8T.out⟩
      case round =>
        obtain ⟨k, cur, us, rfl, hk, ow, hwr, HEQ, HSM⟩ := hrel
        by_cases hlt : k < n2
        · obtain ⟨gb, x, ua, um, uc, rfl, hb0, hgb, hx, hu, hmc, k0, k1, k2, ou, i0, i1, hfz⟩ := ow.at_ hlt
          have hi0 : (0 : Int) ≤ (k : Int) := by omega
          have hi1 : (k : Int) < (n2 : Int) := by omega
          have hxo : out[k]? = some x := by rw [← HEQ.out k (Nat.le_refl _)]; exact hx
          have hxm := List.mem_of_getElem? hxo
          have hxa := H8.out x hxm
          have hxg := goodH_mem HGH.out hxm
          have HX := Lib.hid hx
          have HU := Lib.hid hu
          have HOW := Lib.hid ow
          have HOU := Lib.hid ou
          have HWR := Lib.hid hwr
          have HXA := Lib.hid hxa
          have HNXT := Lib.hid (show ∀ j : Nat, k + 1 ≤ j → cur[j]? = out[j]? from fun j hj => HEQ.out j (by omega))
          obtain ⟨p, hp⟩ := Int.eq_ofNat_of_zero_le hxg.1
          have hpn : p + x.gone ≤ n1 := by have := hxg.2.2.1; omega
          obtain ⟨xa, xg, xn⟩ := x
          dsimp only at *
          subst hp
          clear hx hu ow ou hwr hxo hxm hxa hxg
          by_cases hg : 0 < xg
          · have q1 : decide (0 < xg) = true := by simp; omega
            have hp1 : p < n1 := by omega
            have HOL := Lib.hid (HQ1.out.wrote HWR.out (fun b e e2 => by have := H6.out b e; omega))
            obtain ⟨b1, off1, s, eA, hs, hsz, hc⟩ := HOL.out.strs.at_ hp1
            subst eA
            have hj0 : (0 : Int) ≤ (p : Int) := by omega
            have hj1 : (p : Int) < (n1 : Int) := by omega
            obtain ⟨W1, HW1⟩ : ∃ W1, Hid (W1 = wr.alloc (.cells #[.int .i64 (p : Int), .int .i64 xg, .slice ua um uc] 63)) := ⟨_, rfl⟩
            obtain ⟨bx, Hbx⟩ : ∃ bx, Hid (bx = wr.heap.size) := ⟨_, rfl⟩
            have bW := Lib.hid (show Below wr.heap.size wr W1 by rw [HW1.out]; exact below_alloc _ _)
            have hsW := Lib.hid (show W1.heap.size = wr.heap.size + 1 by rw [HW1.out]; simp)
            have hbW := Lib.hid (show W1.heap[bx]? = some (.cells #[.int .i64 (p : Int), .int .i64 xg, .slice ua um uc] 63 (0, 0)) by rw [HW1.out, Hbx.out]; exact heap_alloc_new _ _)
            have kb0 : W1.cell? ⟨bx, 0, none⟩ = some (.int .i64 (p : Int)) := by simp [World.cell?, hbW.out]
            have kb1 : W1.cell? ⟨bx, 1, none⟩ = some (.int .i64 xg) := by simp [World.cell?, hbW.out]
            have kb2 : W1.cell? ⟨bx, 2, none⟩ = some (.slice ua um uc) := by simp [World.cell?, hbW.out]
            have kb2A : ∀ o, (W1.alloc o).cell? ⟨bx, 2, none⟩ = some (.slice ua um uc) := fun o => cell_keep (below_alloc W1 o) kb2
            have hcW : W1.cell? ⟨b1, off1 + p, none⟩ = some (.string s) := cell_keep bW.out hc
            have kW : W1.cell? ⟨gb, k * 3 + 2, none⟩ = some (.slice ua um uc) := cell_keep bW.out k2
            have hum : xn.length = um := HOU.out.strs.len
            have HUM := Lib.hid hum
            have hum5 : um ≤ 4 := by rw [← hum]; exact HXA.out.2.2.2.2.1
            have hBw : B ≤ W1.heap.size := by have := hsW.out; omega
            clear hum
            go_wp2
            rw [← HW1.out, ← Hbx.out]
            go_region_law (first
              | (refine step_strs2 (.tmp 41) (.tmp 43) B (.slice (some ⟨W1.heap.size, 0, none⟩) 1 1) [s] ((OwnV.lit W1 B hBw [s] (by simp [maxLen]) (fun t ht => by simp at ht; rw [ht]; exact hsz)).below (Below.refl _ _).drew) ua um uc xn (((HOU.out.strs.below bW.out).below (below_alloc _ _)).below (Below.refl _ _).drew) (by simp; omega) (by simp; omega) rfl rfl rfl rfl ?_
                 intro v7 w7 o7 g7 p7
                 have hbx7 : wr.heap.size ≤ W1.heap.size := (by have := hsW.out; omega)
                 have B7 := Lib.hid (show Below wr.heap.size wr w7 from ((bW.out.next (below_alloc _ _)).next (Below.refl _ _).drew).grown g7 (by simp; omega) (fun k hk => by simp [Value.ownBlock] at hk; omega))
                 have k72 : w7.cell? ⟨gb, k * 3 + 2, none⟩ = some (.slice ua um uc) := cell_keep B7.out k2
                 have f72 : ∀ j, w7.frozen? ⟨gb, j, none⟩ = false := fun j => (B7.out.frozen hgb).trans (hfz j)
                 have HO7 := Lib.hid (HOW.out.newAt HX.out HU.out (grown_of_below B7.out _) o7 (.inr (fun b e => by
                   rcases p7 with p7 | p7
                   · rw [p7] at e; simp [Value.ownBlock] at e; omega
                   · rw [p7] at e; simp at e; omega)))
                 obtain ⟨u7A, u7c, hu7, _, _⟩ := o7.form (show ([s] ++ xn).length = um + 1 by simp [HUM.out])
                 subst hu7)
              | fail)
            all_goals go_wp2
            all_goals go_roundw
            all_goals first | (case measure => simp [intOf]; omega) | skip
            all_goals exact ⟨k + 1, _, _, by go_num, by omega, HO7.out, (HWR.out.next B7.out).trans (Wrote.set (fun i => B ≤ i) w7 ⟨gb, k * 3 + 2, none⟩ _ hb0) (fun _ _ e => e), fun j hj => by rw [List.getElem?_set_ne (by omega)]; exact HNXT.out j hj, all_set HSM.out ⟨HXA.out.2.2.1, HXA.out.2.2.2.1, by simp [HUM.out]; omega⟩⟩
          · have q1 : decide (0 < xg) = false := by simp; omega
            go_wp2
            go_roundw
            case rel => exact ⟨k + 1, cur, us, by go_num, by omega, HOW.out.below (below_alloc _ _), HWR.out.next (below_alloc _ _), HNXT, HSM⟩
            case measure => simp [intOf]; omega
        · go_wp2
          go_ret2
          exact ⟨A, n1, c1, l, A2, n2, c2, cur, rfl, (HQ1.out.wrote hwr (fun b e e2 => by have := H6.out b e; omega)).strs, h1, h2, ow.hks, h7, HSM.out, hwr.below HB3.out hw3 (fun k hk => by omega)⟩

end Go.Proofs.Ytaajldodobclaaa
