/-
  TrimHunks, the program's and the model's.
-/
import Derived.Test.YtaajldodobclaaaHBack
import Derived.Test.YtaajldodobclaaaHBase4
import Derived.Test.YtaajldodobclaaaSame
set_option linter.unusedSimpArgs false
set_option linter.unusedVariables false
namespace Go.Proofs.Ytaajldodobclaaa
open Go.RowKit M

theorem set3_cells {w : World} {g : Nat} {x y z u0 u1 u2 : Value} (z0 : w.cell? ⟨g, 0, none⟩ = some u0) (z1 : w.cell? ⟨g, 1, none⟩ = some u1) (z2 : w.cell? ⟨g, 2, none⟩ = some u2) :
    (((w.setCell ⟨g, 0, none⟩ x).setCell ⟨g, 1, none⟩ y).setCell ⟨g, 2, none⟩ z).cell? ⟨g, 0, none⟩ = some x ∧ (((w.setCell ⟨g, 0, none⟩ x).setCell ⟨g, 1, none⟩ y).setCell ⟨g, 2, none⟩ z).cell? ⟨g, 1, none⟩ = some y ∧ (((w.setCell ⟨g, 0, none⟩ x).setCell ⟨g, 1, none⟩ y).setCell ⟨g, 2, none⟩ z).cell? ⟨g, 2, none⟩ = some z := by
  refine ⟨?_, ?_, ?_⟩
  · rw [World.cell?_setCell_other _ _ _ _ (by simp), World.cell?_setCell_other _ _ _ _ (by simp)]; exact World.cell?_setCell_same _ _ _ z0
  · rw [World.cell?_setCell_other _ _ _ _ (by simp)]; exact World.cell?_setCell_same _ _ _ ((World.cell?_setCell_other _ _ _ _ (by simp)).trans z1)
  · exact World.cell?_setCell_same _ _ _ ((World.cell?_setCell_other _ _ _ _ (by simp)).trans ((World.cell?_setCell_other _ _ _ _ (by simp)).trans z2))
theorem cell_off {w : World} {p a : Addr} {u v : Value} (h : w.cell? a = some u) (hn : a.block ≠ p.block) : (w.setCell p v).cell? a = some u :=
  (World.cell?_of_block (Below.heap_setCell w p v a.block hn)).trans h
/-- What is reckoned of one hunk that is trimmed, in naturals. -/
theorem trim_nat {l : List ByteArray} {a g m hi na nb : Nat} {xn : List ByteArray} (hhi : hi = a + g) (hm : xn.length = m) (hna : na = aheadT (seg l a hi) xn) (hnb : nb = behindT (seg l a hi) xn) :
    trimOne l ⟨(a : Int), (g : Int), xn⟩ = ⟨(a : Int) + na, (g : Int) - na - nb, seg xn na (m - nb)⟩ := by
  unfold trimOne
  rw [oldOf_nat, ← hhi]
  dsimp only
  rw [← hna, ← hnb, hm]

set_option maxHeartbeats 4000000 in
set_option maxRecDepth 100000 in
theorem l2Trim_any (a : Option Addr) (nl cl : Nat) (l : List ByteArray) (b0 : Option Addr) (n c : Nat) (hs : List Hk) (w : World) (hl : Strs w a nl l) (hcl : nl ≤ cl) (hh : Hks w b0 n hs) (hg : goodH l.length hs = true) :
    Calls Try.prog 70 #[.slice a nl cl, .slice b0 n c] w fun e w' => ∃ v vs, e = .returned v ∧ OwnH w' w.heap.size v (trimH l hs) vs ∧ Below w.heap.size w w' := by
  have HL := Lib.hid hl.len
  have HN := Lib.hid hh.len
  have hn20 : n ≤ 20 := by rw [← HN.out]; exact (goodH_parts hg).2.2.1
  have hnl40 : nl ≤ 40 := by have := (goodH_parts hg).2.1; have := HL.out; omega
  have HR0 := Lib.hid (rest_start hg)
  clear hg
  go_enter Try.func70, Try.ntmps70
  go_wp2
  go_loopw [5, 14] (fun v i w' => ∃ j p : Nat, ∃ out vs, i = .int .i64 j ∧ j ≤ n ∧ OwnH w' w.heap.size v out vs ∧ Hid (out.length ≤ j) ∧ Hid (restOk l.length (hs.drop j) p) ∧ Hid (out ++ trimH l (hs.drop j) = trimH l hs) ∧ Below w.heap.size w w') (fun _ i _ => n - (intOf i).toNat)
  case atStart => exact ⟨0, 0, [], [], rfl, by omega, OwnH.nil_, show _ ≤ _ by simp, HR0.out, rfl, Below.refl _ _⟩
  case round =>
    obtain ⟨j, p, out, vs, rfl, hj, ho, HO, HR, HP, hb⟩ := hrel
    by_cases hlt : j < n
    · obtain ⟨b, off, A, m, c', x, rfl, hx, c0, c1, c2, hst, hmc, i0, i1⟩ := hh.at_ hlt
      obtain ⟨at', go, ea, eg, hpa, hag, hln, hno, hrest⟩ := rest_step hx HR.out
      obtain ⟨xa, xg, xn⟩ := x
      dsimp only at ea eg hln c0 c1 c2 hst i0 i1
      subst ea eg
      have c0 := cell_keep hb c0
      have c1 := cell_keep hb c1
      have c2 := cell_keep hb c2
      have hm40 : m ≤ 40 := by rw [← hst.len]; exact linesB_len hln
      have hag2 : at' + go ≤ nl := by rw [HL.out] at hag; omega
      have HREST := Lib.hid hrest
      have HM := Lib.hid hst.len
      have HX := Lib.hid hx
      clear hx hrest hag hln hno
      obtain ⟨hi, Hhi⟩ : ∃ hi : Nat, Hid (hi = at' + go) := ⟨_, rfl⟩
      have hih : at' ≤ hi ∧ hi ≤ nl := by have := Hhi.out; omega
      obtain ⟨hi0, hi1⟩ := hih
      have hadd : (at' : Int) + (go : Int) = (hi : Int) := by have := Hhi.out; omega
      have hcut := cut_strs a nl cl at' hi hi0 (by omega)
      obtain ⟨old, Hold⟩ : ∃ old, Hid (old = seg l at' hi) := ⟨_, rfl⟩
      have hlen : old.length = hi - at' := by rw [Hold.out, seg_len, HL.out]; omega
      obtain ⟨na, Hna⟩ : ∃ na, Hid (na = aheadT old xn) := ⟨_, rfl⟩
      obtain ⟨nb, Hnb⟩ : ∃ nb, Hid (nb = behindT old xn) := ⟨_, rfl⟩
      have hle := behind_le old xn
      rw [← Hna.out, ← Hnb.out, hlen, HM.out] at hle
      obtain ⟨hle1, hle2⟩ := hle
      have HLEN := Lib.hid hlen
      clear hlen
      have HT := Lib.hid (trim_nat (l := l) (xn := xn) (na := na) (nb := nb) Hhi.out HM.out (by rw [← Hold.out]; exact Hna.out) (by rw [← Hold.out]; exact Hnb.out))
      obtain ⟨h2, Hh2⟩ : ∃ h2 : Nat, Hid (h2 = m - nb) := ⟨_, rfl⟩
      have hh2 : na ≤ h2 ∧ h2 ≤ m := by have := Hh2.out; omega
      obtain ⟨hh20, hh21⟩ := hh2
      obtain ⟨q, Hq⟩ : ∃ q : Nat, Hid (q = h2 - na) := ⟨_, rfl⟩
      have hqm : q ≤ 40 := by have := Hq.out; omega
      have hcut2 := cut_strs A m c' na h2 hh20 (by omega)
      have hw1 : IntKind.i64.wrap ((at' : Int) + (na : Int)) = (at' : Int) + (na : Int) := by rw [IntKind.wrap_i64]; omega
      have hw2 : IntKind.i64.wrap ((go : Int) - (na : Int)) = (go : Int) - (na : Int) := by rw [IntKind.wrap_i64]; omega
      have hw3 : IntKind.i64.wrap ((go : Int) - (na : Int) - (nb : Int)) = (go : Int) - (na : Int) - (nb : Int) := by rw [IntKind.wrap_i64]; omega
      have hw4 : IntKind.i64.wrap ((m : Int) - (nb : Int)) = (h2 : Int) := by rw [IntKind.wrap_i64]; have := Hh2.out; omega
      obtain ⟨W1, HW1⟩ : ∃ W1, Hid (W1 = wr.alloc (.cells #[.int .i64 (at' : Int), .int .i64 (go : Int), .slice A m c'] 63)) := ⟨_, rfl⟩
      have k0 : W1.cell? ⟨wr.heap.size, 0, none⟩ = some (.int .i64 (at' : Int)) := by rw [HW1.out]; simp
      have k1 : W1.cell? ⟨wr.heap.size, 1, none⟩ = some (.int .i64 (go : Int)) := by rw [HW1.out]; simp
      have k2 : W1.cell? ⟨wr.heap.size, 2, none⟩ = some (.slice A m c') := by rw [HW1.out]; simp
      have hB1 := Lib.hid (show Below wr.heap.size wr W1 by rw [HW1.out]; exact below_alloc _ _)
      have hsz1 := Lib.hid (show W1.heap.size = wr.heap.size + 1 by rw [HW1.out]; simp)
      have HOW := Lib.hid ho
      have HBB := Lib.hid hb
      have HNE := Lib.hid (show u5.ownBlock ≠ some wr.heap.size from fun e => by have := (ho.lt (.inl e)).2; omega)
      clear ho
      go_wp2_with fail
      rw [← HW1.out]
      refine (l1Ahead_any _ A _ m _ c' old xn _ (by rw [Hold.out]; exact (hl.below (HBB.out.next hB1.out)).cut hi0 hi1 hcl) (hst.below (HBB.out.next hB1.out))).mono ?_
      rintro e w2 ⟨rfl, d2⟩
      rw [← Hna.out]
      have k20 := cell_keep d2.below k0
      have k21 := cell_keep d2.below k1
      have k22 := cell_keep d2.below k2
      have HB2 := Lib.hid ((HBB.out.next hB1.out).next d2.below)
      go_wp2_with fail
      refine (l1Behind_any _ A _ m _ c' old xn _ (by rw [Hold.out]; exact (hl.below HB2.out).cut hi0 hi1 hcl) (hst.below HB2.out) (by omega) (by omega)).mono ?_
      rintro e w3 ⟨rfl, d3⟩
      rw [← Hnb.out]
      have k30 := cell_keep d3.below k20
      have k31 := cell_keep d3.below k21
      have k32 := cell_keep d3.below k22
      have HB3 := Lib.hid (HB2.out.next d3.below)
      have HB13 := Lib.hid ((hB1.out.next d2.below).next d3.below)
      have hsz3 := Lib.hid (show wr.heap.size + 1 ≤ w3.heap.size by have h5 := hsz1.out; have h6 := d2.below.size; have h7 := d3.below.size; omega)
      clear k0 k1 k2 k20 k21 k22 c0 c1 c2 d2 d3
      have HOK := Lib.hid (show i64ok ((at' : Int) + na) ∧ i64ok ((go : Int) - na - nb) from ⟨⟨by omega, by omega⟩, ⟨by omega, by omega⟩⟩)
      have hne3 : wr.heap.size ≠ w3.heap.size := by have := hsz3.out; omega
      have hgn : 0 ≤ (go : Int) - (na : Int) - (nb : Int) := by have := Hhi.out; omega
      go_wp2
      go_region_held3 (fun w' => w'.cell? ⟨wr.heap.size, 0, none⟩ = some (.int .i64 (at' : Int)) ∧ w'.cell? ⟨wr.heap.size, 1, none⟩ = some (.int .i64 (go : Int)) ∧ w'.cell? ⟨wr.heap.size, 2, none⟩ = some (.slice A m c')) (first | exact ⟨k30, k31, k32⟩ | exact ⟨cell_keep b5 k30, cell_keep b5 k31, cell_keep b5 k32⟩ | exact ⟨cell_keep (b5.next (below_alloc _ _)) k30, cell_keep (b5.next (below_alloc _ _)) k31, cell_keep (b5.next (below_alloc _ _)) k32⟩ | exact ⟨cell_keep (below_alloc w3 _) k30, cell_keep (below_alloc w3 _) k31, cell_keep (below_alloc w3 _) k32⟩ | exact ⟨cell_keep ((below_alloc w3 _).drew.next b5) k30, cell_keep ((below_alloc w3 _).drew.next b5) k31, cell_keep ((below_alloc w3 _).drew.next b5) k32⟩ | exact ⟨cell_off (cell_off (cell_off (cell_keep ((below_alloc w3 _).drew.next b5) k30) hne3) hne3) hne3, cell_off (cell_off (cell_off (cell_keep ((below_alloc w3 _).drew.next b5) k31) hne3) hne3) hne3, cell_off (cell_off (cell_off (cell_keep ((below_alloc w3 _).drew.next b5) k32) hne3) hne3) hne3⟩ | go_keep)
        (first
          | (go_at_call 82; refine (l1OwnT_any _ _ _ (seg xn na h2) w3.drew ((hst.below HB3.out.drew).cut hh20 hh21 hmc) (by omega)).mono ?_; rintro e w5 ⟨v5, rfl, o5, b5⟩
             obtain ⟨v5a, v5c, rfl, h51, h52⟩ := o5.form (show (seg xn na h2).length = q by rw [seg_len, HM.out, Hq.out]; omega))
          | (go_at_call 82; refine (l1OwnT_any _ _ _ (seg xn na h2) (w3.alloc (.cells #[.int .i64 0, .int .i64 0, .slice none 0 0] 63)).drew ((hst.below (HB3.out.next (below_alloc _ _)).drew).cut hh20 hh21 hmc) (by omega)).mono ?_; rintro e w5 ⟨v5, rfl, o5, b5⟩
             have z5 : w5.heap[w3.heap.size]? = some (.cells #[.int .i64 0, .int .i64 0, .slice none 0 0] 63 (0, 0)) := (b5.block _ (by simp)).trans (heap_alloc_new w3 _)
             have z0 : w5.cell? ⟨w3.heap.size, 0, none⟩ = some (.int .i64 0) := by simp [World.cell?, z5]
             have z1 : w5.cell? ⟨w3.heap.size, 1, none⟩ = some (.int .i64 0) := by simp [World.cell?, z5]
             have z2 : w5.cell? ⟨w3.heap.size, 2, none⟩ = some (.slice none 0 0) := by simp [World.cell?, z5]
             have zf : ∀ j, w5.frozen? ⟨w3.heap.size, j, none⟩ = false := fun j => by simp [World.frozen?, z5]
             obtain ⟨v5a, v5c, rfl, h51, h52⟩ := o5.form (show (seg xn na h2).length = q by rw [seg_len, HM.out, Hq.out]; omega))
          | fail)
      · obtain ⟨W7, HW7⟩ : ∃ W7, Hid (W7 = w5.alloc (.cells #[.int .i64 ((at' : Int) + na), .int .i64 ((go : Int) - na - nb), .slice v5a q v5c] 63)) := ⟨_, rfl⟩
        have bb := HB13.out.drew.next b5
        have HOW7 := Lib.hid (show OwnH W7 w.heap.size u5 out vs by rw [HW7.out]; exact (HOW.out.below bb).below (below_alloc _ _))
        have O7 := Lib.hid (show OwnV W7 w.heap.size (.slice v5a q v5c) (seg xn na h2) by rw [HW7.out]; exact (o5.more HB3.out.size).below (below_alloc _ _))
        have HF7 := Lib.hid (show ∀ g, (Value.slice v5a q v5c).ownBlock = some g → ¬ Blk u5 vs g from fun g e e2 => by
          have h3 := (o5.lt e).1; have h4 := (HOW.out.lt e2).2; have h5 := hsz3.out; have h6 : w3.drew.heap.size = w3.heap.size := rfl; omega)
        have HB7 := Lib.hid (show Below w.heap.size w W7 by rw [HW7.out]; exact (HB3.out.drew.next b5).next (below_alloc _ _))
        have m0 : W7.cell? ⟨w5.heap.size, 0, none⟩ = some (.int .i64 ((at' : Int) + na)) := by rw [HW7.out]; simp
        have m1 : W7.cell? ⟨w5.heap.size, 1, none⟩ = some (.int .i64 ((go : Int) - na - nb)) := by rw [HW7.out]; simp
        have m2 : W7.cell? ⟨w5.heap.size, 2, none⟩ = some (.slice v5a q v5c) := by rw [HW7.out]; simp
        clear k30 k31 k32
        rw [← HW7.out]
        by_cases hnz : 0 < (go : Int) - (na : Int) - (nb : Int) + (q : Int)
        · have hy : nothing (trimOne l ⟨(at' : Int), (go : Int), xn⟩) = false := by
            rw [HT.out]; simp only [nothing, seg_len, HM.out]; have := Hq.out; have := Hh2.out; simp; omega
          have HRR := Lib.hid (trim_yes (l := l) HX.out hy)
          have qq : decide (0 < (go : Int) - (na : Int) - (nb : Int) + (q : Int)) = true := by simpa using hnz
          clear hy hnz
          go_wp2_with (first
            | (at_builtin; refine wpList_hk (.tmp 63) (.tmp 65) w.heap.size u5 out vs (HOW7.out.below (below_alloc _ _)) ⟨(at' : Int) + na, (go : Int) - na - nb, seg xn na h2⟩ HOK.out (.slice v5a q v5c) (O7.out.below (below_alloc _ _)) HF7.out _ (by simp) (by simp) (by simp) (by have := HO.out; omega) (Nat.le_trans HB7.out.size (by simp)) rfl rfl rfl rfl ?_
               intro v8 w8 o8 g8 p8
               have HB8 := Lib.hid (Below.grown (HB7.out.next (below_alloc _ _)) g8 (Nat.le_trans HB7.out.size (by simp)) (fun k e => (HOW.out.lt (.inl e)).1)))
            | fail)
          go_roundw
          case rel => exact ⟨j + 1, at' + go, _, _, by go_num, by omega, o8, show _ ≤ _ by have := HO.out; simp; omega, HREST.out, show _ = _ by
            rw [← HP.out, HRR.out, HT.out, Hh2.out]; simp, HB8.out⟩
          case measure => simp [intOf]; omega
        · have hy : nothing (trimOne l ⟨(at' : Int), (go : Int), xn⟩) = true := by
            rw [HT.out]; simp only [nothing, seg_len, HM.out]; have := Hq.out; have := Hh2.out; simp; omega
          have HRR := Lib.hid (trim_no (l := l) HX.out hy)
          have qq : decide (0 < (go : Int) - (na : Int) - (nb : Int) + (q : Int)) = false := by simpa using hnz
          clear hy hnz
          go_wp2
          go_roundw
          case rel => exact ⟨j + 1, at' + go, _, _, by go_num, by omega, HOW7.out, show _ ≤ _ by have := HO.out; omega, HREST.out, show _ = _ by rw [← HP.out, HRR.out], HB7.out⟩
          case measure => simp [intOf]; omega
      · obtain ⟨W7, HW7⟩ : ∃ W7, Hid (W7 = (((w5.setCell ⟨w3.heap.size, 0, none⟩ (.int .i64 ((at' : Int) + na))).setCell ⟨w3.heap.size, 1, none⟩ (.int .i64 ((go : Int) - na - nb))).setCell ⟨w3.heap.size, 2, none⟩ (.slice v5a q v5c))) := ⟨_, rfl⟩
        have bb := (HB13.out.next (below_alloc w3 (.cells #[.int .i64 0, .int .i64 0, .slice none 0 0] 63))).drew.next b5
        have hwr7 : Wrote (fun i => i = w3.heap.size) w5 W7 := by
          rw [HW7.out]
          exact ((Wrote.set (fun i => i = w3.heap.size) w5 _ _ rfl).trans (Wrote.set (fun i => i = w3.heap.size) _ _ _ rfl) (fun _ _ e => e)).trans (Wrote.set (fun i => i = w3.heap.size) _ _ _ rfl) (fun _ _ e => e)
        have HOW7 := Lib.hid (show OwnH W7 w.heap.size u5 out vs from (HOW.out.below bb).wrote hwr7 (fun g e e2 => by have h4 := (HOW.out.lt e).2; have h5 := hsz3.out; omega))
        have hszA : (w3.alloc (.cells #[.int .i64 0, .int .i64 0, .slice none 0 0] 63)).drew.heap.size = w3.heap.size + 1 := by show (w3.alloc _).heap.size = _; simp
        have O7 := Lib.hid (show OwnV W7 w.heap.size (.slice v5a q v5c) (seg xn na h2) from (o5.wrote hwr7 (fun g e e2 => by have h4 := (o5.lt e).1; omega)).more (by have := HB3.out.size; omega))
        have HF7 := Lib.hid (show ∀ g, (Value.slice v5a q v5c).ownBlock = some g → ¬ Blk u5 vs g from fun g e e2 => by
          have h3 := (o5.lt e).1; have h4 := (HOW.out.lt e2).2; have h5 := hsz3.out; omega)
        have HB7 := Lib.hid (show Below w.heap.size w W7 from Wrote.below' (((HB3.out.next (below_alloc w3 (.cells #[.int .i64 0, .int .i64 0, .slice none 0 0] 63))).drew).next b5) hwr7 (fun k e => by have := HB3.out.size; omega))
        have m0 : W7.cell? ⟨w3.heap.size, 0, none⟩ = some (.int .i64 ((at' : Int) + na)) := by rw [HW7.out]; exact (set3_cells z0 z1 z2).1
        have m1 : W7.cell? ⟨w3.heap.size, 1, none⟩ = some (.int .i64 ((go : Int) - na - nb)) := by rw [HW7.out]; exact (set3_cells z0 z1 z2).2.1
        have m2 : W7.cell? ⟨w3.heap.size, 2, none⟩ = some (.slice v5a q v5c) := by rw [HW7.out]; exact (set3_cells z0 z1 z2).2.2
        clear k30 k31 k32 z0 z1 z2 zf z5
        rw [← HW7.out]
        by_cases hnz : 0 < (go : Int) - (na : Int) - (nb : Int) + (q : Int)
        · have hy : nothing (trimOne l ⟨(at' : Int), (go : Int), xn⟩) = false := by
            rw [HT.out]; simp only [nothing, seg_len, HM.out]; have := Hq.out; have := Hh2.out; simp; omega
          have HRR := Lib.hid (trim_yes (l := l) HX.out hy)
          have qq : decide (0 < (go : Int) - (na : Int) - (nb : Int) + (q : Int)) = true := by simpa using hnz
          clear hy hnz
          go_wp2_with (first
            | (at_builtin; refine wpList_hk (.tmp 63) (.tmp 65) w.heap.size u5 out vs (HOW7.out.below (below_alloc _ _)) ⟨(at' : Int) + na, (go : Int) - na - nb, seg xn na h2⟩ HOK.out (.slice v5a q v5c) (O7.out.below (below_alloc _ _)) HF7.out _ (by simp) (by simp) (by simp) (by have := HO.out; omega) (Nat.le_trans HB7.out.size (by simp)) rfl rfl rfl rfl ?_
               intro v8 w8 o8 g8 p8
               have HB8 := Lib.hid (Below.grown (HB7.out.next (below_alloc _ _)) g8 (Nat.le_trans HB7.out.size (by simp)) (fun k e => (HOW.out.lt (.inl e)).1)))
            | fail)
          go_roundw
          case rel => exact ⟨j + 1, at' + go, _, _, by go_num, by omega, o8, show _ ≤ _ by have := HO.out; simp; omega, HREST.out, show _ = _ by
            rw [← HP.out, HRR.out, HT.out, Hh2.out]; simp, HB8.out⟩
          case measure => simp [intOf]; omega
        · have hy : nothing (trimOne l ⟨(at' : Int), (go : Int), xn⟩) = true := by
            rw [HT.out]; simp only [nothing, seg_len, HM.out]; have := Hq.out; have := Hh2.out; simp; omega
          have HRR := Lib.hid (trim_no (l := l) HX.out hy)
          have qq : decide (0 < (go : Int) - (na : Int) - (nb : Int) + (q : Int)) = false := by simpa using hnz
          clear hy hnz
          go_wp2
          go_roundw
          case rel => exact ⟨j + 1, at' + go, _, _, by go_num, by omega, HOW7.out, show _ ≤ _ by have := HO.out; omega, HREST.out, show _ = _ by rw [← HP.out, HRR.out], HB7.out⟩
          case measure => simp [intOf]; omega
    · have hfin := Lib.hid (trim_end (l := l) (hs := hs) (j := j) (by rw [HN.out]; omega))
      go_wp2
      go_ret
      exact ⟨_, vs, rfl, by rw [← HP.out, hfin.out, List.append_nil]; exact ho, hb⟩

end Go.Proofs.Ytaajldodobclaaa
