/-
  Orders run, the program's: all orders in turn, undone where one can not be done; RunOrders.
-/
import Derived.Test.YtnnaigoomipklaaGreatDoorOiOGoodK
import Derived.Test.YtnnaigoomipklaaGreatDoorOiORunS
import Derived.Defers
import Derived.Recover
set_option linter.unusedSimpArgs false
set_option linter.unusedVariables false
namespace Go.Proofs.YtnnaigoomipklaaGreatDoor
open Go.RowKit Go.ChangeShapes Go.WideShapes M

theorem undo_idle (cp ep : Addr) (w : World) (hc : w.cell? cp = some (.int .i64 0)) :
    CallsD Tryz.prog 141 #[.pointer (some cp), .pointer (some ep)] .returning w fun e u' w' => u' = .returning ∧ (e = .returned (.tuple #[]) ∧ w' = w) := by
  go_enter_d Tryz.func141, Tryz.ntmps141
  go_wp2
  go_end0
  exact ⟨rfl, rfl⟩
theorem undo_code (cp ep : Addr) (eb : Nat) (k : Int) (u : Value) (w : World) (hk : (k != 0) = true) (hc : w.cell? cp = some (.int .i64 k)) (he : w.cell? ep = some (.pointer (some ⟨eb, 0, none⟩))) (hb : w.cell? ⟨eb, 0, none⟩ = some u) (hf : w.frozen? ⟨eb, 0, none⟩ = false) :
    CallsD Tryz.prog 141 #[.pointer (some cp), .pointer (some ep)] .returning w fun e u' w' => u' = .returning ∧ (e = .returned (.tuple #[]) ∧ w' = w.setCell ⟨eb, 0, none⟩ (.slice none 0 0)) := by
  go_enter_d Tryz.func141, Tryz.ntmps141
  go_wp2
  go_end0
  exact ⟨rfl, rfl⟩

/-- A block of one cell. -/
def Box1 (w : World) (b : Nat) (t : TypeId) (v : Value) : Prop := w.heap[b]? = some (.cells #[v] t (0, 0))
section
variable {w w' : World} {b : Nat} {t : TypeId} {v : Value}
theorem Box1.lt (h : Box1 w b t v) : b < w.heap.size := (Array.getElem?_eq_some_iff.1 h).1
theorem Box1.cell (h : Box1 w b t v) : w.cell? ⟨b, 0, none⟩ = some v := by unfold Box1 at h; simp [World.cell?, h]
theorem Box1.free (h : Box1 w b t v) : w.frozen? ⟨b, 0, none⟩ = false := by unfold Box1 at h; simp [World.frozen?, h]
theorem Box1.wrote {S : Nat → Prop} (h : Box1 w b t v) (hw : Wrote S w w') (hn : ¬ S b) : Box1 w' b t v := (hw.block b h.lt hn).trans h
theorem Box1.below (h : Box1 w b t v) (hb : Below w.heap.size w w') : Box1 w' b t v := (hb.block b h.lt).trans h
end

set_option maxHeartbeats 4000000 in
set_option maxRecDepth 100000 in
theorem doAll_any (base eb : Nat) (u : Value) (l : List ByteArray) (p : List Od) (Lv : List Value) (b0 : Nat) (AL : Option Addr) (n cL : Nat) (a : Option Addr) (w0 w1 w : World) (hg : goodB l = true) (hgp : ordersB p = true) (hn : p.length = n) (h0 : Below w0.heap.size w0 w1) (hbs : base = w1.heap.size) (h1 : Below w1.heap.size w1 w)
    (hs : Sees w0 a p Lv) (hpl : Pods w0 a n p) (hown : OwnR w1 b0 (.slice AL n cL) 157 1 (litRows Lv)) (hed : Ed w base eb u (startO l)) :
    Calls Tryz.prog 82 #[.pointer (some ⟨eb, 0, none⟩), .slice AL n cL] w fun e w' => e = .returned (.int .i64 (runO l p).2) ∧ ∃ u', Ed w' base eb u' (runO l p).1 ∧ Below base w w' := by
  have hmf : ∀ (fn : Fn) (first cap : Array Value) (w : World), (Instr.makeFunc fn first cap).run Tryz.prog w = .ok (.func fn first cap) w := fun _ _ _ _ => rfl
  have H := Lib.hid hed
  have HST := Lib.hid (startO_ends hg)
  have HLen := Lib.hid (show (startO l).length ≤ 40 by rw [(startO_ends hg).2.2]; exact goodB_len hg)
  have hn60 : n ≤ 60 := by rw [← hn]; exact (orders_all hgp).2
  have HALL := Lib.hid (fun x hx => List.all_eq_true.1 (orders_all hgp).1 x hx)
  have HLv := Lib.hid (show Lv.length = n by have := hown.len; rwa [litRows_len] at this)
  have HN := Lib.hid hn
  have HS := Lib.hid hs
  have HPL := Lib.hid hpl
  have HOWN := Lib.hid hown
  have HB1 := Lib.hid h1
  have HB0 := Lib.hid h0
  have HBS := Lib.hid hbs
  clear hed hg hgp hn hs hpl hown h1 h0 hbs
  go_enter_defers Tryz.func82, Tryz.ntmps82
  go_wp2
  have hbx0 : Box1 ((w.alloc (.cells #[.pointer (some ⟨eb, 0, none⟩)] 169)).alloc (.cells #[.int .i64 0] 3)) w.heap.size 169 (.pointer (some ⟨eb, 0, none⟩)) := Box1.below (show Box1 (w.alloc _) w.heap.size _ _ from heap_alloc_new w _) (below_alloc _ _)
  have hbx1 : Box1 ((w.alloc (.cells #[.pointer (some ⟨eb, 0, none⟩)] 169)).alloc (.cells #[.int .i64 0] 3)) (w.heap.size + 1) 3 (.int .i64 0) := by
    have := heap_alloc_new (w.alloc (.cells #[.pointer (some ⟨eb, 0, none⟩)] 169)) (.cells #[.int .i64 0] 3)
    simpa [Box1] using this
  have hbw : Below w.heap.size w ((w.alloc (.cells #[.pointer (some ⟨eb, 0, none⟩)] 169)).alloc (.cells #[.int .i64 0] 3)) := (below_alloc w _).next (below_alloc _ _)
  have HX0 := Lib.hid hbx0
  have HX1 := Lib.hid hbx1
  have HBW := Lib.hid hbw
  clear hbx0 hbx1 hbw
  obtain ⟨N, HNN⟩ : ∃ N, Hid (w.heap.size = N) := ⟨_, rfl⟩
  obtain ⟨N1, HN1⟩ : ∃ N1, Hid (w.heap.size + 1 = N1) := ⟨_, rfl⟩
  have HEB := Lib.hid (show eb < N by rw [← HNN.out]; exact H.out.lt)
  rw [HN1.out, HNN.out]
  rw [HNN.out] at HX0
  rw [HN1.out] at HX1
  go_loopw [10] (fun i w' => ∃ (j : Nat) (u' : Value) (cur : List ByteArray), i = .int .i64 j ∧ j ≤ n ∧ Hid (Ed w' base eb u' cur) ∧ Hid (runsO (startO l) (p.take j) = (cur, 0)) ∧ Hid (∀ s ∈ cur, endsB s = true) ∧ Hid (∀ s ∈ cur, s.size ≤ 31) ∧ Hid (cur.length ≤ 40 + 40 * j) ∧ Hid (Box1 w' N 169 (.pointer (some ⟨eb, 0, none⟩))) ∧ Hid (Box1 w' N1 3 (.int .i64 0)) ∧ Hid (u'.ownBlock ≠ some N ∧ u'.ownBlock ≠ some N1) ∧ Hid (Below base w w')) (fun i _ => n - (intOf i).toNat)
  case atStart =>
    have hap : ∀ k, N ≤ k → u.ownBlock ≠ some k := fun k hk e => by have := (H.out.own.lt e).2; have := HNN.out; omega
    exact ⟨0, u, startO l, rfl, by omega, Lib.hid (H.out.below HBW.out), Lib.hid (by rw [List.take_zero]; rfl), Lib.hid HST.out.1, Lib.hid HST.out.2.1, Lib.hid (by have := HLen.out; omega), Lib.hid HX0.out, Lib.hid HX1.out, Lib.hid ⟨hap N (Nat.le_refl _), hap N1 (by have := HN1.out; have := HNN.out; omega)⟩,
      Lib.hid (HBW.out.mono (by have := H.out.wide; have := HNN.out; omega))⟩
  case round =>
    obtain ⟨j, u', cur, rfl, hj, HED, HR, HEN, HSZ, HLN, HC0, HC1, HAP, HBB⟩ := hrel
    have HNW := Lib.hid (show N ≠ N1 ∧ eb ≠ N ∧ eb ≠ N1 by have := HN1.out; have := HNN.out; have := HEB.out; omega)
    by_cases hlt : j < n
    · obtain ⟨x, HX⟩ : ∃ x, Hid (p[j]? = some x) := ⟨_, List.getElem?_eq_getElem (by rw [HN.out]; exact hlt)⟩
      obtain ⟨uu, hU⟩ : ∃ uu, Lv[j]? = some uu := ⟨_, List.getElem?_eq_getElem (by rw [HLv.out]; exact hlt)⟩
      obtain ⟨hkd, b, off, A, m, c, ha, hc3, hst, hmc, hok, rfl⟩ := HS.out.at_ j x uu HX.out hU
      have HPLN := Lib.hid (HPL.out.plain j b off A m c hlt ha hc3)
      have HSTR := Lib.hid hst
      obtain ⟨g, r, rfl, _, _, hr⟩ := HOWN.out.addr hlt
      have hcw1 := HOWN.out.cell (litRows_get hU) (j := 0) rfl
      have HB1R := Lib.hid (show Below w1.heap.size w1 wr from HB1.out.trans (by rw [← HBS.out]; exact HBB.out))
      have hcl : wr.cell? ⟨g, j, none⟩ = some (kindV x A m c) := by
        have := cell_keep HB1R.out hcw1
        simpa [D.val] using this
      have HXB := Lib.hid (HALL.out x (List.mem_of_getElem? HX.out))
      have HB0R := Lib.hid (show Below w0.heap.size w0 wr from HB0.out.next HB1R.out)
      have HLOW := Lib.hid (show ∀ bb, A = some bb → bb.block < base from fun bb hb => by
        obtain ⟨vc, h1⟩ := HPLN.out bb hb
        have := h1.lt
        have := HB0.out.size
        have := HBS.out
        omega)
      have HSIZ := Lib.hid (show ∀ s ∈ cur, 1 ≤ s.size ∧ s.size ≤ 100 from fun s hs => ⟨by
        have h1 := HEN.out s hs
        rcases Nat.eq_zero_or_pos s.size with h | h
        · exfalso
          unfold endsB at h1
          have : s.data.toList = [] := List.eq_nil_of_length_eq_zero (by rw [Array.length_toList]; exact h)
          rw [this] at h1
          simp at h1
        · exact h, by have := HSZ.out s hs; omega⟩)
      have hi0 : (0 : Int) ≤ (j : Int) := by omega
      have hi1 : (j : Int) < (n : Int) := by omega
      have hcN := HC0.out.cell
      have hcN1 := HC1.out.cell
      clear ha hc3 hst hok hkd hr hcw1 hU
      by_cases hz : (doO cur x).2 = 0
      · have HZ := Lib.hid hz
        have HNX := Lib.hid (show runsO (startO l) (p.take (j + 1)) = ((doO cur x).1, 0) by
          have h1 := runsO_take_succ HX.out (startO l) (by rw [HR.out])
          rw [HR.out] at h1
          rw [h1, if_pos hz])
        have HDL := Lib.hid (show doL cur x = (doO cur x).1 from if_pos hz)
        clear hz
        go_wp2_with fail
        refine (doO_any base eb u' cur x A m c wr HXB.out HED.out (by have := HLN.out; omega) HSIZ.out (HSTR.out.below HB0R.out) hmc (HPLN.out.below HB0R.out) HLOW.out).mono ?_
        rintro e w3 ⟨rfl, u3, M⟩
        rw [HZ.out]
        have HM := Lib.hid M
        have hx0 : Box1 w3 N 169 (.pointer (some ⟨eb, 0, none⟩)) := HC0.out.wrote M.wrote (fun e => e.elim (fun e => HNW.out.2.1 e.symm) HAP.out.1)
        have hx1 : Box1 w3 N1 3 (.int .i64 0) := HC1.out.wrote M.wrote (fun e => e.elim (fun e => HNW.out.2.2 e.symm) HAP.out.2)
        have hap : ∀ k, k = N ∨ k = N1 → u3.ownBlock ≠ some k := fun k hk e => by
          have h5 := HC0.out.lt
          have h6 := HC1.out.lt
          rcases M.place k e with h | h
          · rcases hk with rfl | rfl
            · exact HAP.out.1 h
            · exact HAP.out.2 h
          · rcases hk with rfl | rfl <;> omega
        have HX0' := Lib.hid hx0
        have HX1' := Lib.hid hx1
        have HAP' := Lib.hid hap
        have hc1 := hx1.cell
        have hf1 := hx1.free
        clear M hx0 hx1 hap
        go_wp2
        go_roundw
        case rel =>
          have hw4 : Wrote (fun k => k = N1) w3 (w3.setCell ⟨N1, 0, none⟩ (.int .i64 0)) := Wrote.set _ _ _ _ rfl
          refine ⟨j + 1, u3, (doO cur x).1, by go_num, by omega, Lib.hid ?_, HNX, Lib.hid (doO_ends HXB.out HEN.out), Lib.hid (doO_sizes (by omega) HXB.out HSZ.out), Lib.hid ?_, Lib.hid (HX0'.out.wrote hw4 HNW.out.1), Lib.hid (box_set HX1'.out), Lib.hid ⟨HAP'.out N (.inl rfl), HAP'.out N1 (.inr rfl)⟩, Lib.hid ?_⟩
          · rw [← HDL.out]
            exact HM.out.ed.wrote hw4 HNW.out.2.2 (fun gg e e2 => HAP'.out N1 (.inr rfl) (by rw [e, e2]))
          · have := doO_len (l := cur) HXB.out
            have := HLN.out
            omega
          · exact Wrote.below (HBB.out.trans (HM.out.below HED.out)) hw4 HM.out.ed.wide (fun k e => by have := H.out.wide; have := HN1.out; have := HNN.out; omega)
        case measure => simp [intOf]; omega
      · obtain ⟨cc, HCC⟩ : ∃ cc, Hid ((doO cur x).2 = cc) := ⟨_, rfl⟩
        have hq : (cc != 0) = true := by rw [← HCC.out]; simpa using hz
        have HRUN := Lib.hid (show runO l p = ([], cc) from runO_bad (by
          have h1 := runsO_bad HX.out (startO l) (by rw [HR.out]) (by rw [HR.out]; exact hz)
          rw [HR.out] at h1
          rw [h1, HCC.out]) (by rw [← HCC.out]; exact hz))
        clear hz
        go_wp2_with fail
        refine (doO_any base eb u' cur x A m c wr HXB.out HED.out (by have := HLN.out; omega) HSIZ.out (HSTR.out.below HB0R.out) hmc (HPLN.out.below HB0R.out) HLOW.out).mono ?_
        rintro e w3 ⟨rfl, u3, M⟩
        rw [HCC.out]
        have HM := Lib.hid M
        have hx0 : Box1 w3 N 169 (.pointer (some ⟨eb, 0, none⟩)) := HC0.out.wrote M.wrote (fun e => e.elim (fun e => HNW.out.2.1 e.symm) HAP.out.1)
        have hx1 : Box1 w3 N1 3 (.int .i64 0) := HC1.out.wrote M.wrote (fun e => e.elim (fun e => HNW.out.2.2 e.symm) HAP.out.2)
        have hap : u3.ownBlock ≠ some N1 := fun e => by
          have h6 := HC1.out.lt
          rcases M.place N1 e with h | h
          · exact HAP.out.2 h
          · omega
        have HX0' := Lib.hid hx0
        have HX1' := Lib.hid hx1
        have HAP' := Lib.hid hap
        have hc1 := hx1.cell
        have hf1 := hx1.free
        clear M hx0 hx1 hap
        go_wp2
        have hw4 : Wrote (fun k => k = N1) w3 (w3.setCell ⟨N1, 0, none⟩ (.int .i64 cc)) := Wrote.set _ _ _ _ rfl
        have hw5 : Wrote (fun k => k = N1) w3 ((w3.setCell ⟨N1, 0, none⟩ (.int .i64 cc)).setCell ⟨N1, 0, none⟩ (.int .i64 cc)) := hw4.trans (Wrote.set (fun k => k = N1) _ _ _ rfl) (fun _ _ e => e)
        have hb5 : Box1 ((w3.setCell ⟨N1, 0, none⟩ (.int .i64 cc)).setCell ⟨N1, 0, none⟩ (.int .i64 cc)) N1 3 (.int .i64 cc) := box_set (box_set HX1'.out)
        have he5 := HM.out.ed.wrote hw5 HNW.out.2.2 (fun gg e e2 => HAP'.out (by rw [e, e2]))
        have hx5 := HX0'.out.wrote hw5 HNW.out.1
        have hbb5 : Below base w ((w3.setCell ⟨N1, 0, none⟩ (.int .i64 cc)).setCell ⟨N1, 0, none⟩ (.int .i64 cc)) := Wrote.below (HBB.out.trans (HM.out.below HED.out)) hw5 HM.out.ed.wide (fun k e => by have := H.out.wide; have := HN1.out; have := HNN.out; omega)
        obtain ⟨w5, HW5⟩ : ∃ w5, Hid (w5 = (w3.setCell ⟨N1, 0, none⟩ (.int .i64 cc)).setCell ⟨N1, 0, none⟩ (.int .i64 cc)) := ⟨_, rfl⟩
        rw [← HW5.out] at hb5 he5 hx5 hbb5 ⊢
        refine leaves_cons (f := 141) (args := #[.pointer (some ⟨N1, 0, none⟩), .pointer (some ⟨N, 0, none⟩)]) (by simp) (by simp [go_sem]) ?_
        refine (undo_code ⟨N1, 0, none⟩ ⟨N, 0, none⟩ eb cc u3 w5 hq hb5.cell hx5.cell he5.cell he5.free).mono ?_
        rintro e uu' w'' ⟨rfl, rfl, rfl⟩
        have hw6 : Wrote (fun k => k = eb) w5 (w5.setCell ⟨eb, 0, none⟩ (.slice none 0 0)) := Wrote.set _ _ _ _ rfl
        have hc6 := (hb5.wrote hw6 (fun e => HNW.out.2.2 e.symm)).cell
        simp [Leaves, settle, results, Tryz.results82, go_sem, hc6]
        rw [HRUN.out]
        exact ⟨rfl, ⟨_, ⟨he5.low, box_set he5.box, OwnV.nil_, by simp [Value.ownBlock]⟩⟩, Wrote.below hbb5 hw6 he5.wide (fun k e => e ▸ he5.low)⟩
    · have htk := Lib.hid (show p.take j = p from List.take_of_length_le (by rw [HN.out]; omega))
      have HR2 := Lib.hid (show runsO (startO l) p = (cur, 0) by have := HR.out; rwa [htk.out] at this)
      obtain ⟨q, HQ⟩ : ∃ q, Hid (cur.length = q) := ⟨_, rfl⟩
      obtain ⟨Aq, cq, rfl, hq1, hq2⟩ := HED.out.own.form HQ.out
      have hcN := HC0.out.cell
      have hcE := HED.out.cell
      have hcN1 := HC1.out.cell
      have hfN1 := HC1.out.free
      cases hgd : goodB cur
      · have HGD := Lib.hid hgd
        have HRUN := Lib.hid (show runO l p = ([], 2) from runO_other HR2.out hgd)
        clear hgd
        go_wp2_with fail
        refine (implGoodLines_any Aq q cq cur _ HED.out.own.strs).mono ?_
        rintro e w3 ⟨rfl, b3⟩
        rw [HGD.out]
        have HED3 := Lib.hid (HED.out.below b3)
        have hx0 := HC0.out.below b3
        have hx1 := HC1.out.below b3
        have HBB3 := Lib.hid (show Below base w w3 from HBB.out.trans (b3.mono HED.out.wide))
        have hc1 := hx1.cell
        have hf1 := hx1.free
        have HX0' := Lib.hid hx0
        have HX1' := Lib.hid hx1
        clear b3 hx0 hx1
        go_wp2
        have hw5 : Wrote (fun k => k = N1) w3 (w3.setCell ⟨N1, 0, none⟩ (.int .i64 2)) := Wrote.set _ _ _ _ rfl
        have hb5 : Box1 (w3.setCell ⟨N1, 0, none⟩ (.int .i64 2)) N1 3 (.int .i64 2) := box_set HX1'.out
        have he5 := HED3.out.wrote hw5 HNW.out.2.2 (fun gg e e2 => HAP.out.2 (by rw [e, e2]))
        have hx5 := HX0'.out.wrote hw5 HNW.out.1
        have hbb5 : Below base w (w3.setCell ⟨N1, 0, none⟩ (.int .i64 2)) := Wrote.below HBB3.out hw5 HED3.out.wide (fun k e => by have := H.out.wide; have := HN1.out; have := HNN.out; omega)
        obtain ⟨w5, HW5⟩ : ∃ w5, Hid (w5 = w3.setCell ⟨N1, 0, none⟩ (.int .i64 2)) := ⟨_, rfl⟩
        rw [← HW5.out] at hb5 he5 hx5 hbb5 ⊢
        refine leaves_cons (f := 141) (args := #[.pointer (some ⟨N1, 0, none⟩), .pointer (some ⟨N, 0, none⟩)]) (by simp) (by simp [go_sem]) ?_
        refine (undo_code ⟨N1, 0, none⟩ ⟨N, 0, none⟩ eb 2 _ w5 (by decide) hb5.cell hx5.cell he5.cell he5.free).mono ?_
        rintro e uu' w'' ⟨rfl, rfl, rfl⟩
        have hw6 : Wrote (fun k => k = eb) w5 (w5.setCell ⟨eb, 0, none⟩ (.slice none 0 0)) := Wrote.set _ _ _ _ rfl
        have hc6 := (hb5.wrote hw6 (fun e => HNW.out.2.2 e.symm)).cell
        simp [Leaves, settle, results, Tryz.results82, go_sem, hc6]
        rw [HRUN.out]
        exact ⟨rfl, ⟨_, ⟨he5.low, box_set he5.box, OwnV.nil_, by simp [Value.ownBlock]⟩⟩, Wrote.below hbb5 hw6 he5.wide (fun k e => e ▸ he5.low)⟩
      · have HGD := Lib.hid hgd
        have HRUN := Lib.hid (show runO l p = (cur, 0) from runO_good HR2.out hgd)
        clear hgd
        go_wp2_with fail
        refine (implGoodLines_any Aq q cq cur _ HED.out.own.strs).mono ?_
        rintro e w3 ⟨rfl, b3⟩
        rw [HGD.out]
        have HED3 := Lib.hid (HED.out.below b3)
        have hx0 := HC0.out.below b3
        have hx1 := HC1.out.below b3
        have HBB3 := Lib.hid (show Below base w w3 from HBB.out.trans (b3.mono HED.out.wide))
        have hc1 := hx1.cell
        have hf1 := hx1.free
        have HX0' := Lib.hid hx0
        have HX1' := Lib.hid hx1
        clear b3 hx0 hx1
        go_wp2
        have hw5 : Wrote (fun k => k = N1) w3 (w3.setCell ⟨N1, 0, none⟩ (.int .i64 0)) := Wrote.set _ _ _ _ rfl
        have hb5 : Box1 (w3.setCell ⟨N1, 0, none⟩ (.int .i64 0)) N1 3 (.int .i64 0) := box_set HX1'.out
        have he5 := HED3.out.wrote hw5 HNW.out.2.2 (fun gg e e2 => HAP.out.2 (by rw [e, e2]))
        have hx5 := HX0'.out.wrote hw5 HNW.out.1
        have hbb5 : Below base w (w3.setCell ⟨N1, 0, none⟩ (.int .i64 0)) := Wrote.below HBB3.out hw5 HED3.out.wide (fun k e => by have := H.out.wide; have := HN1.out; have := HNN.out; omega)
        obtain ⟨w5, HW5⟩ : ∃ w5, Hid (w5 = w3.setCell ⟨N1, 0, none⟩ (.int .i64 0)) := ⟨_, rfl⟩
        rw [← HW5.out] at hb5 he5 hx5 hbb5 ⊢
        refine leaves_cons (f := 141) (args := #[.pointer (some ⟨N1, 0, none⟩), .pointer (some ⟨N, 0, none⟩)]) (by simp) (by simp [go_sem]) ?_
        refine (undo_idle ⟨N1, 0, none⟩ ⟨N, 0, none⟩ w5 hb5.cell).mono ?_
        rintro e uu' w'' ⟨rfl, rfl, rfl⟩
        have hc6 := hb5.cell
        simp [Leaves, settle, results, Tryz.results82, go_sem, hc6]
        rw [HRUN.out]
        exact ⟨rfl, ⟨_, he5⟩, hbb5⟩

set_option maxHeartbeats 1000000 in
/-- A copy in which the last line has its end. -/
theorem withEnds_any (a : Option Addr) (n c : Nat) (l : List ByteArray) (w : World) (hl : Strs w a n l) (hg : goodB l = true) :
    Calls Tryz.prog 81 #[.slice a n c] w fun e w' => ∃ v, e = .returned v ∧ OwnV w' w.heap.size v (startO l) ∧ Below w.heap.size w w' := by
  have HL := Lib.hid hl.len
  have hn40 : n ≤ 40 := by rw [← HL.out]; exact goodB_len hg
  have HGAT := Lib.hid (fun j s hj => goodB_at hg (j := j) (s := s) hj)
  clear hg
  go_enter Tryz.func81, Tryz.ntmps81
  go_wp2_with fail
  refine (copyOf_any a n c l _ hl (by omega)).mono ?_
  rintro e w1 ⟨v1, rfl, o1, b1⟩
  obtain ⟨A1, c1, rfl, h11, h12⟩ := o1.form HL.out
  have HB1 := Lib.hid b1
  have HO1 := Lib.hid o1
  clear o1 b1
  go_wp2
  go_loopw [10] (fun i w' => ∃ (j : Nat) (cur : List ByteArray), i = .int .i64 j ∧ j ≤ n ∧ Hid (OwnV w' w.heap.size (.slice A1 n c1) cur) ∧ Hid (Below w.heap.size w w') ∧ Hid (cur.length = n) ∧ Hid (j < n → cur = l) ∧ Hid (j = n → cur = startO l)) (fun i _ => n - (intOf i).toNat)
  case atStart =>
    refine ⟨0, l, rfl, by omega, HO1, HB1, HL, Lib.hid (fun _ => rfl), Lib.hid (fun h => ?_)⟩
    have : l = [] := List.eq_nil_of_length_eq_zero (by rw [HL.out]; exact h.symm)
    subst this
    exact (startO_whole rfl).symm
  case round =>
    obtain ⟨j, cur, rfl, hj, HO, HB, HC, HLT, HEQ⟩ := hrel
    by_cases hlt : j < n
    · have hcur := HLT.out hlt
      subst hcur
      obtain ⟨g, rfl, hgb, hgl, _, hgf, hset⟩ := HO.out.at_ hlt
      obtain ⟨b', off', s, e, hs, hsz, hc⟩ := HO.out.strs.at_ hlt
      injection e with e
      injection e with e1 e2
      subst e1 e2
      rw [Nat.zero_add] at hc
      have HS := Lib.hid hs
      have HSET := Lib.hid hset
      have hs30 : s.size ≤ 30 := (lineB_size (HGAT.out j s hs).1).2
      have hi0 : (0 : Int) ≤ (j : Int) := by omega
      have hi1 : (j : Int) < (n : Int) := by omega
      clear hs hset
      cases he : endsB s
      · have HLAST := Lib.hid (show j + 1 = n by
          rcases Nat.lt_or_ge (j + 1) n with h | h
          · have := (HGAT.out j s HS.out).2 (by rw [HL.out]; exact h)
            rw [he] at this
            cases this
          · omega)
        have HE := Lib.hid he
        have HST := Lib.hid (show startO cur = cur.set j (s ++ ⟨#[10]⟩) by
          have h1 := startO_set HL.out (by omega) (s := s) (by rw [show n - 1 = j by have := HLAST.out; omega]; exact HS.out) he
          rw [show n - 1 = j by have := HLAST.out; omega] at h1
          exact h1)
        have hbig : (9223372036854775807 < s.size + 1) = False := by simp; omega
        clear he
        go_wp2_with fail
        refine (hasEnd_any s _ hsz).mono ?_
        rintro e w2 ⟨rfl, rfl⟩
        rw [HE.out]
        go_wp2
        go_roundw
        case rel =>
          obtain ⟨o2, g2⟩ := HSET.out (s ++ ⟨#[10]⟩) (by rw [ByteArray.size_append]; show s.size + 1 ≤ maxLen; unfold maxLen; omega)
          refine ⟨j + 1, _, by go_num, by omega, Lib.hid o2, Lib.hid (HB.out.grown g2 HB.out.size (fun k e => by injection e with e; omega)), Lib.hid (by rw [List.length_set]; exact HC.out), Lib.hid (fun h => by have := HLAST.out; omega), Lib.hid (fun _ => HST.out.symm)⟩
        case measure => simp [intOf]; omega
      · have HE := Lib.hid he
        have HST := Lib.hid (show j + 1 = n → cur = startO cur from fun h => (startO_whole (by rw [wholeB_last HL.out (by omega) (s := s) (by rw [show n - 1 = j by omega]; exact HS.out), he])).symm)
        clear he
        go_wp2_with fail
        refine (hasEnd_any s _ hsz).mono ?_
        rintro e w2 ⟨rfl, rfl⟩
        rw [HE.out]
        go_wp2
        go_roundw
        case rel => exact ⟨j + 1, cur, by go_num, by omega, HO, HB, HC, Lib.hid (fun _ => rfl), HST⟩
        case measure => simp [intOf]; omega
    · have hjn : j = n := by omega
      have HF := Lib.hid (HEQ.out hjn)
      go_wp2
      go_ret
      exact ⟨_, rfl, by rw [← HF.out]; exact HO.out, HB.out⟩

set_option maxHeartbeats 1000000 in
theorem implRunOrders_any (a : Option Addr) (n c : Nat) (l : List ByteArray) (b : Option Addr) (m d : Nat) (p : List Od) (w : World) (hl : Strs w a n l) (hp : Pods w b m p) :
    Calls Tryz.prog 24 #[.slice a n c, .slice b m d] w fun e w' => ∃ v, e = .returned (.tuple #[v, .int .i64 (runOrders l p).2.1, .bool (runOrders l p).2.2]) ∧ OwnV w' w.heap.size v (runOrders l p).1 ∧ Below w.heap.size w w' := by
  cases hgp : ordersB p
  · have HGP := Lib.hid hgp
    have hf := Lib.hid (show runOrders l p = ([], 0, false) from if_neg (by rw [hgp]; simp))
    clear hgp
    go_enter Tryz.func24, Tryz.ntmps24
    go_wp2_with fail
    refine (goodOrders_any b m d p _ hp.ods).mono ?_
    rintro e w1 ⟨A1, m1, d1, L, rfl, _, b1⟩
    rw [HGP.out]
    go_wp2
    go_ret3
    exact ⟨_, by rw [hf.out]; rfl, by rw [hf.out]; exact OwnV.nil_, b1⟩
  have HGP := Lib.hid hgp
  cases hg : goodB l
  · have HG := Lib.hid hg
    have hf := Lib.hid (show runOrders l p = ([], 0, false) from if_neg (by rw [hg]; simp))
    clear hg hgp
    go_enter Tryz.func24, Tryz.ntmps24
    go_wp2_with fail
    refine (goodOrders_any b m d p _ hp.ods).mono ?_
    rintro e w1 ⟨A1, m1, d1, L, rfl, _, b1⟩
    rw [HGP.out]
    go_wp2_with fail
    refine (implGoodLines_any a n c l _ (hl.below b1)).mono ?_
    rintro e w2 ⟨rfl, b2⟩
    rw [HG.out]
    go_wp2
    go_ret3
    exact ⟨_, by rw [hf.out]; rfl, by rw [hf.out]; exact OwnV.nil_, b1.next b2⟩
  have HG := Lib.hid hg
  have hf := Lib.hid (show runOrders l p = ((runO l p).1, (runO l p).2, true) from if_pos ⟨hg, hgp⟩)
  have HP := Lib.hid hp
  have HM := Lib.hid hp.ods.len
  clear hg hgp
  go_enter Tryz.func24, Tryz.ntmps24
  go_wp2_with fail
  refine (goodOrders_any b m d p _ HP.out.ods).mono ?_
  rintro e w1 ⟨A1, m1, d1, L, rfl, hall, b1⟩
  rw [HGP.out]
  obtain ⟨hm1, hown, hsees⟩ := hall HGP.out
  subst hm1
  have HOWN := Lib.hid hown
  have HSEES := Lib.hid hsees
  have HB1 := Lib.hid b1
  clear hown hsees hall
  go_wp2_with fail
  refine (implGoodLines_any a n c l _ (hl.below b1)).mono ?_
  rintro e w2 ⟨rfl, b2⟩
  rw [HG.out]
  have HB2 := Lib.hid b2
  go_wp2_with fail
  refine (withEnds_any a n c l _ ((hl.below b1).below b2) HG.out).mono ?_
  rintro e w3 ⟨v3, rfl, o3, b3⟩
  obtain ⟨q, HQ⟩ : ∃ q, Hid ((startO l).length = q) := ⟨_, rfl⟩
  obtain ⟨A3, c3, rfl, _, _⟩ := o3.form HQ.out
  have HO3 := Lib.hid o3
  have HB3 := Lib.hid b3
  clear b1 b2 b3 o3
  obtain ⟨W4, HW4⟩ : ∃ W4, Hid (W4 = w3.alloc (.cells #[.slice A3 q c3] 112)) := ⟨_, rfl⟩
  obtain ⟨eb, HEB⟩ : ∃ eb, Hid (w3.heap.size = eb) := ⟨_, rfl⟩
  have HB4 := Lib.hid (show Below w3.heap.size w3 W4 by rw [HW4.out]; exact below_alloc _ _)
  have HED := Lib.hid (show Ed W4 w1.heap.size eb (.slice A3 q c3) (startO l) from ⟨by rw [← HEB.out]; exact Nat.le_trans HB2.out.size HB3.out.size, by rw [← HEB.out, HW4.out]; exact heap_alloc_new w3 _, (HO3.out.more HB2.out.size).below HB4.out, fun e => by have := (HO3.out.lt e).2; have := HEB.out; omega⟩)
  go_wp2_with fail
  rw [HEB.out, ← HW4.out]
  refine (doAll_any w1.heap.size eb _ l p L w.heap.size A1 m1 d1 b w w1 W4 HG.out HGP.out HM.out HB1.out rfl ((HB2.out.next HB3.out).next HB4.out) HSEES.out HP.out HOWN.out HED.out).mono ?_
  rintro e w5 ⟨rfl, u5, e5, b5⟩
  obtain ⟨q5, HQ5⟩ : ∃ q, Hid ((runO l p).1.length = q) := ⟨_, rfl⟩
  obtain ⟨A5, c5, rfl, _, _⟩ := e5.own.form HQ5.out
  have hc5 := e5.cell
  have HO5 := Lib.hid (e5.own.more HB1.out.size)
  have HB5 := Lib.hid (show Below w.heap.size w w5 from HB1.out.next (((HB2.out.next HB3.out).next HB4.out).trans b5))
  clear e5 b5
  go_wp2
  go_ret3
  exact ⟨_, by rw [hf.out]; rfl, by rw [hf.out]; exact HO5.out, HB5.out⟩

end Go.Proofs.YtnnaigoomipklaaGreatDoor
