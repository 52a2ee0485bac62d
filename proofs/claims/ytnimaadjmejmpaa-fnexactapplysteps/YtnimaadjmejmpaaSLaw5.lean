/-
  The laws' own small functions on lists of steps: marked, held.
-/
import Derived.Test.YtnimaadjmejmpaaSLaw4
set_option linter.unusedSimpArgs false
set_option linter.unusedVariables false
namespace Go.Proofs.Ytnimaadjmejmpaa
open Go.RowKit Go.ChangeShapes Go.WideShapes M

theorem sides_small {l : List Sp} (h : l.length + totalP l ≤ 1048576) : ∀ x ∈ l, x.old.length ≤ 1048576 ∧ x.new.length ≤ 1048576 := by
  intro x hx
  have := totalP_mem hx
  unfold bulk at this
  omega

set_option maxHeartbeats 4000000 in
set_option maxRecDepth 100000 in
theorem markStepS_any (A : Option Addr) (n cap base k0 : Nat) (l : List Sp) (vs : List (List D)) (w : World) (ho : OwnSt w base (.slice A n cap) l vs) (hn : l.length + totalP l ≤ 1048576) (hk : k0 + 4 * l.length + totalP l ≤ 16777216) :
    Calls Try.prog 18 #[.slice A n cap, .int .i64 k0] w fun e w' => e = .returned (.int .i64 ((endS k0 l : Nat) : Int)) ∧ (∃ vs', OwnSt w' base (.slice A n cap) (marksSt k0 l) vs') ∧ Wrote (BlkR (.slice A n cap) vs) w w' := by
  have HL := Lib.hid ho.sps.len
  have HE := Lib.hid (fun i => endS_take_le l i k0)
  have HN := Lib.hid hn
  have HK := Lib.hid hk
  have hn1 : n ≤ 1048576 := by rw [← HL.out]; omega
  clear hn hk
  go_enter Try.func18, Try.ntmps18
  go_wp2
  go_loopw [1, 5] (fun q i w' => ∃ j K : Nat, i = .int .i64 j ∧ q = .int .i64 (K : Int) ∧ Hid (K = endS k0 (l.take j)) ∧ j ≤ n ∧ (∃ vs', OwnSt w' base (.slice A n cap) (mkToP l k0 j) vs' ∧ Hid (D.blocksL vs'.flatten = D.blocksL vs.flatten)) ∧ Wrote (BlkR (.slice A n cap) vs) w w') (fun _ i _ => n - (intOf i).toNat)
  case atStart => exact ⟨0, k0, rfl, rfl, rfl, by omega, ⟨vs, by rw [mkToP_zero]; exact ho, rfl⟩, Wrote.refl _ _⟩
  case round =>
    obtain ⟨j, K, rfl, rfl, HKj, hj, ⟨vs', h1, HV⟩, h2⟩ := hrel
    by_cases hlt : j < n
    · obtain ⟨g, x, a1, m1, c1, a2, m2, c2, rfl, hb0, hg0, hx, hr, d0, d1, d2, d3, d4, d5, o1, hmc1, o2, hmc2, hok, hfz⟩ := h1.at_ hlt
      have hlj : l[j]? = some x := by
        obtain ⟨y, hy⟩ : ∃ y, l[j]? = some y := ⟨_, List.getElem?_eq_getElem (show j < l.length by rw [HL.out]; exact hlt)⟩
        rw [mkToP_get k0 hy] at hx
        rw [hy, hx]
      have hl1 : x.old.length = m1 := o1.strs.len
      have hl2 : x.new.length = m2 := o2.strs.len
      have hKle : K ≤ 16777216 := by have := HE.out j; have := HK.out; have := HKj.out; omega
      have hnx : nextSp K x = endS k0 (l.take (j + 1)) := by rw [take_snoc hlj, endS_snoc, ← HKj.out]
      have hKm : K + 2 + m1 + 2 + m2 ≤ 16777216 := by
        have h3 := HE.out (j + 1)
        rw [← hnx] at h3
        unfold nextSp at h3
        have := HK.out
        omega
      have hm1 : m1 ≤ 1048576 ∧ m2 ≤ 1048576 := by have := totalP_mem (List.mem_of_getElem? hlj); have := HN.out; unfold bulk at *; omega
      obtain ⟨hm1, hm2⟩ := hm1
      have hw1 := h1.own.wide
      have lx : ∀ y : Sp, ((mkToP l k0 j).set j y)[j]? = some y := fun y => set_eq (by rw [mkToP_len, HL.out]; exact hlt)
      have hjv : j < vs'.length := (List.getElem?_eq_some_iff.1 hr).1
      have lr : ∀ y : List D, (vs'.set j y)[j]? = some y := fun y => set_eq hjv
      have s1 := h1.setFr hx hr (K : Int) (nat_ok (by omega))
      have s2 := s1.setTo (lx _) (lr _) ((K : Int) + 1) ⟨by omega, by omega⟩
      rw [List.set_set, List.set_set] at s2
      have hap1 : ∀ g', (Value.slice a1 m1 c1).ownBlock = some g' → g' ≠ g := fun g' e e2 => h1.own.self_apart hr (j := 2) (d := textsD (.slice a1 m1 c1) x.old) rfl (by rw [textsD_blocks, e, e2]; simp)
      have hap2 : ∀ g', (Value.slice a2 m2 c2).ownBlock = some g' → g' ≠ g := fun g' e e2 => h1.own.self_apart hr (j := 5) (d := textsD (.slice a2 m2 c2) x.new) rfl (by rw [textsD_blocks, e, e2]; simp)
      have HJ := Lib.hid hlj
      have HR := Lib.hid hr
      have HXX := Lib.hid hx
      have HLX := Lib.hid lx
      have HLR := Lib.hid lr
      have HAP1 := Lib.hid hap1
      have HAP2 := Lib.hid hap2
      have HNX := Lib.hid hnx
      have HW1 := Lib.hid hw1
      have HH1 := Lib.hid h1
      have HL1 := Lib.hid hl1
      have HL2 := Lib.hid hl2
      have HS2 := Lib.hid s2
      have O12 := Lib.hid (s2.newAt (lx _) (lr _)).1
      clear hlj hr hx lx lr hap1 hap2 hnx hw1 h1 s1 s2 hl1 hl2 o1 o2 hmc1 hmc2 hok hjv
      go_wp2_with fail
      rw [show ((K : Int) + 1 + 1) = ((K + 2 : Nat) : Int) from by omega]
      refine (markStringS_any a1 m1 c1 base (K + 2) x.old _ O12.out hm1 (by omega)).mono ?_
      rintro e w1 ⟨rfl, p1, g1⟩
      have s3 := HS2.out.renewOld (HLX.out _) (HLR.out _) g1 p1
      rw [List.set_set, List.set_set] at s3
      dsimp only at s3
      obtain ⟨K2, HK2⟩ : ∃ K2 : Nat, Hid (K2 = K + 2 + m1) := ⟨_, rfl⟩
      have hK2 : K2 + 2 + m2 ≤ 16777216 := by have := HK2.out; omega
      have s4 := s3.setAt (HLX.out _) (HLR.out _) (K2 : Int) (nat_ok (by omega))
      rw [List.set_set, List.set_set] at s4
      have s5 := s4.setEn (HLX.out _) (HLR.out _) ((K2 : Int) + 1) ⟨by omega, by omega⟩
      rw [List.set_set, List.set_set] at s5
      have HS5 := Lib.hid s5
      have O22 := Lib.hid (s5.newAt (HLX.out _) (HLR.out _)).2
      have q3 : w1.cell? ⟨g, j * 6 + 3, none⟩ = some (.int .i64 x.at_) := s3.own.cell (HLR.out _) (j := 3) rfl
      have q4 : w1.cell? ⟨g, j * 6 + 4, none⟩ = some (.int .i64 x.en) := s3.own.cell (HLR.out _) (j := 4) rfl
      have q5 : w1.cell? ⟨g, j * 6 + 5, none⟩ = some (.slice a2 m2 c2) := s3.own.cell (HLR.out _) (j := 5) rfl
      have fz1 : ∀ i, w1.frozen? ⟨g, i, none⟩ = false := s3.own.free
      have wr1 := Lib.hid (show Wrote (BlkR (.slice (some ⟨g, 0, none⟩) n cap) vs) w w1 from
        ((h2.trans (Wrote.set (fun i => i = g) wr _ _ rfl) (fun i _ e => by rw [e]; exact BlkR.of_self)).trans (Wrote.set (fun i => i = g) _ _ _ rfl) (fun i _ e => by rw [e]; exact BlkR.of_self)).trans (Wrote.of_grown (S := fun i => (Value.slice a1 m1 c1).ownBlock = some i) g1 (fun _ e => e)) (fun i _ e => (blk_same HV.out i).1 (HH1.out.blkOld HR.out e)))
      clear s3 s4 s5 g1 p1 h2 d0 d1 d2 d3 d4 d5 hfz
      rw [← HK2.out]
      go_wp2_with fail
      rw [show ((K2 : Int) + 1 + 1) = ((K2 + 2 : Nat) : Int) from by omega]
      refine (markStringS_any a2 m2 c2 base (K2 + 2) x.new _ O22.out hm2 (by omega)).mono ?_
      rintro e w2 ⟨rfl, p2, g2⟩
      have s6 := HS5.out.renewNew (HLX.out _) (HLR.out _) g2 p2
      rw [List.set_set, List.set_set] at s6
      have s7 : OwnSt w2 base (.slice (some ⟨g, 0, none⟩) n cap) (mkToP l k0 (j + 1)) (vs'.set j (spRow (markSp K x) (.slice a1 m1 c1) (.slice a2 m2 c2))) := by
        have e : (⟨(K : Int), (K : Int) + 1, marks (K + 2) m1, (K2 : Int), (K2 : Int) + 1, marks (K2 + 2) m2⟩ : Sp) = markSp K x := by
          unfold markSp; rw [HL1.out, HL2.out, HK2.out]
        rw [← mkToP_set k0 HJ.out, ← HKj.out, ← e]
        exact s6
      have hwr : Wrote (BlkR (.slice (some ⟨g, 0, none⟩) n cap) vs) w w2 :=
        ((wr1.out.trans (Wrote.set (fun i => i = g) w1 _ _ rfl) (fun i _ e => by rw [e]; exact BlkR.of_self)).trans (Wrote.set (fun i => i = g) _ _ _ rfl) (fun i _ e => by rw [e]; exact BlkR.of_self)).trans (Wrote.of_grown (S := fun i => (Value.slice a2 m2 c2).ownBlock = some i) g2 (fun _ e => e)) (fun i _ e => (blk_same HV.out i).1 (HH1.out.blkNew HR.out e))
      have HBL := Lib.hid ((blocks_row (y := markSp K x) HW1.out HR.out).trans HV.out)
      have HE2 := Lib.hid (show K2 + 2 + m2 = endS k0 (l.take (j + 1)) by rw [← HNX.out]; unfold nextSp; rw [HL1.out, HL2.out, HK2.out])
      clear s6 q3 q4 q5 fz1 g2 p2
      go_wp2
      go_roundw
      case rel => exact ⟨j + 1, K2 + 2 + m2, by go_num, rfl, HE2.out, by omega, ⟨_, s7, HBL.out⟩, hwr⟩
      case measure => simp [intOf]; omega
    · have hf := Lib.hid (mkToP_all l k0 (i := j) (by rw [HL.out]; omega))
      have hf2 : K = endS k0 l := by rw [HKj.out, List.take_of_length_le (by rw [HL.out]; omega)]
      have HF2 := Lib.hid hf2
      clear hf2
      go_wp2
      go_ret
      exact ⟨ret_int (by rw [HF2.out]), ⟨vs', by rw [← hf.out]; exact h1⟩, h2⟩

set_option maxHeartbeats 4000000 in
set_option maxRecDepth 100000 in
theorem heldStepS_any (A : Option Addr) (n cap k0 : Nat) (l : List Sp) (w : World) (ho : Sps w A n (marksSt k0 l)) (hn : l.length + totalP l ≤ 1048576) (hk : k0 + 4 * l.length + totalP l ≤ 16777216) :
    Calls Try.prog 29 #[.slice A n cap, .int .i64 k0] w fun e w' => e = .returned (.int .i64 ((endS k0 l : Nat) : Int)) ∧ Below w.heap.size w w' := by
  have HL := Lib.hid (show l.length = n by rw [← ho.len, marksSt_len])
  have HE := Lib.hid (fun i => endS_take_le l i k0)
  have HN := Lib.hid hn
  have HK := Lib.hid hk
  have hn1 : n ≤ 1048576 := by rw [← HL.out]; omega
  clear hn hk
  go_enter Try.func29, Try.ntmps29
  go_wp2
  go_loopw [1, 5] (fun q i w' => ∃ j K : Nat, i = .int .i64 j ∧ q = .int .i64 (K : Int) ∧ Hid (K = endS k0 (l.take j)) ∧ j ≤ n ∧ Below w.heap.size w w') (fun _ i _ => n - (intOf i).toNat)
  case atStart => exact ⟨0, k0, rfl, rfl, rfl, by omega, Below.refl _ _⟩
  case round =>
    obtain ⟨j, K, rfl, rfl, HKj, hj, hb⟩ := hrel
    by_cases hlt : j < n
    · obtain ⟨b, off, A1, m1, c1, A2, m2, c2, y, rfl, hy, d0, d1, d2, d3, d4, d5, hs1, hmc1, hs2, hmc2, hok⟩ := (ho.below hb).at_ hlt
      obtain ⟨x, hlj⟩ : ∃ x, l[j]? = some x := ⟨_, List.getElem?_eq_getElem (show j < l.length by rw [HL.out]; exact hlt)⟩
      have hy2 : y = markSp K x := by rw [marksSt_get k0 hlj, ← HKj.out] at hy; injection hy with hy; exact hy.symm
      subst hy2
      have hl1 : m1 = x.old.length := by rw [← hs1.len]; exact marks_len _ _
      have hl2 : m2 = x.new.length := by rw [← hs2.len]; exact marks_len _ _
      have hKle : K ≤ 16777216 := by have := HE.out j; have := HK.out; have := HKj.out; omega
      have hnx : nextSp K x = endS k0 (l.take (j + 1)) := by rw [take_snoc hlj, endS_snoc, ← HKj.out]
      have hKm : K + 2 + m1 + 2 + m2 ≤ 16777216 := by
        have h3 := HE.out (j + 1)
        rw [← hnx] at h3
        unfold nextSp at h3
        have := HK.out
        omega
      have hm1 : m1 ≤ 1048576 ∧ m2 ≤ 1048576 := by have := totalP_mem (List.mem_of_getElem? hlj); have := HN.out; unfold bulk at *; omega
      obtain ⟨hm1, hm2⟩ := hm1
      obtain ⟨K2, HK2⟩ : ∃ K2 : Nat, Hid (K2 = K + 2 + m1) := ⟨_, rfl⟩
      have hK2 : K2 + 2 + m2 ≤ 16777216 := by have := HK2.out; omega
      have hs1' : Strs wr A1 m1 (marks (K + 2) m1) := by rw [hl1] at hs1 ⊢; exact hs1
      have hs2' : Strs wr A2 m2 (marks (K2 + 2) m2) := by
        have e : (markSp K x).new = marks (K2 + 2) m2 := by unfold markSp; dsimp only; rw [HK2.out, ← hl1, ← hl2]
        rw [e] at hs2; exact hs2
      have HS2 := Lib.hid hs2'
      have HE2 := Lib.hid (show K2 + 2 + m2 = endS k0 (l.take (j + 1)) by rw [← hnx]; unfold nextSp; rw [HK2.out, hl1, hl2])
      have k0' : wr.cell? ⟨b, off + j * 6, none⟩ = some (.int .i64 (K : Int)) := d0
      have k1' : wr.cell? ⟨b, off + j * 6 + 1, none⟩ = some (.int .i64 ((K : Int) + 1)) := d1
      have e3 : (markSp K x).at_ = (K2 : Int) := by unfold markSp; dsimp only; rw [HK2.out, ← hl1]
      have e4 : (markSp K x).en = (K2 : Int) + 1 := by unfold markSp; dsimp only; rw [HK2.out, ← hl1]
      have HD := Lib.hid (show wr.cell? ⟨b, off + j * 6 + 3, none⟩ = some (.int .i64 (K2 : Int)) ∧ wr.cell? ⟨b, off + j * 6 + 4, none⟩ = some (.int .i64 ((K2 : Int) + 1)) ∧ wr.cell? ⟨b, off + j * 6 + 5, none⟩ = some (.slice A2 m2 c2) from ⟨by rw [← e3]; exact d3, by rw [← e4]; exact d4, d5⟩)
      clear hlj hy hs1 hs2 hs2' hl1 hl2 hnx d0 d1 d3 d4 d5 e3 e4 hok
      have hq0 : ((K : Int) != (K : Int)) = false := by simp
      have hq1 : ((K : Int) + 1 != (K : Int) + 1) = false := by simp
      have hq2 : ((K2 : Int) != (K2 : Int)) = false := by simp
      have hq3 : ((K2 : Int) + 1 != (K2 : Int) + 1) = false := by simp
      have hz2 : decide ((K2 : Int) < 0) = false := by simp
      go_wp2_with fail
      rw [show ((K : Int) + 1 + 1) = ((K + 2 : Nat) : Int) from by omega]
      refine (heldStringS_any A1 m1 c1 (K + 2) _ hs1' hm1 (by omega)).mono ?_
      rintro e w1 ⟨rfl, b1⟩
      have d3 := cell_keep b1 HD.out.1
      have d4 := cell_keep b1 HD.out.2.1
      have d5 := cell_keep b1 HD.out.2.2
      rw [← HK2.out]
      go_wp2_with fail
      rw [show ((K2 : Int) + 1 + 1) = ((K2 + 2 : Nat) : Int) from by omega]
      refine (heldStringS_any A2 m2 c2 (K2 + 2) _ (HS2.out.below b1) hm2 (by omega)).mono ?_
      rintro e w2 ⟨rfl, b2⟩
      have hz : decide ((((K2 + 2 + m2 : Nat) : Int)) < 0) = false := by simp; omega
      go_wp2
      go_roundw
      case rel => exact ⟨j + 1, K2 + 2 + m2, by go_num, rfl, HE2.out, by omega, (hb.next b1).next b2⟩
      case measure => simp [intOf]; omega
    · have hf2 : K = endS k0 l := by rw [HKj.out, List.take_of_length_le (by rw [HL.out]; omega)]
      have HF2 := Lib.hid hf2
      clear hf2
      go_wp2
      go_ret
      exact ⟨ret_int (by rw [HF2.out]), hb⟩

end Go.Proofs.Ytnimaadjmejmpaa
