/-
  The laws' own small functions on orders: counted, copied, compared, marked, held.
-/
import Derived.Test.YtnnaigoomipklaaGreatDoorOgOMem
set_option linter.unusedSimpArgs false
set_option linter.unusedVariables false
namespace Go.Proofs.YtnnaigoomipklaaGreatDoor
open Go.RowKit Go.ChangeShapes Go.WideShapes M

theorem eqOrder_any (A1 A2 : Option Addr) (m1 c1 m2 c2 : Nat) (x y : Od) (w : World) (hx : Strs w A1 m1 x.new) (hy : Strs w A2 m2 y.new) :
    Calls Tryz.prog 90 #[.agg #[.int .i64 x.kd, .int .i64 x.fr, .int .i64 x.to_, .slice A1 m1 c1], .agg #[.int .i64 y.kd, .int .i64 y.fr, .int .i64 y.to_, .slice A2 m2 c2]] w fun e w' => e = .returned (.bool (eqO x y)) ∧ Below w.heap.size w w' := by
  obtain ⟨W, HW⟩ : ∃ W, Hid (W = (w.alloc (.cells #[.int .i64 x.kd, .int .i64 x.fr, .int .i64 x.to_, .slice A1 m1 c1] 78)).alloc (.cells #[.int .i64 y.kd, .int .i64 y.fr, .int .i64 y.to_, .slice A2 m2 c2] 78)) := ⟨_, rfl⟩
  have HB := Lib.hid (show Below w.heap.size w W by rw [HW.out]; exact (below_alloc w _).next (below_alloc _ _))
  by_cases h1 : x.kd = y.kd
  case neg =>
    have q1 : (x.kd != y.kd) = true := by simp [h1]
    have hf := Lib.hid (show eqO x y = false by simp [eqO, h1])
    clear h1
    go_enter Tryz.func90, Tryz.ntmps90
    go_wp2
    go_ret
    exact ⟨ret_bool hf.out.symm, by rw [← HW.out]; exact HB.out⟩
  have q1 : (x.kd != y.kd) = false := by simp [h1]
  by_cases h2 : x.fr = y.fr
  case neg =>
    have q2 : (x.fr != y.fr) = true := by simp [h2]
    have hf := Lib.hid (show eqO x y = false by simp [eqO, h2])
    clear h1 h2
    go_enter Tryz.func90, Tryz.ntmps90
    go_wp2
    go_ret
    exact ⟨ret_bool hf.out.symm, by rw [← HW.out]; exact HB.out⟩
  have q2 : (x.fr != y.fr) = false := by simp [h2]
  by_cases h3 : x.to_ = y.to_
  case neg =>
    have q3 : (x.to_ != y.to_) = true := by simp [h3]
    have hf := Lib.hid (show eqO x y = false by simp [eqO, h3])
    clear h1 h2 h3
    go_enter Tryz.func90, Tryz.ntmps90
    go_wp2
    go_ret
    exact ⟨ret_bool hf.out.symm, by rw [← HW.out]; exact HB.out⟩
  have q3 : (x.to_ != y.to_) = false := by simp [h3]
  have hf := Lib.hid (show eqO x y = eqT x.new y.new by simp [eqO, h1, h2, h3])
  clear h1 h2 h3
  go_enter Tryz.func90, Tryz.ntmps90
  go_wp2_with fail
  rw [← HW.out]
  refine (eqStringS_any A1 A2 m1 m2 c1 c2 x.new y.new _ (hx.below HB.out) (hy.below HB.out)).mono ?_
  rintro e w1 ⟨rfl, dd1⟩
  have b1 := HB.out.next dd1.below
  cases hq : eqT x.new y.new
  all_goals
    go_wp2
    go_ret
    exact ⟨ret_bool (by rw [hf.out, hq]), b1⟩

set_option maxHeartbeats 1000000 in
theorem eqOrderS_any (a b : Option Addr) (n m c d : Nat) (l r : List Od) (w : World) (hl : Ods w a n l) (hr : Ods w b m r) :
    Calls Tryz.prog 33 #[.slice a n c, .slice b m d] w fun e w' => e = .returned (.bool (eqOS l r)) ∧ Below w.heap.size w w' := by
  have HL := Lib.hid hl.len
  have HR := Lib.hid hr.len
  have hlim := hl.lim
  unfold maxLen at hlim
  by_cases hnm : n = m
  · subst hnm
    have hq : ((n : Int) != (n : Int)) = false := by simp
    go_enter Tryz.func33, Tryz.ntmps33
    go_wp2
    go_loopw [5] (fun i w' => ∃ k : Nat, i = .int .i64 k ∧ k ≤ n ∧ Hid (∀ j s t, j < k → l[j]? = some s → r[j]? = some t → eqO s t = true) ∧ Below w.heap.size w w') (fun i _ => n - (intOf i).toNat)
    case atStart => exact ⟨0, rfl, by omega, fun j s t h => by omega, Below.refl _ _⟩
    case round =>
      obtain ⟨k, rfl, hk, H, hb⟩ := hrel
      by_cases hlt : k < n
      · obtain ⟨b1, off1, A1, m1, c1, x, rfl, hx, d0, d1, d2, d3, hs1, _, _⟩ := (hl.below hb).at_ hlt
        obtain ⟨b2, off2, A2, m2, c2, y, rfl, hy, e0, e1, e2, e3, hs2, _, _⟩ := (hr.below hb).at_ hlt
        have HX := Lib.hid hx
        have HY := Lib.hid hy
        clear hx hy
        have hi0 : (0 : Int) ≤ (k : Int) := by omega
        have hi1 : (k : Int) < (n : Int) := by omega
        go_wp2
        go_region_held3 (fun w' => w'.cell? ⟨b1, off1 + k * 4, none⟩ = some (.int .i64 x.kd) ∧ w'.cell? ⟨b1, off1 + k * 4 + 1, none⟩ = some (.int .i64 x.fr) ∧ w'.cell? ⟨b1, off1 + k * 4 + 2, none⟩ = some (.int .i64 x.to_) ∧ w'.cell? ⟨b1, off1 + k * 4 + 3, none⟩ = some (.slice A1 m1 c1)
            ∧ w'.cell? ⟨b2, off2 + k * 4, none⟩ = some (.int .i64 y.kd) ∧ w'.cell? ⟨b2, off2 + k * 4 + 1, none⟩ = some (.int .i64 y.fr) ∧ w'.cell? ⟨b2, off2 + k * 4 + 2, none⟩ = some (.int .i64 y.to_) ∧ w'.cell? ⟨b2, off2 + k * 4 + 3, none⟩ = some (.slice A2 m2 c2))
          (first | exact ⟨d0, d1, d2, d3, e0, e1, e2, e3⟩ | exact ⟨cell_keep q1 d0, cell_keep q1 d1, cell_keep q1 d2, cell_keep q1 d3, cell_keep q1 e0, cell_keep q1 e1, cell_keep q1 e2, cell_keep q1 e3⟩ | go_keep)
          (first | (go_at_call 90; refine (eqOrder_any A1 A2 m1 c1 m2 c2 x y _ (hs1.below (Below.refl _ _).drew) (hs2.below (Below.refl _ _).drew)).mono ?_; rintro e w1 ⟨rfl, q1⟩) | fail)
        have hbq := hb.drew.next q1
        cases hq2 : eqO x y
        · have hf := Lib.hid (eqOS_at HX.out HY.out hq2)
          go_wp2
          go_ret
          exact ⟨ret_bool hf.out.symm, hbq⟩
        · have HST := Lib.hid hq2
          go_wp2
          go_roundw
          case rel => exact ⟨k + 1, by go_num, by omega, eqO_step H.out HX.out HY.out HST.out, hbq⟩
          case measure => simp [intOf]; omega
      · have hf := Lib.hid (eqOS_all (fun j s t h1 h2 => H.out j s t (by have := (List.getElem?_eq_some_iff.1 h1).1; have := HL.out; omega) h1 h2) (HL.out.trans HR.out.symm))
        go_wp2
        go_ret
        exact ⟨ret_bool hf.out.symm, hb⟩
  · have hq : ((n : Int) != (m : Int)) = true := by simp; omega
    have hf := Lib.hid (eqOS_len (l := l) (r := r) (by rw [HL.out, HR.out]; exact hnm))
    go_enter Tryz.func33, Tryz.ntmps33
    go_wp2
    go_ret
    exact ⟨ret_bool hf.out.symm, Below.refl _ _⟩

theorem heap_set_sameO {w : World} {k j : Nat} {c : Array Value} {t : TypeId} {u : Value} (h : w.heap[k]? = some (.cells c t (0, 0))) : (w.setCell ⟨k, j, none⟩ u).heap[k]? = some (.cells (c.setIfInBounds j u) t (0, 0)) := by
  simp [World.setCell, Array.getElem?_modify, h]

set_option maxHeartbeats 4000000 in
set_option maxRecDepth 100000 in
theorem markOrderS_any (A : Option Addr) (n cap base k0 : Nat) (l : List Od) (vs : List (List D)) (w : World) (ho : OwnOd w base (.slice A n cap) l vs) (hn : l.length + totalO l ≤ 1048576) (hk : k0 + 3 * l.length + totalO l ≤ 16777216) :
    Calls Tryz.prog 34 #[.slice A n cap, .int .i64 k0] w fun e w' => e = .returned (.int .i64 ((endO k0 l : Nat) : Int)) ∧ (∃ vs', OwnOd w' base (.slice A n cap) (marksO k0 l) vs') ∧ Wrote (BlkR (.slice A n cap) vs) w w' := by
  have HL := Lib.hid ho.ods.len
  have HE := Lib.hid (fun i => endO_take_le l i k0)
  have HN := Lib.hid hn
  have HK := Lib.hid hk
  have hn1 : n ≤ 1048576 := by rw [← HL.out]; omega
  clear hn hk
  go_enter Tryz.func34, Tryz.ntmps34
  go_wp2
  go_loopw [1, 5] (fun q i w' => ∃ j K : Nat, i = .int .i64 j ∧ q = .int .i64 (K : Int) ∧ Hid (K = endO k0 (l.take j)) ∧ j ≤ n ∧ (∃ vs', OwnOd w' base (.slice A n cap) (mkToO l k0 j) vs' ∧ Hid (D.blocksL vs'.flatten = D.blocksL vs.flatten)) ∧ Wrote (BlkR (.slice A n cap) vs) w w') (fun _ i _ => n - (intOf i).toNat)
  case atStart => exact ⟨0, k0, rfl, rfl, rfl, by omega, ⟨vs, by rw [mkToO_zero]; exact ho, rfl⟩, Wrote.refl _ _⟩
  case round =>
    obtain ⟨j, K, rfl, rfl, HKj, hj, ⟨vs', h1, HV⟩, h2⟩ := hrel
    by_cases hlt : j < n
    · obtain ⟨g, x, a1, m1, c1, rfl, hb0, hg0, hx, hr, d0, d1, d2, d3, o1, hmc1, hok, hfz⟩ := h1.at_ hlt
      have hlj : l[j]? = some x := by
        obtain ⟨y, hy⟩ : ∃ y, l[j]? = some y := ⟨_, List.getElem?_eq_getElem (show j < l.length by rw [HL.out]; exact hlt)⟩
        rw [mkToO_get k0 hy] at hx
        rw [hy, hx]
      have hl1 : x.new.length = m1 := o1.strs.len
      have hKle : K ≤ 16777216 := by have := HE.out j; have := HK.out; have := HKj.out; omega
      have hnx : nextO K x = endO k0 (l.take (j + 1)) := by rw [take_snoc hlj, endO_snoc, ← HKj.out]
      have hKm : K + 3 + m1 ≤ 16777216 := by
        have h3 := HE.out (j + 1)
        rw [← hnx] at h3
        unfold nextO at h3
        have := HK.out
        omega
      have hm1 : m1 ≤ 1048576 := by have := totalO_mem (List.mem_of_getElem? hlj); have := HN.out; unfold bulkO at *; omega
      have hw1 := h1.own.wide
      have lx : ∀ y : Od, ((mkToO l k0 j).set j y)[j]? = some y := fun y => set_eq (by rw [mkToO_len, HL.out]; exact hlt)
      have hjv : j < vs'.length := (List.getElem?_eq_some_iff.1 hr).1
      have lr : ∀ y : List D, (vs'.set j y)[j]? = some y := fun y => set_eq hjv
      have s1 := h1.setKd hx hr (K : Int) (nat_ok (by omega))
      have s2 := s1.setFr (lx _) (lr _) ((K : Int) + 1) ⟨by omega, by omega⟩
      rw [List.set_set, List.set_set] at s2
      have s3 := s2.setTo (lx _) (lr _) ((K : Int) + 2) ⟨by omega, by omega⟩
      rw [List.set_set, List.set_set] at s3
      have HJ := Lib.hid hlj
      have HR := Lib.hid hr
      have HXX := Lib.hid hx
      have HLX := Lib.hid lx
      have HLR := Lib.hid lr
      have HNX := Lib.hid hnx
      have HW1 := Lib.hid hw1
      have HH1 := Lib.hid h1
      have HL1 := Lib.hid hl1
      have HS3 := Lib.hid s3
      have O13 := Lib.hid (s3.newAt (lx _) (lr _))
      clear hlj hr hx lx lr hnx hw1 h1 s1 s2 s3 hl1 o1 hmc1 hok hjv
      have hs12 : IntKind.i64.wrap ((K : Int) + 1 + 1) = (K : Int) + 2 := by rw [IntKind.wrap_i64]; omega
      go_wp2_with fail
      (try rw [show ((K : Int) + 1 + 1) = (K : Int) + 2 from by omega])
      (try rw [show ((K : Int) + 2 + 1) = ((K + 3 : Nat) : Int) from by omega])
      refine (markStringS_any a1 m1 c1 base (K + 3) x.new _ O13.out hm1 (by omega)).mono ?_
      rintro e w1 ⟨rfl, p1, g1⟩
      have s4 := HS3.out.renewNew (HLX.out _) (HLR.out _) g1 p1
      rw [List.set_set, List.set_set] at s4
      dsimp only at s4
      have s7 : OwnOd w1 base (.slice (some ⟨g, 0, none⟩) n cap) (mkToO l k0 (j + 1)) (vs'.set j (odRow (markO K x) (.slice a1 m1 c1))) := by
        have e : (⟨(K : Int), (K : Int) + 1, (K : Int) + 2, marks (K + 3) m1⟩ : Od) = markO K x := by
          unfold markO; rw [HL1.out]
        rw [← mkToO_set k0 HJ.out, ← HKj.out, ← e]
        exact s4
      have hwr : Wrote (BlkR (.slice (some ⟨g, 0, none⟩) n cap) vs) w w1 :=
        (((h2.trans (Wrote.set (fun i => i = g) wr _ _ rfl) (fun i _ e => by rw [e]; exact BlkR.of_self)).trans (Wrote.set (fun i => i = g) _ _ _ rfl) (fun i _ e => by rw [e]; exact BlkR.of_self)).trans (Wrote.set (fun i => i = g) _ _ _ rfl) (fun i _ e => by rw [e]; exact BlkR.of_self)).trans (Wrote.of_grown (S := fun i => (Value.slice a1 m1 c1).ownBlock = some i) g1 (fun _ e => e)) (fun i _ e => (blk_sameO HV.out i).1 (HH1.out.blkNew HR.out e))
      have HBL := Lib.hid ((blocks_rowO (y := markO K x) HW1.out HR.out).trans HV.out)
      have HE2 := Lib.hid (show K + 3 + m1 = endO k0 (l.take (j + 1)) by rw [← HNX.out]; unfold nextO; rw [HL1.out])
      clear s4 g1 p1 d0 d1 d2 d3 hfz
      go_wp2
      go_roundw
      case rel => exact ⟨j + 1, K + 3 + m1, by go_num, rfl, HE2.out, by omega, ⟨_, s7, HBL.out⟩, hwr⟩
      case measure => simp [intOf]; omega
    · have hf := Lib.hid (mkToO_all l k0 (i := j) (by rw [HL.out]; omega))
      have hf2 : K = endO k0 l := by rw [HKj.out, List.take_of_length_le (by rw [HL.out]; omega)]
      have HF2 := Lib.hid hf2
      clear hf2
      go_wp2
      go_ret
      exact ⟨ret_int (by rw [HF2.out]), ⟨vs', by rw [← hf.out]; exact h1⟩, h2⟩

set_option maxHeartbeats 4000000 in
set_option maxRecDepth 100000 in
theorem heldOrderS_any (A : Option Addr) (n cap k0 : Nat) (l : List Od) (w : World) (ho : Ods w A n (marksO k0 l)) (hn : l.length + totalO l ≤ 1048576) (hk : k0 + 3 * l.length + totalO l ≤ 16777216) :
    Calls Tryz.prog 35 #[.slice A n cap, .int .i64 k0] w fun e w' => e = .returned (.int .i64 ((endO k0 l : Nat) : Int)) ∧ Below w.heap.size w w' := by
  have HL := Lib.hid (show l.length = n by rw [← ho.len, marksO_len])
  have HE := Lib.hid (fun i => endO_take_le l i k0)
  have HN := Lib.hid hn
  have HK := Lib.hid hk
  have hn1 : n ≤ 1048576 := by rw [← HL.out]; omega
  clear hn hk
  go_enter Tryz.func35, Tryz.ntmps35
  go_wp2
  go_loopw [1, 5] (fun q i w' => ∃ j K : Nat, i = .int .i64 j ∧ q = .int .i64 (K : Int) ∧ Hid (K = endO k0 (l.take j)) ∧ j ≤ n ∧ Below w.heap.size w w') (fun _ i _ => n - (intOf i).toNat)
  case atStart => exact ⟨0, k0, rfl, rfl, rfl, by omega, Below.refl _ _⟩
  case round =>
    obtain ⟨j, K, rfl, rfl, HKj, hj, hb⟩ := hrel
    by_cases hlt : j < n
    · obtain ⟨b, off, A1, m1, c1, y, rfl, hy, d0, d1, d2, d3, hs1, hmc1, hok⟩ := (ho.below hb).at_ hlt
      obtain ⟨x, hlj⟩ : ∃ x, l[j]? = some x := ⟨_, List.getElem?_eq_getElem (show j < l.length by rw [HL.out]; exact hlt)⟩
      have hy2 : y = markO K x := by rw [marksO_get k0 hlj, ← HKj.out] at hy; injection hy with hy; exact hy.symm
      subst hy2
      have hl1 : m1 = x.new.length := by rw [← hs1.len]; exact marks_len _ _
      have hKle : K ≤ 16777216 := by have := HE.out j; have := HK.out; have := HKj.out; omega
      have hnx : nextO K x = endO k0 (l.take (j + 1)) := by rw [take_snoc hlj, endO_snoc, ← HKj.out]
      have hKm : K + 3 + m1 ≤ 16777216 := by
        have h3 := HE.out (j + 1)
        rw [← hnx] at h3
        unfold nextO at h3
        have := HK.out
        omega
      have hm1 : m1 ≤ 1048576 := by have := totalO_mem (List.mem_of_getElem? hlj); have := HN.out; unfold bulkO at *; omega
      have hs1' : Strs wr A1 m1 (marks (K + 3) m1) := by rw [hl1] at hs1 ⊢; exact hs1
      have HE2 := Lib.hid (show K + 3 + m1 = endO k0 (l.take (j + 1)) by rw [← hnx]; unfold nextO; rw [hl1])
      have k0' : wr.cell? ⟨b, off + j * 4, none⟩ = some (.int .i64 (K : Int)) := d0
      have k1' : wr.cell? ⟨b, off + j * 4 + 1, none⟩ = some (.int .i64 ((K : Int) + 1)) := d1
      have k2' : wr.cell? ⟨b, off + j * 4 + 2, none⟩ = some (.int .i64 ((K : Int) + 2)) := d2
      clear hlj hy hs1 hl1 hnx d0 d1 d2 hok
      have hq0 : ((K : Int) != (K : Int)) = false := by simp
      have hq1 : ((K : Int) + 1 != (K : Int) + 1) = false := by simp
      have hq2 : ((K : Int) + 2 != (K : Int) + 2) = false := by simp
      have hq3 : ((K : Int) + 2 != (K : Int) + 1 + 1) = false := by simp; omega
      go_wp2_with fail
      (try rw [show ((K : Int) + 1 + 1) = (K : Int) + 2 from by omega])
      (try rw [show ((K : Int) + 2 + 1) = ((K + 3 : Nat) : Int) from by omega])
      refine (heldStringS_any A1 m1 c1 (K + 3) _ hs1' hm1 (by omega)).mono ?_
      rintro e w1 ⟨rfl, b1⟩
      have hz : decide ((((K + 3 + m1 : Nat) : Int)) < 0) = false := by simp; omega
      go_wp2
      go_roundw
      case rel => exact ⟨j + 1, K + 3 + m1, by go_num, rfl, HE2.out, by omega, hb.next b1⟩
      case measure => simp [intOf]; omega
    · have hf2 : K = endO k0 l := by rw [HKj.out, List.take_of_length_le (by rw [HL.out]; omega)]
      have HF2 := Lib.hid hf2
      clear hf2
      go_wp2
      go_ret
      exact ⟨ret_int (by rw [HF2.out]), hb⟩

end Go.Proofs.YtnnaigoomipklaaGreatDoor
