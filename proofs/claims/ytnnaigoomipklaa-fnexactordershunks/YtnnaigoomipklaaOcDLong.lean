/-
  The table of what both share, and the heap of the pairs that are found.
-/
import Derived.Test.YtnnaigoomipklaaOcDTab
set_option linter.unusedSimpArgs false
set_option linter.unusedVariables false
namespace Go.Proofs.Ytnnaigoomipklaa
open Go.RowKit M

/-- Between two steps: the table, the heap of what was found, and what was written. -/
structure LS (w w' : World) (hb : Nat) (la lb : List ByteArray) (F : List (Nat × Nat)) (T : Nat → Nat → Nat) (L : List Pr) (v : Value) (m bound : Nat) : Prop where
  tbl : Tbl w' w.heap.size T
  hp : HeapQ w' (w.heap.size + 1) hb v L
  big : w.heap.size + 1 ≤ w'.heap.size
  rows : rowsOk la lb T m
  perm : L.Perm (F.map (hitQ la lb))
  heap : isHeap L L.length
  len : L.length ≤ bound
  wr : Wrote (fun i => i = hb) w w'
theorem LS.below {w w' w2 : World} {hb : Nat} {la lb : List ByteArray} {F : List (Nat × Nat)} {T : Nat → Nat → Nat} {L : List Pr} {v : Value} {m bound : Nat} (h : LS w w' hb la lb F T L v m bound) (hb2 : Below w'.heap.size w' w2) : LS w w2 hb la lb F T L v m bound :=
  ⟨h.tbl.below hb2, h.hp.below hb2, Nat.le_trans h.big hb2.size, h.rows, h.perm, h.heap, h.len, h.wr.next hb2⟩
theorem LS.set {w w' : World} {hb : Nat} {la lb : List ByteArray} {F : List (Nat × Nat)} {T : Nat → Nat → Nat} {L : List Pr} {v : Value} {m bound n : Nat} (h : LS w w' hb la lb F T L v m bound) (hm : m + 1 ≤ 40) (hn : n + 1 ≤ 40) (hlt : hb < w.heap.size) (x : Nat) :
    LS w (w'.setCell ⟨w.heap.size, (m + 1) * 41 + (n + 1), none⟩ (.int .i64 (x : Int))) hb la lb F (upd T (m + 1) (n + 1) x) L v m bound := by
  have hw := Wrote.set (fun i => i = w.heap.size) w' ⟨w.heap.size, (m + 1) * 41 + (n + 1), none⟩ (.int .i64 (x : Int)) rfl
  exact ⟨h.tbl.set hm hn x, h.hp.wrote hw (by omega) (fun g e e2 => by have := (World.ownsRow.lt h.hp.own g e).1; omega), Nat.le_trans h.big hw.size, rows_upd h.rows, h.perm, h.heap, h.len, h.wr.trans hw (fun i hi e => by omega)⟩
theorem LS.more {w w' : World} {hb : Nat} {la lb : List ByteArray} {F : List (Nat × Nat)} {T : Nat → Nat → Nat} {L : List Pr} {v : Value} {m bound b2 : Nat} (h : LS w w' hb la lb F T L v m bound) (hb2 : bound ≤ b2) : LS w w' hb la lb F T L v m b2 :=
  ⟨h.tbl, h.hp, h.big, h.rows, h.perm, h.heap, Nat.le_trans h.len hb2, h.wr⟩
/-- One more is found. -/
theorem LS.found {w w' w2 : World} {hb : Nat} {la lb : List ByteArray} {F : List (Nat × Nat)} {T : Nat → Nat → Nat} {L : List Pr} {v : Value} {m bound q : Nat} (h : LS w w' hb la lb F T L v m bound) (hlt : hb < w.heap.size) (hql : L.length = q) (x : Nat × Nat) {A : Option Addr} {cap : Nat} {L2 : List Pr}
    (h2 : HeapQ w2 (w.heap.size + 1) hb (.slice A (q + 1) cap) L2) (hp : L2.Perm (hitQ la lb x :: L)) (hh : isHeap L2 (q + 1)) (hw : Wrote (fun g => g = hb ∨ v.ownBlock = some g) w' w2) : LS w w2 hb la lb (x :: F) T L2 (.slice A (q + 1) cap) m (bound + 1) := by
  have hl := h2.own.len
  have hno : ∀ g, v.ownBlock = some g → w.heap.size + 1 ≤ g := fun g e => (World.ownsRow.lt h.hp.own g e).1
  exact ⟨h.tbl.wrote hw (fun e => by
    rcases e with e | e
    · omega
    · have := hno _ e; omega), h2, Nat.le_trans h.big hw.size, h.rows, by rw [List.map_cons]; exact hp.trans (h.perm.cons _), by rw [hl]; exact hh, by rw [hl]; have := h.len; omega, h.wr.trans hw (fun i hi e => by
    rcases e with e | e
    · exact e
    · have := hno _ e; omega)⟩

set_option maxHeartbeats 4000000 in
set_option maxRecDepth 100000 in
theorem longest_any (w0 : World) (aA : Option Addr) (na ca : Nat) (la : List ByteArray) (bA : Option Addr) (nb cb : Nat) (lb : List ByteArray) (hb : Nat) (w : World) (ha : Strs w0 aA na la) (hbS : Strs w0 bA nb lb) (hna : na ≤ 40) (hnb : nb ≤ 40) (h0 : Below w0.heap.size w0 w) (hw0 : w0.heap.size ≤ hb)
    (hbox : w.heap[hb]? = some (.cells #[.slice none 0 0, .func (.func 90) #[] #[]] 135 (0, 0))) :
    Calls Try.prog 91 #[.slice aA na ca, .slice bA nb cb, .func (.func 92) #[.pointer (some ⟨hb, 0, none⟩)] #[]] w fun e w' => ∃ A n cap L, e = .returned (.int .i64 (lcs la lb : Int)) ∧ HeapQ w' (w.heap.size + 1) hb (.slice A n cap) L ∧ L.Perm ((hits la lb).map (hitQ la lb)) ∧ isHeap L n ∧ n ≤ 1600 ∧ Wrote (fun i => i = hb) w w' := by
  have hlt : hb < w.heap.size := (Array.getElem?_eq_some_iff.1 hbox).1
  have HNA := Lib.hid ha.len
  have HNB := Lib.hid hbS.len
  have HA := Lib.hid ha
  have HB := Lib.hid hbS
  have H0 := Lib.hid h0
  have HINIT := Lib.hid (show LS w (w.alloc (.cells Try.zeroCells144 144)) hb la lb [] (fun _ _ => 0) [] (.slice none 0 0) 0 0 from
    ⟨Tbl.new w, ⟨((below_alloc w _).block hb hlt).trans hbox, OwnPr.nil_, by omega⟩, by simp, rows_zero la lb, List.Perm.refl _, fun k k0 kn => by simp at kn, by simp, Wrote.of_below (below_alloc w _)⟩)
  clear ha hbS h0 hbox
  go_enter Try.func91, Try.ntmps91
  go_wp2
  go_loopw [13] (fun x w' => ∃ m : Nat, ∃ T L v, x = .int .i64 m ∧ m ≤ na ∧ LS w w' hb la lb (((List.range la.length).drop (la.length - m)).flatMap (rowM la lb)) T L v m (m * 40)) (fun x _ => na - (intOf x).toNat)
  case atStart => exact ⟨0, fun _ _ => 0, [], .slice none 0 0, rfl, by omega, by rw [found_zero]; exact HINIT.out⟩
  case round =>
    obtain ⟨m, T, L, v, rfl, hm, HS⟩ := hrel
    by_cases hlm : m < na
    · go_wp2
      go_loopw [18] (fun x w' => ∃ n : Nat, ∃ T L v, x = .int .i64 n ∧ n ≤ nb ∧ LS w w' hb la lb (foundAt la lb m n) T L v m (m * 40 + n) ∧ Hid (rowOk la lb T m n)) (fun x _ => nb - (intOf x).toNat)
      case atStart => exact ⟨0, T, L, v, rfl, by omega, by unfold foundAt; rw [foundRow_zero]; exact HS, row_zero HS.rows⟩
      case round =>
        obtain ⟨n, T, L, v, rfl, hn, HS, HR⟩ := hrel
        by_cases hln : n < nb
        · have BW := Lib.hid (Wrote.below' H0.out HS.wr (fun k e => by omega))
          obtain ⟨i, Hi⟩ : ∃ i, Hid (i = na - 1 - m) := ⟨_, rfl⟩
          obtain ⟨j, Hj⟩ : ∃ j, Hid (j = nb - 1 - n) := ⟨_, rfl⟩
          have hi : i < na := by rw [Hi.out]; omega
          have hj : j < nb := by rw [Hj.out]; omega
          have hiI : (na : Int) - 1 - (m : Int) = (i : Int) := by rw [Hi.out]; omega
          have hjI : (nb : Int) - 1 - (n : Int) = (j : Int) := by rw [Hj.out]; omega
          obtain ⟨m', Hm'⟩ : ∃ m', Hid (m' = m + 1) := ⟨_, rfl⟩
          obtain ⟨n', Hn'⟩ : ∃ n', Hid (n' = n + 1) := ⟨_, rfl⟩
          have hm'I : IntKind.i64.wrap ((m : Int) + 1) = (m' : Int) := by rw [Hm'.out, IntKind.wrap_i64]; omega
          have hn'I : IntKind.i64.wrap ((n : Int) + 1) = (n' : Int) := by rw [Hn'.out, IntKind.wrap_i64]; omega
          have hm'b : m' ≤ 40 := by rw [Hm'.out]; omega
          have hn'b : n' ≤ 40 := by rw [Hn'.out]; omega
          have tc := HS.tbl.cell m n (by omega) (by omega)
          obtain ⟨t0, Ht0⟩ : ∃ t0, Hid (T m n = t0) := ⟨_, rfl⟩
          rw [Ht0.out] at tc
          obtain ⟨W1, HW1⟩ : ∃ W1, Hid (W1 = wr.alloc (.cells #[.int .i64 (i : Int), .int .i64 (j : Int), .int .i64 (t0 : Int)] 132)) := ⟨_, rfl⟩
          obtain ⟨pb, Hpb⟩ : ∃ pb, Hid (pb = wr.heap.size) := ⟨_, rfl⟩
          have HS1 := Lib.hid (show LS w W1 hb la lb (foundAt la lb m n) T L v m (m * 40 + n) by rw [HW1.out]; exact HS.below (below_alloc _ _))
          have BW1 := Lib.hid (show Below w0.heap.size w0 W1 by rw [HW1.out]; exact BW.out.next (below_alloc _ _))
          obtain ⟨b1, o1, s, rfl, hs, hs2, cs⟩ := (HA.out.below BW1.out).at_ hi
          obtain ⟨b2, o2, t, rfl, ht, ht2, ct⟩ := (HB.out.below BW1.out).at_ hj
          have p0 : W1.cell? ⟨pb, 0, none⟩ = some (.int .i64 (i : Int)) := by rw [HW1.out, Hpb.out]; simp
          have p1 : W1.cell? ⟨pb, 1, none⟩ = some (.int .i64 (j : Int)) := by rw [HW1.out, Hpb.out]; simp
          have p2 : W1.cell? ⟨pb, 2, none⟩ = some (.int .i64 (t0 : Int)) := by rw [HW1.out, Hpb.out]; simp
          have HHs := Lib.hid hs
          have HHt := Lib.hid ht
          have HS := Lib.hid HS
          have ht0 : t0 ≤ 40 := by rw [← Ht0.out, HS.out.rows.1 m n (Nat.le_refl _) (by rw [HNB.out]; exact hn)]; have := tabB_le la lb m n; rw [HNA.out] at this; omega
          clear hs ht
          go_wp2
          rw [← HW1.out, ← Hpb.out]
          obtain ⟨q, Hq⟩ : ∃ q, Hid (L.length = q) := ⟨_, rfl⟩
          obtain ⟨A, cap, hv, _⟩ := HS.out.hp.own.form Hq.out
          subst hv
          by_cases hst : s = t
          · subst hst
            have hbq := beq_same s
            obtain ⟨t1, Ht1⟩ : ∃ t1, Hid (t1 = t0 + 1) := ⟨_, rfl⟩
            have ht1I : IntKind.i64.wrap ((t0 : Int) + 1) = (t1 : Int) := by rw [Ht1.out, IntKind.wrap_i64]; omega
            go_quiet (fail)
            go_wp2
            obtain ⟨W2, HW2⟩ : ∃ W2, Hid (W2 = W1.drewN nq) := ⟨_, rfl⟩
            have HS2 := Lib.hid (show LS w W2 hb la lb (foundAt la lb m n) T L (.slice A q cap) m (m * 40 + n) by rw [HW2.out]; exact HS1.out.below (below_drewN (Below.refl _ _) _))
            have c2 : W2.cell? ⟨pb, 2, none⟩ = some (.int .i64 (t0 : Int)) := by rw [HW2.out]; exact p2
            have k0 : W2.cell? ⟨pb, 0, none⟩ = some (.int .i64 (i : Int)) := by rw [HW2.out]; exact p0
            have k1 : W2.cell? ⟨pb, 1, none⟩ = some (.int .i64 (j : Int)) := by rw [HW2.out]; exact p1
            have d2 := HS2.out.tbl.cell m' n' hm'b hn'b
            have f2 := HS2.out.tbl.free
            have hpt : pb ≠ w.heap.size := by have := HS.out.big; rw [Hpb.out]; omega
            obtain ⟨W3, HW3⟩ : ∃ W3, Hid (W3 = W2.setCell ⟨w.heap.size, m' * 41 + n', none⟩ (.int .i64 (t1 : Int))) := ⟨_, rfl⟩
            have HS3 := Lib.hid (show LS w W3 hb la lb (foundAt la lb m n) (upd T (m + 1) (n + 1) t1) L (.slice A q cap) m (m * 40 + n) by
              rw [HW3.out, Hm'.out, Hn'.out]; exact HS2.out.set (by omega) (by omega) hlt t1)
            have HR3 := Lib.hid (show rowOk la lb (upd T (m + 1) (n + 1) t1) m (n + 1) from row_upd HR.out (by
              rw [tabB_same (s := s) (by rw [HNA.out]; exact hlm) (by rw [HNB.out]; exact hln) (by rw [HNA.out, ← Hi.out]; exact HHs.out) (by rw [HNB.out, ← Hj.out]; exact HHt.out), Ht1.out, ← Ht0.out, HS.out.rows.1 m n (Nat.le_refl _) (by rw [HNB.out]; exact hn)]))
            have HHIT := Lib.hid (show hitQ la lb (i, j) = ⟨i, j, t0⟩ by
              have := tabB_hit (a := la) (b := lb) (m := m) (n := n) (by rw [HNA.out]; exact hlm) (by rw [HNB.out]; exact hln)
              rw [HNA.out, HNB.out, ← Hi.out, ← Hj.out] at this
              rw [this, ← Ht0.out, HS.out.rows.1 m n (Nat.le_refl _) (by rw [HNB.out]; exact hn)])
            have HF := Lib.hid (show foundAt la lb m (n + 1) = (i, j) :: foundAt la lb m n by
              unfold foundAt
              rw [foundRow_step (by rw [HNB.out]; exact hln), HNA.out, HNB.out, ← Hi.out, ← Hj.out, if_pos (HHs.out.trans HHt.out.symm)]; rfl)
            rw [← HW2.out]
            clear p0 p1 p2 tc cs ct
            go_region
            go_wp2_with fail
            rw [← HW3.out]
            have HS3d := Lib.hid (HS3.out.below (Below.refl _ _).drew)
            refine (add_any hb (w.heap.size + 1) A q cap L ⟨i, j, t0⟩ _ HS3d.out.hp (by have := HS3.out.len; rw [Hq.out] at this; omega) HS3d.out.big (by have := HS3.out.heap; rw [Hq.out] at this; exact this)).mono ?_
            rintro e w4 ⟨rfl, A4, cap4, L4, q4, p4, h4, g4⟩
            have HS4 := Lib.hid (HS3d.out.found hlt Hq.out (i, j) q4 (by rw [HHIT.out]; exact p4) h4 g4)
            clear q4 p4 h4 g4
            go_wp2
            go_roundw
            case rel => exact ⟨n + 1, upd T (m + 1) (n + 1) t1, L4, .slice A4 (q + 1) cap4, by rw [Hn'.out], by omega, by rw [HF.out]; exact HS4.out, HR3⟩
            case measure => have := Hn'.out; simp [intOf]; omega
          · have hbq := beq_other hst
            go_quiet (fail)
            go_wp2
            obtain ⟨W2, HW2⟩ : ∃ W2, Hid (W2 = W1.drewN nq) := ⟨_, rfl⟩
            have HS2 := Lib.hid (show LS w W2 hb la lb (foundAt la lb m n) T L (.slice A q cap) m (m * 40 + n) by rw [HW2.out]; exact HS1.out.below (below_drewN (Below.refl _ _) _))
            have d2 := HS2.out.tbl.cell m' n' hm'b hn'b
            have d3 := HS2.out.tbl.cell m n' (by omega) hn'b
            have d4 := HS2.out.tbl.cell m' n hm'b (by omega)
            have f2 := HS2.out.tbl.free
            obtain ⟨x3, Hx3⟩ : ∃ x, Hid (T m n' = x) := ⟨_, rfl⟩
            obtain ⟨x4, Hx4⟩ : ∃ x, Hid (T m' n = x) := ⟨_, rfl⟩
            rw [Hx3.out] at d3
            rw [Hx4.out] at d4
            have HF := Lib.hid (show foundAt la lb m (n + 1) = foundAt la lb m n by
              unfold foundAt
              rw [foundRow_step (by rw [HNB.out]; exact hln), HNA.out, HNB.out, ← Hi.out, ← Hj.out, if_neg (by rw [HHs.out, HHt.out]; exact fun e => hst (by injection e))]; rfl)
            rw [← HW2.out]
            clear p0 p1 p2 tc cs ct
            go_region
            go_wp2
            go_roundw
            case rel =>
              refine ⟨n + 1, upd T (m + 1) (n + 1) (max x3 x4), L, .slice A q cap, by rw [Hn'.out], by omega, ?_, ?_⟩
              · rw [show (if x3 < x4 then (x4 : Int) else (x3 : Int)) = ((max x3 x4 : Nat) : Int) from by split <;> omega, Hm'.out, Hn'.out, HF.out]
                exact ((HS2.out.set (by omega) (by omega) hlt (max x3 x4)).below (Below.refl _ _).drew).more (by omega)
              · refine row_upd HR.out ?_
                rw [tabB_other (s := s) (t := t) (by rw [HNA.out]; exact hlm) (by rw [HNB.out]; exact hln) (by rw [HNA.out, ← Hi.out]; exact HHs.out) (by rw [HNB.out, ← Hj.out]; exact HHt.out) hst, ← Hx3.out, ← Hx4.out, Hn'.out, Hm'.out, HS.out.rows.1 m (n + 1) (Nat.le_refl _) (by rw [HNB.out]; omega), HR.out n (Nat.le_refl _)]
            case measure => have := Hn'.out; simp [intOf]; omega
        · obtain rfl : n = nb := by omega
          go_wp2
          go_roundw
          case rel => exact ⟨m + 1, T, L, v, by go_num, by omega, by rw [← found_next (by rw [HNA.out]; exact hlm), HNB.out]; exact ⟨HS.tbl, HS.hp, HS.big, rows_next HS.rows (by rw [HNB.out]; exact HR.out), HS.perm, HS.heap, by have := HS.len; omega, HS.wr⟩⟩
          case measure => simp [intOf]; omega
    · obtain rfl : m = na := by omega
      obtain ⟨q, Hq⟩ : ∃ q, Hid (L.length = q) := ⟨_, rfl⟩
      obtain ⟨A, cap, hv, _⟩ := HS.hp.own.form Hq.out
      subst hv
      have tc := HS.tbl.cell m nb (by omega) hnb
      have ht : T m nb = lcs la lb := by rw [HS.rows.1 m nb (Nat.le_refl _) (by rw [HNB.out]; exact Nat.le_refl _), ← HNA.out, ← HNB.out]; exact tabB_all la lb
      rw [ht] at tc
      have HP := Lib.hid (show L.Perm ((hits la lb).map (hitQ la lb)) by
        have := HS.perm; rw [← found_all]; rw [← HNA.out] at this; exact this)
      clear ht
      go_wp2
      go_ret
      exact ⟨A, q, cap, L, rfl, HS.hp, HP.out, by rw [← Hq.out]; exact HS.heap, by have := HS.len; rw [Hq.out] at this; omega, HS.wr⟩

end Go.Proofs.Ytnnaigoomipklaa
