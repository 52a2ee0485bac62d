/-
  The laws' helpers on lists of pairs.
-/
import Derived.Test.YtmgclbfjncnbbaaDComS
import Derived.Test.YtmgclbfjncnbbaaHLaw
set_option linter.unusedSimpArgs false
set_option linter.unusedVariables false
namespace Go.Proofs.Ytmgclbfjncnbbaa.M

/-- What marks make of n pairs, from k on. -/
def marksP (k n : Nat) : List (Nat × Nat) := (List.range n).map fun i => (k + 2 * i, k + 2 * i + 1)
theorem marksP_len (k n : Nat) : (marksP k n).length = n := by simp [marksP]
theorem marksP_get {k n i : Nat} (h : i < n) : (marksP k n)[i]? = some (k + 2 * i, k + 2 * i + 1) := by simp [marksP, h]
def mkP (L : List (Nat × Nat)) (k i : Nat) : List (Nat × Nat) := marksP k i ++ L.drop i
theorem mkP_zero (L : List (Nat × Nat)) (k : Nat) : mkP L k 0 = L := by simp [mkP, marksP]
theorem mkP_all (L : List (Nat × Nat)) (k : Nat) {i : Nat} (h : L.length = i) : mkP L k i = marksP k i := by simp [mkP, ← h]
theorem mkP_len (L : List (Nat × Nat)) (k i : Nat) (h : i ≤ L.length) : (mkP L k i).length = L.length := by simp [mkP, marksP_len]; omega
theorem mkP_set (L : List (Nat × Nat)) (k i : Nat) (h : i < L.length) : (mkP L k i).set i (k + 2 * i, k + 2 * i + 1) = mkP L k (i + 1) := by
  apply List.ext_getElem?
  intro j
  unfold mkP
  rw [List.getElem?_set]
  by_cases e : i = j
  · subst e
    rw [if_pos rfl, if_pos (by simp [marksP_len]; omega), List.getElem?_append_left (by simp [marksP_len]), marksP_get (by omega)]
  · rw [if_neg e]
    by_cases hj : j < i
    · rw [List.getElem?_append_left (by simpa [marksP_len] using hj), List.getElem?_append_left (by simp [marksP_len]; omega), marksP_get hj, marksP_get (by omega)]
    · rw [List.getElem?_append_right (by simp [marksP_len]; omega), List.getElem?_append_right (by simp [marksP_len]; omega), List.getElem?_drop, List.getElem?_drop, marksP_len, marksP_len]
      congr 1
      omega
def endP (k : Nat) (L : List (Nat × Nat)) : Nat := k + 2 * L.length

end Go.Proofs.Ytmgclbfjncnbbaa.M
namespace Go.Proofs.Ytmgclbfjncnbbaa
open Go.RowKit M

/-- A pair in memory. -/
def Two (w : World) (g : Nat) (s : Nat × Nat) : Prop := w.cell? ⟨g, 0, none⟩ = some (.int .i64 (s.1 : Int)) ∧ w.cell? ⟨g, 1, none⟩ = some (.int .i64 (s.2 : Int))
theorem Two.at_ {w : World} {g k : Nat} {s : Nat × Nat} (h : Two w g s) (hk : k < 2) : w.cell? ⟨g, k, none⟩ = some (.int .i64 ((if k = 0 then s.1 else s.2 : Nat) : Int)) := by
  rcases (show k = 0 ∨ k = 1 by omega) with rfl | rfl
  · exact h.1
  · exact h.2
theorem Two.drawn {w w' : World} {g : Nat} {s : Nat × Nat} (h : Two w g s) (hd : Drawn w w') : Two w' g s := ⟨cell_keep hd.below h.1, cell_keep hd.below h.2⟩

set_option maxHeartbeats 1000000 in
theorem eqIntS_same (g1 g2 : Nat) (s : Nat × Nat) (w : World) (h1 : Two w g1 s) (h2 : Two w g2 s) :
    Calls Try.prog 71 #[.slice (some ⟨g1, 0, none⟩) 2 2, .slice (some ⟨g2, 0, none⟩) 2 2] w fun e w' => e = .returned (.bool true) ∧ ∃ m, w' = w.drewN m := by
  go_enter Try.func71, Try.ntmps71
  go_wp2
  go_loopw [5] (fun i w' => ∃ k : Nat, i = .int .i64 k ∧ k ≤ 2 ∧ Drawn w w') (fun i _ => 2 - (intOf i).toNat)
  case atStart => exact ⟨0, rfl, by omega, Drawn.refl _⟩
  case round =>
    obtain ⟨k, rfl, hk, hd⟩ := hrel
    by_cases hlt : k < 2
    · have c1 := (h1.drawn hd).at_ hlt
      have c2 := (h2.drawn hd).at_ hlt
      obtain ⟨x, Hx⟩ : ∃ x, Hid ((if k = 0 then s.1 else s.2) = x) := ⟨_, rfl⟩
      rw [Hx.out] at c1 c2
      go_wp2
      go_quiet (fail)
      go_wp2
      go_roundw
      case rel => exact ⟨k + 1, by go_num, by omega, hd.more _⟩
      case measure => simp [intOf]; omega
    · go_wp2
      go_ret
      exact ⟨rfl, hd⟩

theorem Prs.two {w : World} {A : Option Addr} {n k : Nat} {L : List (Nat × Nat)} (h : Prs w A n L) (hk : k < n) : ∃ b off gi s, A = some ⟨b, off, none⟩ ∧ L[k]? = some s ∧ w.cell? ⟨b, off + k, none⟩ = some (.slice (some ⟨gi, 0, none⟩) 2 2) ∧ Two w gi s := by
  have hs := List.getElem?_eq_getElem (show k < L.length by rw [h.len]; exact hk)
  obtain ⟨b, off, gi, e, h1, h2, h3⟩ := h.cell k _ hs
  exact ⟨b, off, gi, _, e, hs, h1, h2, h3⟩

set_option maxHeartbeats 1000000 in
theorem eqIntSS_s (a b : Option Addr) (n m c d : Nat) (l _x : List (Nat × Nat)) (w : World) (hl : Prs w a n l) (hr : Prs w b m l) (hn : n ≤ 1000) :
    Calls Try.prog 39 #[.slice a n c, .slice b m d] w fun e w' => e = .returned (.bool true) ∧ Drawn w w' := by
  obtain rfl : n = m := hl.len.symm.trans hr.len
  have HL := Lib.hid hl
  have HR := Lib.hid hr
  clear hl hr
  go_enter Try.func39, Try.ntmps39
  go_wp2
  go_loopw [5] (fun i w' => ∃ k : Nat, i = .int .i64 k ∧ k ≤ n ∧ Drawn w w') (fun i _ => n - (intOf i).toNat)
  case atStart => exact ⟨0, rfl, by omega, Drawn.refl _⟩
  case round =>
    obtain ⟨k, rfl, hk, hd⟩ := hrel
    by_cases hlt : k < n
    · obtain ⟨b1, o1, g1, s1, rfl, hs1, c1, t1⟩ := (HL.out.below hd.below).two hlt
      obtain ⟨b2, o2, g2, s2, rfl, hs2, c2, t2⟩ := (HR.out.below hd.below).two hlt
      rw [hs1] at hs2
      injection hs2 with hs2
      subst hs2
      have HT1 := Lib.hid t1
      have HT2 := Lib.hid t2
      clear hs1 t1 t2
      go_wp2
      go_quiet ((go_at_call 71; exact Calls.quiet_of (eqIntS_same g1 g2 s1 _ (HT1.out.drawn ⟨_, rfl⟩) (HT2.out.drawn ⟨_, rfl⟩))))
      go_wp2
      go_roundw
      case rel => exact ⟨k + 1, by go_num, by omega, hd.more _⟩
      case measure => simp [intOf]; omega
    · go_wp2
      go_ret
      exact ⟨rfl, hd⟩

/-- Two cells, of which the first i are marked. -/
def mk2 (k i : Nat) (a b : Value) : Array Value := #[if 1 ≤ i then .int .i64 (k : Int) else a, if 2 ≤ i then .int .i64 ((k + 1 : Nat) : Int) else b]
theorem mk2_get {k i j : Nat} {a b : Value} (hj : j < 2) : ∃ u, (mk2 k i a b)[j]? = some u := by
  rcases (show j = 0 ∨ j = 1 by omega) with rfl | rfl
  · exact ⟨_, rfl⟩
  · exact ⟨_, rfl⟩
theorem mk2_set {k i : Nat} {a b : Value} (hi : i < 2) : (mk2 k i a b).setIfInBounds i (.int .i64 ((k + i : Nat) : Int)) = mk2 k (i + 1) a b := by
  rcases (show i = 0 ∨ i = 1 by omega) with rfl | rfl
  · rfl
  · rfl

set_option maxHeartbeats 1000000 in
theorem markIntS_two (g k : Nat) (a b : Value) (w : World) (h : w.heap[g]? = some (.cells #[a, b] 3 (0, 0))) (hk : k ≤ 1048576) :
    Calls Try.prog 73 #[.slice (some ⟨g, 0, none⟩) 2 2, .int .i64 (k : Int)] w fun e w' => e = .returned (.int .i64 ((k + 2 : Nat) : Int)) ∧ w'.heap[g]? = some (.cells #[.int .i64 (k : Int), .int .i64 ((k + 1 : Nat) : Int)] 3 (0, 0)) ∧ Wrote (fun i => i = g) w w' := by
  have HH := Lib.hid (show w.heap[g]? = some (.cells (mk2 k 0 a b) 3 (0, 0)) from h)
  clear h
  go_enter Try.func73, Try.ntmps73
  go_wp2
  go_loopw [1, 5] (fun x y w' => ∃ i : Nat, x = .int .i64 ((k + i : Nat) : Int) ∧ y = .int .i64 i ∧ i ≤ 2 ∧ Hid (w'.heap[g]? = some (.cells (mk2 k i a b) 3 (0, 0))) ∧ Wrote (fun i => i = g) w w') (fun _ y _ => 2 - (intOf y).toNat)
  case atStart => exact ⟨0, rfl, rfl, by omega, HH, Wrote.refl _ _⟩
  case round =>
    obtain ⟨i, rfl, rfl, hi, HC, hw⟩ := hrel
    by_cases hlt : i < 2
    · obtain ⟨q, Hq⟩ : ∃ q, Hid (k + i = q) := ⟨_, rfl⟩
      have hq : q ≤ 1048580 := by rw [← Hq.out]; omega
      rw [Hq.out]
      obtain ⟨u, hu⟩ := mk2_get (k := k) (i := i) (a := a) (b := b) hlt
      have c1 : wr.cell? ⟨g, i, none⟩ = some u := by simp only [World.cell?, HC.out]; exact hu
      have f1 : wr.frozen? ⟨g, i, none⟩ = false := by simp [World.frozen?, HC.out]
      have HN := Lib.hid (show (wr.setCell ⟨g, i, none⟩ (.int .i64 (q : Int))).heap[g]? = some (.cells (mk2 k (i + 1) a b) 3 (0, 0)) by
        have h1 := heap_setCell_same wr g i _ _ (.int .i64 (q : Int)) HC.out
        rw [h1, ← Hq.out, mk2_set hlt])
      clear hu
      go_wp2
      go_roundw
      case rel => exact ⟨i + 1, by rw [← Hq.out]; go_num, by go_num, by omega, HN, hw.trans (Wrote.set (fun i => i = g) wr _ _ rfl) (fun _ _ e => e)⟩
      case measure => simp [intOf]; omega
    · obtain rfl : i = 2 := by omega
      go_wp2
      go_ret
      exact ⟨rfl, HC.out, hw⟩

set_option maxHeartbeats 1000000 in
theorem markIntSS_any (A : Option Addr) (n cap base k0 : Nat) (l : List (Nat × Nat)) (gs : List Nat) (w : World) (ho : OwnPP w base (.slice A n cap) l gs) (hn : l.length ≤ 1000) (hk : k0 ≤ 1000) :
    Calls Try.prog 41 #[.slice A n cap, .int .i64 (k0 : Int)] w fun e w' => e = .returned (.int .i64 ((endP k0 l : Nat) : Int)) ∧ OwnPP w' base (.slice A n cap) (marksP k0 l.length) gs ∧ Wrote (BlkP (.slice A n cap) gs) w w' := by
  have HL := Lib.hid ho.len_
  have hn' : n ≤ 1000 := by rw [← HL.out]; exact hn
  have HO := Lib.hid (show OwnPP w base (.slice A n cap) (mkP l k0 0) gs by rw [mkP_zero]; exact ho)
  clear ho
  go_enter Try.func41, Try.ntmps41
  go_wp2
  go_loopw [1, 5] (fun x y w' => ∃ i : Nat, x = .int .i64 ((k0 + 2 * i : Nat) : Int) ∧ y = .int .i64 i ∧ i ≤ n ∧ OwnPP w' base (.slice A n cap) (mkP l k0 i) gs ∧ Wrote (BlkP (.slice A n cap) gs) w w') (fun _ y _ => n - (intOf y).toNat)
  case atStart => exact ⟨0, rfl, rfl, by omega, HO.out, Wrote.refl _ _⟩
  case round =>
    obtain ⟨i, rfl, rfl, hi, ho, hw⟩ := hrel
    by_cases hlt : i < n
    · obtain ⟨b, gi, s, rfl, hg, hs, c1, hh, hb1, hne, hb2⟩ := ho.at_ hlt
      have HHO := Lib.hid ho
      have HG := Lib.hid hg
      have HH := Lib.hid hh
      obtain ⟨q, Hq⟩ : ∃ q, Hid (k0 + 2 * i = q) := ⟨_, rfl⟩
      have hq : q ≤ 10000 := by rw [← Hq.out]; omega
      rw [Hq.out]
      clear ho hg hs hh
      go_wp2_with fail
      refine (markIntS_two gi q _ _ _ HH.out (by omega)).mono ?_
      rintro e w2 ⟨rfl, h2, g2⟩
      have HO2 := Lib.hid (show OwnPP w2 base (.slice (some ⟨b, 0, none⟩) n cap) (mkP l k0 (i + 1)) gs by
        rw [← mkP_set l k0 i (by rw [HL.out]; exact hlt), Hq.out]
        exact HHO.out.put HG.out g2 (q, q + 1) h2)
      have HW2 := Lib.hid (hw.trans g2 (fun j _ e => by rw [e]; exact .inr (List.mem_of_getElem? HG.out)))
      clear h2 g2
      go_wp2
      go_roundw
      case rel => exact ⟨i + 1, by rw [← Hq.out]; go_num, by go_num, by omega, HO2.out, HW2.out⟩
      case measure => simp [intOf]; omega
    · obtain rfl : i = n := by omega
      have HF := Lib.hid (show OwnPP wr base (.slice A i cap) (marksP k0 l.length) gs by rw [HL.out, ← mkP_all l k0 HL.out]; exact ho)
      have HE := Lib.hid (show endP k0 l = k0 + 2 * i by unfold endP; rw [HL.out])
      go_wp2
      go_ret
      exact ⟨by rw [HE.out]; rfl, HF.out, hw⟩

set_option maxHeartbeats 1000000 in
theorem heldIntS_two (g k : Nat) (w : World) (h : Two w g (k, k + 1)) (hk : k ≤ 1048576) :
    Calls Try.prog 74 #[.slice (some ⟨g, 0, none⟩) 2 2, .int .i64 (k : Int)] w fun e w' => e = .returned (.int .i64 ((k + 2 : Nat) : Int)) ∧ w = w' := by
  go_enter Try.func74, Try.ntmps74
  go_wp2
  go_loop [1, 5] (fun x y => ∃ i : Nat, x = .int .i64 ((k + i : Nat) : Int) ∧ y = .int .i64 i ∧ i ≤ 2) (fun _ y => 2 - (intOf y).toNat)
  case atStart => exact ⟨0, rfl, rfl, by omega⟩
  case round =>
    obtain ⟨i, rfl, rfl, hi⟩ := hrel
    by_cases hlt : i < 2
    · have c1 := h.at_ hlt
      rw [show (if i = 0 then (k, k + 1).1 else (k, k + 1).2) = k + i from by split <;> dsimp only <;> omega] at c1
      obtain ⟨q, Hq⟩ : ∃ q, Hid (k + i = q) := ⟨_, rfl⟩
      have hq : q ≤ 1048580 := by rw [← Hq.out]; omega
      rw [Hq.out] at c1 ⊢
      go_wp2
      go_round
      case rel => exact ⟨i + 1, by rw [← Hq.out]; go_num, by go_num, by omega⟩
      case measure => simp [intOf]; omega
    · obtain rfl : i = 2 := by omega
      go_wp2
      go_ret
      exact ⟨rfl, rfl⟩

set_option maxHeartbeats 1000000 in
theorem heldIntSS_any (A : Option Addr) (n cap k0 : Nat) (l : List (Nat × Nat)) (w : World) (ho : Prs w A n (marksP k0 l.length)) (hn : l.length ≤ 1000) (hk : k0 ≤ 1000) :
    Calls Try.prog 42 #[.slice A n cap, .int .i64 (k0 : Int)] w fun e w' => e = .returned (.int .i64 ((endP k0 l : Nat) : Int)) ∧ Below w.heap.size w w' := by
  have HL := Lib.hid (show l.length = n by rw [← ho.len, marksP_len])
  have hn' : n ≤ 1000 := by rw [← HL.out]; exact hn
  have HO := Lib.hid ho
  clear ho
  go_enter Try.func42, Try.ntmps42
  go_wp2
  go_loop [1, 5] (fun x y => ∃ i : Nat, x = .int .i64 ((k0 + 2 * i : Nat) : Int) ∧ y = .int .i64 i ∧ i ≤ n) (fun _ y => n - (intOf y).toNat)
  case atStart => exact ⟨0, rfl, rfl, by omega⟩
  case round =>
    obtain ⟨i, rfl, rfl, hi⟩ := hrel
    by_cases hlt : i < n
    · obtain ⟨b, off, gi, s, rfl, hs, c1, t1⟩ := HO.out.two hlt
      rw [marksP_get (by rw [HL.out]; exact hlt)] at hs
      injection hs with hs
      subst hs
      have HT := Lib.hid t1
      obtain ⟨q, Hq⟩ : ∃ q, Hid (k0 + 2 * i = q) := ⟨_, rfl⟩
      have hq : q ≤ 10000 := by rw [← Hq.out]; omega
      rw [Hq.out] at HT ⊢
      clear t1
      go_wp2_with fail
      refine (heldIntS_two gi q _ HT.out (by omega)).mono ?_
      rintro e w2 ⟨rfl, rfl⟩
      have hneg : (((q + 2 : Nat) : Int) < 0) = False := by simp; omega
      go_wp2
      go_round
      case rel => exact ⟨i + 1, by rw [← Hq.out]; go_num, by go_num, by omega⟩
      case measure => simp [intOf]; omega
    · obtain rfl : i = n := by omega
      have HE := Lib.hid (show endP k0 l = k0 + 2 * i by unfold endP; rw [HL.out])
      go_wp2
      go_ret
      exact ⟨by rw [HE.out]; rfl, Below.refl _ _⟩

end Go.Proofs.Ytmgclbfjncnbbaa
