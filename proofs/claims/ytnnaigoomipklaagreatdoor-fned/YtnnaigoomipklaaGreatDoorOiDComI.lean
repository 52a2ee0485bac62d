/-
  CommonLines of the program.
-/
import Derived.Test.YtnnaigoomipklaaGreatDoorOiDHp3
import Derived.Test.YtnnaigoomipklaaGreatDoorOiGood
set_option linter.unusedSimpArgs false
set_option linter.unusedVariables false
namespace Go.Proofs.YtnnaigoomipklaaGreatDoor
open Go.RowKit M

theorem follows_any (pf ps pb qf qs qb : Int) (w : World) : Calls Tryz.prog 198 #[.agg #[.int .i64 pf, .int .i64 ps, .int .i64 pb], .agg #[.int .i64 qf, .int .i64 qs, .int .i64 qb]] w fun e w' => e = .returned (.bool (decide (qf < pf) && decide (qs < ps))) ∧ Below w.heap.size w w' := by
  have hb := Lib.hid ((below_alloc w (.cells #[.int .i64 pf, .int .i64 ps, .int .i64 pb] 213)).next (below_alloc _ (.cells #[.int .i64 qf, .int .i64 qs, .int .i64 qb] 213)))
  by_cases h : qf < pf
  · have hd : decide (qf < pf) = true := by simpa using h
    go_enter Tryz.func198, Tryz.ntmps198
    go_wp2
    go_ret
    exact ⟨ret_bool (by simp [h]), hb.out⟩
  · have hd : decide (qf < pf) = false := by simpa using h
    go_enter Tryz.func198, Tryz.ntmps198
    go_wp2
    go_ret
    exact ⟨ret_bool (by simp [h]), hb.out⟩

theorem bothB_no1 {a b : List ByteArray} (h : goodB a = false) : bothB a b = false := by simp [bothB, h]
theorem bothB_no2 {a b : List ByteArray} (h : goodB b = false) : bothB a b = false := by simp [bothB, h]
theorem linesC_no {a b : List ByteArray} (h : bothB a b = false) : linesC a b = ([], false) := by simp [linesC, h]
theorem linesC_yes {a b : List ByteArray} (h : bothB a b = true) : linesC a b = (pairsOf a b, true) := by simp [linesC, h]
/-- The pair that was taken last, in its block. -/
def LastAt (w : World) (g i j : Nat) : Prop := ∃ b : Int, w.heap[g]? = some (.cells #[.int .i64 ((i : Int) - 1), .int .i64 ((j : Int) - 1), .int .i64 b] 213 (0, 0))
/-- Between two rounds. -/
structure CS (w0 w w' : World) (hb lg : Nat) (A : Option Addr) (cap q : Nat) (L : List Pr) (la lb : List ByteArray) (k i j : Nat) (v : Value) (out : List (Nat × Nat)) (gs : List Nat) : Prop where
  hp : HeapQ w' (hb + 1) hb (.slice A q cap) L
  below : ∀ g, (Value.slice A q cap).ownBlock = some g → g < lg
  perm : L.Perm (((hits la lb).drop k).map (hitQ la lb))
  heap : isHeap L q
  last : LastAt w' lg i j
  own : OwnPP w' (lg + 1) v out gs
  big : lg + 1 ≤ w'.heap.size
  lt : hb < lg
  low : w0.heap.size ≤ hb
  len : out.length + tab la lb i j ≤ 40
  rest : out ++ takeP la lb i j ((hits la lb).drop k) = pairsOf la lb
  wr : Below w0.heap.size w0 w'
  small : q ≤ 1600

def heapLen (w : World) (hb : Nat) : Nat := match w.cell? ⟨hb, 0, none⟩ with | some (.slice _ q _) => q | _ => 0
theorem heapLen_is {w : World} {base hb q cap : Nat} {A : Option Addr} {L : List Pr} (h : HeapQ w base hb (.slice A q cap) L) : heapLen w hb = q := by unfold heapLen; rw [h.cell0]
theorem set3_heap {w : World} {g : Nat} {a b c x y z : Value} {T : TypeId} (h : w.heap[g]? = some (.cells #[a, b, c] T (0, 0))) : (((w.setCell ⟨g, 0, none⟩ x).setCell ⟨g, 1, none⟩ y).setCell ⟨g, 2, none⟩ z).heap[g]? = some (.cells #[x, y, z] T (0, 0)) := by
  have h1 := heap_setCell_same w g 0 _ _ x h
  have h2 := heap_setCell_same _ g 1 _ _ y h1
  have h3 := heap_setCell_same _ g 2 _ _ z h2
  rw [h3]
  simp
theorem CS.step {w0 w w' w2 : World} {hb lg : Nat} {A : Option Addr} {cap q : Nat} {L : List Pr} {la lb : List ByteArray} {k i j : Nat} {v : Value} {out : List (Nat × Nat)} {gs : List Nat} (h : CS w0 w w' hb lg A cap (q + 1) L la lb k i j v out gs) {H : List Pr} {x : Nat × Nat} (hx : (hits la lb)[k]? = some x)
    (h2 : HeapQ w2 (hb + 1) hb (.slice A q cap) H) (hp : L.Perm (at_ L 0 :: H)) (hh : isHeap H q) (hw : Wrote (fun g => g = hb ∨ (Value.slice A (q + 1) cap).ownBlock = some g) w' w2) (hn : ¬ nextP la lb i j x) : CS w0 w w2 hb lg A cap q H la lb (k + 1) i j v out gs := by
  have hbl : ∀ g, (Value.slice A q cap).ownBlock = some g → (Value.slice A (q + 1) cap).ownBlock = some g := fun g e => by cases A with | none => cases e | some a => exact e
  have hbl2 : ∀ g, (Value.slice A (q + 1) cap).ownBlock = some g → hb + 1 ≤ g := fun g e => (World.ownsRow.lt h.hp.own g e).1
  have hr := h.rest
  have hsort : ((hits la lb).drop k).Pairwise ltP := (hits_sorted la lb).sublist (List.drop_sublist _ _)
  have hperm := h.perm
  rw [drop_at hx] at hsort hr hperm
  obtain ⟨_, hH⟩ := pop_first hsort hperm h.heap h.hp.own.len hp
  rw [take_no hn] at hr
  have hlt := h.lt
  have hlow := h.low
  have hS : ∀ g, lg ≤ g → ¬ (g = hb ∨ (Value.slice A (q + 1) cap).ownBlock = some g) := fun g hg e => by
    rcases e with e | e
    · omega
    · have := h.below g e; omega
  refine ⟨h2, fun g e => h.below g (hbl g e), hH, hh, ?_, h.own.wrote hw (fun g e => hS g (by have := (h.own.lt e).1; omega)), Nat.le_trans h.big hw.size, h.lt, h.low, h.len, hr, ?_, by have := h.small; omega⟩
  · obtain ⟨b, e⟩ := h.last
    exact ⟨b, (hw.block lg (Array.getElem?_eq_some_iff.1 e).1 (hS lg (Nat.le_refl _))).trans e⟩
  · exact Wrote.below' h.wr hw (fun g e => by
      rcases e with e | e
      · omega
      · have := hbl2 g e; omega)
theorem CS.below_ {w0 w w' w2 : World} {hb lg : Nat} {A : Option Addr} {cap q : Nat} {L : List Pr} {la lb : List ByteArray} {k i j : Nat} {v : Value} {out : List (Nat × Nat)} {gs : List Nat} (h : CS w0 w w' hb lg A cap q L la lb k i j v out gs) (hb2 : Below w'.heap.size w' w2) : CS w0 w w2 hb lg A cap q L la lb k i j v out gs := by
  obtain ⟨b, e⟩ := h.last
  exact ⟨h.hp.below hb2, h.below, h.perm, h.heap, ⟨b, (hb2.block lg (Array.getElem?_eq_some_iff.1 e).1).trans e⟩, h.own.below hb2, Nat.le_trans h.big hb2.size, h.lt, h.low, h.len, h.rest, h.wr.next hb2, h.small⟩
/-- The next pair is taken. -/
theorem CS.take {w0 w w' w2 : World} {hb lg : Nat} {A : Option Addr} {cap q : Nat} {L H : List Pr} {la lb : List ByteArray} {k i j t : Nat} {v v2 : Value} {out : List (Nat × Nat)} {gs gs2 : List Nat} {x : Nat × Nat} (h : CS w0 w w' hb lg A cap (q + 1) L la lb k i j v out gs) (hx : (hits la lb)[k]? = some x)
    (h2 : HeapQ w2 (hb + 1) hb (.slice A q cap) H) (hp : L.Perm (at_ L 0 :: H)) (hh : isHeap H q) (hn : nextP la lb i j x) (ht : tab la lb (x.1 + 1) (x.2 + 1) = t) (hb2 : Below w0.heap.size w0 w2) (hlg : w2.heap[lg]? = w'.heap[lg]?) (hown : OwnPP w2 (lg + 1) v2 (out ++ [x]) gs2) (hsz : w'.heap.size ≤ w2.heap.size) :
    CS w0 w (((w2.setCell ⟨lg, 0, none⟩ (.int .i64 (x.1 : Int))).setCell ⟨lg, 1, none⟩ (.int .i64 (x.2 : Int))).setCell ⟨lg, 2, none⟩ (.int .i64 (t : Int))) hb lg A cap q H la lb (k + 1) (x.1 + 1) (x.2 + 1) v2 (out ++ [x]) gs2 := by
  have hbl : ∀ g, (Value.slice A q cap).ownBlock = some g → (Value.slice A (q + 1) cap).ownBlock = some g := fun g e => by cases A with | none => cases e | some a => exact e
  have hr := h.rest
  have hsort : ((hits la lb).drop k).Pairwise ltP := (hits_sorted la lb).sublist (List.drop_sublist _ _)
  have hperm := h.perm
  rw [drop_at hx] at hsort hr hperm
  obtain ⟨_, hH⟩ := pop_first hsort hperm h.heap h.hp.own.len hp
  rw [take_yes hn] at hr
  have hlt := h.lt
  have hlow := h.low
  have hw := wrote3 w2 lg 0 (.int .i64 (x.1 : Int)) (.int .i64 (x.2 : Int)) (.int .i64 (t : Int))
  obtain ⟨b, e⟩ := h.last
  refine ⟨h2.wrote hw (by omega) (fun g e e2 => by have := h.below g (hbl g e); omega), fun g e => h.below g (hbl g e), hH, hh, ⟨t, ?_⟩, hown.wrote hw (fun g e e2 => by have := (hown.lt e).1; omega), Nat.le_trans h.big (Nat.le_trans hsz hw.size), h.lt, h.low, ?_, by rw [← hr]; simp, Wrote.below' hb2 hw (fun g e => by omega), by have := h.small; omega⟩
  · have := set3_heap (x := .int .i64 (x.1 : Int)) (y := .int .i64 (x.2 : Int)) (z := .int .i64 (t : Int)) (hlg.trans e)
    rw [show ((x.1 + 1 : Nat) : Int) - 1 = (x.1 : Int) from by omega, show ((x.2 + 1 : Nat) : Int) - 1 = (x.2 : Int) from by omega]
    exact this
  · have h1 := h.len; have h3 := hn.2.2; rw [List.length_append]; simp; omega

set_option maxHeartbeats 4000000 in
set_option maxRecDepth 100000 in
theorem implCommonLines_any (aA : Option Addr) (na ca : Nat) (la : List ByteArray) (bA : Option Addr) (nb cb : Nat) (lb : List ByteArray) (w : World) (ha : Strs w aA na la) (hbS : Strs w bA nb lb) :
    Calls Tryz.prog 148 #[.slice aA na ca, .slice bA nb cb] w fun e w' => ∃ v gs, e = .returned (.tuple #[v, .bool (linesC la lb).2]) ∧ OwnPP w' w.heap.size v (linesC la lb).1 gs ∧ Below w.heap.size w w' := by
  cases hq1 : goodB la
  · have hf := Lib.hid (linesC_no (b := lb) (bothB_no1 hq1))
    go_enter Tryz.func148, Tryz.ntmps148
    go_wp2_with fail
    refine (implGoodLines_any aA na ca la _ ha).mono ?_
    rintro e w1 ⟨rfl, b1⟩
    rw [hq1]
    go_wp2
    go_ret2
    exact ⟨_, [], by rw [hf.out]; rfl, by rw [hf.out]; exact OwnPP.nil_, b1⟩
  cases hq2 : goodB lb
  · have hf := Lib.hid (linesC_no (a := la) (bothB_no2 hq2))
    go_enter Tryz.func148, Tryz.ntmps148
    go_wp2_with fail
    refine (implGoodLines_any aA na ca la _ ha).mono ?_
    rintro e w1 ⟨rfl, b1⟩
    rw [hq1]
    go_wp2_with fail
    refine (implGoodLines_any bA nb cb lb _ (hbS.below b1)).mono ?_
    rintro e w2 ⟨rfl, b2⟩
    rw [hq2]
    go_wp2
    go_ret2
    exact ⟨_, [], by rw [hf.out]; rfl, by rw [hf.out]; exact OwnPP.nil_, b1.next b2⟩
  have hf := Lib.hid (linesC_yes (a := la) (b := lb) (by simp [bothB, hq1, hq2]))
  have hna : na ≤ 40 := by rw [← ha.len]; exact goodB_len hq1
  have hnb : nb ≤ 40 := by rw [← hbS.len]; exact goodB_len hq2
  have HNA := Lib.hid ha.len
  have HNB := Lib.hid hbS.len
  have HA := Lib.hid ha
  have HB := Lib.hid hbS
  clear ha hbS
  go_enter Tryz.func148, Tryz.ntmps148
  go_wp2_with fail
  refine (implGoodLines_any aA na ca la _ HA.out).mono ?_
  rintro e w1 ⟨rfl, b1⟩
  rw [hq1]
  go_wp2_with fail
  refine (implGoodLines_any bA nb cb lb _ (HB.out.below b1)).mono ?_
  rintro e w2 ⟨rfl, b2⟩
  rw [hq2]
  have B2 := Lib.hid (b1.next b2)
  clear b1 b2 hq1 hq2
  have hmf : ∀ (fn : Fn) (first cap : Array Value) (w : World), (Instr.makeFunc fn first cap).run Tryz.prog w = .ok (.func fn first cap) w := fun _ _ _ _ => rfl
  go_wp2_with fail
  obtain ⟨w3, HW3⟩ : ∃ w3, Hid (w3 = w2.alloc (.cells #[.slice none 0 0, .func (.func 193) #[] #[]] 216)) := ⟨_, rfl⟩
  have hbx : w3.heap[w2.heap.size]? = some (.cells #[.slice none 0 0, .func (.func 193) #[] #[]] 216 (0, 0)) := by rw [HW3.out]; exact heap_alloc_new w2 _
  have B3 := Lib.hid (show Below w.heap.size w w3 by rw [HW3.out]; exact B2.out.next (below_alloc _ _))
  have hs3 := Lib.hid (show w3.heap.size = w2.heap.size + 1 by rw [HW3.out]; simp)
  rw [← HW3.out]
  obtain ⟨hb, Hhb⟩ : ∃ hb, Hid (hb = w2.heap.size) := ⟨_, rfl⟩
  rw [← Hhb.out] at hbx ⊢
  have hlow : w.heap.size ≤ hb := by rw [Hhb.out]; exact B2.out.size
  refine (longest_any w aA na ca la bA nb cb lb hb w3 HA.out HB.out hna hnb B3.out hlow hbx).mono ?_
  rintro e w4 ⟨A, q, cap, L, rfl, q4, p4, h4, s4, g4⟩
  obtain ⟨lg, Hlg⟩ : ∃ lg, Hid (lg = w4.heap.size) := ⟨_, rfl⟩
  obtain ⟨w5, HW5⟩ : ∃ w5, Hid (w5 = w4.alloc (.cells #[.int .i64 (-1), .int .i64 (-1), .int .i64 0] 213)) := ⟨_, rfl⟩
  have HBB := Lib.hid (show w3.heap.size = hb + 1 by rw [hs3.out, Hhb.out])
  have HCS := Lib.hid (show CS w w3 w5 hb lg A cap q L la lb 0 0 0 (.slice none 0 0) [] [] from by
    rw [HW5.out]
    refine ⟨(show HeapQ w4 (hb + 1) hb (.slice A q cap) L from ⟨q4.box, q4.own.more (by rw [HBB.out]; omega), by omega⟩).below (below_alloc _ _), fun g e => by rw [Hlg.out]; exact (World.ownsRow.lt q4.own g e).2, by rw [List.drop_zero]; exact p4, h4, ⟨0, by rw [Hlg.out]; exact heap_alloc_new w4 _⟩, OwnPP.nil_, by rw [Hlg.out]; simp, by rw [Hlg.out]; have := g4.size; rw [HBB.out] at this; omega, hlow, ?_, rfl, ?_, s4⟩
    · have := (tab_le la lb 0 0).1; rw [HNA.out] at this; simp; omega
    · exact (Wrote.below' B3.out g4 (fun k e => by omega)).next (below_alloc _ _))
  clear q4 p4 h4 s4 g4 hbx
  go_wp2_with fail
  rw [← HW5.out, ← Hlg.out]
  go_loopw [7, 8] (fun x y w' => ∃ d k i j q : Nat, ∃ L out gs, x = .int .i64 d ∧ Hid (tab la lb i j = d) ∧ CS w w3 w' hb lg A cap q L la lb k i j y out gs) (fun _ _ w' => heapLen w' hb)
  case atStart => exact ⟨lcs la lb, 0, 0, 0, q, L, [], [], rfl, rfl, HCS.out⟩
  case round =>
    obtain ⟨d, k, i, j, q, L, out, gs, rfl, Hd, hc⟩ := hrel
    have HC := Lib.hid hc
    clear hc
    cases q with
    | zero =>
      have HE := Lib.hid (show out = pairsOf la lb by
        have h1 := HC.out.rest
        have h2 := HC.out.perm.length_eq
        rw [HC.out.hp.own.len, List.length_map] at h2
        rw [List.eq_nil_of_length_eq_zero h2.symm, takeP, List.append_nil] at h1
        exact h1)
      go_wp2_with fail
      refine (len_any hb (hb + 1) A 0 cap L _ HC.out.hp).mono ?_
      rintro e w6 ⟨rfl, rfl⟩
      go_wp2
      go_ret2
      exact ⟨_, gs, by rw [hf.out]; rfl, by rw [hf.out, ← HE.out]; exact HC.out.own.more (by have := HC.out.lt; omega), HC.out.wr⟩
    | succ q =>
      have hkl : k < (hits la lb).length := by
        have h2 := HC.out.perm.length_eq
        rw [HC.out.hp.own.len, List.length_map, List.length_drop] at h2
        omega
      obtain ⟨x, hx⟩ : ∃ x, (hits la lb)[k]? = some x := ⟨_, List.getElem?_eq_getElem hkl⟩
      have HX := Lib.hid hx
      clear hx hkl
      have hq16 : q < 100000 := by have := HC.out.small; omega
      go_wp2_with fail
      refine (len_any hb (hb + 1) A (q + 1) cap L _ HC.out.hp).mono ?_
      rintro e w6 ⟨rfl, rfl⟩
      go_wp2_with fail
      refine (qnext_any hb (hb + 1) A q cap L _ HC.out.hp hq16 HC.out.heap).mono ?_
      rintro e w7 ⟨rfl, H, q7, p7, h7, g7⟩
      have hat : at_ L 0 = hitQ la lb x := by
        have hsort : ((hits la lb).drop k).Pairwise ltP := (hits_sorted la lb).sublist (List.drop_sublist _ _)
        have hperm := HC.out.perm
        rw [drop_at HX.out] at hsort hperm
        exact (pop_first hsort hperm HC.out.heap HC.out.hp.own.len p7).1
      obtain ⟨x1, x2⟩ := x
      obtain ⟨t, Ht⟩ : ∃ t, Hid (tab la lb (x1 + 1) (x2 + 1) = t) := ⟨_, rfl⟩
      rw [show hitQ la lb (x1, x2) = ⟨x1, x2, t⟩ from by unfold hitQ; dsimp only; rw [Ht.out]] at hat
      rw [hat]
      dsimp only
      have HP7 := Lib.hid p7
      have HH7 := Lib.hid h7
      have HG7 := Lib.hid g7
      have HQ7 := Lib.hid q7
      clear p7 h7 g7 q7 hat
      have hS : ∀ g, lg ≤ g → ¬ (g = hb ∨ (Value.slice A (q + 1) cap).ownBlock = some g) := fun g hg e => by
        rcases e with e | e
        · have := HC.out.lt; omega
        · have := HC.out.below g e; omega
      have B7 := Lib.hid (show Below w.heap.size w w7 from Wrote.below' HC.out.wr HG7.out (fun g e => by
        rcases e with e | e
        · have := HC.out.low; omega
        · have := (World.ownsRow.lt HC.out.hp.own g e).1; have := HC.out.low; omega))
      obtain ⟨lb3, hlast⟩ := HC.out.last
      have hlast7 := (HG7.out.block lg (Array.getElem?_eq_some_iff.1 hlast).1 (hS lg (Nat.le_refl _)))
      have HLG7 := Lib.hid hlast7
      have HO7 := Lib.hid (HC.out.own.wrote HG7.out (fun g e => hS g (by have := (HC.out.own.lt e).1; omega)))
      have hz7 := Lib.hid (show lg < w7.heap.size from Nat.lt_of_lt_of_le (Array.getElem?_eq_some_iff.1 hlast).1 HG7.out.size)
      obtain ⟨pb, Hpb⟩ : ∃ pb, Hid (pb = w7.heap.size) := ⟨_, rfl⟩
      obtain ⟨w8, HW8⟩ : ∃ w8, Hid (w8 = w7.alloc (.cells #[.int .i64 (x1 : Int), .int .i64 (x2 : Int), .int .i64 (t : Int)] 213)) := ⟨_, rfl⟩
      have b78 := Lib.hid (show Below w7.heap.size w7 w8 by rw [HW8.out]; exact below_alloc _ _)
      have hp8 : w8.heap[pb]? = some (.cells #[.int .i64 (x1 : Int), .int .i64 (x2 : Int), .int .i64 (t : Int)] 213 (0, 0)) := by rw [HW8.out, Hpb.out]; exact heap_alloc_new w7 _
      have hl8 : w8.heap[lg]? = some (.cells #[.int .i64 ((i : Int) - 1), .int .i64 ((j : Int) - 1), .int .i64 lb3] 213 (0, 0)) := (b78.out.block lg hz7.out).trans (HLG7.out.trans hlast)
      have HP8 := Lib.hid hp8
      have HL8 := Lib.hid hl8
      have a0 : w8.cell? ⟨pb, 0, none⟩ = some (.int .i64 (x1 : Int)) := by simp [World.cell?, hp8]
      have a1 : w8.cell? ⟨pb, 1, none⟩ = some (.int .i64 (x2 : Int)) := by simp [World.cell?, hp8]
      have a2 : w8.cell? ⟨pb, 2, none⟩ = some (.int .i64 (t : Int)) := by simp [World.cell?, hp8]
      have l0 : w8.cell? ⟨lg, 0, none⟩ = some (.int .i64 ((i : Int) - 1)) := by simp [World.cell?, hl8]
      have l1 : w8.cell? ⟨lg, 1, none⟩ = some (.int .i64 ((j : Int) - 1)) := by simp [World.cell?, hl8]
      have l2 : w8.cell? ⟨lg, 2, none⟩ = some (.int .i64 lb3) := by simp [World.cell?, hl8]
      have r7 : w7.heap[lg]? = some (.cells #[.int .i64 ((i : Int) - 1), .int .i64 ((j : Int) - 1), .int .i64 lb3] 213 (0, 0)) := HLG7.out.trans hlast
      have r0 : ∀ o, (w7.alloc o).cell? ⟨lg, 0, none⟩ = some (.int .i64 ((i : Int) - 1)) := fun o => cell_keep (below_alloc w7 o) (by simp [World.cell?, r7])
      have r1 : ∀ o, (w7.alloc o).cell? ⟨lg, 1, none⟩ = some (.int .i64 ((j : Int) - 1)) := fun o => cell_keep (below_alloc w7 o) (by simp [World.cell?, r7])
      have r2 : ∀ o, (w7.alloc o).cell? ⟨lg, 2, none⟩ = some (.int .i64 lb3) := fun o => cell_keep (below_alloc w7 o) (by simp [World.cell?, r7])
      clear hlast hlast7 hS hp8 hl8 r7
      go_wp2_with fail
      rw [← HW8.out, ← Hpb.out]
      clear r0 r1 r2
      refine (follows_any (x1 : Int) (x2 : Int) (t : Int) ((i : Int) - 1) ((j : Int) - 1) lb3 w8).mono ?_
      rintro e w9 ⟨rfl, b9⟩
      have c2 := cell_keep b9 a2
      have k0 := cell_keep b9 a0
      have k1 := cell_keep b9 a1
      have m0 := cell_keep b9 l0
      have m1 := cell_keep b9 l1
      have m2 := cell_keep b9 l2
      have B9 := Lib.hid (b78.out.next b9)
      have hd9 := Lib.hid (show HeapQ w9 (hb + 1) hb (.slice A q cap) H from HQ7.out.below B9.out)
      have HPB := Lib.hid ((b9.block pb (Array.getElem?_eq_some_iff.1 HP8.out).1).trans HP8.out)
      have HLB := Lib.hid ((b9.block lg (Array.getElem?_eq_some_iff.1 HL8.out).1).trans HL8.out)
      have d40 : d ≤ 40 := by rw [← Hd.out]; have := HC.out.len; omega
      clear a0 a1 a2 l0 l1 l2 b9
      by_cases hF : i ≤ x1 ∧ j ≤ x2
      · have hfv : (decide ((i : Int) - 1 < (x1 : Int)) && decide ((j : Int) - 1 < (x2 : Int))) = true := by simp; omega
        rw [hfv]
        by_cases hT : t + 1 = d
        · have HN := Lib.hid (show nextP la lb i j (x1, x2) from ⟨hF.1, hF.2, by dsimp only; rw [Ht.out, Hd.out]; exact hT⟩)
          have hbt : ((t : Int) == (d : Int) - 1) = true := by simp; omega
          have HO9 := Lib.hid (HO7.out.below B9.out)
          have hbk : ∀ g, BlkP u8 gs g → lg + 1 ≤ g ∧ g < w7.heap.size := fun g e => HO7.out.lt e
          have HBK := Lib.hid hbk
          have hz9 := Lib.hid (show pb < w9.heap.size ∧ lg < w9.heap.size ∧ w7.heap.size ≤ w9.heap.size from ⟨(Array.getElem?_eq_some_iff.1 HPB.out).1, (Array.getElem?_eq_some_iff.1 HLB.out).1, B9.out.size⟩)
          have b9a := Lib.hid ((below_alloc w9 (.cells #[.int .i64 (x1 : Int), .int .i64 (x2 : Int)] 3)).next (below_alloc _ (.cells #[.slice (some ⟨w9.heap.size, 0, none⟩) 2 2] 220)))
          have hg1 := Lib.hid (show ((w9.alloc (.cells #[.int .i64 (x1 : Int), .int .i64 (x2 : Int)] 3)).alloc (.cells #[.slice (some ⟨w9.heap.size, 0, none⟩) 2 2] 220)).heap[w9.heap.size]? = some (.cells #[.int .i64 (x1 : Int), .int .i64 (x2 : Int)] 3 (0, 0)) by
            rw [Below.heap_alloc _ _ _ (by simp)]; exact heap_alloc_new w9 _)
          have hlen40 : out.length ≤ 40 := by have := HC.out.len; omega
          clear hF hT hfv hbk
          go_wp2_with (first
            | (at_builtin; refine wpList_pp (.tmp 42) (.tmp 48) (lg + 1) u8 out gs (HO9.out.below b9a.out) (x1, x2) (w9.heap.size + 1) w9.heap.size (by simp) hg1.out (by have := hz9.out; omega) (fun e => by have := (HBK.out _ e).2; have := hz9.out; omega) (by omega) (by simp; have := hz9.out; omega) rfl rfl rfl rfl ?_
               intro v10 w10 o10 g10
               have G10 := Lib.hid (show Wrote (fun g => u8.ownBlock = some g) w9 w10 from (Wrote.of_below b9a.out).trans (Wrote.of_grown (S := fun g => u8.ownBlock = some g) g10 (fun _ e => e)) (fun _ _ e => e))
               have e1 := G10.out.block pb hz9.out.1 (fun e => by have := (HBK.out _ (.inl e)).2; rw [Hpb.out] at this; omega)
               have e2 := G10.out.block lg hz9.out.2.1 (fun e => by have := (HBK.out _ (.inl e)).1; omega)
               have E2 := Lib.hid e2
               have n0 : w10.cell? ⟨pb, 0, none⟩ = some (.int .i64 (x1 : Int)) := (World.cell?_of_block (a := ⟨pb, 0, none⟩) e1).trans k0
               have n1 : w10.cell? ⟨pb, 1, none⟩ = some (.int .i64 (x2 : Int)) := (World.cell?_of_block (a := ⟨pb, 1, none⟩) e1).trans k1
               have n2 : w10.cell? ⟨pb, 2, none⟩ = some (.int .i64 (t : Int)) := (World.cell?_of_block (a := ⟨pb, 2, none⟩) e1).trans c2
               have y0 : w10.cell? ⟨lg, 0, none⟩ = some (.int .i64 ((i : Int) - 1)) := (World.cell?_of_block (a := ⟨lg, 0, none⟩) e2).trans m0
               have y1 : w10.cell? ⟨lg, 1, none⟩ = some (.int .i64 ((j : Int) - 1)) := (World.cell?_of_block (a := ⟨lg, 1, none⟩) e2).trans m1
               have y2 : w10.cell? ⟨lg, 2, none⟩ = some (.int .i64 lb3) := (World.cell?_of_block (a := ⟨lg, 2, none⟩) e2).trans m2
               have yf : ∀ j, w10.frozen? ⟨lg, j, none⟩ = false := fun j => (World.frozen?_of_block (a := ⟨lg, j, none⟩) e2).trans (by simp [World.frozen?, HLB.out])
               have HO10 := Lib.hid o10
               clear o10 g10 e1 e2 c2 k0 k1 m0 m1 m2)
            | fail)
          have hpl : pb ≠ lg := by rw [Hpb.out]; have := hz7.out; omega
          have B10 : Below w.heap.size w w10 := Wrote.below' (B7.out.next B9.out) G10.out (fun g e => by have := (HBK.out _ (.inl e)).1; have := HC.out.lt; have := HC.out.low; omega)
          have hbl : ∀ g, (Value.slice A q cap).ownBlock = some g → g < lg := fun g e => HC.out.below g (by cases A with | none => cases e | some a => exact e)
          have HCN := Lib.hid ((HC.out.take (w2 := w10) HX.out (hd9.out.wrote G10.out (fun e => by have := (HBK.out _ (.inl e)).1; have := HC.out.lt; omega) (fun g e e2 => by have := (HBK.out _ (.inl e2)).1; have := hbl g e; omega)) HP7.out HH7.out HN.out Ht.out B10 (E2.out.trans (HLB.out.trans (by rw [← HLG7.out]; exact ((b78.out.block lg hz7.out).symm.trans HL8.out).symm))) HO10.out (Nat.le_trans HG7.out.size (Nat.le_trans B9.out.size G10.out.size))).below_ (Below.refl _ _).drew)
          clear B10 hbl
          go_region
          go_wp2
          go_roundw
          case rel => exact ⟨t, k + 1, x1 + 1, x2 + 1, q, H, out ++ [(x1, x2)], gs ++ [w9.heap.size], rfl, Ht, HCN.out⟩
          case measure => rw [heapLen_is HCN.out.hp, heapLen_is HC.out.hp]; omega
        · have HN := Lib.hid (show ¬ nextP la lb i j (x1, x2) from fun h => hT (by have := h.2.2; dsimp only at this; rw [Ht.out, Hd.out] at this; exact this))
          have hbt : ((t : Int) == (d : Int) - 1) = false := by simp; omega
          clear hF hT hfv
          go_wp2_with fail
          go_roundw
          case rel => exact ⟨d, k + 1, i, j, q, H, out, gs, rfl, Hd, (HC.out.step HX.out HQ7.out HP7.out HH7.out HG7.out HN.out).below_ B9.out⟩
          case measure => rw [heapLen_is hd9.out, heapLen_is HC.out.hp]; omega
      · have hfv : (decide ((i : Int) - 1 < (x1 : Int)) && decide ((j : Int) - 1 < (x2 : Int))) = false := by simp; omega
        rw [hfv]
        have HN := Lib.hid (show ¬ nextP la lb i j (x1, x2) from fun h => hF ⟨h.1, h.2.1⟩)
        clear hF hfv
        go_wp2_with fail
        go_roundw
        case rel => exact ⟨d, k + 1, i, j, q, H, out, gs, rfl, Hd, (HC.out.step HX.out HQ7.out HP7.out HH7.out HG7.out HN.out).below_ B9.out⟩
        case measure => rw [heapLen_is hd9.out, heapLen_is HC.out.hp]; omega

end Go.Proofs.YtnnaigoomipklaaGreatDoor
