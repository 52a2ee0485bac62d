/-
  The law FnDiffs.
-/
import Derived.Test.YtdejlepgihgfgaaDSpec
import Derived.Test.YtdejlepgihgfgaaDrawS
import Derived.Test.YtdejlepgihgfgaaHDrawAB
set_option linter.unusedSimpArgs false
set_option linter.unusedVariables false
namespace Go.Proofs.Ytdejlepgihgfgaa.M

theorem join_rise {last : List ByteArray} {many : Nat} (hl : linesB last = true) : ∀ {L : List (Nat × Nat)} {i j : Nat} {e : Int}, rises i j L → (∀ s ∈ L, s.1 ≤ many ∧ s.2 ≤ last.length) → e < (i : Int) → riseB many e (joinFrom last i j L) = true
  | [], i, j, e, _, _, _ => by simp [joinFrom, riseB]
  | s :: L, i, j, e, hr, hs, he => by
    obtain ⟨h1, h2, h3⟩ := hr
    obtain ⟨m1, m2⟩ := hs s (by simp)
    have hs' : ∀ t ∈ L, t.1 ≤ many ∧ t.2 ≤ last.length := fun t ht => hs t (by simp [ht])
    rw [joinFrom]
    split
    · next hn =>
      have hx : hunkB many (joinOne last i j s) = true := by
        have hno : nothing (joinOne last i j s) = false := by
          unfold nothing joinOne
          dsimp only
          rw [seg_len]
          simp only [Bool.and_eq_false_iff, decide_eq_false_iff_not]
          omega
        unfold hunkB
        rw [hno]
        have hl2 : linesB (joinOne last i j s).new = true := linesB_seg hl _ _
        rw [hl2]
        unfold joinOne
        dsimp only
        simp only [Bool.and_eq_true, decide_eq_true_eq, Bool.not_false, and_true]
        omega
      rw [riseB, hx]
      have ih := join_rise hl (e := (s.1 : Int)) h3 hs' (by omega)
      have e1 : (joinOne last i j s).at_ + (joinOne last i j s).gone = (s.1 : Int) := by unfold joinOne; dsimp only; omega
      have e2 : decide (e < (joinOne last i j s).at_) = true := by unfold joinOne; simpa using he
      rw [e1, e2, ih]
      rfl
    · exact join_rise hl h3 hs' (by omega)
theorem join_gone {last : List ByteArray} {N M : Nat} : ∀ {L : List (Nat × Nat)} {i j : Nat}, rises i j (L ++ [(N, M)]) → goneSum (joinFrom last i j (L ++ [(N, M)])) = (N : Int) - i - L.length
  | [], i, j, hr => by
    obtain ⟨h1, h2, _⟩ := hr
    dsimp only at h1 h2
    rw [List.nil_append, joinFrom]
    split
    · rw [joinFrom, goneSum, goneSum]; unfold joinOne; simp
    · next hn => dsimp only at hn; rw [joinFrom, goneSum]; simp; omega
  | s :: L, i, j, hr => by
    rw [List.cons_append] at hr ⊢
    obtain ⟨h1, h2, h3⟩ := hr
    have ih := join_gone (last := last) h3
    rw [joinFrom]
    split
    · rw [goneSum, ih]; unfold joinOne; simp; omega
    · next hn => rw [ih]; simp; omega
theorem diff_patch (a b : List ByteArray) : patchH a (diffH a b) = b := by
  have := join_main (l := a) (last := b) (L := pairsOf a b) (p := 0) (i := 0) (j := 0) (stopsD_rise a b) (fun s hs => pairs_mem hs) (Nat.le_refl _)
  rw [seg_self, List.nil_append, List.drop_zero] at this
  exact this
theorem diff_rise {a b : List ByteArray} (hb : goodB b = true) : riseB a.length (-1) (diffH a b) = true :=
  join_rise (goodB_lines hb) (stopsD_rise a b) (fun s hs => stopsD_le hs) (by omega)
theorem diff_good {a b : List ByteArray} (h : bothB a b = true) : goodH a.length (diffH a b) = decide ((diffH a b).length ≤ 20) := by
  have h1 := goodB_len (bothB_parts h).1
  rw [goodH_ok (diff_rise (bothB_parts h).2)]
  have e1 : decide ((0 : Int) ≤ (a.length : Int)) = true := by simp
  have e2 : decide ((a.length : Int) ≤ 40) = true := by simp; omega
  rw [e1, e2]
  simp
theorem diff_sums {a b : List ByteArray} (h : bothB a b = true) : goneSum (diffH a b) + comeSum (diffH a b) = apart a b := by
  have h1 := join_gone (last := b) (stopsD_rise a b)
  have h2 := patch_len (l := a) (hs := diffH a b) (p := 0) ⟨-1, diff_rise (bothB_parts h).2, by omega⟩ (Nat.zero_le _)
  have h3 : patchFrom a 0 (diffH a b) = b := diff_patch a b
  rw [h3] at h2
  have h4 : goneSum (diffH a b) = (a.length : Int) - lcs a b := by
    have h5 : goneSum (diffH a b) = (a.length : Int) - (0 : Nat) - (pairsOf a b).length := h1
    rw [pairs_count] at h5
    simpa using h5
  unfold apart
  omega
theorem diff_ok {a b : List ByteArray} (h : diffOk a b = true) : bothB a b = true ∧ goodH a.length (diffH a b) = true ∧ patchOk a (diffH a b) = true := by
  simp only [diffOk, Bool.and_eq_true] at h
  obtain ⟨h1, h2⟩ := bothB_parts h.1
  refine ⟨h.1, h.2, ?_⟩
  simp only [patchOk, Bool.and_eq_true, diff_patch]
  exact ⟨⟨h1, h.2⟩, h2⟩
theorem diff_least {a b : List ByteArray} (h : diffOk a b = true) : leastOf a (diffH a b) = (true, true) := by
  obtain ⟨h1, h2, h3⟩ := diff_ok h
  unfold leastOf
  rw [if_pos h3, diff_patch, diff_sums h1]
  simp

end Go.Proofs.Ytdejlepgihgfgaa.M
namespace Go.Proofs.Ytdejlepgihgfgaa
open Go.RowKit M

theorem diff_none {a b : List ByteArray} (h : diffOk a b = true) : decide ((diffH a b).length = 0) = eqT a b := by
  obtain ⟨h1, h2, h3⟩ := diff_ok h
  rw [Bool.eq_iff_iff]
  unfold eqT
  simp only [decide_eq_true_eq]
  constructor
  · intro h0
    have h4 := diff_patch a b
    rw [List.eq_nil_of_length_eq_zero h0] at h4
    simpa [patchH, patchFrom] using h4
  · intro e
    have hs := diff_sums h1
    have hap : apart a b = 0 := by rw [← e]; unfold apart; rw [lcs_self]; omega
    rw [hap] at hs
    cases hd : diffH a b with
    | nil => rfl
    | cons x t =>
      exfalso
      rw [hd] at h2 hs
      have hf := few_good h2
      have hx := hunkB_parts (rise_mem (goodH_parts h2).2.2.2 (show x ∈ x :: t by simp))
      have ht := sums_few (l := t) (fun y hy => hf.2 y (by simp [hy]))
      rw [goneSum, comeSum] at hs
      have hno := hx.2.2.2.1
      unfold nothing at hno
      simp only [Bool.and_eq_false_iff, decide_eq_false_iff_not] at hno
      omega
theorem hunksH_yes {a b : List ByteArray} (h : bothB a b = true) : needsOf a b = (((diffH a b).length : Int), true) := by simp [needsOf, h]

set_option maxHeartbeats 1000000 in
theorem DrawDiffHunks_any (a : Option Addr) (n c : Nat) (w : World) (h : Bytes w a n) (hn : n ≤ 1048576) :
    Calls Try.prog 5 #[.slice a n c] w fun e w' => ∃ A n1 c1 l B n2 c2 l2, e = .returned (.tuple #[.slice A n1 c1, .slice B n2 c2]) ∧ Strs w' A n1 l ∧ n1 ≤ c1 ∧ Strs w' B n2 l2 ∧ n2 ≤ c2 ∧ n1 ≤ 9 ∧ n2 ≤ 12 ∧ Below w.heap.size w w' := by
  go_enter Try.func5, Try.ntmps5
  go_wp2_with fail
  refine (DrawSameAhead_any a n c _ h hn).mono ?_
  rintro e w1 ⟨v, v2, l, l2, rfl, o1, o2, h1, h2, b1⟩
  obtain ⟨A, c1, rfl, q1, _⟩ := o1.form rfl
  obtain ⟨B, c2, rfl, q2, _⟩ := o2.form rfl
  have HE := Lib.hid (show Strs w1 A l.length l ∧ l.length ≤ c1 ∧ Strs w1 B l2.length l2 ∧ l2.length ≤ c2 ∧ l.length ≤ 9 ∧ l2.length ≤ 12 ∧ Below w.heap.size w w1 from ⟨o1.strs, q1, o2.strs, q2, h1, h2, b1⟩)
  obtain ⟨n1, Hn1⟩ : ∃ n1, Hid (l.length = n1) := ⟨_, rfl⟩
  obtain ⟨n2, Hn2⟩ : ∃ n2, Hid (l2.length = n2) := ⟨_, rfl⟩
  rw [Hn1.out, Hn2.out] at HE ⊢
  clear o1 o2 q1 q2 h1 h2 b1
  go_wp2
  go_ret2
  exact ⟨A, n1, c1, l, B, n2, c2, l2, rfl, HE.out⟩

/-- What this draw answers. -/
def DrewIL (w w' : World) (A : Option Addr) (n1 c1 : Nat) (l : List ByteArray) (A2 : Option Addr) (n2 c2 : Nat) (hs : List Hk) : Prop :=
  Strs w' A n1 l ∧ n1 ≤ c1 ∧ n1 ≤ 9 ∧ Hks w' A2 n2 hs ∧ (∀ x ∈ hs, x.new.length ≤ 1048576) ∧ Below w.heap.size w w'
theorem new_small4 {hs : List Hk} (h2 : ∀ x ∈ hs, smallA x) : ∀ x ∈ hs, x.new.length ≤ 1048576 := fun x hx => by
  obtain ⟨_, _, a, b, c, _⟩ := h2 x hx; omega
theorem diff_new {a b : List ByteArray} (hb : b.length ≤ 1000) : ∀ x ∈ (diffOf a b).1, x.new.length ≤ 1048576 := fun x hx => by
  unfold diffOf at hx
  split at hx
  · have := join_newD hx; omega
  · simp at hx

set_option maxHeartbeats 2000000 in
theorem DrawIsLeast_any (a : Option Addr) (n c : Nat) (w : World) (h : Bytes w a n) (hn : n ≤ 1048576) :
    Calls Try.prog 16 #[.slice a n c] w fun e w' => ∃ A n1 c1 l A2 n2 c2 hs, e = .returned (.tuple #[.slice A n1 c1, .slice A2 n2 c2]) ∧ DrewIL w w' A n1 c1 l A2 n2 c2 hs := by
  have c0 := Curs.new (c := c) h hn
  have hz : (w.alloc (.cells #[.slice a n c, .int .i64 0, .int .u64 0] 51)).heap.size = w.heap.size + 1 := by simp
  have HZ := Lib.hid hz
  clear hz
  go_enter Try.func16, Try.ntmps16
  go_wp2_with fail
  refine (anyText2_any _ 0 _ c0 (by omega)).mono ?_
  rintro e w1 ⟨v, l, rfl, o1, hl, hsm, hla, c1, g1⟩
  obtain ⟨q, HN⟩ : ∃ q, Hid (l.length = q) := ⟨_, rfl⟩
  obtain ⟨A, cap, rfl, hn1, hn2⟩ := o1.form HN.out
  have hq9 : q ≤ 9 := by rw [← HN.out]; exact hl
  have HLA := Lib.hid hla
  have HO1 := Lib.hid o1
  have G1 := Lib.hid g1
  have hag := Lib.hid (show ∀ x, A = some x → x.block ≠ w.heap.size from fun x e => by
    subst e
    have := (o1.lt (g := x.block) rfl).1
    have := HZ.out
    omega)
  clear hl hsm hla o1 g1
  have KEEP := Lib.hid (show ∀ w3 : World, w1.grownBy w3 (some w.heap.size) → Strs w3 A q l from fun w3 g3 =>
    (HO1.out.kept g3 (fun b e h => by injection e with e; have := (HO1.out.lt h).1; have := HZ.out; omega)).strs)
  cases hg : goodB l
  · go_wp2_with fail
    refine (l1Good_any A q cap l _ HO1.out.strs).mono ?_
    rintro e w3 ⟨rfl, rfl⟩
    rw [hg]
    go_wp2_with fail
    refine (anyHunks_any _ _ A q cap l _ c1 (by omega) HO1.out.strs hag.out (by omega) HLA.out).mono ?_
    rintro e w2 ⟨v2, out, vs, rfl, o2, hlen, hsa, c2, g2⟩
    obtain ⟨n2, HN2⟩ : ∃ n2, Hid (out.length = n2) := ⟨_, rfl⟩
    obtain ⟨A2, cap2, rfl, hn21, hn22⟩ := o2.form HN2.out
    have HD := Lib.hid (show DrewIL w w2 A q cap l A2 n2 cap2 out from ⟨KEEP.out _ g2, hn1, hq9, o2.hks, new_small4 hsa, below_new (G1.out.trans g2)⟩)
    clear hsa o2 g2
    go_wp2
    go_ret2
    exact ⟨A, q, cap, l, A2, n2, cap2, out, rfl, HD.out⟩
  · have hfine : Fine 30 l := fun s hs => by
      obtain ⟨j, hj⟩ := List.mem_iff_getElem?.1 hs
      exact lineB_size (goodB_at hg hj).1
    have HFI := Lib.hid hfine
    clear hfine
    go_wp2_with fail
    refine (l1Good_any A q cap l _ HO1.out.strs).mono ?_
    rintro e w3 ⟨rfl, rfl⟩
    rw [hg]
    go_wp2_with fail
    refine (one_any _ _ _ _ c1 (by omega) (by omega)).mono ?_
    rintro e w2 ⟨y, rfl, c2, g2⟩
    have S2 := Lib.hid (KEEP.out w2 g2)
    have G2 := Lib.hid g2
    clear g2
    cases y with
    | false =>
      go_wp2_with fail
      refine (anyHunks_any _ _ A q cap l _ c2 (by omega) S2.out hag.out (by omega) HLA.out).mono ?_
      rintro e w4 ⟨v2, out, vs, rfl, o2, hlen, hsa, c4, g4⟩
      obtain ⟨n2, HN2⟩ : ∃ n2, Hid (out.length = n2) := ⟨_, rfl⟩
      obtain ⟨A2, cap2, rfl, hn21, hn22⟩ := o2.form HN2.out
      have HD := Lib.hid (show DrewIL w w4 A q cap l A2 n2 cap2 out from ⟨KEEP.out _ (G2.out.trans g4), hn1, hq9, o2.hks, new_small4 hsa, below_new ((G1.out.trans G2.out).trans g4)⟩)
      clear hsa o2 g4
      go_wp2
      go_ret2
      exact ⟨A, q, cap, l, A2, n2, cap2, out, rfl, HD.out⟩
    | true =>
      go_wp2_with fail
      refine (other_any _ _ 30 _ _ _ l _ c2 (by omega) S2.out (by omega) HFI.out (by omega) (by omega)).mono ?_
      rintro e w4 ⟨v4, l4, rfl, s4⟩
      obtain ⟨q4, HN4⟩ : ∃ q4, Hid (l4.length = q4) := ⟨_, rfl⟩
      obtain ⟨A4, cap4, rfl, hn41, hn42⟩ := s4.own.form HN4.out
      have S4 := Lib.hid s4.own.strs
      have G4 := Lib.hid s4.grown
      have hl4 := s4.len
      clear s4
      go_wp2_with fail
      refine (specDiffHunks_any A q cap l A4 q4 cap4 l4 _ (KEEP.out _ (G2.out.trans G4.out)) S4.out hn41).mono ?_
      rintro e w5 ⟨v5, vs5, rfl, o5, b5⟩
      obtain ⟨n5, HN5⟩ : ∃ n5, Hid ((diffOf l l4).1.length = n5) := ⟨_, rfl⟩
      obtain ⟨A5, cap5, rfl, hn51, hn52⟩ := o5.form HN5.out
      have HD := Lib.hid (show DrewIL w w5 A q cap l A5 n5 cap5 (diffOf l l4).1 from ⟨(KEEP.out _ (G2.out.trans G4.out)).below b5, hn1, hq9, o5.hks, diff_new (by omega), (below_new ((G1.out.trans G2.out).trans G4.out)).next b5⟩)
      clear o5 b5
      go_wp2
      go_ret2
      exact ⟨A, q, cap, l, A5, n5, cap5, _, rfl, HD.out⟩

set_option maxHeartbeats 4000000 in
set_option maxRecDepth 100000 in
theorem FnDiffs_any (w : World) (a : Option Addr) (n c : Nat) (ha : Bytes w a n) (b : Option Addr) (m d : Nat) (hb : Bytes w b m) :
    Calls Try.prog 3 #[.slice a n c, .slice b m d] w fun e w' => e = .returned (.bool true) ∧ Below w.heap.size w w' := by
  by_cases hbig : 1048576 < n + m
  · have hd : decide (1048576 < n + m) = true := by simpa using hbig
    go_enter Try.func3, Try.ntmps3
    go_wp2_with fail
    refine (big_any a b n m c d _ ha.1 hb.1).mono ?_
    rintro e w1 ⟨rfl, rfl⟩
    rw [hd]
    go_wp2
    go_ret
    exact ⟨rfl, Below.refl _ _⟩
  · have hd : decide (1048576 < n + m) = false := by simpa using hbig
    go_enter Try.func3, Try.ntmps3
    go_wp2_with fail
    refine (big_any a b n m c d _ ha.1 hb.1).mono ?_
    rintro e w1 ⟨rfl, rfl⟩
    rw [hd]
    go_wp2_with fail
    refine (DrawDiffHunks_any a n c _ ha (by omega)).mono ?_
    rintro e w1 ⟨A, na, ca, la, B, nb, cb, lb, rfl, sa, hca, sb, hcb, hna, hnb, b1⟩
    have SA := Lib.hid sa
    have SB := Lib.hid sb
    have HNA := Lib.hid sa.len
    have HNB := Lib.hid sb.len
    have B1 := Lib.hid b1
    clear sa sb b1
    obtain ⟨P, ok, HP⟩ : ∃ P ok, Hid (diffOf la lb = (P, ok)) := ⟨_, _, rfl⟩
    obtain ⟨np, HNP⟩ : ∃ np, Hid (P.length = np) := ⟨_, rfl⟩
    have heq := eqHS_refl P
    obtain ⟨one, HONE⟩ : ∃ one, Hid (bothB la lb = one) := ⟨_, rfl⟩
    obtain ⟨nn, HNN⟩ : ∃ nn, Hid ((hunksH la lb).length = nn) := ⟨_, rfl⟩
    have HND := Lib.hid (show needsOf la lb = ((nn : Int), one) by rw [← HNN.out, ← HONE.out]; unfold needsOf hunksH; cases bothB la lb <;> rfl)
    have hnn41 : nn ≤ 41 := by rw [← HNN.out]; exact hunksH_len la lb
    have HOK := Lib.hid (show ok = (one && decide (nn ≤ 20)) by
      have h1 : (diffOf la lb).2 = diffOk la lb := by unfold diffOf; split <;> simp_all
      rw [HP.out] at h1
      dsimp only at h1
      rw [h1, ← HONE.out, ← HNN.out]
      cases hq : bothB la lb
      · simp [diffOk, hq]
      · simp only [diffOk, hq, Bool.true_and, hunksH, if_pos]
        exact diff_good hq)
    go_wp2_with fail
    refine (implDiffHunks_any A na ca la B nb cb lb _ SA.out SB.out hcb).mono ?_
    rintro e w2 ⟨v2, vs2, rfl, o2, b2⟩
    rw [HP.out] at o2 ⊢
    dsimp only at o2 ⊢
    obtain ⟨AP, cp, rfl, hcp, _⟩ := o2.form HNP.out
    have PH := Lib.hid o2.hks
    have B2 := Lib.hid b2
    clear o2 b2
    go_wp2_with fail
    refine (specDiffHunks_any A na ca la B nb cb lb _ (SA.out.below B2.out) (SB.out.below B2.out) hcb).mono ?_
    rintro e w3 ⟨v3, vs3, rfl, o3, b3⟩
    rw [HP.out] at o3 ⊢
    dsimp only at o3 ⊢
    obtain ⟨AW, cw, rfl, _, _⟩ := o3.form HNP.out
    have PW := Lib.hid o3.hks
    have B3 := Lib.hid (B2.out.next b3)
    have PH3 := Lib.hid (PH.out.below b3)
    clear o3 b3
    go_wp2_with fail
    refine (implNeedsHunks_any A na ca la B nb cb lb _ (SA.out.below B3.out) (SB.out.below B3.out) hcb).mono ?_
    rintro e w4 ⟨rfl, b4⟩
    rw [HND.out]
    dsimp only
    have B4 := Lib.hid (B3.out.next b4)
    have PH4 := Lib.hid (PH3.out.below b4)
    have PW4 := Lib.hid (PW.out.below b4)
    clear b4
    go_wp2_with fail
    refine (specNeedsHunks_any A na ca la B nb cb lb _ (SA.out.below B4.out) (SB.out.below B4.out) hcb).mono ?_
    rintro e w5 ⟨rfl, b5⟩
    rw [HND.out]
    dsimp only
    have B5 := Lib.hid (B4.out.next b5)
    have PH5 := Lib.hid (PH4.out.below b5)
    have PW5 := Lib.hid (PW4.out.below b5)
    clear b5
    have hoo : (ok != ok) = false := by simp
    have hon : (one != one) = false := by simp
    have hnn : (nn != nn) = false := by simp
    go_wp2_with fail
    refine (sameHunks_any AP AW np np cp cw P P _ PH5.out PW5.out).mono ?_
    rintro e w6 ⟨rfl, b6⟩
    rw [heq]
    have B6 := Lib.hid (B5.out.next b6)
    have PH6 := Lib.hid (PH5.out.below b6)
    clear b6
    have BX := Lib.hid (B1.out.next B6.out)
    cases ok with
    | false =>
      have BY := BX.out
      cases one with
      | false =>
        go_wp2_with fail
        refine (DrawIsLeast_any b m d _ (hb.below BY) (by omega)).mono ?_
        rintro e t1 ⟨D1, p1, e1, x1, D2, p2, e2, x2, rfl, r1, r2, r3, r4, r5, r6⟩
        have R := Lib.hid (BY.next r6)
        have R5 := Lib.hid r5
        clear r5 r6
        obtain ⟨k5, y5, H5⟩ : ∃ k5 y5, Hid (leastOf x1 x2 = (k5, y5)) := ⟨_, _, rfl⟩
        have h55 : (y5 == y5) = true := by simp
        have h66 : (k5 == k5) = true := by simp
        go_wp2_with fail
        refine (implIsLeast_any D1 p1 e1 x1 D2 p2 e2 x2 _ r1 r2 r4 (by omega)).mono ?_
        rintro e t2 ⟨rfl, v2⟩
        rw [H5.out]
        dsimp only
        go_wp2_with fail
        refine (specIsLeast_any D1 p1 e1 x1 D2 p2 e2 x2 _ (r1.below v2) r2 (r4.below v2) R5.out (by omega)).mono ?_
        rintro e t3 ⟨rfl, v3⟩
        rw [H5.out]
        dsimp only
        go_wp2
        go_ret
        exact ⟨rfl, R.out.next (v2.next v3)⟩
      | true =>
        have hle : decide (nn ≤ 20) = false := by have := HOK.out; simpa using this.symm
        have hlei : decide ((nn : Int) ≤ 20) = false := by simp at hle ⊢; omega
        go_wp2_with fail
        refine (DrawIsLeast_any b m d _ (hb.below BY) (by omega)).mono ?_
        rintro e t1 ⟨D1, p1, e1, x1, D2, p2, e2, x2, rfl, r1, r2, r3, r4, r5, r6⟩
        have R := Lib.hid (BY.next r6)
        have R5 := Lib.hid r5
        clear r5 r6
        obtain ⟨k5, y5, H5⟩ : ∃ k5 y5, Hid (leastOf x1 x2 = (k5, y5)) := ⟨_, _, rfl⟩
        have h55 : (y5 == y5) = true := by simp
        have h66 : (k5 == k5) = true := by simp
        go_wp2_with fail
        refine (implIsLeast_any D1 p1 e1 x1 D2 p2 e2 x2 _ r1 r2 r4 (by omega)).mono ?_
        rintro e t2 ⟨rfl, v2⟩
        rw [H5.out]
        dsimp only
        go_wp2_with fail
        refine (specIsLeast_any D1 p1 e1 x1 D2 p2 e2 x2 _ (r1.below v2) r2 (r4.below v2) R5.out (by omega)).mono ?_
        rintro e t3 ⟨rfl, v3⟩
        rw [H5.out]
        dsimp only
        go_wp2
        go_ret
        exact ⟨rfl, R.out.next (v2.next v3)⟩
    | true =>
      have hone : one = true := by have := HOK.out; cases one <;> simp at this; rfl
      subst hone
      have hle : decide (nn ≤ 20) = true := by have := HOK.out; simpa using this.symm
      have hlei : decide ((nn : Int) ≤ 20) = true := by simp at hle ⊢; omega
      have hdok : diffOk la lb = true := by
        have h1 := HP.out
        unfold diffOf at h1
        split at h1
        · assumption
        · cases h1
      obtain ⟨hbb, hgd, hpo⟩ := diff_ok hdok
      have HPP := Lib.hid (show P = diffH la lb by have h1 := HP.out; rw [diffOf_yes hdok] at h1; injection h1 with h1 h2; exact h1.symm)
      obtain rfl : np = nn := by
        rw [← HNP.out, ← HNN.out, HPP.out]; unfold hunksH; rw [if_pos hbb]
      have HPT := Lib.hid (show patchOf la P = (lb, true) by rw [HPP.out, patchOf_yes hpo, diff_patch])
      have HLS := Lib.hid (show leastOf la P = (true, true) by rw [HPP.out]; exact diff_least hdok)
      have HFW := Lib.hid (show few P by rw [HPP.out]; exact few_good hgd)
      have hsm := sums_few HFW.out.2
      have hl20 := HFW.out.1
      obtain ⟨x, Hx⟩ : ∃ x, Hid (goneSum P = x) := ⟨_, rfl⟩
      obtain ⟨y, Hy⟩ : ∃ y, Hid (comeSum P = y) := ⟨_, rfl⟩
      have HAP := Lib.hid (show apartOf la lb = (x + y, true) by rw [apartOf_yes hbb, ← diff_sums hbb, ← HPP.out, Hx.out, Hy.out])
      rw [Hx.out, Hy.out] at hsm
      obtain ⟨s1, s2, s3, s4⟩ := hsm
      have s2' : x ≤ 20000 := by omega
      have s4' : y ≤ 20000 := by omega
      obtain ⟨yt, Hyt⟩ : ∃ yt, Hid (eqT la lb = yt) := ⟨_, rfl⟩
      have hnone : (np == 0) = yt := by
        rw [← Hyt.out, ← diff_none hdok, ← HNP.out, HPP.out, Bool.eq_iff_iff]; simp
      have hnonei : ((np : Int) == 0) = yt := by
        rw [← hnone, Bool.eq_iff_iff]; simp
      have teq := eqT_refl lb
      have hyy : (yt != yt) = false := by simp
      have hxy : ((x + y) != (x + y)) = false := by simp
      clear s2 s4 hl20 hdok hbb hgd hpo
      go_wp2_with fail
      refine (implPatch_any A na ca la AP np cp P _ (SA.out.below B6.out) hca PH6.out (by omega)).mono ?_
      rintro e w7 ⟨v7, rfl, o7, b7⟩
      rw [HPT.out] at o7 ⊢
      dsimp only at o7 ⊢
      obtain ⟨A7, c7, rfl, _, _⟩ := o7.form HNB.out
      have O7 := Lib.hid o7.strs
      have B7 := Lib.hid (B6.out.next b7)
      have PH7 := Lib.hid (PH6.out.below b7)
      clear o7 b7
      go_wp2_with fail
      refine (implIsLeast_any A na ca la AP np cp P _ (SA.out.below B7.out) hca PH7.out (by omega)).mono ?_
      rintro e w8 ⟨rfl, b8⟩
      rw [HLS.out]
      dsimp only
      have B8 := Lib.hid (B7.out.next b8)
      have PH8 := Lib.hid (PH7.out.below b8)
      have O8 := Lib.hid (O7.out.below b8)
      clear b8
      go_wp2_with fail
      refine (implFarApart_any A na ca la B nb cb lb _ (SA.out.below B8.out) (SB.out.below B8.out)).mono ?_
      rintro e w9 ⟨rfl, b9⟩
      rw [HAP.out]
      dsimp only
      have B9 := Lib.hid (B8.out.next b9)
      have PH9 := Lib.hid (PH8.out.below b9)
      have O9 := Lib.hid (O8.out.below b9)
      clear b9
      go_wp2_with fail
      refine (implCountHunks_few AP np cp P _ PH9.out HFW.out).mono ?_
      rintro e w10 ⟨rfl, b10⟩
      rw [Hx.out, Hy.out]
      have B10 := Lib.hid (B9.out.next b10)
      have O10 := Lib.hid (O9.out.below b10)
      clear b10
      go_wp2_with fail
      refine (sameTexts_any A7 B nb nb c7 cb lb lb _ O10.out (SB.out.below B10.out)).mono ?_
      rintro e w11 ⟨rfl, d11⟩
      rw [teq]
      have B11 := Lib.hid (B10.out.next d11.below)
      clear d11
      go_wp2_with fail
      refine (sameTexts_any A B na nb ca cb la lb _ (SA.out.below B11.out) (SB.out.below B11.out)).mono ?_
      rintro e w12 ⟨rfl, d12⟩
      rw [Hyt.out]
      have B12 := Lib.hid (B11.out.next d12.below)
      have BY := B1.out.next B12.out
      clear d12
      go_wp2_with fail
      refine (DrawIsLeast_any b m d _ (hb.below BY) (by omega)).mono ?_
      rintro e t1 ⟨D1, p1, e1, x1, D2, p2, e2, x2, rfl, r1, r2, r3, r4, r5, r6⟩
      have R := Lib.hid (BY.next r6)
      have R5 := Lib.hid r5
      clear r5 r6
      obtain ⟨k5, y5, H5⟩ : ∃ k5 y5, Hid (leastOf x1 x2 = (k5, y5)) := ⟨_, _, rfl⟩
      have h55 : (y5 == y5) = true := by simp
      have h66 : (k5 == k5) = true := by simp
      go_wp2_with fail
      refine (implIsLeast_any D1 p1 e1 x1 D2 p2 e2 x2 _ r1 r2 r4 (by omega)).mono ?_
      rintro e t2 ⟨rfl, v2⟩
      rw [H5.out]
      dsimp only
      go_wp2_with fail
      refine (specIsLeast_any D1 p1 e1 x1 D2 p2 e2 x2 _ (r1.below v2) r2 (r4.below v2) R5.out (by omega)).mono ?_
      rintro e t3 ⟨rfl, v3⟩
      rw [H5.out]
      dsimp only
      go_wp2
      go_ret
      exact ⟨rfl, R.out.next (v2.next v3)⟩

end Go.Proofs.Ytdejlepgihgfgaa
