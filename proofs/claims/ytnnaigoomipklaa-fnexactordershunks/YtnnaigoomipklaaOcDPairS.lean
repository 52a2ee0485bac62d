/-
  The model's least pairs.
-/
import Derived.Test.YtnnaigoomipklaaOcDTabT
set_option linter.unusedSimpArgs false
set_option linter.unusedVariables false
namespace Go.Proofs.Ytnnaigoomipklaa.M

/-- The least pair of those that were looked at and may be the next one; the ends where there is none. -/
def best (a b : List ByteArray) (i j : Nat) (E : Nat × Nat → Prop) (x y : Nat) : Prop :=
  (x = a.length ∧ y = b.length ∧ ∀ q ∈ hits a b, nextP a b i j q → ¬ E q) ∨ ((x, y) ∈ hits a b ∧ nextP a b i j (x, y) ∧ ∀ q ∈ hits a b, nextP a b i j q → E q → ¬ ltP q (x, y))
theorem best_same {a b : List ByteArray} {i j : Nat} {E E' : Nat × Nat → Prop} {x y : Nat} (h : best a b i j E x y) (he : ∀ q ∈ hits a b, nextP a b i j q → E' q → E q) : best a b i j E' x y := by
  rcases h with ⟨h1, h2, h3⟩ | ⟨h1, h2, h3⟩
  · exact .inl ⟨h1, h2, fun q hq hn e => h3 q hq hn (he q hq hn e)⟩
  · exact .inr ⟨h1, h2, fun q hq hn e => h3 q hq hn (he q hq hn e)⟩
def EO (r : Nat) (q : Nat × Nat) : Prop := r ≤ q.1
def EI (p c : Nat) (q : Nat × Nat) : Prop := p < q.1 ∨ (q.1 = p ∧ c ≤ q.2)
theorem best_start (a b : List ByteArray) (i j : Nat) : best a b i j (EO a.length) a.length b.length :=
  .inl ⟨rfl, rfl, fun q hq _ e => by have := (hits_mem.1 hq).1; unfold EO at e; omega⟩
theorem best_row {a b : List ByteArray} {i j p x y : Nat} (h : best a b i j (EO (p + 1)) x y) : best a b i j (EI p b.length) x y :=
  best_same h (fun q hq _ e => by have := (hits_mem.1 hq).2.1; unfold EO; unfold EI at e; omega)
theorem best_no {a b : List ByteArray} {i j p c x y : Nat} (h : best a b i j (EI p (c + 1)) x y) (hn : ¬ ((p, c) ∈ hits a b ∧ nextP a b i j (p, c))) : best a b i j (EI p c) x y :=
  best_same h (fun q hq hx e => by
    have hne : q ≠ (p, c) := fun e2 => hn ⟨e2 ▸ hq, e2 ▸ hx⟩
    have hne2 : ¬ (q.1 = p ∧ q.2 = c) := fun e2 => hne (Prod.ext e2.1 e2.2)
    unfold EI at e ⊢
    omega)
theorem best_yes {a b : List ByteArray} {i j p c x y : Nat} (h1 : (p, c) ∈ hits a b) (h2 : nextP a b i j (p, c)) : best a b i j (EI p c) p c :=
  .inr ⟨h1, h2, fun q hq hx e hl => by
    unfold EI at e
    unfold ltP at hl
    dsimp only at hl
    omega⟩
theorem best_done {a b : List ByteArray} {i j p x y : Nat} (h : best a b i j (EI p j) x y) : best a b i j (EO p) x y :=
  best_same h (fun q hq hx e => by
    have h1 := hx.2.1
    unfold EO at e
    unfold EI
    omega)
theorem best_end {a b : List ByteArray} {i j x y : Nat} (h : best a b i j (EO i) x y) (hp : 0 < tab a b i j) : (x, y) ∈ hits a b ∧ nextP a b i j (x, y) ∧ pairsFrom a b i j = (x, y) :: pairsFrom a b (x + 1) (y + 1) := by
  rcases h with ⟨h1, h2, h3⟩ | ⟨h1, h2, h3⟩
  · obtain ⟨q, hq, hn⟩ := next_ex _ i j (Nat.le_refl _) hp
    exact absurd hn.1 (h3 q hq hn)
  · exact ⟨h1, h2, pairs_least h1 h2 (fun q hq hn => h3 q hq hn hn.1)⟩

end Go.Proofs.Ytnnaigoomipklaa.M
namespace Go.Proofs.Ytnnaigoomipklaa
open Go.RowKit M

theorem OwnP.nil_ {w : World} {base : Nat} : OwnP w base (.slice none 0 0) [] := w.ownsRow_nil base _ _
theorem OwnP.below {w w' : World} {base : Nat} {v : Value} {L : List (Nat × Nat)} (h : OwnP w base v L) (hb : Below w.heap.size w w') : OwnP w' base v L := ownsRow_wrote (S := fun _ => False) h (Wrote.of_below hb) (fun _ _ e => e)
theorem OwnP.more_ {w : World} {base b2 : Nat} {v : Value} {L : List (Nat × Nat)} (h : OwnP w base v L) (hb : b2 ≤ base) : OwnP w b2 v L := by
  refine ⟨h.1, ?_⟩
  rcases h.2 with h1 | ⟨g, cap, cur, h1, h2, h3⟩
  · exact .inl h1
  · exact .inr ⟨g, cap, cur, h1, by omega, h3⟩

set_option maxHeartbeats 4000000 in
set_option maxRecDepth 100000 in
theorem l3Pairs_any (aA : Option Addr) (na ca : Nat) (la : List ByteArray) (bA : Option Addr) (nb cb : Nat) (lb : List ByteArray) (w : World) (ha : Strs w aA na la) (hbS : Strs w bA nb lb) (hna : na ≤ 40) (hnb : nb ≤ 40) :
    Calls Try.prog 81 #[.slice aA na ca, .slice bA nb cb] w fun e w' => ∃ v, e = .returned v ∧ OwnP w' w.heap.size v (pairsOf la lb) ∧ Below w.heap.size w w' := by
  have HNA := Lib.hid ha.len
  have HNB := Lib.hid hbS.len
  have HA := Lib.hid ha
  have HB := Lib.hid hbS
  clear ha hbS
  go_enter Try.func81, Try.ntmps81
  go_wp2_with fail
  refine (l3Table_any aA na ca la bA nb cb lb _ HA.out HB.out hna hnb).mono ?_
  rintro e w1 ⟨g, gs, T, rfl, s1, t1, l1, b1⟩
  obtain ⟨n1, Hn1⟩ : ∃ n1, Hid (n1 = na + 1) := ⟨_, rfl⟩
  obtain ⟨m1, Hm1⟩ : ∃ m1, Hid (m1 = nb + 1) := ⟨_, rfl⟩
  rw [← Hn1.out] at s1 ⊢
  rw [← Hm1.out] at s1
  have HS := Lib.hid s1
  have HT := Lib.hid t1
  have B1 := Lib.hid b1
  clear s1 t1 b1 l1
  go_wp2
  go_loopw [6, 7, 8] (fun v x y w' => ∃ i j : Nat, ∃ out, x = .int .i64 i ∧ y = .int .i64 j ∧ i ≤ na ∧ j ≤ nb ∧ OwnP w' w1.heap.size v out ∧ Hid (out.length ≤ i) ∧ Hid (out ++ pairsFrom la lb i j = pairsOf la lb) ∧ Below w1.heap.size w1 w') (fun _ x _ _ => na - (intOf x).toNat)
  case atStart => exact ⟨0, 0, [], rfl, rfl, by omega, by omega, OwnP.nil_, show _ ≤ _ by simp, rfl, Below.refl _ _⟩
  case round =>
    obtain ⟨i, j, out, rfl, rfl, hi, hj, ho, HOL, HP, hb⟩ := hrel
    have hik : i < n1 := by rw [Hn1.out]; omega
    have hjm : j < m1 := by rw [Hm1.out]; omega
    obtain ⟨x0, hx0⟩ := HS.out.get hik
    have HX0 := Lib.hid hx0
    have HSr := Lib.hid (HS.out.below hb)
    have k1 := HSr.out.outer hx0
    have k3 := HSr.out.cell hx0 hjm
    rw [HT.out i j hi hj] at k3
    obtain ⟨d, Hd⟩ : ∃ d, Hid (tab la lb i j = d) := ⟨_, rfl⟩
    rw [Hd.out] at k3
    have d40 : d ≤ 40 := by rw [← Hd.out]; have := (tab_le la lb i j).1; rw [HNA.out] at this; omega
    have HO := Lib.hid ho
    clear hx0 ho
    by_cases hd0 : d = 0
    · have hdd : decide (0 < d) = false := by simp; omega
      have HE := Lib.hid (show out = pairsOf la lb by have h1 := HP.out; rw [pairs_nil (by rw [Hd.out]; exact hd0), List.append_nil] at h1; exact h1)
      go_wp2
      go_ret
      exact ⟨_, rfl, by rw [← HE.out]; exact HO.out.more_ B1.out.size, B1.out.next hb⟩
    · have hdd : decide (0 < d) = true := by simp; omega
      have hdp := Lib.hid (show 0 < tab la lb i j by rw [Hd.out]; omega)
      clear hd0
      go_wp2
      go_loopw [9, 10, 11] (fun x y p w' => ∃ xx yy r : Nat, x = .int .i64 xx ∧ y = .int .i64 yy ∧ p = .int .i64 ((r : Int) - 1) ∧ i ≤ r ∧ r ≤ na ∧ Hid (best la lb i j (EO r) xx yy) ∧ Drawn wr w') (fun _ _ p _ => (intOf p + 1).toNat)
      case atStart => exact ⟨na, nb, na, rfl, rfl, rfl, hi, Nat.le_refl _, by rw [← HNA.out, ← HNB.out]; exact best_start la lb i j, Drawn.refl _⟩
      case round =>
        obtain ⟨xx, yy, r, rfl, rfl, rfl, hri, hrn, HBE, hdr⟩ := hrel
        by_cases hr : r = i
        · subst hr
          have hge : decide ((r : Int) ≤ (r : Int) - 1) = false := by simp; omega
          obtain ⟨h1, h2, h3⟩ := best_end HBE.out hdp.out
          obtain ⟨hx1, hy1, _⟩ := hits_mem.1 h1
          have hn1 := h2.1
          dsimp only at hx1 hy1 hn1
          rw [HNA.out] at hx1
          rw [HNB.out] at hy1
          have HNX := Lib.hid h3
          have HO2 := Lib.hid (HO.out.below hdr.below)
          have B2 := Lib.hid (hb.next hdr.below)
          have hol : out.length ≤ 40 := by have := HOL.out; omega
          clear h1 h2 h3
          go_wp2_with (first
            | (at_builtin; refine wpList_pair (.tmp 75) (.tmp 79) w1.heap.size u6 out (HO2.out.alloc _) (xx, yy) wr.heap.size (by simp) (by simp) (by omega) (by have := B2.out.size; simp; omega) rfl rfl rfl rfl ?_
               intro v5 w5 o5 g5 p5
               have HO5 := Lib.hid o5
               have B5 := Lib.hid (Below.grown (B2.out.next (below_alloc _ _)) g5 (by have := B2.out.size; simp; omega) (fun k e => (World.ownsRow.lt HO2.out k e).1))
               clear o5 g5 p5)
            | fail)
          go_roundw
          case rel => exact ⟨xx + 1, yy + 1, out ++ [(xx, yy)], by go_num, by go_num, by omega, by omega, HO5.out, show _ ≤ _ by have := HOL.out; simp; omega, show _ = _ by rw [← HP.out, HNX.out]; simp, B5.out⟩
          case measure => simp [intOf]; omega
        · obtain ⟨p, rfl⟩ : ∃ p, r = p + 1 := ⟨r - 1, by omega⟩
          rw [show ((p + 1 : Nat) : Int) - 1 = (p : Int) from by omega]
          have hpi : decide ((i : Nat) ≤ p) = true := by simp; omega
          have hpn : p < na := by omega
          have hpi' : i ≤ p := by omega
          go_wp2
          go_loopw [9, 10, 12] (fun x y q w' => ∃ xx yy c : Nat, x = .int .i64 xx ∧ y = .int .i64 yy ∧ q = .int .i64 ((c : Int) - 1) ∧ j ≤ c ∧ c ≤ nb ∧ Hid (best la lb i j (EI p c) xx yy) ∧ Drawn wr w') (fun _ _ q _ => (intOf q + 1).toNat)
          case atStart => exact ⟨xx, yy, nb, rfl, rfl, rfl, hj, Nat.le_refl _, by rw [← HNB.out]; exact best_row HBE.out, Drawn.refl _⟩
          case round =>
            obtain ⟨xx, yy, c, rfl, rfl, rfl, hcj, hcn, HBE, hdr2⟩ := hrel
            by_cases hc : c = j
            · subst hc
              have hge : decide ((c : Int) ≤ (c : Int) - 1) = false := by simp; omega
              go_wp2
              go_roundw
              case rel => exact ⟨xx, yy, p, rfl, rfl, rfl, hpi', by omega, best_done HBE.out, hdr.trans hdr2⟩
              case measure => simp [intOf]
            · obtain ⟨q, rfl⟩ : ∃ q, c = q + 1 := ⟨c - 1, by omega⟩
              rw [show ((q + 1 : Nat) : Int) - 1 = (q : Int) from by omega]
              have hqj : decide ((j : Nat) ≤ q) = true := by simp; omega
              have hqn : q < nb := by omega
              have hqj' : j ≤ q := by omega
              obtain ⟨p', Hp'⟩ : ∃ p', Hid (p' = p + 1) := ⟨_, rfl⟩
              obtain ⟨q', Hq'⟩ : ∃ q', Hid (q' = q + 1) := ⟨_, rfl⟩
              have hp'I : IntKind.i64.wrap ((p : Int) + 1) = (p' : Int) := by rw [Hp'.out, IntKind.wrap_i64]; omega
              have hq'I : IntKind.i64.wrap ((q : Int) + 1) = (q' : Int) := by rw [Hq'.out, IntKind.wrap_i64]; omega
              have hpk' : p' < n1 := by rw [Hn1.out, Hp'.out]; omega
              have hqm' : q' < m1 := by rw [Hm1.out, Hq'.out]; omega
              have HS3 := Lib.hid (HSr.out.below (hdr.trans hdr2).below)
              have B3 := Lib.hid ((B1.out.next hb).next (hdr.trans hdr2).below)
              obtain ⟨x1, hx1⟩ := HS3.out.get hpk'
              have y1 := HS3.out.outer HX0.out
              have y2 := HS3.out.cell HX0.out hjm
              have y3 := HS3.out.outer hx1
              have y4 := HS3.out.cell hx1 hqm'
              rw [HT.out i j hi hj, Hd.out] at y2
              rw [HT.out p' q' (by rw [Hp'.out]; omega) (by rw [Hq'.out]; omega)] at y4
              obtain ⟨t6, Ht6⟩ : ∃ t, Hid (tab la lb p' q' = t) := ⟨_, rfl⟩
              rw [Ht6.out] at y4
              have h640 : t6 ≤ 40 := by rw [← Ht6.out]; have := (tab_le la lb p' q').1; rw [HNA.out] at this; omega
              obtain ⟨t7, Ht7⟩ : ∃ t, Hid (t6 + 1 = t) := ⟨_, rfl⟩
              have ht7I : IntKind.i64.wrap ((t6 : Int) + 1) = (t7 : Int) := by rw [← Ht7.out, IntKind.wrap_i64]; omega
              obtain ⟨b1, o1, s, rfl, hs, hs2, cs⟩ := (HA.out.below B3.out).at_ hpn
              obtain ⟨b2, o2, t, rfl, ht, ht2, ct⟩ := (HB.out.below B3.out).at_ hqn
              have HHs := Lib.hid hs
              have HHt := Lib.hid ht
              have hnp : nextP la lb i j (p, q) ↔ t7 = d := by
                rw [← Ht7.out, ← Ht6.out, ← Hd.out, Hp'.out, Hq'.out]
                exact ⟨fun h => h.2.2, fun h => ⟨hpi', hqj', h⟩⟩
              have HNP := Lib.hid hnp
              clear hs ht hx1 hnp
              by_cases hst : s = t
              · subst hst
                have hbq := beq_same s
                have HHIT := Lib.hid (show (p, q) ∈ hits la lb from hits_mem.2 ⟨by rw [HNA.out]; exact hpn, by rw [HNB.out]; exact hqn, HHs.out.trans HHt.out.symm⟩)
                by_cases hT : t7 = d
                · have hbt : ((t7 : Int) == (d : Int)) = true := by simp; omega
                  have HBY := Lib.hid (best_yes (x := xx) (y := yy) HHIT.out (HNP.out.2 hT))
                  clear hT
                  go_wp2
                  go_quiet (fail)
                  go_wp2
                  go_roundw
                  case rel => exact ⟨p, q, q, rfl, rfl, rfl, hqj', by omega, HBY, hdr2.more _⟩
                  case measure => simp [intOf]
                · have hbt : ((t7 : Int) == (d : Int)) = false := by simp; omega
                  have HBN := Lib.hid (best_no HBE.out (fun h => hT (HNP.out.1 h.2)))
                  clear hT
                  go_wp2
                  go_quiet (fail)
                  go_wp2
                  go_roundw
                  case rel => exact ⟨xx, yy, q, rfl, rfl, rfl, hqj', by omega, HBN, hdr2.more _⟩
                  case measure => simp [intOf]
              · have hbq := beq_other hst
                have HBN := Lib.hid (best_no HBE.out (fun h => hst (by
                  have h7 := (hits_mem.1 h.1).2.2
                  dsimp only at h7
                  rw [HHs.out, HHt.out] at h7
                  injection h7)))
                go_wp2
                go_quiet (fail)
                go_wp2
                go_roundw
                case rel => exact ⟨xx, yy, q, rfl, rfl, rfl, hqj', by omega, HBN, hdr2.more _⟩
                case measure => simp [intOf]

end Go.Proofs.Ytnnaigoomipklaa
