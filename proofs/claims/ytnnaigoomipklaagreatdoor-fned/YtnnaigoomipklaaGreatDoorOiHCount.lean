/-
  CountHunks where what goes is not too much, the program's and the model's; the laws' own comparison.
  The rest of what the program does about differences.
  The model's least pairs.
  Chapter 3 of the model.
  What the least hunks do: they make the one text of the other, and rise.
  From what a row lists of the library's variables to what a walk takes of them; the wrap of a contract that takes the world's shape too.
  OrdersHunks, the model's.
  EdText, the model's.
  OrdersHunks, the program's.
  The draws of the laws on orders.
  The laws' own comparison of orders, where both are the same.
  From what a row lists of the program's own table of orders' words to what a walk takes of it.
  The law FnEd.
-/
import Derived.Test.YtnnaigoomipklaaGreatDoorOiHGoods
import Derived.Test.YtnnaigoomipklaaGreatDoorOiHBases
import Derived.Test.YtnnaigoomipklaaGreatDoorOiDComI
import Derived.Test.YtnnaigoomipklaaGreatDoorOiHBack
import Derived.Test.YtnnaigoomipklaaGreatDoorOiDTabS
import Derived.Test.YtnnaigoomipklaaGreatDoorRows
import Derived.Test.YtnnaigoomipklaaGreatDoorOiNVars
import Derived.Stop.LaidErr
import Derived.LaidMore
import Derived.LaidHandle
import Derived.ProofKit
import Derived.Stop.Joined
import Derived.HandedShaped
import Derived.Test.YtnnaigoomipklaaGreatDoorOiORunS
import Derived.Test.YtnnaigoomipklaaGreatDoorOiOEdS
import Derived.Test.YtnnaigoomipklaaGreatDoorOiNSpecs
import Derived.Test.YtnnaigoomipklaaGreatDoorOiORunI
import Derived.Test.YtnnaigoomipklaaGreatDoorOiDraw2
import Derived.Test.YtnnaigoomipklaaGreatDoorOiDraw
import Derived.Test.YtnnaigoomipklaaGreatDoorOiMemT
import Derived.BigQuiet
import Derived.Test.YtnnaigoomipklaaGreatDoorOiOMem
import Derived.Test.YtnnaigoomipklaaGreatDoorOiText
import Derived.OpenShut
import Derived.ChangeArms
import Derived.Test.YtnnaigoomipklaaGreatDoorOiBase
import Derived.Test.YtnnaigoomipklaaGreatDoorOiGood
import Derived.Test.YtnnaigoomipklaaGreatDoorOiORun
import Derived.Test.YtnnaigoomipklaaGreatDoorOiOLaws
import Derived.Test.YtnnaigoomipklaaGreatDoorOiOGoodK
import Derived.Test.YtnnaigoomipklaaGreatDoorOiOEdI
set_option linter.unusedSimpArgs false
set_option linter.unusedVariables false
namespace Go.Proofs.YtnnaigoomipklaaGreatDoor
open Go.RowKit M

set_option maxHeartbeats 2000000 in
theorem sameHunks_any (a b : Option Addr) (n m c d : Nat) (l r : List Hk) (w : World) (hl : Hks w a n l) (hr : Hks w b m r) :
    Calls Tryz.prog 31 #[.slice a n c, .slice b m d] w fun e w' => e = .returned (.bool (eqHS l r)) ∧ Below w.heap.size w w' := by
  have HL := Lib.hid hl.len
  have HR := Lib.hid hr.len
  have hlim := hl.lim
  unfold maxLen at hlim
  by_cases hnm : n = m
  · subst hnm
    have hq : ((n : Int) != (n : Int)) = false := by simp
    go_enter Tryz.func31, Tryz.ntmps31
    go_wp2
    go_loopw [14] (fun i w' => ∃ k : Nat, i = .int .i64 k ∧ k ≤ n ∧ Hid (∀ j s t, j < k → l[j]? = some s → r[j]? = some t → eqH s t = true) ∧ Below w.heap.size w w') (fun i _ => n - (intOf i).toNat)
    case atStart => exact ⟨0, rfl, by omega, fun j s t h => by omega, Below.refl _ _⟩
    case round =>
      obtain ⟨k, rfl, hk, H, hb⟩ := hrel
      by_cases hlt : k < n
      · obtain ⟨b1, off1, A1, m1, c1, x, rfl, hx, d0, d1, d2, hs1, _, _, _⟩ := (hl.below hb).at_ hlt
        obtain ⟨b2, off2, A2, m2, c2, y, rfl, hy, e0, e1, e2, hs2, _, _, _⟩ := (hr.below hb).at_ hlt
        have HX := Lib.hid hx
        have HY := Lib.hid hy
        clear hx hy
        have hi0 : (0 : Int) ≤ (k : Int) := by omega
        have hi1 : (k : Int) < (n : Int) := by omega
        have hp0 : ∀ o, (wr.alloc o).cell? ⟨b2, off2 + k * 3, none⟩ = some (.int .i64 y.at_) := fun o => cell_keep (below_alloc wr o) e0
        have hp1 : ∀ o, (wr.alloc o).cell? ⟨b2, off2 + k * 3 + 1, none⟩ = some (.int .i64 y.gone) := fun o => cell_keep (below_alloc wr o) e1
        have hp2 : ∀ o, (wr.alloc o).cell? ⟨b2, off2 + k * 3 + 2, none⟩ = some (.slice A2 m2 c2) := fun o => cell_keep (below_alloc wr o) e2
        have hbn := hb.next (below_alloc wr (.cells #[.int .i64 x.at_, .int .i64 x.gone, .slice A1 m1 c1] 105))
        by_cases h1 : x.at_ = y.at_
        · have q1 : (x.at_ != y.at_) = false := by simp [h1]
          by_cases h2 : x.gone = y.gone
          · have q2 : (x.gone != y.gone) = false := by simp [h2]
            have hf := Lib.hid (show eqH x y = eqT x.new y.new by simp [eqH, h1, h2])
            clear h1 h2
            cases hq2 : eqT x.new y.new
            · have hf := Lib.hid (eqHS_at HX.out HY.out (by rw [hf.out]; exact hq2))
              go_wp2
              go_quiet (first | (go_at_call 26; refine Calls.quiet_of (sameTexts_any A1 A2 m1 m2 c1 c2 x.new y.new _ ?_ ?_); exact hs1.below (below_drewN (below_alloc _ _) _); exact hs2.below (below_drewN (below_alloc _ _) _)))
              go_wp2
              go_ret
              exact ⟨ret_bool hf.out.symm, below_drewN hbn _⟩
            · have HST := Lib.hid (hf.out.trans hq2)
              go_wp2
              go_quiet (first | (go_at_call 26; refine Calls.quiet_of (sameTexts_any A1 A2 m1 m2 c1 c2 x.new y.new _ ?_ ?_); exact hs1.below (below_drewN (below_alloc _ _) _); exact hs2.below (below_drewN (below_alloc _ _) _)))
              go_wp2
              go_roundw
              case rel => exact ⟨k + 1, by go_num, by omega, eqH_step H.out HX.out HY.out HST.out, below_drewN hbn _⟩
              case measure => simp [intOf]; omega
          · have q2 : (x.gone != y.gone) = true := by simp [h2]
            have hf := Lib.hid (eqHS_at HX.out HY.out (show eqH x y = false by simp [eqH, h2]))
            clear h1 h2
            go_wp2
            go_quiet (fail)
            go_wp2
            go_ret
            exact ⟨ret_bool hf.out.symm, below_drewN hbn _⟩
        · have q1 : (x.at_ != y.at_) = true := by simp [h1]
          have hf := Lib.hid (eqHS_at HX.out HY.out (show eqH x y = false by simp [eqH, h1]))
          clear h1
          go_wp2
          go_quiet (fail)
          go_wp2
          go_ret
          exact ⟨ret_bool hf.out.symm, below_drewN hbn _⟩
      · have hf := Lib.hid (eqHS_all (fun j s t h1 h2 => H.out j s t (by have := (List.getElem?_eq_some_iff.1 h1).1; have := HL.out; omega) h1 h2) (HL.out.trans HR.out.symm))
        go_wp2
        go_ret
        exact ⟨ret_bool hf.out.symm, hb⟩
  · have hq : ((n : Int) != (m : Int)) = true := by simp; omega
    have hf := Lib.hid (eqHS_len (l := l) (r := r) (by rw [HL.out, HR.out]; exact hnm))
    go_enter Tryz.func31, Tryz.ntmps31
    go_wp2
    go_ret
    exact ⟨ret_bool hf.out.symm, Below.refl _ _⟩

end Go.Proofs.YtnnaigoomipklaaGreatDoor

namespace Go.Proofs.YtnnaigoomipklaaGreatDoor
open Go.RowKit M

theorem linesC_len (a b : List ByteArray) : (linesC a b).1.length ≤ 40 := by
  unfold linesC
  split
  · next h =>
    have h1 := goodB_len (bothB_parts h).1
    have h2 := lcs_le_left a b
    dsimp only
    rw [pairs_count]
    omega
  · simp
theorem bothB_ok (a b : List ByteArray) : (linesC a b).2 = bothB a b := by unfold linesC; cases bothB a b <;> rfl

def hunksH (a b : List ByteArray) : List Hk := if bothB a b = true then diffH a b else []

set_option maxHeartbeats 1000000 in
theorem hunksBetween_any (aA : Option Addr) (na ca : Nat) (la : List ByteArray) (bA : Option Addr) (nb cb : Nat) (lb : List ByteArray) (w : World) (ha : Strs w aA na la) (hbS : Strs w bA nb lb) (hcb : nb ≤ cb) :
    Calls Tryz.prog 89 #[.slice aA na ca, .slice bA nb cb] w fun e w' => ∃ v vs, e = .returned (.tuple #[v, .bool (bothB la lb)]) ∧ OwnH w' w.heap.size v (hunksH la lb) vs ∧ Below w.heap.size w w' := by
  have HNA := Lib.hid ha.len
  have HNB := Lib.hid hbS.len
  have HB := Lib.hid hbS
  have ho := Lib.hid (bothB_ok la lb)
  have hll := linesC_len la lb
  cases hq : bothB la lb
  · have hf := Lib.hid (show hunksH la lb = [] by simp [hunksH, hq])
    go_enter Tryz.func89, Tryz.ntmps89
    go_wp2_with fail
    refine (implCommonLines_any aA na ca la bA nb cb lb _ ha hbS).mono ?_
    rintro e w1 ⟨v, gs, rfl, o1, b1⟩
    rw [ho.out, hq]
    clear o1
    go_wp2
    go_ret2
    exact ⟨_, [], rfl, by rw [hf.out]; exact OwnH.nil_, b1⟩
  · have hf := Lib.hid (show hunksH la lb = joinFrom lb 0 0 (pairsOf la lb ++ [(na, nb)]) by rw [hunksH, if_pos hq, ← HNA.out, ← HNB.out]; rfl)
    have hl := Lib.hid (linesC_yes hq)
    have HR := Lib.hid (show rises 0 0 (pairsOf la lb ++ [(na, nb)]) by rw [← HNA.out, ← HNB.out]; exact stopsD_rise la lb)
    have HLE := Lib.hid (show ∀ s ∈ pairsOf la lb ++ [(na, nb)], s.1 ≤ na ∧ s.2 ≤ nb by intro s hs; rw [← HNA.out, ← HNB.out] at hs ⊢; exact stopsD_le hs)
    have hna : na ≤ 40 := by rw [← HNA.out]; exact goodB_len (bothB_parts hq).1
    have hnb : nb ≤ 40 := by rw [← HNB.out]; exact goodB_len (bothB_parts hq).2
    go_enter Tryz.func89, Tryz.ntmps89
    go_wp2_with fail
    refine (implCommonLines_any aA na ca la bA nb cb lb _ ha hbS).mono ?_
    rintro e w1 ⟨v, gs, rfl, o1, b1⟩
    rw [ho.out, hq]
    rw [hl.out] at o1 hll
    dsimp only at o1 hll
    obtain ⟨q, Hq⟩ : ∃ q, Hid ((pairsOf la lb).length = q) := ⟨_, rfl⟩
    obtain ⟨A, cap, hv, hqc⟩ := o1.form Hq.out
    subst hv
    rw [Hq.out] at hll
    have HP1 := Lib.hid o1.prs
    clear o1
    go_wp2_with fail
    refine (hunksAround_any aA na ca bA nb cb lb A q cap (pairsOf la lb) _ (HB.out.below b1) hcb HP1.out hqc HR.out HLE.out hna hnb hll).mono ?_
    rintro e w2 ⟨v2, vs2, rfl, o2, b2⟩
    have HO2 := Lib.hid o2
    clear o2
    go_wp2
    go_ret2
    exact ⟨_, vs2, rfl, by rw [hf.out]; exact HO2.out.more b1.size, b1.next b2⟩

theorem diffOk_goodH {a b : List ByteArray} (h : bothB a b = true) : diffOk a b = goodH a.length (hunksH a b) := by
  unfold diffOk hunksH; rw [h, if_pos rfl]; rfl
theorem diffOf_yes {a b : List ByteArray} (h : diffOk a b = true) : diffOf a b = (diffH a b, true) := if_pos h
theorem diffOf_no {a b : List ByteArray} (h : diffOk a b = false) : diffOf a b = ([], false) := if_neg (by simp [h])
theorem diffOk_no {a b : List ByteArray} (h : bothB a b = false) : diffOk a b = false := by simp [diffOk, h]

set_option maxHeartbeats 1000000 in
theorem implDiffHunks_any (aA : Option Addr) (na ca : Nat) (la : List ByteArray) (bA : Option Addr) (nb cb : Nat) (lb : List ByteArray) (w : World) (ha : Strs w aA na la) (hbS : Strs w bA nb lb) (hcb : nb ≤ cb) :
    Calls Tryz.prog 86 #[.slice aA na ca, .slice bA nb cb] w fun e w' => ∃ v vs, e = .returned (.tuple #[v, .bool (diffOf la lb).2]) ∧ OwnH w' w.heap.size v (diffOf la lb).1 vs ∧ Below w.heap.size w w' := by
  have HNA := Lib.hid ha.len
  cases hq : bothB la lb
  · have hf := Lib.hid (diffOf_no (diffOk_no hq))
    go_enter Tryz.func86, Tryz.ntmps86
    go_wp2_with fail
    refine (hunksBetween_any aA na ca la bA nb cb lb _ ha hbS hcb).mono ?_
    rintro e w1 ⟨v, vs, rfl, o1, b1⟩
    rw [hq]
    clear o1
    go_wp2
    go_ret2
    exact ⟨_, [], by rw [hf.out]; rfl, by rw [hf.out]; exact OwnH.nil_, b1⟩
  · have hg := Lib.hid (diffOk_goodH hq)
    have hna : na ≤ 40 := by rw [← HNA.out]; exact goodB_len (bothB_parts hq).1
    have hh := Lib.hid (show hunksH la lb = diffH la lb by rw [hunksH, if_pos hq])
    obtain ⟨y, Hy⟩ : ∃ y, Hid (goodH la.length (hunksH la lb) = y) := ⟨_, rfl⟩
    go_enter Tryz.func86, Tryz.ntmps86
    go_wp2_with fail
    refine (hunksBetween_any aA na ca la bA nb cb lb _ ha hbS hcb).mono ?_
    rintro e w1 ⟨v, vs, rfl, o1, b1⟩
    rw [hq]
    obtain ⟨q, Hq⟩ : ∃ q, Hid ((hunksH la lb).length = q) := ⟨_, rfl⟩
    obtain ⟨A, cap, hv, hqc, _⟩ := o1.form Hq.out
    subst hv
    have HO := Lib.hid o1
    clear o1
    go_wp2_with fail
    refine (implGoodHunks_any (na : Int) A q cap (hunksH la lb) _ HO.out.hks ⟨by omega, by omega⟩).mono ?_
    rintro e w2 ⟨rfl, b2⟩
    rw [← HNA.out, Hy.out]
    cases y with
    | false =>
      have hf := Lib.hid (diffOf_no (hg.out.trans Hy.out))
      go_wp2
      go_ret2
      exact ⟨_, [], by rw [hf.out]; rfl, by rw [hf.out]; exact OwnH.nil_, b1.next b2⟩
    | true =>
      have hf := Lib.hid (diffOf_yes (hg.out.trans Hy.out))
      go_wp2
      go_ret2
      exact ⟨_, vs, by rw [hf.out]; rfl, by rw [hf.out, ← hh.out]; exact HO.out.below b2, b1.next b2⟩

set_option maxHeartbeats 1000000 in
theorem implNeedsHunks_any (aA : Option Addr) (na ca : Nat) (la : List ByteArray) (bA : Option Addr) (nb cb : Nat) (lb : List ByteArray) (w : World) (ha : Strs w aA na la) (hbS : Strs w bA nb lb) (hcb : nb ≤ cb) :
    Calls Tryz.prog 32 #[.slice aA na ca, .slice bA nb cb] w fun e w' => e = .returned (.tuple #[.int .i64 (needsOf la lb).1, .bool (needsOf la lb).2]) ∧ Below w.heap.size w w' := by
  have hf := Lib.hid (show needsOf la lb = (((hunksH la lb).length : Int), bothB la lb) by unfold needsOf hunksH; cases bothB la lb <;> rfl)
  go_enter Tryz.func32, Tryz.ntmps32
  go_wp2_with fail
  refine (hunksBetween_any aA na ca la bA nb cb lb _ ha hbS hcb).mono ?_
  rintro e w1 ⟨v, vs, rfl, o1, b1⟩
  obtain ⟨q, Hq⟩ : ∃ q, Hid ((hunksH la lb).length = q) := ⟨_, rfl⟩
  obtain ⟨A, cap, hv, hqc, _⟩ := o1.form Hq.out
  subst hv
  clear o1
  go_wp2
  go_ret2
  exact ⟨by rw [hf.out, Hq.out]; rfl, b1⟩

end Go.Proofs.YtnnaigoomipklaaGreatDoor

namespace Go.Proofs.YtnnaigoomipklaaGreatDoor.M

/-- The least pair of those that were looked at and may be the next one; the ends where there is none. -/
def best (a b : List ByteArray) (i j : Nat) (E : Nat × Nat → Prop) (x y : Nat) : Prop :=
  (x = a.length ∧ y = b.length ∧ ∀ q ∈ hits a b, nextP a b i j q → ¬ E q) ∨ ((x, y) ∈ hits a b ∧ nextP a b i j (x, y) ∧ ∀ q ∈ hits a b, nextP a b i j q → E q → ¬ ltP q (x, y))
theorem best_same {a b : List ByteArray} {i j : Nat} {E E' : Nat × Nat → Prop} {x y : Nat} (h : best a b i j E x y) (he : ∀ q ∈ hits a b, nextP a b i j q → E' q → E q) : best a b i j E' x y := by
  rcases h with ⟨h1, h2, h3⟩ | ⟨h1, h2, h3⟩
  · exact .inl ⟨h1, h2, fun q hq hn e => h3 q hq hn (he q hq hn e)⟩
  · exact .inr ⟨h1, h2, fun q hq hn e => h3 q hq hn (he q hq hn e)⟩
def EO (r : Nat) (q : Nat × Nat) : Prop := r ≤ q.1
def EI (p c : Nat) (q : Nat × Nat) : Prop := p < q.1 ∨ (q.1 = p ∧ c ≤ q.2)
theorem best_start (a b : List ByteArray) (i j : Nat) : best a b i j (EO a.length) a.length b.length :=
  .inl ⟨rfl, rfl, fun q hq _ e => by have := (hits_mem.1 hq).1; unfold EO at e; omega⟩
theorem best_row {a b : List ByteArray} {i j p x y : Nat} (h : best a b i j (EO (p + 1)) x y) : best a b i j (EI p b.length) x y :=
  best_same h (fun q hq _ e => by have := (hits_mem.1 hq).2.1; unfold EO; unfold EI at e; omega)
theorem best_no {a b : List ByteArray} {i j p c x y : Nat} (h : best a b i j (EI p (c + 1)) x y) (hn : ¬ ((p, c) ∈ hits a b ∧ nextP a b i j (p, c))) : best a b i j (EI p c) x y :=
  best_same h (fun q hq hx e => by
    have hne : q ≠ (p, c) := fun e2 => hn ⟨e2 ▸ hq, e2 ▸ hx⟩
    have hne2 : ¬ (q.1 = p ∧ q.2 = c) := fun e2 => hne (Prod.ext e2.1 e2.2)
    unfold EI at e ⊢
    omega)
theorem best_yes {a b : List ByteArray} {i j p c x y : Nat} (h1 : (p, c) ∈ hits a b) (h2 : nextP a b i j (p, c)) : best a b i j (EI p c) p c :=
  .inr ⟨h1, h2, fun q hq hx e hl => by
    unfold EI at e
    unfold ltP at hl
    dsimp only at hl
    omega⟩
theorem best_done {a b : List ByteArray} {i j p x y : Nat} (h : best a b i j (EI p j) x y) : best a b i j (EO p) x y :=
  best_same h (fun q hq hx e => by
    have h1 := hx.2.1
    unfold EO at e
    unfold EI
    omega)
theorem best_end {a b : List ByteArray} {i j x y : Nat} (h : best a b i j (EO i) x y) (hp : 0 < tab a b i j) : (x, y) ∈ hits a b ∧ nextP a b i j (x, y) ∧ pairsFrom a b i j = (x, y) :: pairsFrom a b (x + 1) (y + 1) := by
  rcases h with ⟨h1, h2, h3⟩ | ⟨h1, h2, h3⟩
  · obtain ⟨q, hq, hn⟩ := next_ex _ i j (Nat.le_refl _) hp
    exact absurd hn.1 (h3 q hq hn)
  · exact ⟨h1, h2, pairs_least h1 h2 (fun q hq hn => h3 q hq hn hn.1)⟩

end Go.Proofs.YtnnaigoomipklaaGreatDoor.M
namespace Go.Proofs.YtnnaigoomipklaaGreatDoor
open Go.RowKit M

theorem OwnP.nil_ {w : World} {base : Nat} : OwnP w base (.slice none 0 0) [] := w.ownsRow_nil base _ _
theorem OwnP.below {w w' : World} {base : Nat} {v : Value} {L : List (Nat × Nat)} (h : OwnP w base v L) (hb : Below w.heap.size w w') : OwnP w' base v L := ownsRow_wrote (S := fun _ => False) h (Wrote.of_below hb) (fun _ _ e => e)
theorem OwnP.more_ {w : World} {base b2 : Nat} {v : Value} {L : List (Nat × Nat)} (h : OwnP w base v L) (hb : b2 ≤ base) : OwnP w b2 v L := by
  refine ⟨h.1, ?_⟩
  rcases h.2 with h1 | ⟨g, cap, cur, h1, h2, h3⟩
  · exact .inl h1
  · exact .inr ⟨g, cap, cur, h1, by omega, h3⟩

set_option maxHeartbeats 4000000 in
set_option maxRecDepth 100000 in
theorem l3Pairs_any (aA : Option Addr) (na ca : Nat) (la : List ByteArray) (bA : Option Addr) (nb cb : Nat) (lb : List ByteArray) (w : World) (ha : Strs w aA na la) (hbS : Strs w bA nb lb) (hna : na ≤ 40) (hnb : nb ≤ 40) :
    Calls Tryz.prog 192 #[.slice aA na ca, .slice bA nb cb] w fun e w' => ∃ v, e = .returned v ∧ OwnP w' w.heap.size v (pairsOf la lb) ∧ Below w.heap.size w w' := by
  have HNA := Lib.hid ha.len
  have HNB := Lib.hid hbS.len
  have HA := Lib.hid ha
  have HB := Lib.hid hbS
  clear ha hbS
  go_enter Tryz.func192, Tryz.ntmps192
  go_wp2_with fail
  refine (l3Table_any aA na ca la bA nb cb lb _ HA.out HB.out hna hnb).mono ?_
  rintro e w1 ⟨g, gs, T, rfl, s1, t1, l1, b1⟩
  obtain ⟨n1, Hn1⟩ : ∃ n1, Hid (n1 = na + 1) := ⟨_, rfl⟩
  obtain ⟨m1, Hm1⟩ : ∃ m1, Hid (m1 = nb + 1) := ⟨_, rfl⟩
  rw [← Hn1.out] at s1 ⊢
  rw [← Hm1.out] at s1
  have HS := Lib.hid s1
  have HT := Lib.hid t1
  have B1 := Lib.hid b1
  clear s1 t1 b1 l1
  go_wp2
  go_loopw [6, 7, 8] (fun v x y w' => ∃ i j : Nat, ∃ out, x = .int .i64 i ∧ y = .int .i64 j ∧ i ≤ na ∧ j ≤ nb ∧ OwnP w' w1.heap.size v out ∧ Hid (out.length ≤ i) ∧ Hid (out ++ pairsFrom la lb i j = pairsOf la lb) ∧ Below w1.heap.size w1 w') (fun _ x _ _ => na - (intOf x).toNat)
  case atStart => exact ⟨0, 0, [], rfl, rfl, by omega, by omega, OwnP.nil_, show _ ≤ _ by simp, rfl, Below.refl _ _⟩
  case round =>
    obtain ⟨i, j, out, rfl, rfl, hi, hj, ho, HOL, HP, hb⟩ := hrel
    have hik : i < n1 := by rw [Hn1.out]; omega
    have hjm : j < m1 := by rw [Hm1.out]; omega
    obtain ⟨x0, hx0⟩ := HS.out.get hik
    have HX0 := Lib.hid hx0
    have HSr := Lib.hid (HS.out.below hb)
    have k1 := HSr.out.outer hx0
    have k3 := HSr.out.cell hx0 hjm
    rw [HT.out i j hi hj] at k3
    obtain ⟨d, Hd⟩ : ∃ d, Hid (tab la lb i j = d) := ⟨_, rfl⟩
    rw [Hd.out] at k3
    have d40 : d ≤ 40 := by rw [← Hd.out]; have := (tab_le la lb i j).1; rw [HNA.out] at this; omega
    have HO := Lib.hid ho
    clear hx0 ho
    by_cases hd0 : d = 0
    · have hdd : decide (0 < d) = false := by simp; omega
      have HE := Lib.hid (show out = pairsOf la lb by have h1 := HP.out; rw [pairs_nil (by rw [Hd.out]; exact hd0), List.append_nil] at h1; exact h1)
      go_wp2
      go_ret
      exact ⟨_, rfl, by rw [← HE.out]; exact HO.out.more_ B1.out.size, B1.out.next hb⟩
    · have hdd : decide (0 < d) = true := by simp; omega
      have hdp := Lib.hid (show 0 < tab la lb i j by rw [Hd.out]; omega)
      clear hd0
      go_wp2
      go_loopw [9, 10, 11] (fun x y p w' => ∃ xx yy r : Nat, x = .int .i64 xx ∧ y = .int .i64 yy ∧ p = .int .i64 ((r : Int) - 1) ∧ i ≤ r ∧ r ≤ na ∧ Hid (best la lb i j (EO r) xx yy) ∧ Drawn wr w') (fun _ _ p _ => (intOf p + 1).toNat)
      case atStart => exact ⟨na, nb, na, rfl, rfl, rfl, hi, Nat.le_refl _, by rw [← HNA.out, ← HNB.out]; exact best_start la lb i j, Drawn.refl _⟩
      case round =>
        obtain ⟨xx, yy, r, rfl, rfl, rfl, hri, hrn, HBE, hdr⟩ := hrel
        by_cases hr : r = i
        · subst hr
          have hge : decide ((r : Int) ≤ (r : Int) - 1) = false := by simp; omega
          obtain ⟨h1, h2, h3⟩ := best_end HBE.out hdp.out
          obtain ⟨hx1, hy1, _⟩ := hits_mem.1 h1
          have hn1 := h2.1
          dsimp only at hx1 hy1 hn1
          rw [HNA.out] at hx1
          rw [HNB.out] at hy1
          have HNX := Lib.hid h3
          have HO2 := Lib.hid (HO.out.below hdr.below)
          have B2 := Lib.hid (hb.next hdr.below)
          have hol : out.length ≤ 40 := by have := HOL.out; omega
          clear h1 h2 h3
          go_wp2_with (first
            | (at_builtin; refine wpList_pair (.tmp 75) (.tmp 79) w1.heap.size u6 out (HO2.out.alloc _) (xx, yy) wr.heap.size (by simp) (by simp) (by omega) (by have := B2.out.size; simp; omega) rfl rfl rfl rfl ?_
               intro v5 w5 o5 g5 p5
               have HO5 := Lib.hid o5
               have B5 := Lib.hid (Below.grown (B2.out.next (below_alloc _ _)) g5 (by have := B2.out.size; simp; omega) (fun k e => (World.ownsRow.lt HO2.out k e).1))
               clear o5 g5 p5)
            | fail)
          go_roundw
          case rel => exact ⟨xx + 1, yy + 1, out ++ [(xx, yy)], by go_num, by go_num, by omega, by omega, HO5.out, show _ ≤ _ by have := HOL.out; simp; omega, show _ = _ by rw [← HP.out, HNX.out]; simp, B5.out⟩
          case measure => simp [intOf]; omega
        · obtain ⟨p, rfl⟩ : ∃ p, r = p + 1 := ⟨r - 1, by omega⟩
          rw [show ((p + 1 : Nat) : Int) - 1 = (p : Int) from by omega]
          have hpi : decide ((i : Nat) ≤ p) = true := by simp; omega
          have hpn : p < na := by omega
          have hpi' : i ≤ p := by omega
          go_wp2
          go_loopw [9, 10, 12] (fun x y q w' => ∃ xx yy c : Nat, x = .int .i64 xx ∧ y = .int .i64 yy ∧ q = .int .i64 ((c : Int) - 1) ∧ j ≤ c ∧ c ≤ nb ∧ Hid (best la lb i j (EI p c) xx yy) ∧ Drawn wr w') (fun _ _ q _ => (intOf q + 1).toNat)
          case atStart => exact ⟨xx, yy, nb, rfl, rfl, rfl, hj, Nat.le_refl _, by rw [← HNB.out]; exact best_row HBE.out, Drawn.refl _⟩
          case round =>
            obtain ⟨xx, yy, c, rfl, rfl, rfl, hcj, hcn, HBE, hdr2⟩ := hrel
            by_cases hc : c = j
            · subst hc
              have hge : decide ((c : Int) ≤ (c : Int) - 1) = false := by simp; omega
              go_wp2
              go_roundw
              case rel => exact ⟨xx, yy, p, rfl, rfl, rfl, hpi', by omega, best_done HBE.out, hdr.trans hdr2⟩
              case measure => simp [intOf]
            · obtain ⟨q, rfl⟩ : ∃ q, c = q + 1 := ⟨c - 1, by omega⟩
              rw [show ((q + 1 : Nat) : Int) - 1 = (q : Int) from by omega]
              have hqj : decide ((j : Nat) ≤ q) = true := by simp; omega
              have hqn : q < nb := by omega
              have hqj' : j ≤ q := by omega
              obtain ⟨p', Hp'⟩ : ∃ p', Hid (p' = p + 1) := ⟨_, rfl⟩
              obtain ⟨q', Hq'⟩ : ∃ q', Hid (q' = q + 1) := ⟨_, rfl⟩
              have hp'I : IntKind.i64.wrap ((p : Int) + 1) = (p' : Int) := by rw [Hp'.out, IntKind.wrap_i64]; omega
              have hq'I : IntKind.i64.wrap ((q : Int) + 1) = (q' : Int) := by rw [Hq'.out, IntKind.wrap_i64]; omega
              have hpk' : p' < n1 := by rw [Hn1.out, Hp'.out]; omega
              have hqm' : q' < m1 := by rw [Hm1.out, Hq'.out]; omega
              have HS3 := Lib.hid (HSr.out.below (hdr.trans hdr2).below)
              have B3 := Lib.hid ((B1.out.next hb).next (hdr.trans hdr2).below)
              obtain ⟨x1, hx1⟩ := HS3.out.get hpk'
              have y1 := HS3.out.outer HX0.out
              have y2 := HS3.out.cell HX0.out hjm
              have y3 := HS3.out.outer hx1
              have y4 := HS3.out.cell hx1 hqm'
              rw [HT.out i j hi hj, Hd.out] at y2
              rw [HT.out p' q' (by rw [Hp'.out]; omega) (by rw [Hq'.out]; omega)] at y4
              obtain ⟨t6, Ht6⟩ : ∃ t, Hid (tab la lb p' q' = t) := ⟨_, rfl⟩
              rw [Ht6.out] at y4
              have h640 : t6 ≤ 40 := by rw [← Ht6.out]; have := (tab_le la lb p' q').1; rw [HNA.out] at this; omega
              obtain ⟨t7, Ht7⟩ : ∃ t, Hid (t6 + 1 = t) := ⟨_, rfl⟩
              have ht7I : IntKind.i64.wrap ((t6 : Int) + 1) = (t7 : Int) := by rw [← Ht7.out, IntKind.wrap_i64]; omega
              obtain ⟨b1, o1, s, rfl, hs, hs2, cs⟩ := (HA.out.below B3.out).at_ hpn
              obtain ⟨b2, o2, t, rfl, ht, ht2, ct⟩ := (HB.out.below B3.out).at_ hqn
              have HHs := Lib.hid hs
              have HHt := Lib.hid ht
              have hnp : nextP la lb i j (p, q) ↔ t7 = d := by
                rw [← Ht7.out, ← Ht6.out, ← Hd.out, Hp'.out, Hq'.out]
                exact ⟨fun h => h.2.2, fun h => ⟨hpi', hqj', h⟩⟩
              have HNP := Lib.hid hnp
              clear hs ht hx1 hnp
              by_cases hst : s = t
              · subst hst
                have hbq := beq_same s
                have HHIT := Lib.hid (show (p, q) ∈ hits la lb from hits_mem.2 ⟨by rw [HNA.out]; exact hpn, by rw [HNB.out]; exact hqn, HHs.out.trans HHt.out.symm⟩)
                by_cases hT : t7 = d
                · have hbt : ((t7 : Int) == (d : Int)) = true := by simp; omega
                  have HBY := Lib.hid (best_yes (x := xx) (y := yy) HHIT.out (HNP.out.2 hT))
                  clear hT
                  go_wp2
                  go_quiet (fail)
                  go_wp2
                  go_roundw
                  case rel => exact ⟨p, q, q, rfl, rfl, rfl, hqj', by omega, HBY, hdr2.more _⟩
                  case measure => simp [intOf]
                · have hbt : ((t7 : Int) == (d : Int)) = false := by simp; omega
                  have HBN := Lib.hid (best_no HBE.out (fun h => hT (HNP.out.1 h.2)))
                  clear hT
                  go_wp2
                  go_quiet (fail)
                  go_wp2
                  go_roundw
                  case rel => exact ⟨xx, yy, q, rfl, rfl, rfl, hqj', by omega, HBN, hdr2.more _⟩
                  case measure => simp [intOf]
              · have hbq := beq_other hst
                have HBN := Lib.hid (best_no HBE.out (fun h => hst (by
                  have h7 := (hits_mem.1 h.1).2.2
                  dsimp only at h7
                  rw [HHs.out, HHt.out] at h7
                  injection h7)))
                go_wp2
                go_quiet (fail)
                go_wp2
                go_roundw
                case rel => exact ⟨xx, yy, q, rfl, rfl, rfl, hqj', by omega, HBN, hdr2.more _⟩
                case measure => simp [intOf]

end Go.Proofs.YtnnaigoomipklaaGreatDoor

namespace Go.Proofs.YtnnaigoomipklaaGreatDoor
open Go.RowKit M

set_option maxHeartbeats 1000000 in
theorem l3Diff_any (aA : Option Addr) (na ca : Nat) (la : List ByteArray) (bA : Option Addr) (nb cb : Nat) (lb : List ByteArray) (w : World) (ha : Strs w aA na la) (hbS : Strs w bA nb lb) (hna : na ≤ 40) (hnb : nb ≤ 40) (hcb : nb ≤ cb) :
    Calls Tryz.prog 147 #[.slice aA na ca, .slice bA nb cb] w fun e w' => ∃ v vs, e = .returned v ∧ OwnH w' w.heap.size v (diffH la lb) vs ∧ Below w.heap.size w w' := by
  have hf := Lib.hid (show diffH la lb = joinFrom lb 0 0 (pairsOf la lb ++ [(na, nb)]) by rw [← ha.len, ← hbS.len]; rfl)
  have HR := Lib.hid (show rises 0 0 (pairsOf la lb ++ [(na, nb)]) by rw [← ha.len, ← hbS.len]; exact stopsD_rise la lb)
  have HLE := Lib.hid (show ∀ s ∈ pairsOf la lb ++ [(na, nb)], s.1 ≤ na ∧ s.2 ≤ nb by intro s hs; rw [← ha.len, ← hbS.len] at hs ⊢; exact stopsD_le hs)
  have hll : (pairsOf la lb).length ≤ 40 := by rw [pairs_count]; have := lcs_le_left la lb; rw [ha.len] at this; omega
  have HB := Lib.hid hbS
  go_enter Tryz.func147, Tryz.ntmps147
  go_wp2_with fail
  refine (l3Pairs_any aA na ca la bA nb cb lb _ ha hbS hna hnb).mono ?_
  rintro e w1 ⟨v, rfl, o1, b1⟩
  have HO := Lib.hid o1
  clear o1
  go_wp2_with fail
  refine (l2Join_any aA na ca bA nb cb lb w.heap.size v (pairsOf la lb) _ (fun w' g => HB.out.below (Below.grown b1 g b1.size (fun k e => (World.ownsRow.lt HO.out k e).1))) hcb HO.out b1.size HR.out HLE.out hna hnb hll).mono ?_
  rintro e w2 ⟨v2, vs2, rfl, o2, b2⟩
  have HO2 := Lib.hid o2
  clear o2
  go_wp2
  go_ret
  exact ⟨_, vs2, rfl, by rw [hf.out]; exact HO2.out.more b1.size, b1.trans b2⟩

theorem join_newD {last : List ByteArray} {x : Hk} : ∀ {L : List (Nat × Nat)} {i j : Nat}, x ∈ joinFrom last i j L → x.new.length ≤ last.length
  | [], i, j, h => by simp [joinFrom] at h
  | s :: L, i, j, h => by
    rw [joinFrom] at h
    split at h
    · rcases List.mem_cons.1 h with h | h
      · rw [h]; unfold joinOne; dsimp only; rw [seg_len]; omega
      · exact join_newD h
    · exact join_newD h

set_option maxHeartbeats 1000000 in
set_option maxRecDepth 100000 in
theorem specDiffHunks_any (aA : Option Addr) (na ca : Nat) (la : List ByteArray) (bA : Option Addr) (nb cb : Nat) (lb : List ByteArray) (w : World) (ha : Strs w aA na la) (hbS : Strs w bA nb lb) (hcb : nb ≤ cb) :
    Calls Tryz.prog 88 #[.slice aA na ca, .slice bA nb cb] w fun e w' => ∃ v vs, e = .returned (.tuple #[v, .bool (diffOf la lb).2]) ∧ OwnH w' w.heap.size v (diffOf la lb).1 vs ∧ Below w.heap.size w w' := by
  cases hq1 : goodB la
  · have hf := Lib.hid (diffOf_no (diffOk_no (b := lb) (bothB_no1 hq1)))
    go_enter Tryz.func88, Tryz.ntmps88
    go_wp2_with fail
    refine (l1Good_any aA na ca la _ ha).mono ?_
    rintro e w1 ⟨rfl, rfl⟩
    rw [hq1]
    go_wp2
    go_ret2
    exact ⟨_, [], by rw [hf.out]; rfl, by rw [hf.out]; exact OwnH.nil_, Below.refl _ _⟩
  cases hq2 : goodB lb
  · have hf := Lib.hid (diffOf_no (diffOk_no (a := la) (bothB_no2 hq2)))
    go_enter Tryz.func88, Tryz.ntmps88
    go_wp2_with fail
    refine (l1Good_any aA na ca la _ ha).mono ?_
    rintro e w1 ⟨rfl, rfl⟩
    rw [hq1]
    go_wp2_with fail
    refine (l1Good_any bA nb cb lb _ hbS).mono ?_
    rintro e w2 ⟨rfl, rfl⟩
    rw [hq2]
    go_wp2
    go_ret2
    exact ⟨_, [], by rw [hf.out]; rfl, by rw [hf.out]; exact OwnH.nil_, Below.refl _ _⟩
  have hbb : bothB la lb = true := by simp [bothB, hq1, hq2]
  have hna : na ≤ 40 := by rw [← ha.len]; exact goodB_len hq1
  have hnb : nb ≤ 40 := by rw [← hbS.len]; exact goodB_len hq2
  have HNA := Lib.hid ha.len
  have HNB := Lib.hid hbS.len
  have HA := Lib.hid ha
  have HB := Lib.hid hbS
  have hg := Lib.hid (show diffOk la lb = goodH la.length (diffH la lb) by simp [diffOk, hbb])
  have HNEW := Lib.hid (show ∀ x ∈ diffH la lb, x.new.length ≤ 1048576 from fun x hx => by have := join_newD hx; rw [HNB.out] at this; omega)
  obtain ⟨y, Hy⟩ : ∃ y, Hid (goodH la.length (diffH la lb) = y) := ⟨_, rfl⟩
  obtain ⟨q, Hq⟩ : ∃ q, Hid ((diffH la lb).length = q) := ⟨_, rfl⟩
  clear ha hbS
  go_enter Tryz.func88, Tryz.ntmps88
  go_wp2_with fail
  refine (l1Good_any aA na ca la _ HA.out).mono ?_
  rintro e w1 ⟨rfl, rfl⟩
  rw [hq1]
  go_wp2_with fail
  refine (l1Good_any bA nb cb lb _ HB.out).mono ?_
  rintro e w2 ⟨rfl, rfl⟩
  rw [hq2]
  go_wp2_with fail
  refine (l3Diff_any aA na ca la bA nb cb lb _ HA.out HB.out hna hnb hcb).mono ?_
  rintro e w1 ⟨v, vs, rfl, o1, b1⟩
  obtain ⟨A, cap, hv, hqc, _⟩ := o1.form Hq.out
  subst hv
  have HO := Lib.hid o1
  clear o1
  go_wp2_with fail
  refine (l2Hunks_any (na : Int) A q cap (diffH la lb) _ HO.out.hks ⟨by omega, by omega⟩ HNEW.out).mono ?_
  rintro e w2 ⟨rfl, b2⟩
  rw [← HNA.out, Hy.out]
  cases y with
  | false =>
    have hf := Lib.hid (diffOf_no (hg.out.trans Hy.out))
    go_wp2
    go_ret2
    exact ⟨_, [], by rw [hf.out]; rfl, by rw [hf.out]; exact OwnH.nil_, b1.next b2⟩
  | true =>
    have hf := Lib.hid (diffOf_yes (hg.out.trans Hy.out))
    have B2 := Lib.hid (b1.next b2)
    go_wp2_with fail
    rw [HNA.out]
    refine (l3Diff_any aA na ca la bA nb cb lb _ (HA.out.below B2.out) (HB.out.below B2.out) hna hnb hcb).mono ?_
    rintro e w3 ⟨v3, vs3, rfl, o3, b3⟩
    have HO3 := Lib.hid o3
    clear o3
    go_wp2
    go_ret2
    exact ⟨_, vs3, by rw [hf.out]; rfl, by rw [hf.out]; exact HO3.out.more B2.out.size, B2.out.next b3⟩

end Go.Proofs.YtnnaigoomipklaaGreatDoor

namespace Go.Proofs.YtnnaigoomipklaaGreatDoor.M

theorem join_rise {last : List ByteArray} {many : Nat} (hl : linesB last = true) : ∀ {L : List (Nat × Nat)} {i j : Nat} {e : Int}, rises i j L → (∀ s ∈ L, s.1 ≤ many ∧ s.2 ≤ last.length) → e < (i : Int) → riseB many e (joinFrom last i j L) = true
  | [], i, j, e, _, _, _ => by simp [joinFrom, riseB]
  | s :: L, i, j, e, hr, hs, he => by
    obtain ⟨h1, h2, h3⟩ := hr
    obtain ⟨m1, m2⟩ := hs s (by simp)
    have hs' : ∀ t ∈ L, t.1 ≤ many ∧ t.2 ≤ last.length := fun t ht => hs t (by simp [ht])
    rw [joinFrom]
    split
    · next hn =>
      have hx : hunkB many (joinOne last i j s) = true := by
        have hno : nothing (joinOne last i j s) = false := by
          unfold nothing joinOne
          dsimp only
          rw [seg_len]
          simp only [Bool.and_eq_false_iff, decide_eq_false_iff_not]
          omega
        unfold hunkB
        rw [hno]
        have hl2 : linesB (joinOne last i j s).new = true := linesB_seg hl _ _
        rw [hl2]
        unfold joinOne
        dsimp only
        simp only [Bool.and_eq_true, decide_eq_true_eq, Bool.not_false, and_true]
        omega
      rw [riseB, hx]
      have ih := join_rise hl (e := (s.1 : Int)) h3 hs' (by omega)
      have e1 : (joinOne last i j s).at_ + (joinOne last i j s).gone = (s.1 : Int) := by unfold joinOne; dsimp only; omega
      have e2 : decide (e < (joinOne last i j s).at_) = true := by unfold joinOne; simpa using he
      rw [e1, e2, ih]
      rfl
    · exact join_rise hl h3 hs' (by omega)
theorem diff_patch (a b : List ByteArray) : patchH a (diffH a b) = b := by
  have := join_main (l := a) (last := b) (L := pairsOf a b) (p := 0) (i := 0) (j := 0) (stopsD_rise a b) (fun s hs => pairs_mem hs) (Nat.le_refl _)
  rw [seg_self, List.nil_append, List.drop_zero] at this
  exact this
theorem diff_rise {a b : List ByteArray} (hb : goodB b = true) : riseB a.length (-1) (diffH a b) = true :=
  join_rise (goodB_lines hb) (stopsD_rise a b) (fun s hs => stopsD_le hs) (by omega)
theorem diff_good {a b : List ByteArray} (h : bothB a b = true) : goodH a.length (diffH a b) = decide ((diffH a b).length ≤ 20) := by
  have h1 := goodB_len (bothB_parts h).1
  rw [goodH_ok (diff_rise (bothB_parts h).2)]
  have e1 : decide ((0 : Int) ≤ (a.length : Int)) = true := by simp
  have e2 : decide ((a.length : Int) ≤ 40) = true := by simp; omega
  rw [e1, e2]
  simp
theorem diff_ok {a b : List ByteArray} (h : diffOk a b = true) : bothB a b = true ∧ goodH a.length (diffH a b) = true ∧ patchOk a (diffH a b) = true := by
  simp only [diffOk, Bool.and_eq_true] at h
  obtain ⟨h1, h2⟩ := bothB_parts h.1
  refine ⟨h.1, h.2, ?_⟩
  simp only [patchOk, Bool.and_eq_true, diff_patch]
  exact ⟨⟨h1, h.2⟩, h2⟩

end Go.Proofs.YtnnaigoomipklaaGreatDoor.M
namespace Go.Proofs.YtnnaigoomipklaaGreatDoor
open Go.RowKit M

theorem hunksH_yes {a b : List ByteArray} (h : bothB a b = true) : needsOf a b = (((diffH a b).length : Int), true) := by simp [needsOf, h]

end Go.Proofs.YtnnaigoomipklaaGreatDoor

namespace Go.Proofs.YtnnaigoomipklaaGreatDoor
open Go.RowKit Go.Lib M

theorem rTab : (Rows.laid_internal_strconv_uint64pow10 : DataW Unit) = Lib.tabData .u64 Lib.pow10Tab := by kernel_rfl

theorem tab_of_head {W : World} {r : List (String × DataW Unit)} (h : laidMet Tryz.prog (("internal/strconv.uint64pow10", Rows.laid_internal_strconv_uint64pow10) :: r) W) : Tab W := by
  rw [rTab] at h
  exact Lib.tabIs_of_head gTab (by kernel_rfl) Tryz.underlying265 Tryz.underlying89 (by kernel_rfl) (by kernel_rfl) h

/-- The list of three tables. -/
abbrev laid3 : List (String × DataW Unit) := [("math/bits.deBruijn32tab", Rows.laid_math_bits_deBruijn32tab), ("math/bits.deBruijn64tab", Rows.laid_math_bits_deBruijn64tab), ("internal/strconv.uint64pow10", Rows.laid_internal_strconv_uint64pow10)]

/-- The wrap: a contract under a condition on the world that hangs on the heap alone, handed the reach and the world's shape. -/
theorem handed_shaped {H : Type} {enc : TypeId × Value → H} {a : Assume} {C : Checked} {os : Os} {f : FuncId} {fn : Func} {s : ChangeSpec} {conds : List PathCond} {apart fresh handsOn again : Bool} {X : World → Array Value → Prop}
    (hX : ∀ (w w' : World) (args : Array Value), w.heap = w'.heap → X w args → X w' args)
    (own : ownKnob C.prog.godebug = none) (started : os.Started) (noInit : C.prog.inits.idxOf? f = none) (hfn : C.prog.funcs[f]? = some fn)
    (witness : ∃ (w : World) (tape : Tape) (i : Input), w.os = os ∧ (w.forCall tape i).Shaped C.prog ∧ i.vars = [] ∧ Input.okWide C.prog (w.forCall tape i) .any w.heap.size f i ∧
      ((s.pre enc C.prog fn conds apart (w.forCall tape i).memory i.args ∧ X (w.forCall tape i).memory i.args) ∧ sizedMet enc C.prog fn (OpenSpec.ofChange s) apart (w.forCall tape i).memory i.args) ∧ a.holds C.prog (lone (Frame.enter C.prog f i.args .normal) [] (w.forCall tape i)))
    (contract : ∀ (W : World) (base : Nat) (args : Array Value) (ds gs : List (DataW H)) (before : List MemPlace),
      (∀ (j : Nat) t v, fn.params[j]? = some t → args[j]? = some v → Value.okWide C.prog W .any base t v) →
      DataW.Whole enc C.prog fn.params.toList s.vars apart W args.toList ds gs before → X W args → W.ShapedOpen C.prog →
      Calls C.prog f args W fun e W' => ∃ v, e = .returned v ∧ s.post enc C.prog fn apart fresh handsOn again W args v W') :
    ReturnsInHanded a C os f .any (fun w args => (s.pre enc C.prog fn conds apart w args ∧ X w args) ∧ sizedMet enc C.prog fn (OpenSpec.ofChange s) apart w args) (s.post enc C.prog fn apart fresh handsOn again) := by
  refine returnsInHanded_of_calls own started noInit witness ?_
  rintro w tape i _ shape _ ⟨_, _, _, fn', isFn, _, _, _, _, fits⟩ ⟨⟨⟨ds, gs, before, whole, _⟩, cond⟩, _⟩ _
  cases Option.some.inj (isFn.symm.trans hfn)
  refine (contract (w.forCall tape i) w.heap.size i.args ds gs before fits (DataW.Whole.of_heap (w' := w.forCall tape i) (by rfl) whole) (hX _ _ _ (by rfl) cond) shape).mono fun e W' h => ?_
  obtain ⟨v, rfl, hp⟩ := h
  exact ChangeSpec.post_blind hp

end Go.Proofs.YtnnaigoomipklaaGreatDoor

namespace Go.Proofs.YtnnaigoomipklaaGreatDoor
open Go.RowKit Go.ChangeShapes Go.WideShapes M

/-- What OrdersHunks answers. -/
def ordH (l : List ByteArray) (p : List Od) : List Hk × Int × Bool := ordersHunks (fun a b => (diffOf a b).1) l p

set_option maxHeartbeats 1000000 in
theorem specOrdersHunks_any (a : Option Addr) (n c : Nat) (l : List ByteArray) (b : Option Addr) (m d : Nat) (p : List Od) (w : World) (hl : Strs w a n l) (hp : Ods w b m p) :
    Calls Tryz.prog 30 #[.slice a n c, .slice b m d] w fun e w' => ∃ v vs, e = .returned (.tuple #[v, .int .i64 (ordH l p).2.1, .bool (ordH l p).2.2]) ∧ OwnH w' w.heap.size v (ordH l p).1 vs ∧ Below w.heap.size w w' := by
  cases hg : goodB l
  · have HG := Lib.hid hg
    have hf := Lib.hid (show ordH l p = ([], 0, false) from if_neg (by rw [hg]; simp))
    clear hg
    go_enter Tryz.func30, Tryz.ntmps30
    go_wp2_with fail
    refine (l1Good_any a n c l _ hl).mono ?_
    rintro e w1 ⟨rfl, rfl⟩
    rw [HG.out]
    go_wp2
    go_ret3
    exact ⟨_, [], by rw [hf.out]; rfl, by rw [hf.out]; exact OwnH.nil_, Below.refl _ _⟩
  have HG := Lib.hid hg
  cases hw : wholeB l
  · have HW := Lib.hid hw
    have hf := Lib.hid (show ordH l p = ([], 0, false) from if_neg (by rw [hw]; simp))
    clear hg hw
    go_enter Tryz.func30, Tryz.ntmps30
    go_wp2_with fail
    refine (l1Good_any a n c l _ hl).mono ?_
    rintro e w1 ⟨rfl, rfl⟩
    rw [HG.out]
    go_wp2_with fail
    refine (l1Whole_any a n c l _ hl HG.out).mono ?_
    rintro e w1 ⟨rfl, rfl⟩
    rw [HW.out]
    go_wp2
    go_ret3
    exact ⟨_, [], by rw [hf.out]; rfl, by rw [hf.out]; exact OwnH.nil_, Below.refl _ _⟩
  have HW := Lib.hid hw
  cases hgp : ordersB p
  · have HGP := Lib.hid hgp
    have hf := Lib.hid (show ordH l p = ([], 0, false) from if_neg (by rw [hgp]; simp))
    clear hg hgp hw
    go_enter Tryz.func30, Tryz.ntmps30
    go_wp2_with fail
    refine (l1Good_any a n c l _ hl).mono ?_
    rintro e w1 ⟨rfl, rfl⟩
    rw [HG.out]
    go_wp2_with fail
    refine (l1Whole_any a n c l _ hl HG.out).mono ?_
    rintro e w1 ⟨rfl, rfl⟩
    rw [HW.out]
    go_wp2_with fail
    refine (l9Good_any b m d p _ hp).mono ?_
    rintro e w2 ⟨rfl, b2⟩
    rw [HGP.out]
    go_wp2
    go_ret3
    exact ⟨_, [], by rw [hf.out]; rfl, by rw [hf.out]; exact OwnH.nil_, b2⟩
  have HGP := Lib.hid hgp
  obtain ⟨r, cc, HR⟩ : ∃ r cc, Hid (runO l p = (r, cc)) := ⟨_, _, rfl⟩
  have HC0 := Lib.hid (show cc = 0 ∨ 0 < cc by
    have h1 : (runO l p).2 = 0 ∨ 0 < (runO l p).2 := runO_code l p
    rw [HR.out] at h1
    exact h1)
  by_cases hc0 : cc = 0
  · have hgt : decide ((0 : Int) < cc) = false := by simp [hc0]
    have hf := Lib.hid (show ordH l p = ((diffOf l r).1, 0, true) by
      unfold ordH ordersHunks
      rw [if_pos ⟨hg, hw, hgp⟩, HR.out]
      simp only []
      rw [if_pos hc0])
    subst hc0
    clear hg hw hgp
    go_enter Tryz.func30, Tryz.ntmps30
    go_wp2_with fail
    refine (l1Good_any a n c l _ hl).mono ?_
    rintro e w1 ⟨rfl, rfl⟩
    rw [HG.out]
    go_wp2_with fail
    refine (l1Whole_any a n c l _ hl HG.out).mono ?_
    rintro e w1 ⟨rfl, rfl⟩
    rw [HW.out]
    go_wp2_with fail
    refine (l9Good_any b m d p _ hp).mono ?_
    rintro e w2 ⟨rfl, b2⟩
    rw [HGP.out]
    go_wp2_with fail
    refine (l9Run_any a n c l b m d p _ (hl.below b2) HG.out (hp.below b2) HGP.out).mono ?_
    rintro e w3 ⟨v, rfl, o3, b3⟩
    rw [HR.out] at o3 ⊢
    dsimp only at o3 ⊢
    obtain ⟨q, HQ⟩ : ∃ q, Hid (r.length = q) := ⟨_, rfl⟩
    obtain ⟨Aq, cq, rfl, hq1, hq2⟩ := o3.form HQ.out
    go_wp2_with fail
    refine (specDiffHunks_any a n c l Aq q cq r _ ((hl.below b2).below b3) o3.strs hq1).mono ?_
    rintro e w4 ⟨v4, vs, rfl, o4, b4⟩
    have HO4 := Lib.hid (o4.more (show w.heap.size ≤ w3.heap.size from (b2.next b3).size))
    have HB4 := Lib.hid ((b2.next b3).next b4)
    obtain ⟨q4, HQ4⟩ : ∃ q, Hid ((diffOf l r).1.length = q) := ⟨_, rfl⟩
    obtain ⟨A4, c4, rfl, h41, h42⟩ := o4.form HQ4.out
    clear o3 o4 b2 b3 b4
    go_wp2
    go_ret3
    exact ⟨_, vs, by rw [hf.out]; rfl, by rw [hf.out]; exact HO4.out, HB4.out⟩
  · have hgt : decide ((0 : Int) < cc) = true := by have := HC0.out; simp; omega
    have hf := Lib.hid (show ordH l p = ([], cc, true) by
      unfold ordH ordersHunks
      rw [if_pos ⟨hg, hw, hgp⟩, HR.out]
      simp only []
      rw [if_neg hc0])
    clear hg hw hgp hc0
    go_enter Tryz.func30, Tryz.ntmps30
    go_wp2_with fail
    refine (l1Good_any a n c l _ hl).mono ?_
    rintro e w1 ⟨rfl, rfl⟩
    rw [HG.out]
    go_wp2_with fail
    refine (l1Whole_any a n c l _ hl HG.out).mono ?_
    rintro e w1 ⟨rfl, rfl⟩
    rw [HW.out]
    go_wp2_with fail
    refine (l9Good_any b m d p _ hp).mono ?_
    rintro e w2 ⟨rfl, b2⟩
    rw [HGP.out]
    go_wp2_with fail
    refine (l9Run_any a n c l b m d p _ (hl.below b2) HG.out (hp.below b2) HGP.out).mono ?_
    rintro e w3 ⟨v, rfl, o3, b3⟩
    rw [HR.out] at o3 ⊢
    dsimp only at o3 ⊢
    obtain ⟨q, HQ⟩ : ∃ q, Hid (r.length = q) := ⟨_, rfl⟩
    obtain ⟨Aq, cq, rfl, hq1, hq2⟩ := o3.form HQ.out
    go_wp2
    go_ret3
    exact ⟨_, [], by rw [hf.out]; rfl, by rw [hf.out]; exact OwnH.nil_, b2.next b3⟩

end Go.Proofs.YtnnaigoomipklaaGreatDoor

namespace Go.Proofs.YtnnaigoomipklaaGreatDoor
open Go.RowKit Go.ChangeShapes Go.WideShapes M

set_option maxHeartbeats 1000000 in
theorem specEdText_any (a : Option Addr) (nl cl : Nat) (l : List ByteArray) (b0 : Option Addr) (n c : Nat) (hs : List Hk) (w : World) (hl : Strs w a nl l) (hcl : nl ≤ cl) (hh : Hks w b0 n hs) (hnew : ∀ x ∈ hs, x.new.length ≤ 1048576) (hnl : nl ≤ 1048576) :
    Calls Tryz.prog 23 #[.slice a nl cl, .slice b0 n c] w fun e w' => e = .returned (.tuple #[.string (edText l hs).1, .bool (edText l hs).2]) ∧ Below w.heap.size w w' := by
  obtain ⟨P, ok, HP⟩ : ∃ P ok, Hid (edOrders l hs = (P, ok)) := ⟨_, _, rfl⟩
  obtain ⟨q, HQ⟩ : ∃ q, Hid (P.length = q) := ⟨_, rfl⟩
  cases ok
  · have hf := Lib.hid (show edText l hs = (⟨#[]⟩, false) from if_neg (by rw [HP.out]; simp))
    go_enter Tryz.func23, Tryz.ntmps23
    go_wp2_with fail
    refine (specEdOrders_any a nl cl l b0 n c hs _ hl hcl hh hnew hnl).mono ?_
    rintro e w1 ⟨v, rows, rfl, o1, b1⟩
    rw [HP.out] at o1 ⊢
    dsimp only at o1 ⊢
    obtain ⟨A1, c1, rfl, h11, h12⟩ := o1.form HQ.out
    go_wp2
    go_ret2
    exact ⟨by rw [hf.out]; rfl, b1⟩
  · have hf := Lib.hid (show edText l hs = ordersO P by unfold edText; rw [HP.out]; exact if_pos rfl)
    go_enter Tryz.func23, Tryz.ntmps23
    go_wp2_with fail
    refine (specEdOrders_any a nl cl l b0 n c hs _ hl hcl hh hnew hnl).mono ?_
    rintro e w1 ⟨v, rows, rfl, o1, b1⟩
    rw [HP.out] at o1 ⊢
    dsimp only at o1 ⊢
    obtain ⟨A1, c1, rfl, h11, h12⟩ := o1.form HQ.out
    go_wp2_with fail
    refine (specOrdersText_any A1 q c1 P _ o1.ods).mono ?_
    rintro e w2 ⟨rfl, b2⟩
    go_wp2
    go_ret2
    exact ⟨by rw [hf.out]; rfl, b1.next b2⟩

end Go.Proofs.YtnnaigoomipklaaGreatDoor

namespace Go.Proofs.YtnnaigoomipklaaGreatDoor
open Go.RowKit Go.ChangeShapes Go.WideShapes M

set_option maxHeartbeats 1000000 in
theorem implOrdersHunks_any (a : Option Addr) (n c : Nat) (l : List ByteArray) (b : Option Addr) (m d : Nat) (p : List Od) (w : World) (hl : Strs w a n l) (hp : Pods w b m p) :
    Calls Tryz.prog 29 #[.slice a n c, .slice b m d] w fun e w' => ∃ v vs, e = .returned (.tuple #[v, .int .i64 (ordH l p).2.1, .bool (ordH l p).2.2]) ∧ OwnH w' w.heap.size v (ordH l p).1 vs ∧ Below w.heap.size w w' := by
  obtain ⟨t, HT⟩ : ∃ t, Hid ((goodB l && wholeB l) = t) := ⟨_, rfl⟩
  obtain ⟨r, cc, ok, HR⟩ : ∃ r cc ok, Hid (runOrders l p = (r, cc, ok)) := ⟨_, _, _, rfl⟩
  obtain ⟨q, HQ⟩ : ∃ q, Hid (r.length = q) := ⟨_, rfl⟩
  cases t
  · have hf := Lib.hid (show ordH l p = ([], 0, false) from if_neg (fun h => by have := HT.out; rw [h.1, h.2.1] at this; cases this))
    go_enter Tryz.func29, Tryz.ntmps29
    go_wp2_with fail
    refine (areWhole_any a n c l _ hl).mono ?_
    rintro e w1 ⟨rfl, b1⟩
    rw [HT.out]
    go_wp2
    go_ret3
    exact ⟨_, [], by rw [hf.out]; rfl, by rw [hf.out]; exact OwnH.nil_, b1⟩
  have HG := Lib.hid (show goodB l = true ∧ wholeB l = true by have := HT.out; simpa using this)
  cases ok
  · have HO := Lib.hid (show ordersB p = false by
      cases h : ordersB p
      · rfl
      · have h1 := HR.out
        unfold runOrders at h1
        rw [if_pos ⟨HG.out.1, h⟩] at h1
        injection h1 with _ h1
        injection h1 with _ h1)
    have HC := Lib.hid (show cc = 0 by
      have h1 := HR.out
      unfold runOrders at h1
      rw [if_neg (by rw [HO.out]; simp)] at h1
      injection h1 with _ h1
      injection h1 with h1 _
      exact h1.symm)
    have hf := Lib.hid (show ordH l p = ([], cc, false) by rw [HC.out]; exact if_neg (by rw [HO.out]; simp))
    go_enter Tryz.func29, Tryz.ntmps29
    go_wp2_with fail
    refine (areWhole_any a n c l _ hl).mono ?_
    rintro e w1 ⟨rfl, b1⟩
    rw [HT.out]
    go_wp2_with fail
    refine (implRunOrders_any a n c l b m d p _ (hl.below b1) (hp.below b1)).mono ?_
    rintro e w2 ⟨v, rfl, o2, b2⟩
    rw [HR.out] at o2 ⊢
    dsimp only at o2 ⊢
    obtain ⟨Aq, cq, rfl, hq1, hq2⟩ := o2.form HQ.out
    go_wp2
    go_ret3
    exact ⟨_, [], by rw [hf.out]; rfl, by rw [hf.out]; exact OwnH.nil_, b1.next b2⟩
  have HO := Lib.hid (show ordersB p = true ∧ runO l p = (r, cc) by
    have h1 := HR.out
    unfold runOrders at h1
    split at h1
    · rename_i hc
      injection h1 with h2 h1
      injection h1 with h3 h4
      exact ⟨hc.2, by rw [← h2, ← h3]⟩
    · injection h1 with _ h1
      injection h1 with _ h1
      cases h1)
  by_cases hc0 : cc = 0
  · have hf := Lib.hid (show ordH l p = ((diffOf l r).1, 0, true) by
      unfold ordH ordersHunks
      rw [if_pos ⟨HG.out.1, HG.out.2, HO.out.1⟩, HO.out.2]
      simp only []
      rw [if_pos hc0])
    subst hc0
    obtain ⟨q4, HQ4⟩ : ∃ q, Hid ((diffOf l r).1.length = q) := ⟨_, rfl⟩
    go_enter Tryz.func29, Tryz.ntmps29
    go_wp2_with fail
    refine (areWhole_any a n c l _ hl).mono ?_
    rintro e w1 ⟨rfl, b1⟩
    rw [HT.out]
    go_wp2_with fail
    refine (implRunOrders_any a n c l b m d p _ (hl.below b1) (hp.below b1)).mono ?_
    rintro e w2 ⟨v, rfl, o2, b2⟩
    rw [HR.out] at o2 ⊢
    dsimp only at o2 ⊢
    obtain ⟨Aq, cq, rfl, hq1, hq2⟩ := o2.form HQ.out
    go_wp2_with fail
    refine (implDiffHunks_any a n c l Aq q cq r _ ((hl.below b1).below b2) o2.strs hq1).mono ?_
    rintro e w4 ⟨v4, vs, rfl, o4, b4⟩
    have HO4 := Lib.hid (o4.more (show w.heap.size ≤ w2.heap.size from (b1.next b2).size))
    have HB4 := Lib.hid ((b1.next b2).next b4)
    obtain ⟨A4, c4, rfl, h41, h42⟩ := o4.form HQ4.out
    clear o2 o4 b1 b2 b4
    go_wp2
    go_ret3
    exact ⟨_, vs, by rw [hf.out]; rfl, by rw [hf.out]; exact HO4.out, HB4.out⟩
  · have hne : (cc != 0) = true := by simp [hc0]
    have hf := Lib.hid (show ordH l p = ([], cc, true) by
      unfold ordH ordersHunks
      rw [if_pos ⟨HG.out.1, HG.out.2, HO.out.1⟩, HO.out.2]
      simp only []
      rw [if_neg hc0])
    clear hc0
    go_enter Tryz.func29, Tryz.ntmps29
    go_wp2_with fail
    refine (areWhole_any a n c l _ hl).mono ?_
    rintro e w1 ⟨rfl, b1⟩
    rw [HT.out]
    go_wp2_with fail
    refine (implRunOrders_any a n c l b m d p _ (hl.below b1) (hp.below b1)).mono ?_
    rintro e w2 ⟨v, rfl, o2, b2⟩
    rw [HR.out] at o2 ⊢
    dsimp only at o2 ⊢
    obtain ⟨Aq, cq, rfl, hq1, hq2⟩ := o2.form HQ.out
    go_wp2
    go_ret3
    exact ⟨_, [], by rw [hf.out]; rfl, by rw [hf.out]; exact OwnH.nil_, b1.next b2⟩

end Go.Proofs.YtnnaigoomipklaaGreatDoor

namespace Go.Proofs.YtnnaigoomipklaaGreatDoor
open Go.RowKit Go.ChangeShapes Go.WideShapes M

/-- What the draws of lines and orders answer. -/
def DrewLO (w w' : World) (A : Option Addr) (n c : Nat) (l : List ByteArray) (A2 : Option Addr) (n2 c2 : Nat) (p : List Od) : Prop :=
  Strs w' A n l ∧ n ≤ c ∧ n ≤ 9 ∧ Fine 8 l ∧ Pods w' A2 n2 p ∧ n2 ≤ c2 ∧ n2 ≤ 24 ∧ Below w.heap.size w w'

set_option maxHeartbeats 1000000 in
theorem DrawRunOrders_any (a : Option Addr) (n c : Nat) (w : World) (h : Bytes w a n) (hn : n ≤ 1048576) :
    Calls Tryz.prog 27 #[.slice a n c] w fun e w' => ∃ A n1 c1 l A2 n2 c2 p, e = .returned (.tuple #[.slice A n1 c1, .slice A2 n2 c2]) ∧ DrewLO w w' A n1 c1 l A2 n2 c2 p := by
  have c0 := Curs.new (c := c) h hn
  go_enter Tryz.func27, Tryz.ntmps27
  go_wp2_with fail
  refine (orders_any _ 0 _ c0 (by omega)).mono ?_
  rintro e w1 ⟨vl, l, v, p, rows, rfl, o1, h1, h2, o2, h3, h4, c3, g1⟩
  obtain ⟨A, c1, rfl, hc1, _⟩ := o1.form rfl
  obtain ⟨A2, c2, rfl, hc2, _⟩ := o2.form rfl
  have HD := Lib.hid (show DrewLO w w1 A l.length c1 l A2 p.length c2 p from ⟨o1.strs, hc1, h1, h2, o2.pods, hc2, h3, below_new g1⟩)
  clear h2 h4 o1 o2
  go_wp2
  go_ret2
  exact ⟨A, _, c1, l, A2, _, c2, p, rfl, HD.out⟩

end Go.Proofs.YtnnaigoomipklaaGreatDoor

namespace Go.Proofs.YtnnaigoomipklaaGreatDoor
open Go.RowKit Go.ChangeShapes Go.WideShapes M

set_option maxHeartbeats 2000000 in
set_option maxRecDepth 100000 in
theorem sameOrders_same (a b : Option Addr) (n c d : Nat) (l : List Od) (w : World) (hl : Ods w a n l) (hr : Ods w b n l) :
    Calls Tryz.prog 16 #[.slice a n c, .slice b n d] w fun e w' => e = .returned (.bool true) ∧ Below w.heap.size w w' := by
  have hlim := hl.lim
  unfold maxLen at hlim
  have hq : ((n : Int) != (n : Int)) = false := by simp
  go_enter Tryz.func16, Tryz.ntmps16
  go_wp2
  go_loopw [14] (fun i w' => ∃ k : Nat, i = .int .i64 k ∧ k ≤ n ∧ Below w.heap.size w w') (fun i _ => n - (intOf i).toNat)
  case atStart => exact ⟨0, rfl, by omega, Below.refl _ _⟩
  case round =>
    obtain ⟨k, rfl, hk, hb⟩ := hrel
    by_cases hlt : k < n
    · obtain ⟨b1, off1, A1, m1, c1, x, rfl, hx, d0, d1, d2, d3, hs1, _, _⟩ := (hl.below hb).at_ hlt
      obtain ⟨b2, off2, A2, m2, c2, y, rfl, hy, e0, e1, e2, e3, hs2, _, _⟩ := (hr.below hb).at_ hlt
      have hxy : y = x := by rw [hx] at hy; injection hy with hy; exact hy.symm
      subst hxy
      clear hx hy
      have hi0 : (0 : Int) ≤ (k : Int) := by omega
      have hi1 : (k : Int) < (n : Int) := by omega
      have hp0 : ∀ o, (wr.alloc o).cell? ⟨b2, off2 + k * 4, none⟩ = some (.int .i64 y.kd) := fun o => cell_keep (below_alloc wr o) e0
      have hp1 : ∀ o, (wr.alloc o).cell? ⟨b2, off2 + k * 4 + 1, none⟩ = some (.int .i64 y.fr) := fun o => cell_keep (below_alloc wr o) e1
      have hp2 : ∀ o, (wr.alloc o).cell? ⟨b2, off2 + k * 4 + 2, none⟩ = some (.int .i64 y.to_) := fun o => cell_keep (below_alloc wr o) e2
      have hp3 : ∀ o, (wr.alloc o).cell? ⟨b2, off2 + k * 4 + 3, none⟩ = some (.slice A2 m2 c2) := fun o => cell_keep (below_alloc wr o) e3
      have hbn := hb.next (below_alloc wr (.cells #[.int .i64 y.kd, .int .i64 y.fr, .int .i64 y.to_, .slice A1 m1 c1] 78))
      have hq2 : eqT y.new y.new = true := eqT_refl _
      go_wp2
      go_quiet (first | (go_at_call 26; refine Calls.quiet_of (sameTexts_any A1 A2 m1 m2 c1 c2 y.new y.new _ ?_ ?_); exact hs1.below (below_drewN (below_alloc _ _) _); exact hs2.below (below_drewN (below_alloc _ _) _)))
      go_wp2
      go_roundw
      case rel => exact ⟨k + 1, by go_num, by omega, below_drewN hbn _⟩
      case measure => simp [intOf]; omega
    · go_wp2
      go_ret
      exact ⟨rfl, hb⟩

end Go.Proofs.YtnnaigoomipklaaGreatDoor

namespace Go.Proofs.YtnnaigoomipklaaGreatDoor
open Go.RowKit Go.Lib M

theorem gOw : Tryz.prog.globalNamed "loop.example/g00825/impl.orderWords" = some 0 := by kernel_rfl

set_option maxRecDepth 100000 in
theorem ow_of_head {W : World} {r : List (String × DataW Unit)} (h : laidMet Tryz.prog (("loop.example/g00825/impl.orderWords", Rows.laid_loop_example_g00825_impl_orderWords) :: r) W) : Ow W := by
  obtain ⟨ps, ⟨g', t', cs, fuel, p, q, hg', ht', hvar, hd, _, _⟩, _⟩ := h
  obtain rfl := Option.some.inj (gOw.symm.trans hg')
  obtain rfl := Option.some.inj ((show (Tryz.prog.globals[0]?).map (·.type) = some 151 by kernel_rfl).symm.trans ht')
  obtain ⟨xs, m, rfl, hx, hl, hn, hi⟩ := DataW.trod_array Tryz.underlying151 hd
  have hc : Tryz.prog.cellsOf 9 = 1 := by kernel_rfl
  have hx1 : xs.map (·.1) = [.lit (.string []), .lit (.string [97]), .lit (.string [105]), .lit (.string [99]), .lit (.string [100]), .lit (.string [115, 47, 46, 47, 47])] := by
    have := congrArg Prod.fst hx
    unfold Rows.laid_loop_example_g00825_impl_orderWords at this
    injection this with this
    exact this.symm
  have one : ∀ (i : Nat) (l : List UInt8), i < 6 → (xs.map (·.1))[i]? = some (.lit (.string l)) → W.cell? ⟨0, i, none⟩ = some (.string ⟨l.toArray⟩) := by
    intro i l hi4 hxi
    have h1 := hi i hi4
    rw [hc, Nat.mul_one] at h1
    have hy : xs[i]? = some (xs[i]'(by omega)) := List.getElem?_eq_getElem (by omega)
    rw [hy] at h1
    obtain ⟨s, e1, e2, _⟩ := DataW.trod_string Tryz.underlying9 h1
    rw [List.getElem?_map, hy, Option.map_some, e2] at hxi
    have hs : s = ⟨l.toArray⟩ := by
      injection hxi with hxi
      injection hxi with hxi
      injection hxi with hxi
      rw [← hxi]
    have h2 : cs.toList[i]? = some (.string s) := by
      have := congrArg (·[0]?) e1
      simpa [List.getElem?_take, List.getElem?_drop] using this
    have h3 := World.var?_cell gOw hvar i
    rw [h3, ← hs]
    simpa using h2
  intro k hk
  have hk' : k = 0 ∨ k = 1 ∨ k = 2 ∨ k = 3 ∨ k = 4 ∨ k = 5 := by omega
  rcases hk' with rfl | rfl | rfl | rfl | rfl | rfl
  · exact one 0 [] (by omega) (by rw [hx1]; rfl)
  · exact one 1 [97] (by omega) (by rw [hx1]; rfl)
  · exact one 2 [105] (by omega) (by rw [hx1]; rfl)
  · exact one 3 [99] (by omega) (by rw [hx1]; rfl)
  · exact one 4 [100] (by omega) (by rw [hx1]; rfl)
  · exact one 5 [115, 47, 46, 47, 47] (by omega) (by rw [hx1]; rfl)

/-- The list of three tables and the words. -/
abbrev laidO4 : List (String × DataW Unit) := laid3 ++ [("loop.example/g00825/impl.orderWords", Rows.laid_loop_example_g00825_impl_orderWords)]
theorem varsO_of_4 {W : World} (h : laidMet Tryz.prog laidO4 W) : VarsO W := ⟨tab_of_head h.tail.tail, ow_of_head h.tail.tail.tail⟩
theorem plainO4 (W : World) : laidMetH Tryz.prog laidO4 W = laidMet Tryz.prog laidO4 W := MakeChecks.laidMetH_plain _ _ _ (by kernel_rfl)

end Go.Proofs.YtnnaigoomipklaaGreatDoor

namespace Go.Proofs.YtnnaigoomipklaaGreatDoor
open Go.RowKit Go.ChangeShapes Go.WideShapes M

/-- Orders that a text tells of are good, and do what the hunks do. -/
theorem ed_more {l : List ByteArray} {hs : List Hk} {P : List Od} {ok : Bool} {S : ByteArray} (h1 : edOrders l hs = (P, ok)) (h2 : edText l hs = (S, true)) : ok = true ∧ ordersB P = true ∧ ∃ X, runOrders l P = (X, 0, true) ∧ patchOf l hs = (X, true) := by
  unfold edText at h2
  rw [h1] at h2
  dsimp only at h2
  split at h2
  · rename_i hok
    subst hok
    have hg : ordersB P = true := by
      unfold ordersO at h2
      split at h2
      · rename_i hc; exact hc.1
      · injection h2 with _ h2; cases h2
    obtain ⟨e1, e2, e3⟩ := ed_patch (l := l) (hs := hs) (by rw [h1])
    rw [h1] at e1
    refine ⟨rfl, hg, (patchOf l hs).1, ?_, by rw [← e2]⟩
    unfold runOrders
    rw [if_pos ⟨e3, hg⟩, e1]
  · injection h2 with _ h2; cases h2
/-- What orders make of lines, as hunks: as many as are needed, and they make it, where they are not too many. -/
theorem ord_more {l : List ByteArray} {p : List Od} {X : List ByteArray} {kx : Int} {ox : Bool} {Y : List Hk} (h1 : runOrders l p = (X, kx, ox)) (h2 : ordH l p = (Y, 0, true)) : ∃ needs : Nat, needsOf l X = ((needs : Int), true) ∧ (needs ≤ 20 → patchOf l Y = (X, true)) := by
  unfold ordH ordersHunks at h2
  split at h2
  · rename_i hc
    have hX : X = (runO l p).1 := by
      unfold runOrders at h1
      rw [if_pos ⟨hc.1, hc.2.2⟩] at h1
      injection h1 with h1 _
      exact h1.symm
    split at h2
    · rename_i hz
      injection h2 with h2 _
      have hgx : goodB X = true := by
        rw [hX]
        unfold runO at hz ⊢
        split
        · split
          · assumption
          · rename_i h3 h4
            rw [if_pos h3, if_neg h4] at hz
            simp at hz
        · rename_i h3
          rw [if_neg h3] at hz
          exact absurd hz h3
      have hb : bothB l X = true := by unfold bothB; rw [hc.1, hgx]; rfl
      refine ⟨(diffH l X).length, hunksH_yes hb, fun h20 => ?_⟩
      have hd : diffOk l X = true := by unfold diffOk; rw [hb, diff_good hb]; simpa using h20
      obtain ⟨_, _, h5⟩ := diff_ok hd
      rw [← h2, ← hX]
      show patchOf l (diffOf l X).1 = (X, true)
      rw [diffOf_yes hd]
      show patchOf l (diffH l X) = (X, true)
      rw [patchOf_yes h5, diff_patch]
    · rename_i hz
      injection h2 with _ h2
      injection h2 with h2 _
      exact absurd h2 hz
  · injection h2 with _ h2
    injection h2 with _ h2
    cases h2

set_option maxHeartbeats 1000000 in
theorem DrawEdOrders_any (a : Option Addr) (n c : Nat) (w : World) (h : Bytes w a n) (hn : n ≤ 1048576) :
    Calls Tryz.prog 19 #[.slice a n c] w fun e w' => ∃ A n1 c1 l A2 n2 c2 hs, e = .returned (.tuple #[.slice A n1 c1, .slice A2 n2 c2]) ∧ DrewLH w w' A n1 c1 l A2 n2 c2 hs := by
  go_enter Tryz.func19, Tryz.ntmps19
  go_wp2_with fail
  refine (DrawPatch_any a n c _ h hn).mono ?_
  rintro e w1 ⟨A, n1, c1, l, A2, n2, c2, out, rfl, hd⟩
  have HD := Lib.hid hd
  clear hd
  go_wp2
  go_ret2
  exact ⟨A, n1, c1, l, A2, n2, c2, out, rfl, HD.out⟩

set_option maxHeartbeats 4000000 in
set_option maxRecDepth 100000 in
theorem FnEd_any (w : World) (hv : VarsO w) (a : Option Addr) (n c : Nat) (ha : Bytes w a n) (b : Option Addr) (m d : Nat) (hb : Bytes w b m) :
    Calls Tryz.prog 4 #[.slice a n c, .slice b m d] w fun e w' => e = .returned (.bool true) ∧ Below w.heap.size w w' := by
  by_cases hbig : 1048576 < n + m
  · have hd : decide (1048576 < n + m) = true := by simpa using hbig
    go_enter Tryz.func4, Tryz.ntmps4
    go_wp2_with fail
    refine (big_any a b n m c d _ ha.1 hb.1).mono ?_
    rintro e w1 ⟨rfl, rfl⟩
    rw [hd]
    go_wp2
    go_ret
    exact ⟨rfl, Below.refl _ _⟩
  · have hd : decide (1048576 < n + m) = false := by simpa using hbig
    go_enter Tryz.func4, Tryz.ntmps4
    go_wp2_with fail
    refine (big_any a b n m c d _ ha.1 hb.1).mono ?_
    rintro e w1 ⟨rfl, rfl⟩
    rw [hd]
    go_wp2_with fail
    refine (DrawEdOrders_any a n c _ ha (by omega)).mono ?_
    rintro e w1 ⟨A, n1, c1, l, A2, n2, c2, hs, rfl, d1, d2, d3, d4, d5, d6, d7, d8, d9⟩
    have D8 := Lib.hid (show ∀ x ∈ hs, x.new.length ≤ 1048576 from fun x hx => by obtain ⟨_, _, a, b, c, _⟩ := d8 x hx; omega)
    have HL := Lib.hid d1.len
    have HL2 := Lib.hid d5.len
    have HV := Lib.hid hv
    clear d4 d8 hv
    obtain ⟨P, ok, HP⟩ : ∃ P ok, Hid (edOrders l hs = (P, ok)) := ⟨_, _, rfl⟩
    obtain ⟨np, HNP⟩ : ∃ np, Hid (P.length = np) := ⟨_, rfl⟩
    obtain ⟨S, one, HS⟩ : ∃ S one, Hid (edText l hs = (S, one)) := ⟨_, _, rfl⟩
    have hSS := beq_same S
    go_wp2_with fail
    refine (implEdOrders_any A n1 c1 l A2 n2 c2 hs _ d1 d2 d5 (by omega)).mono ?_
    rintro e w2 ⟨v2, r2, rfl, o2, b2⟩
    rw [HP.out] at o2 ⊢
    dsimp only at o2 ⊢
    obtain ⟨AP, cp, rfl, hp1, hp2⟩ := o2.form HNP.out
    go_wp2_with fail
    refine (specEdOrders_any A n1 c1 l A2 n2 c2 hs _ (d1.below b2) d2 (d5.below b2) D8.out (by omega)).mono ?_
    rintro e w3 ⟨v3, r3, rfl, o3, b3⟩
    rw [HP.out] at o3 ⊢
    dsimp only at o3 ⊢
    obtain ⟨AQ, cq, rfl, hq1, hq2⟩ := o3.form HNP.out
    have B3 := b2.next b3
    go_wp2_with fail
    refine (implEdText_any A n1 c1 l A2 n2 c2 hs _ (d1.below B3) d2 (d5.below B3) (by omega) (HV.out.below (d9.next B3))).mono ?_
    rintro e w4 ⟨rfl, b4⟩
    rw [HS.out]
    dsimp only
    have B4 := B3.next b4
    go_wp2_with fail
    refine (specEdText_any A n1 c1 l A2 n2 c2 hs _ (d1.below B4) d2 (d5.below B4) D8.out (by omega)).mono ?_
    rintro e w5 ⟨rfl, b5⟩
    rw [HS.out]
    dsimp only
    have B5' := B4.next b5
    go_wp2_with fail
    refine (sameOrders_same AP AQ np cp cq P _ (o2.ods.below ((b3.next b4).next b5)) (o3.ods.below (b4.next b5))).mono ?_
    rintro e w6 ⟨rfl, b6⟩
    have B6 := B5'.next b6
    have B5 := Lib.hid (d9.next B6)
    have SO := Lib.hid (o2.pods.below (((b3.next b4).next b5).next b6))
    have SL := Lib.hid (d1.below B6)
    have SH := Lib.hid (d5.below B6)
    clear o2 o3 b2 b3 b4 b5 b6 B3 B4 B5' B6 d1 d5 d9
    cases one with
    | false =>
      go_wp2_with fail
      refine (DrawRunOrders_any b m d _ (hb.below B5.out) (by omega)).mono ?_
      rintro e x1 ⟨C, nc, cc, l2, D2, nd, cd, q, rfl, y1, y2, y3, y4, y5, y6, y7, y8⟩
      have C1 := Lib.hid (B5.out.next y8)
      have HNC := Lib.hid y1.len
      clear y4 y7 y8
      obtain ⟨X, kx, ox, HX⟩ : ∃ X kx ox, Hid (runOrders l2 q = (X, kx, ox)) := ⟨_, _, _, rfl⟩
      obtain ⟨nx, HNX⟩ : ∃ nx, Hid (X.length = nx) := ⟨_, rfl⟩
      obtain ⟨Y, ky, oy, HY⟩ : ∃ Y ky oy, Hid (ordH l2 q = (Y, ky, oy)) := ⟨_, _, _, rfl⟩
      obtain ⟨ny, HNY⟩ : ∃ ny, Hid (Y.length = ny) := ⟨_, rfl⟩
      have kxx : (kx != kx) = false := by simp
      have kyy : (ky != ky) = false := by simp
      have teqx := eqT_refl X
      have heqy := eqHS_refl Y
      go_wp2_with fail
      refine (implRunOrders_any C nc cc l2 D2 nd cd q _ y1 y5).mono ?_
      rintro e x2 ⟨v2, rfl, z2, u2⟩
      rw [HX.out] at z2 ⊢
      dsimp only at z2 ⊢
      obtain ⟨E2, f2, rfl, hf2, _⟩ := z2.form HNX.out
      have C2 := Lib.hid (C1.out.next u2)
      go_wp2_with fail
      refine (specRunOrders_any C nc cc l2 D2 nd cd q _ (y1.below u2) (y5.below u2).ods).mono ?_
      rintro e x3 ⟨v3, rfl, z3, u3⟩
      rw [HX.out] at z3 ⊢
      dsimp only at z3 ⊢
      obtain ⟨E3, f3, rfl, _, _⟩ := z3.form HNX.out
      have U3 := u2.next u3
      have C3 := Lib.hid (C2.out.next u3)
      go_wp2_with fail
      refine (implOrdersHunks_any C nc cc l2 D2 nd cd q _ (y1.below U3) (y5.below U3)).mono ?_
      rintro e x4 ⟨v4, r4, rfl, z4, u4⟩
      rw [HY.out] at z4 ⊢
      dsimp only at z4 ⊢
      obtain ⟨E4, f4, rfl, hf4, _⟩ := z4.form HNY.out
      have U4 := U3.next u4
      have C4 := Lib.hid (C3.out.next u4)
      go_wp2_with fail
      refine (specOrdersHunks_any C nc cc l2 D2 nd cd q _ (y1.below U4) (y5.below U4).ods).mono ?_
      rintro e x5 ⟨v5, r5, rfl, z5, u5⟩
      rw [HY.out] at z5 ⊢
      dsimp only at z5 ⊢
      obtain ⟨E5, f5, rfl, _, _⟩ := z5.form HNY.out
      have U5 := U4.next u5
      have C5 := Lib.hid (C4.out.next u5)
      have SX := Lib.hid (z2.strs.below ((u3.next u4).next u5))
      have SX3 := Lib.hid (z3.strs.below (u4.next u5))
      have SY := Lib.hid (z4.hks.below u5)
      have SY5 := Lib.hid z5.hks
      have SL := Lib.hid (y1.below U5)
      clear z2 z3 z4 z5 u2 u3 u4 u5 U3 U4 U5 y1 y5
      go_wp2_with fail
      refine (sameTexts_any E2 E3 nx nx f2 f3 X X _ SX.out SX3.out).mono ?_
      rintro e x6 ⟨rfl, u6⟩
      have u6 := u6.below
      rw [teqx]
      go_wp2_with fail
      refine (sameHunks_any E4 E5 ny ny f4 f5 Y Y _ (SY.out.below u6) (SY5.out.below u6)).mono ?_
      rintro e x7 ⟨rfl, u7⟩
      rw [heqy]
      have C7 := Lib.hid (C5.out.next (u6.next u7))
      have SL7 := Lib.hid (SL.out.below (u6.next u7))
      have SX7 := Lib.hid (SX.out.below (u6.next u7))
      have SY7 := Lib.hid (SY.out.below (u6.next u7))
      clear u6 u7 SX3 SY5 SL SX SY
      cases oy with
      | false =>
        go_wp2
        go_ret
        exact ⟨rfl, C7.out⟩
      | true =>
        by_cases hk : ky = 0
        · have hk0 : (ky == 0) = true := by simp [hk]
          obtain ⟨needs, HND, hif⟩ := ord_more HX.out (by rw [HY.out, hk])
          have HND := Lib.hid HND
          have HIF := Lib.hid hif
          clear hk hif
          go_wp2_with fail
          refine (implNeedsHunks_any C nc cc l2 E2 nx f2 X _ SL7.out SX7.out hf2).mono ?_
          rintro e x8 ⟨rfl, u8⟩
          rw [HND.out]
          dsimp only
          have C8 := Lib.hid (C7.out.next u8)
          by_cases h20 : 20 < needs
          · have hd2 : decide (20 < needs) = true := by simpa using h20
            have hd3 : decide ((20 : Int) < (needs : Int)) = true := by simp; omega
            obtain ⟨Z, oz, HZ⟩ : ∃ Z oz, Hid (patchOf l2 Y = (Z, oz)) := ⟨_, _, rfl⟩
            obtain ⟨nz, HNZ⟩ : ∃ nz, Hid (Z.length = nz) := ⟨_, rfl⟩
            clear h20
            go_wp2_with fail
            refine (implPatch_any C nc cc l2 E4 ny f4 Y _ (SL7.out.below u8) y2 (SY7.out.below u8) (by omega)).mono ?_
            rintro e x9 ⟨v9, rfl, z9, u9⟩
            rw [HZ.out] at z9 ⊢
            dsimp only at z9 ⊢
            obtain ⟨E9, f9, rfl, _, _⟩ := z9.form HNZ.out
            have C9 := Lib.hid (C8.out.next u9)
            clear z9 u9 u8
            go_wp2
            go_ret
            exact ⟨rfl, C9.out⟩
          · have hd2 : decide (20 < needs) = false := by simpa using h20
            have hd3 : decide ((20 : Int) < (needs : Int)) = false := by simp; omega
            have HZ := Lib.hid (HIF.out (by omega))
            clear h20
            go_wp2_with fail
            refine (implPatch_any C nc cc l2 E4 ny f4 Y _ (SL7.out.below u8) y2 (SY7.out.below u8) (by omega)).mono ?_
            rintro e x9 ⟨v9, rfl, z9, u9⟩
            rw [HZ.out] at z9 ⊢
            dsimp only at z9 ⊢
            obtain ⟨E9, f9, rfl, _, _⟩ := z9.form HNX.out
            have C9 := Lib.hid (C8.out.next u9)
            go_wp2_with fail
            refine (sameTexts_any E9 E2 nx nx f9 f2 X X _ z9.strs (SX7.out.below (u8.next u9))).mono ?_
            rintro e x10 ⟨rfl, u10⟩
            rw [teqx]
            have C10 := Lib.hid (C9.out.next u10.below)
            clear z9 u9 u8 u10
            go_wp2
            go_ret
            exact ⟨rfl, C10.out⟩
        · have hk0 : (ky == 0) = false := by simpa using hk
          clear hk
          go_wp2
          go_ret
          exact ⟨rfl, C7.out⟩
    | true =>
      obtain ⟨hok, hgd, Q, hru, hpa⟩ := ed_more HP.out HS.out
      subst hok
      have HGD := Lib.hid hgd
      have HRU := Lib.hid hru
      have HPA := Lib.hid hpa
      obtain ⟨nq, HNQ⟩ : ∃ nq, Hid (Q.length = nq) := ⟨_, rfl⟩
      have teqq := eqT_refl Q
      clear hgd hru hpa
      go_wp2_with fail
      refine (implRunOrders_any A n1 c1 l AP np cp P _ SL.out SO.out).mono ?_
      rintro e t1 ⟨tv, rfl, to1, s1⟩
      rw [HRU.out] at to1 ⊢
      dsimp only at to1 ⊢
      obtain ⟨TA, tc, rfl, _, _⟩ := to1.form HNQ.out
      go_wp2_with fail
      refine (implPatch_any A n1 c1 l A2 n2 c2 hs _ (SL.out.below s1) d2 (SH.out.below s1) (by omega)).mono ?_
      rintro e t2 ⟨tv2, rfl, to2, s2⟩
      rw [HPA.out] at to2 ⊢
      dsimp only at to2 ⊢
      obtain ⟨TB, tc2, rfl, _, _⟩ := to2.form HNQ.out
      go_wp2_with fail
      refine (implGoodOrders_any AP np cp P _ (SO.out.below (s1.next s2)).ods).mono ?_
      rintro e t3 ⟨rfl, s3⟩
      rw [HGD.out]
      go_wp2_with fail
      refine (sameTexts_any TA TB nq nq tc tc2 Q Q _ (to1.strs.below (s2.next s3)) (to2.strs.below s3)).mono ?_
      rintro e t4 ⟨rfl, s4⟩
      rw [teqq]
      replace B5 := Lib.hid (B5.out.next (((s1.next s2).next s3).next s4.below))
      clear to1 to2 s1 s2 s3 s4 SL SH SO
      go_wp2_with fail
      refine (DrawRunOrders_any b m d _ (hb.below B5.out) (by omega)).mono ?_
      rintro e x1 ⟨C, nc, cc, l2, D2, nd, cd, q, rfl, y1, y2, y3, y4, y5, y6, y7, y8⟩
      have C1 := Lib.hid (B5.out.next y8)
      have HNC := Lib.hid y1.len
      clear y4 y7 y8
      obtain ⟨X, kx, ox, HX⟩ : ∃ X kx ox, Hid (runOrders l2 q = (X, kx, ox)) := ⟨_, _, _, rfl⟩
      obtain ⟨nx, HNX⟩ : ∃ nx, Hid (X.length = nx) := ⟨_, rfl⟩
      obtain ⟨Y, ky, oy, HY⟩ : ∃ Y ky oy, Hid (ordH l2 q = (Y, ky, oy)) := ⟨_, _, _, rfl⟩
      obtain ⟨ny, HNY⟩ : ∃ ny, Hid (Y.length = ny) := ⟨_, rfl⟩
      have kxx : (kx != kx) = false := by simp
      have kyy : (ky != ky) = false := by simp
      have teqx := eqT_refl X
      have heqy := eqHS_refl Y
      go_wp2_with fail
      refine (implRunOrders_any C nc cc l2 D2 nd cd q _ y1 y5).mono ?_
      rintro e x2 ⟨v2, rfl, z2, u2⟩
      rw [HX.out] at z2 ⊢
      dsimp only at z2 ⊢
      obtain ⟨E2, f2, rfl, hf2, _⟩ := z2.form HNX.out
      have C2 := Lib.hid (C1.out.next u2)
      go_wp2_with fail
      refine (specRunOrders_any C nc cc l2 D2 nd cd q _ (y1.below u2) (y5.below u2).ods).mono ?_
      rintro e x3 ⟨v3, rfl, z3, u3⟩
      rw [HX.out] at z3 ⊢
      dsimp only at z3 ⊢
      obtain ⟨E3, f3, rfl, _, _⟩ := z3.form HNX.out
      have U3 := u2.next u3
      have C3 := Lib.hid (C2.out.next u3)
      go_wp2_with fail
      refine (implOrdersHunks_any C nc cc l2 D2 nd cd q _ (y1.below U3) (y5.below U3)).mono ?_
      rintro e x4 ⟨v4, r4, rfl, z4, u4⟩
      rw [HY.out] at z4 ⊢
      dsimp only at z4 ⊢
      obtain ⟨E4, f4, rfl, hf4, _⟩ := z4.form HNY.out
      have U4 := U3.next u4
      have C4 := Lib.hid (C3.out.next u4)
      go_wp2_with fail
      refine (specOrdersHunks_any C nc cc l2 D2 nd cd q _ (y1.below U4) (y5.below U4).ods).mono ?_
      rintro e x5 ⟨v5, r5, rfl, z5, u5⟩
      rw [HY.out] at z5 ⊢
      dsimp only at z5 ⊢
      obtain ⟨E5, f5, rfl, _, _⟩ := z5.form HNY.out
      have U5 := U4.next u5
      have C5 := Lib.hid (C4.out.next u5)
      have SX := Lib.hid (z2.strs.below ((u3.next u4).next u5))
      have SX3 := Lib.hid (z3.strs.below (u4.next u5))
      have SY := Lib.hid (z4.hks.below u5)
      have SY5 := Lib.hid z5.hks
      have SL := Lib.hid (y1.below U5)
      clear z2 z3 z4 z5 u2 u3 u4 u5 U3 U4 U5 y1 y5
      go_wp2_with fail
      refine (sameTexts_any E2 E3 nx nx f2 f3 X X _ SX.out SX3.out).mono ?_
      rintro e x6 ⟨rfl, u6⟩
      have u6 := u6.below
      rw [teqx]
      go_wp2_with fail
      refine (sameHunks_any E4 E5 ny ny f4 f5 Y Y _ (SY.out.below u6) (SY5.out.below u6)).mono ?_
      rintro e x7 ⟨rfl, u7⟩
      rw [heqy]
      have C7 := Lib.hid (C5.out.next (u6.next u7))
      have SL7 := Lib.hid (SL.out.below (u6.next u7))
      have SX7 := Lib.hid (SX.out.below (u6.next u7))
      have SY7 := Lib.hid (SY.out.below (u6.next u7))
      clear u6 u7 SX3 SY5 SL SX SY
      cases oy with
      | false =>
        go_wp2
        go_ret
        exact ⟨rfl, C7.out⟩
      | true =>
        by_cases hk : ky = 0
        · have hk0 : (ky == 0) = true := by simp [hk]
          obtain ⟨needs, HND, hif⟩ := ord_more HX.out (by rw [HY.out, hk])
          have HND := Lib.hid HND
          have HIF := Lib.hid hif
          clear hk hif
          go_wp2_with fail
          refine (implNeedsHunks_any C nc cc l2 E2 nx f2 X _ SL7.out SX7.out hf2).mono ?_
          rintro e x8 ⟨rfl, u8⟩
          rw [HND.out]
          dsimp only
          have C8 := Lib.hid (C7.out.next u8)
          by_cases h20 : 20 < needs
          · have hd2 : decide (20 < needs) = true := by simpa using h20
            have hd3 : decide ((20 : Int) < (needs : Int)) = true := by simp; omega
            obtain ⟨Z, oz, HZ⟩ : ∃ Z oz, Hid (patchOf l2 Y = (Z, oz)) := ⟨_, _, rfl⟩
            obtain ⟨nz, HNZ⟩ : ∃ nz, Hid (Z.length = nz) := ⟨_, rfl⟩
            clear h20
            go_wp2_with fail
            refine (implPatch_any C nc cc l2 E4 ny f4 Y _ (SL7.out.below u8) y2 (SY7.out.below u8) (by omega)).mono ?_
            rintro e x9 ⟨v9, rfl, z9, u9⟩
            rw [HZ.out] at z9 ⊢
            dsimp only at z9 ⊢
            obtain ⟨E9, f9, rfl, _, _⟩ := z9.form HNZ.out
            have C9 := Lib.hid (C8.out.next u9)
            clear z9 u9 u8
            go_wp2
            go_ret
            exact ⟨rfl, C9.out⟩
          · have hd2 : decide (20 < needs) = false := by simpa using h20
            have hd3 : decide ((20 : Int) < (needs : Int)) = false := by simp; omega
            have HZ := Lib.hid (HIF.out (by omega))
            clear h20
            go_wp2_with fail
            refine (implPatch_any C nc cc l2 E4 ny f4 Y _ (SL7.out.below u8) y2 (SY7.out.below u8) (by omega)).mono ?_
            rintro e x9 ⟨v9, rfl, z9, u9⟩
            rw [HZ.out] at z9 ⊢
            dsimp only at z9 ⊢
            obtain ⟨E9, f9, rfl, _, _⟩ := z9.form HNX.out
            have C9 := Lib.hid (C8.out.next u9)
            go_wp2_with fail
            refine (sameTexts_any E9 E2 nx nx f9 f2 X X _ z9.strs (SX7.out.below (u8.next u9))).mono ?_
            rintro e x10 ⟨rfl, u10⟩
            rw [teqx]
            have C10 := Lib.hid (C9.out.next u10.below)
            clear z9 u9 u8 u10
            go_wp2
            go_ret
            exact ⟨rfl, C10.out⟩
        · have hk0 : (ky == 0) = false := by simpa using hk
          clear hk
          go_wp2
          go_ret
          exact ⟨rfl, C7.out⟩

end Go.Proofs.YtnnaigoomipklaaGreatDoor
