/-
  The draws of the laws on orders.
  The laws' own comparison of orders, where both are the same.
  From what a row lists of the program's own table of orders' words to what a walk takes of it.
  From what a row lists of variables to what a walk that reads orders takes of them.
  The law FnOrders.
-/
import Derived.Test.YtnnaigoomipklaaGreatDoorOhHDrawAB
import Derived.Test.YtnnaigoomipklaaGreatDoorOhSTxt
import Derived.Test.YtnnaigoomipklaaGreatDoorOhSpoil
import Derived.BigQuiet
import Derived.Test.YtnnaigoomipklaaGreatDoorOhOMem
import Derived.Test.YtnnaigoomipklaaGreatDoorOhMemT
import Derived.Test.YtnnaigoomipklaaGreatDoorOhNDoor
import Derived.Test.YtnnaigoomipklaaGreatDoorOhOTextI
import Derived.OpenShut
import Derived.ChangeArms
import Derived.Test.YtnnaigoomipklaaGreatDoorOhOReadI
import Derived.Test.YtnnaigoomipklaaGreatDoorOhOReadS
import Derived.Test.YtnnaigoomipklaaGreatDoorOhOLaws
import Derived.Test.YtnnaigoomipklaaGreatDoorOhOGoodK
import Derived.Test.YtnnaigoomipklaaGreatDoorOhHPatch
import Derived.Test.YtnnaigoomipklaaGreatDoorOhHApp
import Derived.Lib.Overlaps
import Derived.Lib.AppendZerosOnto
import Derived.Lib.SliceRun
import Derived.Laws.Externs
import Derived.ArgAppend
import Derived.Test.YtnnaigoomipklaaGreatDoorOhGood
import Derived.Test.YtnnaigoomipklaaGreatDoorOhURows
import Derived.Deep.RegionLaw
import Derived.Test.YtnnaigoomipklaaGreatDoorOhORun
import Derived.Test.YtnnaigoomipklaaGreatDoorOhWhole
import Derived.Defers
import Derived.Recover
import Derived.Test.YtnnaigoomipklaaGreatDoorProg
import Derived.Test.YtnnaigoomipklaaGreatDoorOhSMath
import Derived.Test.YtnnaigoomipklaaGreatDoorOhOEdS
import Derived.RangeFuncBox
import Derived.RangeFuncBound
import Derived.RangeFuncCalls
import Derived.RangeFuncLeaves
import Derived.RangeFuncNested
import Derived.Shelf.Abstract
import Derived.Shelf.RegionOpen
import Derived.WalkKit
import Derived.OwnWalkIn
import Derived.TacticsInMore
import Derived.LoopNIn
import Derived.LoopIn
import Derived.Maps.AppendAt
import Derived.Test.YtnnaigoomipklaaGreatDoorOhHMems
import Derived.Test.YtnnaigoomipklaaGreatDoorOhDHeap
import Derived.Test.YtnnaigoomipklaaGreatDoorOhHBases
import Derived.Test.YtnnaigoomipklaaGreatDoorOhHGoods
import Derived.Test.YtnnaigoomipklaaGreatDoorOhSame
import Derived.Deep.RegionHeld3
import Derived.StillTailTactics
import Derived.BigRegion
set_option linter.unusedSimpArgs false
set_option linter.unusedVariables false
namespace Go.Proofs.YtnnaigoomipklaaGreatDoor
open Go.RowKit Go.ChangeShapes Go.WideShapes M

/-- What the draws of orders answer. -/
def DrewO (w w' : World) (A : Option Addr) (n c : Nat) (p : List Od) : Prop := Ods w' A n p ∧ n ≤ c ∧ n ≤ 24 ∧ (∀ x ∈ p, x.new.length ≤ 5) ∧ Below w.heap.size w w'

set_option maxHeartbeats 1000000 in
theorem DrawGoodOrders_any (a : Option Addr) (n c : Nat) (w : World) (h : Bytes w a n) (hn : n ≤ 1048576) :
    Calls Tryz.prog 58 #[.slice a n c] w fun e w' => ∃ A n1 c1 p, e = .returned (.slice A n1 c1) ∧ DrewO w w' A n1 c1 p := by
  have c0 := Curs.new (c := c) h hn
  go_enter Tryz.func58, Tryz.ntmps58
  go_wp2_with fail
  refine (orders_any _ 0 _ c0 (by omega)).mono ?_
  rintro e w1 ⟨vl, l, v, p, rows, rfl, o1, h1, h2, o2, h3, h4, c3, g1⟩
  obtain ⟨A2, c2, rfl, hc2, _⟩ := o2.form rfl
  have HD := Lib.hid (show DrewO w w1 A2 p.length c2 p from ⟨o2.ods, hc2, h3, h4, below_new g1⟩)
  clear h2 h4 o1 o2
  go_wp2
  go_ret
  exact ⟨A2, _, c2, p, rfl, HD.out⟩

set_option maxHeartbeats 1000000 in
theorem DrawOrdersText_any (a : Option Addr) (n c : Nat) (w : World) (h : Bytes w a n) (hn : n ≤ 1048576) :
    Calls Tryz.prog 10 #[.slice a n c] w fun e w' => ∃ A n1 c1 p, e = .returned (.slice A n1 c1) ∧ DrewO w w' A n1 c1 p := by
  go_enter Tryz.func10, Tryz.ntmps10
  go_wp2_with fail
  refine (DrawGoodOrders_any a n c _ h hn).mono ?_
  rintro e w1 ⟨A, n1, c1, p, rfl, hd⟩
  have HD := Lib.hid hd
  clear hd
  go_wp2
  go_ret
  exact ⟨A, n1, c1, p, rfl, HD.out⟩

theorem ordersO_len (p : List Od) : (ordersO p).1.size ≤ 3000 := by
  unfold ordersO
  split
  · rename_i h; exact h.2
  · decide
def orderTexts : List ByteArray := [⟨#[]⟩, ⟨#[49, 100, 10]⟩, ⟨#[49, 97, 10, 120, 10, 46, 10]⟩, ⟨#[49, 97, 10, 120, 10]⟩, ⟨#[49, 97, 10, 46, 10]⟩, ⟨#[49, 115, 47, 46, 47, 47, 10]⟩, ⟨#[50, 44, 49, 100, 10]⟩, ⟨#[49, 44, 49, 100, 10]⟩, ⟨#[48, 100, 10]⟩, ⟨#[100, 10]⟩]
theorem orderTexts_small : ∀ s ∈ orderTexts, s.size ≤ 20 := by decide

set_option maxHeartbeats 2000000 in
set_option maxRecDepth 100000 in
theorem DrawReadOrders_any (a : Option Addr) (n c : Nat) (w : World) (h : Bytes w a n) (hn : n ≤ 1048576) :
    Calls Tryz.prog 17 #[.slice a n c] w fun e w' => ∃ s : ByteArray, s.size ≤ 3010 ∧ e = .returned (.string s) ∧ Below w.heap.size w w' := by
  have c0 := Curs.new (c := c) h hn
  go_enter Tryz.func17, Tryz.ntmps17
  go_wp2_with fail
  refine (orders_any _ 0 _ c0 (by omega)).mono ?_
  rintro e w1 ⟨vl, l, v, p, rows, rfl, o1, h1, h2, o2, h3, h4, c3, g1⟩
  obtain ⟨A2, c2, rfl, hc2, _⟩ := o2.form rfl
  obtain ⟨A1, c1, rfl, _, _⟩ := o1.form rfl
  have HSP := Lib.hid o2.ods
  obtain ⟨S, ok, HS⟩ : ∃ S ok, Hid (ordersO p = (S, ok)) := ⟨_, _, rfl⟩
  have hS : S.size ≤ 3000 := by have := ordersO_len p; rw [HS.out] at this; exact this
  have G1 := Lib.hid g1
  clear h1 h2 h3 h4 o1 o2 g1 c0
  go_wp2_with fail
  refine (specOrdersText_any A2 p.length c2 p _ HSP.out).mono ?_
  rintro e w2 ⟨rfl, b2⟩
  rw [HS.out]
  dsimp only
  have G2 := Lib.hid (grown_below G1.out b2)
  have C2 := Lib.hid (c3.below b2)
  clear b2 c3
  go_wp2_with fail
  refine (pick_any w.heap.size _ 4 _ C2.out (by omega) (by omega)).mono ?_
  rintro e w3 ⟨q, rfl, hq0, hq1, c4, g4⟩
  have G3 := Lib.hid (G2.out.trans g4)
  clear g4
  by_cases hqa : q = 0
  · have hqb : (q == 0) = true := by simp [hqa]
    clear hqa hq0 hq1
    go_wp2_with fail
    refine (spoilt_any w.heap.size _ S ⟨#[97, 99, 100, 46, 44, 49, 10]⟩ hS (by decide) (by decide) _ c4 (by omega)).mono ?_
    rintro e w4 ⟨s, hs, rfl, c5, g5⟩
    have BL := Lib.hid (below_new (G3.out.trans g5))
    clear g5
    go_wp2
    go_ret
    exact ⟨s, hs, rfl, BL.out⟩
  · have hqb : (q == 0) = false := by simpa using hqa
    by_cases hqc : q = 1
    · have hqd : (q == 1) = true := by simp [hqc]
      have hst := strs_lit w3 orderTexts (by decide) (fun s hs => by have := orderTexts_small s hs; unfold maxLen; omega)
      have hgl := c4.lt
      clear hqa hqc hq0 hq1
      go_wp2_with fail
      refine (of_any w.heap.size _ _ 10 10 orderTexts _ (c4.below (below_alloc _ _)) (by omega) hst (by omega) (by omega) (fun x e => by injection e with e; subst e; simp; omega)).mono ?_
      rintro e w4 ⟨s, hs, rfl, c5, g5⟩
      have HSS := Lib.hid (orderTexts_small s hs)
      have BL := Lib.hid (below_new ((grown_alloc G3.out _).trans g5))
      clear g5 hs
      go_wp2
      go_ret
      exact ⟨s, by have := HSS.out; omega, rfl, BL.out⟩
    · have hqd : (q == 1) = false := by simpa using hqc
      have BL := Lib.hid (below_new G3.out)
      clear hqa hqc hq0 hq1
      go_wp2
      go_ret
      exact ⟨S, by omega, rfl, BL.out⟩

end Go.Proofs.YtnnaigoomipklaaGreatDoor

namespace Go.Proofs.YtnnaigoomipklaaGreatDoor
open Go.RowKit Go.ChangeShapes Go.WideShapes M

set_option maxHeartbeats 2000000 in
set_option maxRecDepth 100000 in
theorem sameOrders_same (a b : Option Addr) (n c d : Nat) (l : List Od) (w : World) (hl : Ods w a n l) (hr : Ods w b n l) :
    Calls Tryz.prog 16 #[.slice a n c, .slice b n d] w fun e w' => e = .returned (.bool true) ∧ Below w.heap.size w w' := by
  have hlim := hl.lim
  unfold maxLen at hlim
  have hq : ((n : Int) != (n : Int)) = false := by simp
  go_enter Tryz.func16, Tryz.ntmps16
  go_wp2
  go_loopw [14] (fun i w' => ∃ k : Nat, i = .int .i64 k ∧ k ≤ n ∧ Below w.heap.size w w') (fun i _ => n - (intOf i).toNat)
  case atStart => exact ⟨0, rfl, by omega, Below.refl _ _⟩
  case round =>
    obtain ⟨k, rfl, hk, hb⟩ := hrel
    by_cases hlt : k < n
    · obtain ⟨b1, off1, A1, m1, c1, x, rfl, hx, d0, d1, d2, d3, hs1, _, _⟩ := (hl.below hb).at_ hlt
      obtain ⟨b2, off2, A2, m2, c2, y, rfl, hy, e0, e1, e2, e3, hs2, _, _⟩ := (hr.below hb).at_ hlt
      have hxy : y = x := by rw [hx] at hy; injection hy with hy; exact hy.symm
      subst hxy
      clear hx hy
      have hi0 : (0 : Int) ≤ (k : Int) := by omega
      have hi1 : (k : Int) < (n : Int) := by omega
      have hp0 : ∀ o, (wr.alloc o).cell? ⟨b2, off2 + k * 4, none⟩ = some (.int .i64 y.kd) := fun o => cell_keep (below_alloc wr o) e0
      have hp1 : ∀ o, (wr.alloc o).cell? ⟨b2, off2 + k * 4 + 1, none⟩ = some (.int .i64 y.fr) := fun o => cell_keep (below_alloc wr o) e1
      have hp2 : ∀ o, (wr.alloc o).cell? ⟨b2, off2 + k * 4 + 2, none⟩ = some (.int .i64 y.to_) := fun o => cell_keep (below_alloc wr o) e2
      have hp3 : ∀ o, (wr.alloc o).cell? ⟨b2, off2 + k * 4 + 3, none⟩ = some (.slice A2 m2 c2) := fun o => cell_keep (below_alloc wr o) e3
      have hbn := hb.next (below_alloc wr (.cells #[.int .i64 y.kd, .int .i64 y.fr, .int .i64 y.to_, .slice A1 m1 c1] 78))
      have hq2 : eqT y.new y.new = true := eqT_refl _
      go_wp2
      go_quiet (first | (go_at_call 26; refine Calls.quiet_of (sameTexts_any A1 A2 m1 m2 c1 c2 y.new y.new _ ?_ ?_); exact hs1.below (below_drewN (below_alloc _ _) _); exact hs2.below (below_drewN (below_alloc _ _) _)))
      go_wp2
      go_roundw
      case rel => exact ⟨k + 1, by go_num, by omega, below_drewN hbn _⟩
      case measure => simp [intOf]; omega
    · go_wp2
      go_ret
      exact ⟨rfl, hb⟩

end Go.Proofs.YtnnaigoomipklaaGreatDoor

namespace Go.Proofs.YtnnaigoomipklaaGreatDoor
open Go.RowKit Go.Lib M

theorem gOw : Tryz.prog.globalNamed "loop.example/g00825/impl.orderWords" = some 0 := by kernel_rfl

set_option maxRecDepth 100000 in
theorem ow_of_head {W : World} {r : List (String × DataW Unit)} (h : laidMet Tryz.prog (("loop.example/g00825/impl.orderWords", Rows.laid_loop_example_g00825_impl_orderWords) :: r) W) : Ow W := by
  obtain ⟨ps, ⟨g', t', cs, fuel, p, q, hg', ht', hvar, hd, _, _⟩, _⟩ := h
  obtain rfl := Option.some.inj (gOw.symm.trans hg')
  obtain rfl := Option.some.inj ((show (Tryz.prog.globals[0]?).map (·.type) = some 151 by kernel_rfl).symm.trans ht')
  obtain ⟨xs, m, rfl, hx, hl, hn, hi⟩ := DataW.trod_array Tryz.underlying151 hd
  have hc : Tryz.prog.cellsOf 9 = 1 := by kernel_rfl
  have hx1 : xs.map (·.1) = [.lit (.string []), .lit (.string [97]), .lit (.string [105]), .lit (.string [99]), .lit (.string [100]), .lit (.string [115, 47, 46, 47, 47])] := by
    have := congrArg Prod.fst hx
    unfold Rows.laid_loop_example_g00825_impl_orderWords at this
    injection this with this
    exact this.symm
  have one : ∀ (i : Nat) (l : List UInt8), i < 6 → (xs.map (·.1))[i]? = some (.lit (.string l)) → W.cell? ⟨0, i, none⟩ = some (.string ⟨l.toArray⟩) := by
    intro i l hi4 hxi
    have h1 := hi i hi4
    rw [hc, Nat.mul_one] at h1
    have hy : xs[i]? = some (xs[i]'(by omega)) := List.getElem?_eq_getElem (by omega)
    rw [hy] at h1
    obtain ⟨s, e1, e2, _⟩ := DataW.trod_string Tryz.underlying9 h1
    rw [List.getElem?_map, hy, Option.map_some, e2] at hxi
    have hs : s = ⟨l.toArray⟩ := by
      injection hxi with hxi
      injection hxi with hxi
      injection hxi with hxi
      rw [← hxi]
    have h2 : cs.toList[i]? = some (.string s) := by
      have := congrArg (·[0]?) e1
      simpa [List.getElem?_take, List.getElem?_drop] using this
    have h3 := World.var?_cell gOw hvar i
    rw [h3, ← hs]
    simpa using h2
  intro k hk
  have hk' : k = 0 ∨ k = 1 ∨ k = 2 ∨ k = 3 ∨ k = 4 ∨ k = 5 := by omega
  rcases hk' with rfl | rfl | rfl | rfl | rfl | rfl
  · exact one 0 [] (by omega) (by rw [hx1]; rfl)
  · exact one 1 [97] (by omega) (by rw [hx1]; rfl)
  · exact one 2 [105] (by omega) (by rw [hx1]; rfl)
  · exact one 3 [99] (by omega) (by rw [hx1]; rfl)
  · exact one 4 [100] (by omega) (by rw [hx1]; rfl)
  · exact one 5 [115, 47, 46, 47, 47] (by omega) (by rw [hx1]; rfl)

end Go.Proofs.YtnnaigoomipklaaGreatDoor

namespace Go.Proofs.YtnnaigoomipklaaGreatDoor
open Go.RowKit Go.Lib M

/-- The list of three tables, the two faults and the words. -/
abbrev laidO6 : List (String × DataW Unit) := laid5 ++ [("loop.example/g00825/impl.orderWords", Rows.laid_loop_example_g00825_impl_orderWords)]
set_option maxRecDepth 100000 in
theorem varsR_of_6 {W : World} (h : laidMet Tryz.prog laidO6 W) (hsh : W.ShapedOpen Tryz.prog) : VarsR W :=
  ⟨⟨tab_of_head h.tail.tail, syn_of_head h.tail.tail.tail.tail, rng_of_head h.tail.tail.tail, Tryz.laysM145.s1_3 W hsh⟩, ow_of_head h.tail.tail.tail.tail.tail⟩
set_option maxRecDepth 100000 in
theorem plainO6 (W : World) : laidMetH Tryz.prog laidO6 W = laidMet Tryz.prog laidO6 W := MakeChecks.laidMetH_plain _ _ _ (by kernel_rfl)

end Go.Proofs.YtnnaigoomipklaaGreatDoor

namespace Go.Proofs.YtnnaigoomipklaaGreatDoor
open Go.RowKit Go.ChangeShapes Go.WideShapes M

theorem readOr_of {p : List Od} {S : ByteArray} (h : ordersO p = (S, true)) : readOr S = (p, 0, true) := by
  unfold ordersO at h
  split at h
  · rename_i hc
    injection h with h _
    exact readOr_some (textOrders_some.2 ⟨by rw [← h]; exact hc.2, hc.1, h⟩)
  · injection h with _ h
    cases h
theorem readOr_two {t : ByteArray} {P : List Od} {k : Int} {o : Bool} (h : readOr t = (P, k, o)) : (k = 0 ∧ o = true ∧ ordersO P = (t, true)) ∨ (k = 1 ∧ o = false) := by
  cases ht : textOrders t with
  | none =>
    rw [readOr_none ht] at h
    injection h with h1 h2
    injection h2 with h2 h3
    exact .inr ⟨h2.symm, h3.symm⟩
  | some q =>
    rw [readOr_some ht] at h
    injection h with h1 h2
    injection h2 with h2 h3
    subst h1
    obtain ⟨a, b, c⟩ := textOrders_some.1 ht
    exact .inl ⟨h2.symm, h3.symm, by unfold ordersO; rw [if_pos ⟨b, by rw [c]; exact a⟩, c]⟩

set_option maxHeartbeats 4000000 in
set_option maxRecDepth 100000 in
theorem FnOrders_any (w : World) (hv : VarsR w) (a : Option Addr) (n c : Nat) (ha : Bytes w a n) (b : Option Addr) (m d : Nat) (hb : Bytes w b m) :
    Calls Tryz.prog 3 #[.slice a n c, .slice b m d] w fun e w' => e = .returned (.bool true) ∧ Below w.heap.size w w' := by
  by_cases hbig : 1048576 < n + m
  · have hd : decide (1048576 < n + m) = true := by simpa using hbig
    go_enter Tryz.func3, Tryz.ntmps3
    go_wp2_with fail
    refine (big_any a b n m c d _ ha.1 hb.1).mono ?_
    rintro e w1 ⟨rfl, rfl⟩
    rw [hd]
    go_wp2
    go_ret
    exact ⟨rfl, Below.refl _ _⟩
  · have hd : decide (1048576 < n + m) = false := by simpa using hbig
    go_enter Tryz.func3, Tryz.ntmps3
    go_wp2_with fail
    refine (big_any a b n m c d _ ha.1 hb.1).mono ?_
    rintro e w1 ⟨rfl, rfl⟩
    rw [hd]
    go_wp2_with fail
    refine (DrawOrdersText_any a n c _ ha (by omega)).mono ?_
    rintro e w1 ⟨A, n1, c1, p, rfl, d1, d2, d3, d4, d5⟩
    have HV := Lib.hid hv
    have HL1 := Lib.hid d1.len
    clear d4 hv
    obtain ⟨S, ok, HS⟩ : ∃ S ok, Hid (ordersO p = (S, ok)) := ⟨_, _, rfl⟩
    have hSz : S.size ≤ 1048576 := by have := ordersO_len p; rw [HS.out] at this; dsimp only at this; omega
    have hSS := beq_same S
    obtain ⟨G, HG⟩ : ∃ G, Hid (ordersB p = G) := ⟨_, rfl⟩
    go_wp2_with fail
    refine (implOrdersText_any A n1 c1 p _ d1 (HV.out.below d5).o).mono ?_
    rintro e w2 ⟨rfl, b2⟩
    rw [HS.out]
    dsimp only
    go_wp2_with fail
    refine (specOrdersText_any A n1 c1 p _ (d1.below b2)).mono ?_
    rintro e w3 ⟨rfl, b3⟩
    rw [HS.out]
    dsimp only
    have B3 := b2.next b3
    go_wp2_with fail
    refine (implGoodOrders_any A n1 c1 p _ (d1.below B3)).mono ?_
    rintro e w4 ⟨rfl, b4⟩
    rw [HG.out]
    have B4 := B3.next b4
    go_wp2_with fail
    refine (specGoodOrders_any A n1 c1 p _ (d1.below B4)).mono ?_
    rintro e w5 ⟨rfl, b5⟩
    rw [HG.out]
    have B5 := Lib.hid (d5.next (B4.next b5))
    have s1 := d1.below (B4.next b5)
    clear b2 b3 b4 b5 B3 B4 d1 d5
    cases ok with
    | false =>
      go_wp2_with fail
      refine (DrawReadOrders_any b m d _ (hb.below B5.out) (by omega)).mono ?_
      rintro e x1 ⟨t, hts, rfl, y1⟩
      have C1 := Lib.hid (B5.out.next y1)
      clear y1
      obtain ⟨P, k2, o2, HR⟩ : ∃ P k2 o2, Hid (readOr t = (P, k2, o2)) := ⟨_, _, _, rfl⟩
      obtain ⟨np, HNP⟩ : ∃ np, Hid (P.length = np) := ⟨_, rfl⟩
      go_wp2_with fail
      refine (implReadOrders_any t (by omega) _ (HV.out.below C1.out)).mono ?_
      rintro e x2 ⟨v2, r2, rfl, z2, u2⟩
      rw [HR.out] at z2 ⊢
      dsimp only at z2 ⊢
      obtain ⟨E2, f2, rfl, _, _⟩ := z2.form HNP.out
      go_wp2_with fail
      refine (specReadOrders_any t (by omega) _).mono ?_
      rintro e x3 ⟨v3, r3, rfl, z3, u3⟩
      rw [HR.out] at z3 ⊢
      dsimp only at z3 ⊢
      obtain ⟨E3, f3, rfl, _, _⟩ := z3.form HNP.out
      have C3 := Lib.hid (C1.out.next (u2.next u3))
      have Z2 := Lib.hid (z2.ods.below u3)
      have Z3 := Lib.hid z3.ods
      clear z2 z3 u2 u3
      go_wp2_with fail
      refine (sameOrders_same E2 E3 np f2 f3 P _ Z2.out Z3.out).mono ?_
      rintro e x4 ⟨rfl, u4⟩
      have C4 := Lib.hid (C3.out.next u4)
      have Z4 := Lib.hid (Z2.out.below u4)
      clear u4
      rcases readOr_two HR.out with ⟨rfl, rfl, ho⟩ | ⟨rfl, rfl⟩
      · have HO := Lib.hid ho
        have hbt := beq_same t
        clear ho
        go_wp2_with fail
        refine (implOrdersText_any E2 np f2 P _ Z4.out (HV.out.below C4.out).o).mono ?_
        rintro e x5 ⟨rfl, u5⟩
        rw [HO.out]
        dsimp only
        have C5 := Lib.hid (C4.out.next u5)
        clear u5
        go_wp2
        go_ret
        exact ⟨rfl, C5.out⟩
      · go_wp2
        go_ret
        exact ⟨rfl, C4.out⟩
    | true =>
      have HRS := Lib.hid (readOr_of HS.out)
      go_wp2_with fail
      refine (implReadOrders_any S hSz _ (HV.out.below B5.out)).mono ?_
      rintro e w6 ⟨v6, r6, rfl, z6, b6⟩
      rw [HRS.out] at z6 ⊢
      dsimp only at z6 ⊢
      obtain ⟨A6, c6, rfl, _, _⟩ := z6.form HL1.out
      go_wp2_with fail
      refine (sameOrders_same A6 A n1 c6 c1 p _ z6.ods (s1.below b6)).mono ?_
      rintro e w7 ⟨rfl, b7⟩
      replace B5 := Lib.hid ((B5.out.next b6).next b7)
      clear z6 b6 b7 s1
      go_wp2_with fail
      refine (DrawReadOrders_any b m d _ (hb.below B5.out) (by omega)).mono ?_
      rintro e x1 ⟨t, hts, rfl, y1⟩
      have C1 := Lib.hid (B5.out.next y1)
      clear y1
      obtain ⟨P, k2, o2, HR⟩ : ∃ P k2 o2, Hid (readOr t = (P, k2, o2)) := ⟨_, _, _, rfl⟩
      obtain ⟨np, HNP⟩ : ∃ np, Hid (P.length = np) := ⟨_, rfl⟩
      go_wp2_with fail
      refine (implReadOrders_any t (by omega) _ (HV.out.below C1.out)).mono ?_
      rintro e x2 ⟨v2, r2, rfl, z2, u2⟩
      rw [HR.out] at z2 ⊢
      dsimp only at z2 ⊢
      obtain ⟨E2, f2, rfl, _, _⟩ := z2.form HNP.out
      go_wp2_with fail
      refine (specReadOrders_any t (by omega) _).mono ?_
      rintro e x3 ⟨v3, r3, rfl, z3, u3⟩
      rw [HR.out] at z3 ⊢
      dsimp only at z3 ⊢
      obtain ⟨E3, f3, rfl, _, _⟩ := z3.form HNP.out
      have C3 := Lib.hid (C1.out.next (u2.next u3))
      have Z2 := Lib.hid (z2.ods.below u3)
      have Z3 := Lib.hid z3.ods
      clear z2 z3 u2 u3
      go_wp2_with fail
      refine (sameOrders_same E2 E3 np f2 f3 P _ Z2.out Z3.out).mono ?_
      rintro e x4 ⟨rfl, u4⟩
      have C4 := Lib.hid (C3.out.next u4)
      have Z4 := Lib.hid (Z2.out.below u4)
      clear u4
      rcases readOr_two HR.out with ⟨rfl, rfl, ho⟩ | ⟨rfl, rfl⟩
      · have HO := Lib.hid ho
        have hbt := beq_same t
        clear ho
        go_wp2_with fail
        refine (implOrdersText_any E2 np f2 P _ Z4.out (HV.out.below C4.out).o).mono ?_
        rintro e x5 ⟨rfl, u5⟩
        rw [HO.out]
        dsimp only
        have C5 := Lib.hid (C4.out.next u5)
        clear u5
        go_wp2
        go_ret
        exact ⟨rfl, C5.out⟩
      · go_wp2
        go_ret
        exact ⟨rfl, C4.out⟩

end Go.Proofs.YtnnaigoomipklaaGreatDoor
