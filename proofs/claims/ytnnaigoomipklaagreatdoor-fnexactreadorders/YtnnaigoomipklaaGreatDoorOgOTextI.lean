/-
  The text of orders, the program's.
-/
import Derived.Test.YtnnaigoomipklaaGreatDoorOgSTxt
import Derived.Test.YtnnaigoomipklaaGreatDoorOgSBld
import Derived.Test.YtnnaigoomipklaaGreatDoorOgText
import Derived.Test.YtnnaigoomipklaaGreatDoorOgOTextS
import Derived.Test.YtnnaigoomipklaaGreatDoorOgOGoodK
import Derived.Test.YtnnaigoomipklaaGreatDoorOgHMems
import Derived.Test.YtnnaigoomipklaaGreatDoorOgGood
import Derived.Test.YtnnaigoomipklaaGreatDoorOgHBases
import Derived.Test.YtnnaigoomipklaaGreatDoorOgHApp
import Derived.Test.YtnnaigoomipklaaGreatDoorOgOMem
import Derived.Lib.Overlaps
import Derived.Lib.AppendZerosOnto
import Derived.Lib.SliceRun
import Derived.Laws.Externs
import Derived.ArgAppend
import Derived.Test.YtnnaigoomipklaaGreatDoorOgMemT
import Derived.Test.YtnnaigoomipklaaGreatDoorOgURows
import Derived.Deep.RegionLaw
import Derived.Test.YtnnaigoomipklaaGreatDoorOgOMath
import Derived.Test.YtnnaigoomipklaaGreatDoorOgOGoodS
import Derived.Test.YtnnaigoomipklaaGreatDoorOgWhole
import Derived.Defers
import Derived.Recover
import Derived.Test.YtnnaigoomipklaaGreatDoorProg
import Derived.Test.YtnnaigoomipklaaGreatDoorOgSMath
import Derived.RangeFuncBox
import Derived.RangeFuncBound
import Derived.RangeFuncCalls
import Derived.RangeFuncLeaves
import Derived.RangeFuncNested
import Derived.Shelf.Abstract
import Derived.Shelf.RegionOpen
import Derived.WalkKit
import Derived.OwnWalkIn
import Derived.TacticsInMore
import Derived.LoopNIn
import Derived.LoopIn
import Derived.Maps.AppendAt
set_option linter.unusedSimpArgs false
set_option linter.unusedVariables false
namespace Go.Proofs.YtnnaigoomipklaaGreatDoor
open Go.RowKit M

/-- The program's own table of the words of orders. -/
def Ow (w : World) : Prop := ∀ k, k ≤ 5 → w.cell? ⟨0, k, none⟩ = some (.string (bs (wordO k)))
theorem Ow.below {w w' : World} (h : Ow w) (hb : Below w.heap.size w w') : Ow w' := fun k hk => cell_keep hb (h k hk)
/-- What the listed variables hold. -/
structure VarsO (w : World) : Prop where
  tab : Tab w
  ow : Ow w
theorem VarsO.below {w w' : World} (h : VarsO w) (hb : Below w.heap.size w w') : VarsO w' := ⟨h.tab.below hb, h.ow.below hb⟩

set_option maxHeartbeats 400000 in
theorem hasInput_any (k : Int) (w : World) : Calls Tryz.prog 118 #[.int .i64 k] w fun e w' => e = .returned (.bool (decide (k = 1 ∨ k = 2 ∨ k = 3))) ∧ w' = w := by
  by_cases h1 : k = 1
  · subst h1
    go_enter Tryz.func118, Tryz.ntmps118
    go_wp2
    go_ret
    exact ⟨rfl, rfl⟩
  by_cases h2 : k = 2
  · subst h2
    go_enter Tryz.func118, Tryz.ntmps118
    go_wp2
    go_ret
    exact ⟨rfl, rfl⟩
  by_cases h3 : k = 3
  · subst h3
    go_enter Tryz.func118, Tryz.ntmps118
    go_wp2
    go_ret
    exact ⟨rfl, rfl⟩
  have q1 : (k == 1) = false := by simp [h1]
  have q2 : (k == 2) = false := by simp [h2]
  have q3 : (k == 3) = false := by simp [h3]
  have hd : decide (k = 1 ∨ k = 2 ∨ k = 3) = false := by simp [h1, h2, h3]
  clear h1 h2 h3
  go_enter Tryz.func118, Tryz.ntmps118
  go_wp2
  go_ret
  exact ⟨by rw [hd]; rfl, rfl⟩

theorem bytes_bs (l : List UInt8) : (⟨l.toArray⟩ : ByteArray) = bs l := rfl

set_option maxHeartbeats 2000000 in
set_option maxRecDepth 100000 in
theorem orderText_any (b off : Nat) (x : Od) (A : Option Addr) (m c : Nat) (w : World) (h0 : w.cell? ⟨b, off, none⟩ = some (.int .i64 x.kd)) (h1 : w.cell? ⟨b, off + 1, none⟩ = some (.int .i64 x.fr)) (h2 : w.cell? ⟨b, off + 2, none⟩ = some (.int .i64 x.to_)) (h3 : w.cell? ⟨b, off + 3, none⟩ = some (.slice A m c))
    (hs : Strs w A m x.new) (hmc : m ≤ c) (hx : orderB x = true) (hv : VarsO w) :
    Calls Tryz.prog 60 #[.pointer (some ⟨b, off, none⟩)] w fun e w' => e = .returned (.string (⟨(headA x).toArray⟩ ++ tailA x)) ∧ Below w.heap.size w w' := by
  obtain ⟨a, d, ea, ed, hab, hd, hc⟩ := order_cases hx
  obtain ⟨hl1, hl2⟩ := order_lines hx
  have hts : total x.new ≤ x.new.length * 30 := total_le fun s hs => (lineB_size (hl1 s hs).1).2
  obtain ⟨kd, fr, to_, new⟩ := x
  dsimp only at ea ed hc hl1 hl2 h0 h1 h2 h3 hs hts
  subst ea ed
  have hko : kd = 1 ∨ kd = 2 ∨ kd = 3 ∨ kd = 4 ∨ kd = 5 := by omega
  obtain ⟨k, rfl⟩ : ∃ k : Nat, kd = (k : Int) := ⟨kd.toNat, by omega⟩
  have hk5 : k ≤ 5 := by omega
  have HIN := Lib.hid (show (k ≤ 3 ∧ new.length ≠ 0) ∨ (3 < k ∧ new.length = 0) by
    rcases hc with ⟨h, _, h'⟩ | ⟨h, _, _, h'⟩ | ⟨h, _, h'⟩ | ⟨h, _, h'⟩ | ⟨h, _, _, h'⟩
    · have := (lines_cases h').2.1; exact .inl ⟨by omega, by omega⟩
    · have := (lines_cases h').2.1; exact .inl ⟨by omega, by omega⟩
    · have := (lines_cases h').2.1; exact .inl ⟨by omega, by omega⟩
    · exact .inr ⟨by omega, by rw [h']; rfl⟩
    · exact .inr ⟨by omega, by rw [h']; rfl⟩)
  have HK := Lib.hid (show 1 ≤ k by omega)
  have HML := Lib.hid hs.len
  obtain ⟨T1, HT1⟩ : ∃ T1, Hid (bs (numsL a d) = T1) := ⟨_, rfl⟩
  obtain ⟨T2, HT2⟩ : ∃ T2, Hid (bs (wordO k) = T2) := ⟨_, rfl⟩
  have z1 : T1.size ≤ 11 := by rw [← HT1.out, bs_size]; exact numsL_len (by omega) (by omega)
  have z2 : T2.size ≤ 5 := by rw [← HT2.out, bs_size]; exact wordO_len _
  have y1 : (9223372036854775807 < T1.size + T2.size) = False := eq_false (by omega)
  have y2 : (9223372036854775807 < T1.size + T2.size + 1) = False := eq_false (by omega)
  obtain ⟨H, HH⟩ : ∃ H, Hid (T1 ++ T2 ++ (⟨#[10]⟩ : ByteArray) = H) := ⟨_, rfl⟩
  have HHA := Lib.hid (show (⟨(headA ⟨(k : Int), (a : Int), (d : Int), new⟩).toArray⟩ : ByteArray) = H by
    rw [← HH.out, ← HT1.out, ← HT2.out, bytes_bs, show (⟨#[10]⟩ : ByteArray) = bs [10] from rfl, add_bs, add_bs]
    unfold headA
    simp [bs_list])
  have z6 : H.size ≤ 17 := by rw [← HH.out]; simp [ByteArray.size_append]; have : (⟨#[10]⟩ : ByteArray).size = 1 := rfl; omega
  have HW := Lib.hid hv
  have hcell : w.cell? ⟨0, k, none⟩ = some (.string T2) := by rw [← HT2.out]; exact hv.ow k hk5
  have hk0 : (0 : Int) ≤ (k : Int) := by omega
  have hk6 : (k : Int) < 6 := by omega
  have HC := Lib.hid (show w.cell? ⟨b, off, none⟩ = some (.int .i64 (k : Int)) ∧ w.cell? ⟨b, off + 3, none⟩ = some (.slice A m c) from ⟨h0, h3⟩)
  have ha : a ≤ 1000 := by omega
  clear hv hx hc hko hl1 z1 z2 hab
  go_enter Tryz.func60, Tryz.ntmps60
  go_wp2
  go_region_held3 (fun w' => w'.cell? ⟨b, off, none⟩ = some (.int .i64 (k : Int)) ∧ w'.cell? ⟨b, off + 1, none⟩ = some (.int .i64 (a : Int)) ∧ w'.cell? ⟨b, off + 2, none⟩ = some (.int .i64 (d : Int)) ∧ w'.cell? ⟨0, k, none⟩ = some (.string T2)) (first | exact ⟨h0, h1, h2, hcell⟩ | exact ⟨cell_keep b1 h0, cell_keep b1 h1, cell_keep b1 h2, cell_keep b1 hcell⟩)
    (first
      | (go_at_call 117; refine (numbersText_any a d ha hd w.drew (HW.out.tab.below (Below.refl _ w).drew)).mono ?_; rintro e w1 ⟨rfl, b1'⟩
         rw [HT1.out]
         have b1 : Below w.heap.size w w1 := (Below.refl _ w).drew.next b1')
      | fail)
  clear y1 y2
  rw [HH.out]
  replace h0 := cell_keep b1 HC.out.1
  replace h3 := cell_keep b1 HC.out.2
  clear h1 h2 hcell
  obtain ⟨C, HCT⟩ : ∃ C, Hid (cat new = C) := ⟨_, rfl⟩
  have z7 : C.size ≤ 1200 := by rw [← HCT.out, cat_size]; omega
  have y3 : (9223372036854775807 < C.size + 2) = False := eq_false (by omega)
  have y4 : (9223372036854775807 < H.size + (C.size + 2)) = False := eq_false (by omega)
  have htot : Hid (total new ≤ 1200) := show total new ≤ 1200 from by omega
  have hm40 : Hid (m ≤ 40) := show m ≤ 40 from by have := HML.out; omega
  by_cases hin : k ≤ 3
  · have HQ := Lib.hid (show decide ((k : Int) = 1 ∨ (k : Int) = 2 ∨ (k : Int) = 3) = true by have := HK.out; simp; omega)
    have HT := Lib.hid (show (⟨(headA ⟨(k : Int), (a : Int), (d : Int), new⟩).toArray⟩ : ByteArray) ++ tailA ⟨(k : Int), (a : Int), (d : Int), new⟩ = H ++ (C ++ (⟨#[46, 10]⟩ : ByteArray)) by
      rw [HHA.out]
      unfold tailA
      rw [if_neg (show ¬ new.length = 0 by have := HIN.out; omega), HCT.out]
      rfl)
    clear hin z7
    go_wp2_with fail
    refine (hasInput_any (k : Int) _).mono ?_
    rintro e w2 ⟨rfl, rfl⟩
    rw [HQ.out]
    go_wp2_with fail
    refine (Join_any A m c new _ (hs.below b1) hmc (by have := htot.out; omega) (by have := hm40.out; omega)).mono ?_
    rintro e w3 ⟨rfl, b3⟩
    rw [HCT.out]
    go_wp2
    go_ret
    exact ⟨ret_str HT.out.symm, b1.next b3⟩
  · have HQ := Lib.hid (show decide ((k : Int) = 1 ∨ (k : Int) = 2 ∨ (k : Int) = 3) = false by simp; omega)
    have HT := Lib.hid (show (⟨(headA ⟨(k : Int), (a : Int), (d : Int), new⟩).toArray⟩ : ByteArray) ++ tailA ⟨(k : Int), (a : Int), (d : Int), new⟩ = H by
      rw [HHA.out]
      unfold tailA
      rw [if_pos (show new.length = 0 by have := HIN.out; omega)]
      apply bytes_ext
      simp)
    clear hin z7
    go_wp2_with fail
    refine (hasInput_any (k : Int) _).mono ?_
    rintro e w2 ⟨rfl, rfl⟩
    rw [HQ.out]
    go_wp2
    go_ret
    exact ⟨ret_str HT.out.symm, b1⟩

set_option maxHeartbeats 1000000 in
set_option maxRecDepth 100000 in
theorem implOrdersText_any (a : Option Addr) (n c : Nat) (p : List Od) (w : World) (hp : Ods w a n p) (hv : VarsO w) :
    Calls Tryz.prog 11 #[.slice a n c] w fun e w' => e = .returned (.tuple #[.string (ordersO p).1, .bool (ordersO p).2]) ∧ Below w.heap.size w w' := by
  have HN := Lib.hid hp.len
  cases hgp : ordersB p
  · have hf := Lib.hid (show ordersO p = (⟨#[]⟩, false) by unfold ordersO; rw [hgp]; simp)
    have HGP := Lib.hid hgp
    clear hgp
    go_enter Tryz.func11, Tryz.ntmps11
    go_wp2_with fail
    refine (implGoodOrders_any a n c p _ hp).mono ?_
    rintro e w1 ⟨rfl, b1⟩
    rw [HGP.out]
    go_wp2
    go_ret2
    exact ⟨by rw [hf.out]; rfl, b1⟩
  have HGP := Lib.hid hgp
  have HALL := Lib.hid (show ∀ x ∈ p, orderB x = true from List.all_eq_true.1 (orders_all hgp).1)
  have hn60 : n ≤ 60 := by rw [← HN.out]; exact (orders_all hgp).2
  have HLEN := Lib.hid (ordersT_size hgp)
  have HV := Lib.hid hv
  clear hgp hv
  go_enter Tryz.func11, Tryz.ntmps11
  go_wp2_with fail
  refine (implGoodOrders_any a n c p _ hp).mono ?_
  rintro e w1 ⟨rfl, b1⟩
  rw [HGP.out]
  have B1 := Lib.hid b1
  have HBD := Lib.hid (Bld.new w1 w.heap.size b1.size)
  clear b1
  go_wp2
  go_loopw [11] (fun i w' => ∃ j : Nat, i = .int .i64 j ∧ j ≤ n ∧ Bld w' w.heap.size w1.heap.size (ordersT (p.take j)).data.toList ∧ Below w.heap.size w w') (fun i _ => n - (intOf i).toNat)
  case atStart => exact ⟨0, rfl, by omega, HBD.out, B1.out.next (below_alloc _ _)⟩
  case round =>
    obtain ⟨j, rfl, hj, hbd, hb⟩ := hrel
    by_cases hlt : j < n
    · obtain ⟨b, off, A, m, c', x, rfl, hx, c0, c1, c2, c3, hs, hmc, hok⟩ := (hp.below hb).at_ hlt
      have HX := Lib.hid (HALL.out x (List.mem_of_getElem? hx))
      obtain ⟨T, HT⟩ : ∃ T, Hid ((⟨(headA x).toArray⟩ : ByteArray) ++ tailA x = T) := ⟨_, rfl⟩
      have HSN := Lib.hid (show (ordersT (p.take (j + 1))).data.toList = (ordersT (p.take j)).data.toList ++ T.data.toList by rw [ordersT_take hx, HT.out, ByteArray.data_append, Array.toList_append])
      have HLX := Lib.hid (show T.size ≤ 1219 by
        have h1 := order_size HX.out
        rw [← cat_size, orderA_cat, HT.out] at h1
        exact h1)
      clear hx hok
      go_wp2_with fail
      refine (orderText_any b (off + j * 4) x A m c' _ c0 c1 c2 c3 hs hmc HX.out (HV.out.below hb)).mono ?_
      rintro e w4 ⟨rfl, b4⟩
      rw [HT.out]
      go_wp2_with fail
      refine (WriteString_any w.heap.size w1.heap.size _ T _ (hbd.keep b4) (by have := HLEN.out j; have := HLX.out; rw [Array.length_toList]; show (ordersT (p.take j)).size + _ ≤ _; omega) (hb.next b4).size).mono ?_
      rintro e w5 ⟨⟨r, rfl⟩, hbd5, b5⟩
      go_wp2
      go_roundw
      case rel => exact ⟨j + 1, by go_num, by omega, by rw [HSN.out]; exact hbd5, (hb.next b4).trans b5⟩
      case measure => simp [intOf]; omega
    · have htk : p.take j = p := List.take_of_length_le (by rw [HN.out]; omega)
      have HLP := Lib.hid (HLEN.out j)
      rw [htk] at hbd HLP
      have HCL := Lib.hid (show (Lib.byteCells (ordersT p).data.toList).length = (ordersT p).size by unfold Lib.byteCells; rw [List.length_map, Array.length_toList]; rfl)
      by_cases h3 : 3000 < (ordersT p).size
      · have hf := Lib.hid (show ordersO p = (⟨#[]⟩, false) by unfold ordersO; rw [if_neg (fun e => by omega)])
        go_wp2_with fail
        refine (Tryz.Builder_Len w.heap.size w1.heap.size _ _ hbd).mono ?_
        rintro e w2 ⟨rfl, rfl⟩
        rw [HCL.out]
        go_wp2
        go_ret2
        exact ⟨by rw [hf.out]; rfl, hb⟩
      · have hf := Lib.hid (show ordersO p = (ordersT p, true) by unfold ordersO; rw [if_pos ⟨HGP.out, by omega⟩])
        go_wp2_with fail
        refine (Tryz.Builder_Len w.heap.size w1.heap.size _ _ hbd).mono ?_
        rintro e w2 ⟨rfl, rfl⟩
        rw [HCL.out]
        go_wp2_with fail
        refine (Tryz.Builder_String_any w.heap.size w1.heap.size _ _ hbd hb.size).mono ?_
        rintro e w3 ⟨rfl, b3⟩
        go_wp2
        go_ret2
        exact ⟨by rw [hf.out]; rfl, hb.trans b3⟩

end Go.Proofs.YtnnaigoomipklaaGreatDoor
