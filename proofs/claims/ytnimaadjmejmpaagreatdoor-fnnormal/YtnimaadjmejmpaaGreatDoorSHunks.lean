/-
  Hunks made of steps: the program's small functions.
  Hunks made of steps: the program's twoSides.hunk, and StepsHunks' first half.
  StepsHunks, the program's.
-/
import Derived.Test.YtnimaadjmejmpaaGreatDoorSSteps
import Derived.Test.YtnimaadjmejmpaaGreatDoorSGoods
import Derived.Test.YtnimaadjmejmpaaGreatDoorHBack
import Derived.Test.YtnimaadjmejmpaaGreatDoorHSame
import Derived.Test.YtnimaadjmejmpaaGreatDoorHPlace
import Derived.Test.YtnimaadjmejmpaaGreatDoorSMath
set_option linter.unusedSimpArgs false
set_option linter.unusedVariables false
namespace Go.Proofs.YtnimaadjmejmpaaGreatDoor
open Go.RowKit Go.ChangeShapes Go.WideShapes M

theorem cell_s {w : World} {p a : Addr} {u v : Value} (h : w.cell? a = some u) (hn : a.block ≠ p.block) : (w.setCell p v).cell? a = some u :=
  (World.cell?_of_block (Below.heap_setCell w p v a.block hn)).trans h
theorem zero_hk {w : World} {k : Nat} (h : w.heap[k]? = some (.cells #[.int .i64 0, .int .i64 0, .slice none 0 0] 97 (0, 0))) : w.cell? ⟨k, 0, none⟩ = some (.int .i64 0) ∧ w.cell? ⟨k, 1, none⟩ = some (.int .i64 0) ∧ w.cell? ⟨k, 2, none⟩ = some (.slice none 0 0) ∧ ∀ j, w.frozen? ⟨k, j, none⟩ = false :=
  ⟨by simp [World.cell?, h], by simp [World.cell?, h], by simp [World.cell?, h], fun j => by simp [World.frozen?, h]⟩
def baseN (a : Int) (n : Nat) : Int := if n = 0 then a else a - 1
theorem baseN_eq (a : Int) (l : List ByteArray) {n : Nat} (h : l.length = n) : baseI a l = baseN a n := by unfold baseI baseN; rw [h]
theorem numI_zero (n : Nat) (a : Int) : a - numI 0 n = baseN a n := by unfold numI baseN; split <;> omega

set_option maxHeartbeats 1000000 in
theorem place_any (x y : Int) (a : Option Addr) (n c : Nat) (w : World) (hx0 : -100000 ≤ x) (hx1 : x ≤ 100000) :
    Calls Tryz.prog 99 #[.agg #[.int .i64 x, .int .i64 y, .slice a n c]] w fun e w' => e = .returned (.int .i64 (baseN x n)) ∧ Below w.heap.size w w' := by
  obtain ⟨W, HW⟩ : ∃ W, Hid (W = w.alloc (.cells #[.int .i64 x, .int .i64 y, .slice a n c] 60)) := ⟨_, rfl⟩
  have HB := Lib.hid (show Below w.heap.size w W by rw [HW.out]; exact below_alloc w _)
  have k0 : W.cell? ⟨w.heap.size, 0, none⟩ = some (.int .i64 x) := by rw [HW.out]; simp
  have k2 : W.cell? ⟨w.heap.size, 2, none⟩ = some (.slice a n c) := by rw [HW.out]; simp
  have hN : numI 0 n = 0 ∨ numI 0 n = 1 := by unfold numI; split <;> simp
  obtain ⟨q, Hq⟩ : ∃ q, Hid (numI 0 n = q) := ⟨_, rfl⟩
  have hq : 0 ≤ q ∧ q ≤ 1 := by have := Hq.out; omega
  obtain ⟨hq0, hq1⟩ := hq
  have hws : IntKind.i64.wrap (x - q) = x - q := by rw [IntKind.wrap_i64]; omega
  have hf := Lib.hid (show baseN x n = x - q by rw [← Hq.out, numI_zero])
  clear hN
  go_enter Tryz.func99, Tryz.ntmps99
  go_wp2
  rw [← HW.out]
  go_region_held3 (fun w' => w'.cell? ⟨w.heap.size, 0, none⟩ = some (.int .i64 x) ∧ w'.cell? ⟨w.heap.size, 2, none⟩ = some (.slice a n c)) (first | exact ⟨k0, k2⟩ | go_keep)
    (first | (go_at_call 53; refine (numberAtI_any 0 n (by omega) (by omega) _).mono ?_; rintro e w9 ⟨rfl, rfl⟩; rw [Hq.out]) | fail)
  go_wp2
  go_ret
  exact ⟨ret_int hf.out.symm, HB.out.drew⟩

set_option maxHeartbeats 1000000 in
theorem comesTo_any (x y pl : Int) (a : Option Addr) (n c : Nat) (w : World) (hx0 : -100000 ≤ x) (hx1 : x ≤ 100000) :
    Calls Tryz.prog 62 #[.agg #[.int .i64 x, .int .i64 y, .slice a n c], .int .i64 pl] w fun e w' => e = .returned (.bool (decide (baseN x n = pl))) ∧ Below w.heap.size w w' := by
  obtain ⟨W, HW⟩ : ∃ W, Hid (W = w.alloc (.cells #[.int .i64 x, .int .i64 y, .slice a n c] 63)) := ⟨_, rfl⟩
  have HB := Lib.hid (show Below w.heap.size w W by rw [HW.out]; exact below_alloc w _)
  obtain ⟨q, Hq⟩ : ∃ q, Hid (baseN x n = q) := ⟨_, rfl⟩
  cases h : decide (q = pl)
  all_goals
    have h7 : (q == pl) = decide (q = pl) := rfl
    rw [h] at h7
    have H := Lib.hid h
    clear h
    go_enter Tryz.func62, Tryz.ntmps62
    go_wp2_with fail
    rw [← HW.out]
    refine (place_any x y a n c _ hx0 hx1).mono ?_
    rintro e w1 ⟨rfl, b1⟩
    rw [Hq.out]
    go_wp2
    go_ret
    exact ⟨ret_bool (by rw [Hq.out, H.out]), HB.out.next b1⟩

set_option maxHeartbeats 1000000 in
theorem standsIn_any (x y : Int) (a : Option Addr) (n c : Nat) (old : List ByteArray) (al : Option Addr) (nl cl : Nat) (l : List ByteArray) (b off at' go hi : Nat) (w : World) (ho : Strs w a n old) (hl : Strs w al nl l)
    (k0 : w.cell? ⟨b, off, none⟩ = some (.int .i64 (at' : Int))) (k1 : w.cell? ⟨b, off + 1, none⟩ = some (.int .i64 (go : Int))) (hhi : hi = at' + go) (h1 : hi ≤ nl) (h2 : nl ≤ cl) (h3 : nl ≤ 1048576) :
    Calls Tryz.prog 61 #[.agg #[.int .i64 x, .int .i64 y, .slice a n c], .slice al nl cl, .pointer (some ⟨b, off, none⟩)] w fun e w' => e = .returned (.bool (eqT old (seg l at' hi))) ∧ Below w.heap.size w w' := by
  obtain ⟨W, HW⟩ : ∃ W, Hid (W = w.alloc (.cells #[.int .i64 x, .int .i64 y, .slice a n c] 62)) := ⟨_, rfl⟩
  have HB := Lib.hid (show Below w.heap.size w W by rw [HW.out]; exact below_alloc w _)
  have m2 : W.cell? ⟨w.heap.size, 2, none⟩ = some (.slice a n c) := by rw [HW.out]; simp
  have HH := Lib.hid hhi
  have K0 := Lib.hid (cell_keep HB.out k0)
  have K1 := Lib.hid (cell_keep HB.out k1)
  have hh0 : at' ≤ hi := by omega
  clear hhi k0 k1
  go_enter Tryz.func61, Tryz.ntmps61
  go_wp2
  rw [← HW.out]
  go_region_held3 (fun w' => w'.cell? ⟨w.heap.size, 2, none⟩ = some (.slice a n c)) (first | exact m2 | exact cell_keep D1.out m2 | exact cell_keep D2.out m2 | go_keep)
    (first
      | (go_at_call 93; refine (goneOf_any al nl cl b off at' go hi _ (cell_keep (Below.refl _ W).drew K0.out) (cell_keep (Below.refl _ W).drew K1.out) HH.out h1 h2 h3).mono ?_; rintro e w4 ⟨rfl, d4⟩
         have D1 := Lib.hid (show Below W.heap.size W w4 from (Below.refl _ W).drew.next d4.below))
      | (go_at_call 101; refine (slicesEqual_any a _ n _ c _ old (seg l at' hi) _ ((ho.below HB.out).below D1.out) (((hl.below HB.out).below D1.out).cut3 hh0 h1)).mono ?_; rintro e w5 ⟨rfl, d5⟩
         have D2 := Lib.hid (show Below W.heap.size W w5 from D1.out.next d5.below))
      | fail)
  go_wp2
  go_ret
  exact ⟨rfl, HB.out.next D2.out⟩

end Go.Proofs.YtnimaadjmejmpaaGreatDoor

namespace Go.Proofs.YtnimaadjmejmpaaGreatDoor
open Go.RowKit Go.ChangeShapes Go.WideShapes M

set_option maxHeartbeats 2000000 in
set_option maxRecDepth 100000 in
theorem hunk_any (x : Sp) (A : Option Addr) (m c : Nat) (B : Option Addr) (m2 d : Nat) (w : World) (hl : Strs w A m x.old) (hl2 : Strs w B m2 x.new) (hm2 : m2 ≤ 1048576) (hx0 : -100000 ≤ x.fr) (hx1 : x.fr ≤ 100000) :
    Calls Tryz.prog 58 #[sidesV x A m c B m2 d] w fun e w' => ∃ v, e = .returned (.agg #[.int .i64 (hunkP x).at_, .int .i64 (m : Int), v]) ∧ OwnV w' w.heap.size v x.new ∧ Below w.heap.size w w' := by
  unfold sidesV
  have HA := Lib.hid (show (hunkP x).at_ = baseN x.fr m from baseN_eq _ _ hl.len)
  obtain ⟨W, HW⟩ : ∃ W, Hid (W = (w.alloc (.cells #[.int .i64 x.fr, .int .i64 x.to_, .slice A m c, .int .i64 x.at_, .int .i64 x.en, .slice B m2 d] 65)).alloc (.cells #[.int .i64 0, .int .i64 0, .slice none 0 0] 97)) := ⟨_, rfl⟩
  have HB := Lib.hid (show Below w.heap.size w W by rw [HW.out]; exact (below_alloc w _).next (below_alloc _ _))
  have HQ := Lib.hid (show W.heap[w.heap.size]? = some (.cells #[.int .i64 x.fr, .int .i64 x.to_, .slice A m c, .int .i64 x.at_, .int .i64 x.en, .slice B m2 d] 65 (0, 0)) by
    rw [HW.out, Below.heap_alloc _ _ _ (by simp)]; exact heap_at rfl)
  have HR := Lib.hid (show W.heap[w.heap.size + 1]? = some (.cells #[.int .i64 0, .int .i64 0, .slice none 0 0] 97 (0, 0)) by
    rw [HW.out]; exact heap_at (by simp))
  have HSZ := Lib.hid (show W.heap.size = w.heap.size + 2 by rw [HW.out]; simp)
  have k0 : W.cell? ⟨w.heap.size, 0, none⟩ = some (.int .i64 x.fr) := by simp [World.cell?, HQ.out]
  have k1 : W.cell? ⟨w.heap.size, 1, none⟩ = some (.int .i64 x.to_) := by simp [World.cell?, HQ.out]
  have k2 : W.cell? ⟨w.heap.size, 2, none⟩ = some (.slice A m c) := by simp [World.cell?, HQ.out]
  have k5 : W.cell? ⟨w.heap.size, 5, none⟩ = some (.slice B m2 d) := by simp [World.cell?, HQ.out]
  have hne : w.heap.size ≠ w.heap.size + 1 := by omega
  go_enter Tryz.func58, Tryz.ntmps58
  go_wp2
  rw [← HW.out]
  go_region_held3 (fun w' => w'.cell? ⟨w.heap.size, 0, none⟩ = some (.int .i64 x.fr) ∧ w'.cell? ⟨w.heap.size, 1, none⟩ = some (.int .i64 x.to_) ∧ w'.cell? ⟨w.heap.size, 2, none⟩ = some (.slice A m c) ∧ w'.cell? ⟨w.heap.size, 5, none⟩ = some (.slice B m2 d))
    (first | exact ⟨k0, k1, k2, k5⟩ | exact ⟨cell_keep B5.out k0, cell_keep B5.out k1, cell_keep B5.out k2, cell_keep B5.out k5⟩ | exact ⟨cell_keep B6.out k0, cell_keep B6.out k1, cell_keep B6.out k2, cell_keep B6.out k5⟩ | exact ⟨cell_s (cell_s (cell_s (cell_keep B6.out k0) hne) hne) hne, cell_s (cell_s (cell_s (cell_keep B6.out k1) hne) hne) hne, cell_s (cell_s (cell_s (cell_keep B6.out k2) hne) hne) hne, cell_s (cell_s (cell_s (cell_keep B6.out k5) hne) hne) hne⟩ | go_keep)
    (first
      | (go_at_call 99; refine (place_any x.fr x.to_ A m c _ hx0 hx1).mono ?_; rintro e w5 ⟨rfl, b5⟩
         have B5 := Lib.hid (show Below W.heap.size W w5 from (Below.refl _ W).drew.next b5))
      | (go_at_call 54; refine (copyOf_any B m2 d x.new _ ((hl2.below HB.out).below B5.out) hm2).mono ?_; rintro e w6 ⟨v6, rfl, o6, b6⟩
         obtain ⟨v6a, v6c, rfl, h61, h62⟩ := o6.form hl2.len
         have B6 := Lib.hid (show Below W.heap.size W w6 from B5.out.next b6)
         have O6 := Lib.hid (show OwnV w6 W.heap.size (.slice v6a m2 v6c) x.new from o6.more B5.out.size)
         have Z6 := Lib.hid (show w6.heap[w.heap.size + 1]? = some (.cells #[.int .i64 0, .int .i64 0, .slice none 0 0] 97 (0, 0)) from (B6.out.block _ (by rw [HSZ.out]; omega)).trans HR.out)
         obtain ⟨z0, z1, z2, zf⟩ := zero_hk Z6.out)
      | fail)
  go_wp2
  (try simp only [Exit.inBlock, Exit.then])
  refine bodyPost_ret (v := .agg #[.int .i64 (baseN x.fr m), .int .i64 (m : Int), .slice v6a m2 v6c]) (by simp [results, Tryz.results58, go_sem, z0, z1, z2]) rfl ?_
  refine ⟨_, by rw [HA.out], ?_, ?_⟩
  · exact ((((O6.out.setBelow (by rw [HSZ.out]; simp) _).setBelow (by rw [HSZ.out]; simp) _).setBelow (by rw [HSZ.out]; simp) _)).more (by rw [HSZ.out]; omega)
  · exact (((HB.out.next B6.out).setCell (by simp) _).setCell (by simp) _).setCell (by simp) _

theorem cut_hks (a : Option Addr) (n c hi : Nat) (h2 : hi ≤ c) (w : World) :
    (Instr.slice 34 (.slice a n c) none (some (.int .i64 (hi : Int))) none).run Tryz.prog w = .ok (.slice a hi c) w := by
  obtain ⟨i, h3, h4, h5, h6⟩ := info_parts hk_info
  have he : Tryz.prog.elem 34 = 97 := by simp [Program.elem, Tryz.underlying34]
  have := run_slice_h (P := Tryz.prog) w 34 a n c (by rw [he]; exact Tryz.underlying34) .i64 hi (by omega) (by omega)
  rw [this, he]
  have h0 := cutA_zero a c
  unfold cutA at h0
  simp [sizeOf, typeInfo, h3, h5, sliced, h0]
theorem Hks.take_ {w : World} {a : Option Addr} {n k : Nat} {l : List Hk} (h : Hks w a n l) (hk : k ≤ n) : Hks w a k (l.take k) :=
  ⟨by simp [h.len]; omega, by have := h.lim; omega, fun j x hx => h.cell j x (by rw [List.getElem?_take] at hx; split at hx; exact hx; cases hx)⟩

theorem eqT_comm (a b : List ByteArray) : eqT a b = eqT b a := by unfold eqT; rw [Bool.eq_iff_iff]; simp; exact ⟨fun h => h.symm, fun h => h.symm⟩
theorem goodP_parts {x : Sp} (h : stepB x = true) : ∃ at' : Nat, (hunkP x).at_ = (at' : Int) ∧ at' ≤ 1000 ∧ 0 ≤ x.fr ∧ x.fr ≤ 1000 ∧ 0 ≤ x.at_ ∧ x.at_ ≤ 1000 ∧ x.old.length ≤ 40 ∧ x.new.length ≤ 40 := by
  obtain ⟨h1, h2, h3⟩ := stepB_parts h
  obtain ⟨A, B, e1, e2, q1, q2, g1, z, nz⟩ := side_le h1
  obtain ⟨C, E, e3, e4, q3, q4, g2, z2, nz2⟩ := side_le h2
  have h5 := (hunkP_end h).2
  refine ⟨(hunkP x).at_.toNat, by omega, ?_, by omega, by omega, by omega, by omega, goodB_len g1, goodB_len g2⟩
  have h6 := (hunkP_end h).1
  have h7 : 0 ≤ (hunkP x).gone := by unfold hunkP; simp
  omega

end Go.Proofs.YtnimaadjmejmpaaGreatDoor

namespace Go.Proofs.YtnimaadjmejmpaaGreatDoor
open Go.RowKit Go.ChangeShapes Go.WideShapes M

/-- Whether one step is not what stands there. -/
def OtC (l : List ByteArray) (p : List Sp) (k : Nat) (x : Sp) : Bool := !eqT (oldOf l (hunkP x)) x.old || decide (baseI x.at_ x.new ≠ (hunkP x).at_ + moreP p k)

set_option maxHeartbeats 4000000 in
set_option maxRecDepth 100000 in
theorem implStepsHunks_any (a : Option Addr) (nl cl : Nat) (l : List ByteArray) (b0 : Option Addr) (n c : Nat) (p : List Sp) (w : World) (hl : Strs w a nl l) (hcl : nl ≤ cl) (hp : Sps w b0 n p) (hsm : ∀ x ∈ p, x.old.length ≤ 1048576 ∧ x.new.length ≤ 1048576) (hnl : nl ≤ 1048576) :
    Calls Tryz.prog 21 #[.slice a nl cl, .slice b0 n c] w fun e w' => ∃ v vs, e = .returned (.tuple #[v, .int .i64 (hunksOf l p).2.1, .bool (hunksOf l p).2.2]) ∧ OwnH w' w.heap.size v (hunksOf l p).1 vs ∧ Below w.heap.size w w' := by
  clear hsm
  cases hgl : goodB l
  · have hf := Lib.hid (show hunksOf l p = ([], 0, false) by unfold hunksOf hunksOk; rw [hgl]; rfl)
    have HG := Lib.hid hgl
    clear hgl
    go_enter Tryz.func21, Tryz.ntmps21
    go_wp2_with fail
    refine (implGoodLines_any a nl cl l _ hl).mono ?_
    rintro e w1 ⟨rfl, b1⟩
    rw [HG.out]
    go_wp2
    go_ret3
    exact ⟨_, [], by rw [hf.out]; rfl, by rw [hf.out]; exact OwnH.nil_, b1⟩
  cases hgp : stepsB p
  · have hf := Lib.hid (show hunksOf l p = ([], 0, false) by unfold hunksOf hunksOk; rw [hgl, hgp]; rfl)
    have HG := Lib.hid hgl
    have HGP := Lib.hid hgp
    clear hgl hgp
    go_enter Tryz.func21, Tryz.ntmps21
    go_wp2_with fail
    refine (implGoodLines_any a nl cl l _ hl).mono ?_
    rintro e w1 ⟨rfl, b1⟩
    rw [HG.out]
    go_wp2_with fail
    refine (implGoodSteps_any b0 n c p _ (hp.below b1)).mono ?_
    rintro e w2 ⟨rfl, b2⟩
    rw [HGP.out]
    go_wp2
    go_ret3
    exact ⟨_, [], by rw [hf.out]; rfl, by rw [hf.out]; exact OwnH.nil_, b1.next b2⟩
  have HG := Lib.hid hgl
  have HGP := Lib.hid hgp
  have HF := Lib.hid (show hunksOf l p = ((hunksC l p).1, (hunksC l p).2, true) by unfold hunksOf hunksOk; rw [hgl, hgp]; rfl)
  have HN := Lib.hid hp.len
  have HL := Lib.hid hl.len
  have hall : p.all stepB = true := by unfold stepsB at hgp; simp only [Bool.and_eq_true] at hgp; exact hgp.1
  have hn20 : n ≤ 20 := by unfold stepsB at hgp; simp only [Bool.and_eq_true, decide_eq_true_eq] at hgp; rw [← hp.len]; exact hgp.2
  have HALL := Lib.hid (List.all_eq_true.1 hall)
  clear hgl hgp hall
  go_enter Tryz.func21, Tryz.ntmps21
  go_wp2_with fail
  refine (implGoodLines_any a nl cl l _ hl).mono ?_
  rintro e w1 ⟨rfl, b1⟩
  rw [HG.out]
  go_wp2_with fail
  refine (implGoodSteps_any b0 n c p _ (hp.below b1)).mono ?_
  rintro e w2 ⟨rfl, b2⟩
  rw [HGP.out]
  have B2 := Lib.hid (b1.next b2)
  clear b1 b2
  go_wp2
  go_loopw [7, 23] (fun v i w' => ∃ j : Nat, ∃ vs, i = .int .i64 j ∧ j ≤ n ∧ OwnH w' w.heap.size v ((p.take j).map hunkP) vs ∧ Below w.heap.size w w') (fun _ i _ => n - (intOf i).toNat)
  case atStart => exact ⟨0, [], rfl, by omega, by simpa using OwnH.nil_, B2.out⟩
  case round =>
    obtain ⟨j, vs, rfl, hj, ho, hb⟩ := hrel
    by_cases hlt : j < n
    · obtain ⟨b, off, A, m, c', B, m2, c2', x, rfl, hx, c0, c1, c2, c3, c4, c5, hs, hmc, hs2, hmc2, hok⟩ := (hp.below hb).at_ hlt
      obtain ⟨at', ea, ha1, hf0, hf1, hq0, hq1, ho40, hn40⟩ := goodP_parts (HALL.out x (List.mem_of_getElem? hx))
      have hm2 : m2 ≤ 40 := by rw [← hs2.len]; exact hn40
      have hm1 : m ≤ 40 := by rw [← hs.len]; exact ho40
      have HTK := Lib.hid (show (p.take (j + 1)).map hunkP = (p.take j).map hunkP ++ [hunkP x] by rw [take_snoc hx, List.map_append]; rfl)
      have HGO := Lib.hid (show (hunkP x).gone = (m : Int) by unfold hunkP; dsimp only; rw [hs.len])
      have HOK := Lib.hid (show i64ok (hunkP x).at_ ∧ i64ok (hunkP x).gone by rw [ea, HGO.out]; exact ⟨⟨by omega, by omega⟩, ⟨by omega, by omega⟩⟩)
      have HO := Lib.hid ho
      have HLEN := Lib.hid (show ((p.take j).map hunkP).length ≤ 1048576 by simp; omega)
      clear hx ea ho40 hn40 ho
      go_wp2_with fail
      refine (sidesOf_any b (off + j * 6) x A m c' B m2 c2' _ ⟨c0, c1, c2, c3, c4, c5⟩).mono ?_
      rintro e w3 ⟨rfl, b3⟩
      clear c0 c1 c2 c3 c4 c5
      go_wp2_with fail
      refine (hunk_any x A m c' B m2 c2' _ (hs.below b3) (hs2.below b3) (by omega) (by omega) (by omega)).mono ?_
      rintro e w4 ⟨v4, rfl, o4, b4⟩
      have HF4 := Lib.hid (show ∀ g, v4.ownBlock = some g → ¬ Blk u7 vs g from fun g e e2 => by
        have h3 := (o4.lt e).1; have h4 := (HO.out.lt e2).2; have h5 := b3.size; omega)
      have O4 := Lib.hid (o4.more (show w.heap.size ≤ w3.heap.size from (hb.next b3).size))
      have HO4 := Lib.hid ((HO.out.below b3).below b4)
      have HB4 := Lib.hid ((hb.next b3).next b4)
      obtain ⟨v4a, v4n, v4c, rfl⟩ : ∃ v4a v4n v4c, v4 = .slice v4a v4n v4c := by obtain ⟨A, c, e, _⟩ := o4.form rfl; exact ⟨_, _, _, e⟩
      clear o4 b3 b4 hs hs2
      go_wp2_with (first
        | (at_builtin; refine wpList_hk (.tmp 26) (.tmp 32) w.heap.size u7 _ vs (HO4.out.below (below_alloc _ _)) (hunkP x) HOK.out (.slice v4a v4n v4c) (O4.out.below (below_alloc _ _)) HF4.out w4.heap.size (by simp) (by rw [HGO.out]; simp) (by simp) HLEN.out (Nat.le_trans HB4.out.size (by simp)) rfl rfl rfl rfl ?_
           intro v5 w5 o5 g5 p5
           have HB5 := Lib.hid (Below.grown (HB4.out.next (below_alloc _ _)) g5 (Nat.le_trans HB4.out.size (by simp)) (fun k e => (HO.out.lt (.inl e)).1)))
        | fail)
      go_roundw
      case rel => exact ⟨j + 1, _, by go_num, by omega, by rw [HTK.out]; exact o5, HB5.out⟩
      case measure => simp [intOf]; omega
    · obtain rfl : j = n := by omega
      have htk : p.take j = p := List.take_of_length_le (by rw [HN.out]; exact Nat.le_refl _)
      rw [htk] at ho
      obtain ⟨A7, c7, rfl, h71, h72⟩ := ho.form (show (p.map hunkP).length = j by rw [List.length_map, HN.out])
      have HCL := Lib.hid (show goodH (l.length : Int) (p.map hunkP) = goodH (nl : Int) (p.map hunkP) by rw [HL.out])
      cases hq : goodH (nl : Int) (p.map hunkP)
      · have HQ := Lib.hid hq
        have hf := Lib.hid (show hunksOf l p = ([], 3, true) by rw [HF.out]; unfold hunksC; rw [HCL.out, hq]; rfl)
        clear hq
        go_wp2_with fail
        refine (implGoodHunks_any (nl : Int) A7 j c7 (p.map hunkP) _ ho.hks ⟨by omega, by omega⟩).mono ?_
        rintro e w3 ⟨rfl, b3⟩
        rw [HQ.out]
        go_wp2
        go_ret3
        exact ⟨_, [], by rw [hf.out]; rfl, by rw [hf.out]; exact OwnH.nil_, hb.next b3⟩
      · have HQ := Lib.hid hq
        have hnl40 : nl ≤ 40 := by have := (goodH_parts hq).2.1; omega
        clear hq
        go_wp2_with fail
        refine (implGoodHunks_any (nl : Int) A7 j c7 (p.map hunkP) _ ho.hks ⟨by omega, by omega⟩).mono ?_
        rintro e w3 ⟨rfl, b3⟩
        rw [HQ.out]
        have HO3 := Lib.hid (ho.below b3)
        have HB3 := Lib.hid (hb.next b3)
        clear ho hb b3 hj hlt
        go_wp2
        go_loopw [42] (fun i w' => ∃ k : Nat, i = .int .i64 k ∧ k ≤ j ∧ Hid (otherB l (moreP p k) (p.drop k) = otherB l 0 p) ∧ OwnH w' w.heap.size (.slice A7 j c7) (p.map hunkP) vs ∧ Below w.heap.size w w') (fun i _ => j - (intOf i).toNat)
        case atStart => exact ⟨0, rfl, by omega, by rw [moreP_zero]; rfl, HO3.out, HB3.out⟩
        case round =>
          obtain ⟨k, rfl, hk, HOT, ho, hb⟩ := hrel
          by_cases hlt : k < j
          · obtain ⟨b, off, A, m, c', B, m2, c2', x, rfl, hx, c0, c1, c2, c3, c4, c5, hs, hmc, hs2, hmc2, hok⟩ := (hp.below hb).at_ hlt
            obtain ⟨at', ea, ha1, hf0, hf1, hq0, hq1, ho40, hn40⟩ := goodP_parts (HALL.out x (List.mem_of_getElem? hx))
            have hm1 : m ≤ 40 := by rw [← hs.len]; exact ho40
            have HGO := Lib.hid (show (hunkP x).gone = (m : Int) by unfold hunkP; dsimp only; rw [hs.len])
            have hmx : (p.map hunkP)[k]? = some (hunkP x) := by simp [hx]
            have hfit := goodH_mem HQ.out (List.mem_of_getElem? hmx)
            obtain ⟨hi, Hhi⟩ : ∃ hi : Nat, Hid (hi = at' + m) := ⟨_, rfl⟩
            have hih : hi ≤ nl := by have h1 := hfit.2.2.1; rw [ea, HGO.out] at h1; have := Hhi.out; omega
            have HPL := Lib.hid (place_at HQ.out hx)
            rw [ea] at HPL
            obtain ⟨pl, Hpl⟩ : ∃ pl : Int, Hid ((at' : Int) + moreP p k = pl) := ⟨_, rfl⟩
            rw [Hpl.out] at HPL
            have HOLD := Lib.hid (show oldOf l (hunkP x) = seg l at' hi by unfold oldOf; rw [ea, HGO.out, Hhi.out]; congr 1)
            have HBN := Lib.hid (show baseI x.at_ x.new = baseN x.at_ m2 from baseN_eq _ _ hs2.len)
            have HST := Lib.hid (other_step (l := l) (more := moreP p k) hx)
            have HMS := Lib.hid (moreP_succ hx)
            have HC := Lib.hid (show OtC l p k x = (!eqT x.old (seg l at' hi) || decide (baseN x.at_ m2 ≠ pl)) by unfold OtC; rw [HOLD.out, HBN.out, ea, Hpl.out, eqT_comm])
            obtain ⟨g7, y, a2, my, cy, hA7, hg70, hg71, hy, hu, hmcy, e0, e1, e2, oy, iy0, iy1, hfz⟩ := ho.at_ hlt
            rw [hmx] at hy
            injection hy with hy
            subst hy
            subst hA7
            rw [ea] at e0
            rw [HGO.out] at e1
            have HXX := Lib.hid hx
            have hcut := cut_hks (some ⟨g7, 0, none⟩) j c7 k (by omega)
            have HO := Lib.hid ho
            have HHK := Lib.hid (ho.hks.take_ (show k ≤ j by omega))
            have EE := Lib.hid (show wr.cell? ⟨g7, k * 3, none⟩ = some (.int .i64 (at' : Int)) ∧ wr.cell? ⟨g7, k * 3 + 1, none⟩ = some (.int .i64 (m : Int)) from ⟨e0, e1⟩)
            have HOA := Lib.hid hok
            clear hx ea hmx hfit ho e0 e1 e2 oy iy0 iy1 hfz hu hmcy hok ho40 hn40 h71 h72
            go_wp2_with fail
            refine (sidesOf_any b (off + k * 6) x A m c' B m2 c2' _ ⟨c0, c1, c2, c3, c4, c5⟩).mono ?_
            rintro e w4 ⟨rfl, b4⟩
            clear c0 c1 c2 c3 c4 c5
            unfold sidesV
            obtain ⟨W5, HW5⟩ : ∃ W5, Hid (W5 = w4.alloc (.cells #[.int .i64 x.fr, .int .i64 x.to_, .slice A m c', .int .i64 x.at_, .int .i64 x.en, .slice B m2 c2'] 65)) := ⟨_, rfl⟩
            have B45 := Lib.hid (show Below w4.heap.size w4 W5 by rw [HW5.out]; exact below_alloc w4 _)
            have BR5 := Lib.hid (b4.next B45.out)
            have q0 : W5.cell? ⟨w4.heap.size, 0, none⟩ = some (.int .i64 x.fr) := by rw [HW5.out]; simp
            have q1 : W5.cell? ⟨w4.heap.size, 1, none⟩ = some (.int .i64 x.to_) := by rw [HW5.out]; simp
            have q2 : W5.cell? ⟨w4.heap.size, 2, none⟩ = some (.slice A m c') := by rw [HW5.out]; simp
            have q3 : W5.cell? ⟨w4.heap.size, 3, none⟩ = some (.int .i64 x.at_) := by rw [HW5.out]; simp
            have q4 : W5.cell? ⟨w4.heap.size, 4, none⟩ = some (.int .i64 x.en) := by rw [HW5.out]; simp
            have q5 : W5.cell? ⟨w4.heap.size, 5, none⟩ = some (.slice B m2 c2') := by rw [HW5.out]; simp
            have e0 := cell_keep BR5.out EE.out.1
            have hi0 : (0 : Int) ≤ (k : Int) := by omega
            have hi1 : (k : Int) < (j : Int) := by omega
            clear b4
            go_wp2
            rw [← HW5.out]
            go_region_held3 (fun w' => w'.cell? ⟨g7, k * 3, none⟩ = some (.int .i64 (at' : Int))) (first | exact e0 | exact cell_keep B56.out e0 | go_keep)
              (first
                | (go_at_call 60; refine (implPlaceOf_any (some ⟨g7, 0, none⟩) k c7 ((p.map hunkP).take k) (nl : Int) (at' : Int) W5.drew (HHK.out.below BR5.out.drew) ⟨by omega, by omega⟩).mono ?_; rintro e w6 ⟨rfl, b6⟩
                   have B56 := Lib.hid (show Below W5.heap.size W5 w6 from (Below.refl _ W5).drew.next b6)
                   rw [HPL.out]
                   clear b6)
                | fail)
            replace q0 := cell_keep B56.out q0
            replace q1 := cell_keep B56.out q1
            replace q2 := cell_keep B56.out q2
            replace q3 := cell_keep B56.out q3
            replace q4 := cell_keep B56.out q4
            replace q5 := cell_keep B56.out q5
            have HB46 := Lib.hid (BR5.out.next B56.out)
            have HB6 := Lib.hid (hb.next HB46.out)
            have E0 := Lib.hid (cell_keep HB46.out EE.out.1)
            have E1 := Lib.hid (cell_keep HB46.out EE.out.2)
            clear e0
            go_wp2
            cases hE : eqT x.old (seg l at' hi)
            · have HE := Lib.hid hE
              have hf := Lib.hid (show hunksOf l p = ([], 2, true) by
                have h1 : otherB l 0 p = true := by rw [← HOT.out, HST.out]; show (OtC l p k x || _) = true; rw [HC.out, hE]; rfl
                rw [HF.out]; unfold hunksC; rw [HCL.out, HQ.out, h1]; rfl)
              clear hE
              first | (go_region_with
                (first
                  | (go_at_call 61; refine (standsIn_any x.fr x.to_ A m c' x.old a nl cl l g7 (k * 3) at' m hi w6.drew ((hs.below HB46.out).below (Below.refl _ w6).drew) ((hl.below HB6.out).below (Below.refl _ w6).drew) (cell_keep (Below.refl _ w6).drew E0.out) (cell_keep (Below.refl _ w6).drew E1.out) Hhi.out hih hcl hnl).mono ?_; rintro e w7 ⟨rfl, b7⟩
                     have D7 := Lib.hid (show Below w6.heap.size w6 w7 from (Below.refl _ w6).drew.next b7)
                     rw [HE.out])
                  
                  | fail)) | fail
              all_goals go_wp2
              all_goals go_ret3
              all_goals exact ⟨_, [], by rw [hf.out]; rfl, by rw [hf.out]; exact OwnH.nil_, HB6.out.next D7.out⟩
            · have HE := Lib.hid hE
              cases hC : decide (baseN x.at_ m2 = pl)
              · have HCM := Lib.hid hC
                have hf := Lib.hid (show hunksOf l p = ([], 2, true) by
                  have h1 : otherB l 0 p = true := by rw [← HOT.out, HST.out]; show (OtC l p k x || _) = true; rw [HC.out, hE]; simp at hC; simp [hC]
                  rw [HF.out]; unfold hunksC; rw [HCL.out, HQ.out, h1]; rfl)
                clear hE hC
                go_region_held3 (fun w' => w'.cell? ⟨w4.heap.size, 0, none⟩ = some (.int .i64 x.fr) ∧ w'.cell? ⟨w4.heap.size, 1, none⟩ = some (.int .i64 x.to_) ∧ w'.cell? ⟨w4.heap.size, 2, none⟩ = some (.slice A m c') ∧ w'.cell? ⟨w4.heap.size, 3, none⟩ = some (.int .i64 x.at_) ∧ w'.cell? ⟨w4.heap.size, 4, none⟩ = some (.int .i64 x.en) ∧ w'.cell? ⟨w4.heap.size, 5, none⟩ = some (.slice B m2 c2')) (first | exact ⟨q0, q1, q2, q3, q4, q5⟩ | exact ⟨cell_keep D7.out q0, cell_keep D7.out q1, cell_keep D7.out q2, cell_keep D7.out q3, cell_keep D7.out q4, cell_keep D7.out q5⟩ | exact ⟨cell_keep D8.out q0, cell_keep D8.out q1, cell_keep D8.out q2, cell_keep D8.out q3, cell_keep D8.out q4, cell_keep D8.out q5⟩ | go_keep)
                  (first
                    | (go_at_call 61; refine (standsIn_any x.fr x.to_ A m c' x.old a nl cl l g7 (k * 3) at' m hi w6.drew ((hs.below HB46.out).below (Below.refl _ w6).drew) ((hl.below HB6.out).below (Below.refl _ w6).drew) (cell_keep (Below.refl _ w6).drew E0.out) (cell_keep (Below.refl _ w6).drew E1.out) Hhi.out hih hcl hnl).mono ?_; rintro e w7 ⟨rfl, b7⟩
                       have D7 := Lib.hid (show Below w6.heap.size w6 w7 from (Below.refl _ w6).drew.next b7)
                       rw [HE.out])
                    | (go_at_call 62; refine (comesTo_any x.at_ x.en pl B m2 c2' w7 (by omega) (by omega)).mono ?_; rintro e w8 ⟨rfl, b8⟩
                       have D8 := Lib.hid (show Below w6.heap.size w6 w8 from D7.out.next b8)
                       rw [HCM.out])
                    | fail)
                go_wp2
                go_ret3
                exact ⟨_, [], by rw [hf.out]; rfl, by rw [hf.out]; exact OwnH.nil_, HB6.out.next D8.out⟩
              · have HCM := Lib.hid hC
                have hN := Lib.hid (show otherB l (moreP p (k + 1)) (p.drop (k + 1)) = otherB l 0 p by
                  rw [← HOT.out, HST.out, HMS.out]
                  have h1 : OtC l p k x = false := by rw [HC.out, hE]; simp at hC; simp [hC]
                  show _ = (OtC l p k x || _)
                  rw [h1, Bool.false_or])
                clear hE hC
                go_region_held3 (fun w' => w'.cell? ⟨w4.heap.size, 0, none⟩ = some (.int .i64 x.fr) ∧ w'.cell? ⟨w4.heap.size, 1, none⟩ = some (.int .i64 x.to_) ∧ w'.cell? ⟨w4.heap.size, 2, none⟩ = some (.slice A m c') ∧ w'.cell? ⟨w4.heap.size, 3, none⟩ = some (.int .i64 x.at_) ∧ w'.cell? ⟨w4.heap.size, 4, none⟩ = some (.int .i64 x.en) ∧ w'.cell? ⟨w4.heap.size, 5, none⟩ = some (.slice B m2 c2')) (first | exact ⟨q0, q1, q2, q3, q4, q5⟩ | exact ⟨cell_keep D7.out q0, cell_keep D7.out q1, cell_keep D7.out q2, cell_keep D7.out q3, cell_keep D7.out q4, cell_keep D7.out q5⟩ | exact ⟨cell_keep D8.out q0, cell_keep D8.out q1, cell_keep D8.out q2, cell_keep D8.out q3, cell_keep D8.out q4, cell_keep D8.out q5⟩ | go_keep)
                  (first
                    | (go_at_call 61; refine (standsIn_any x.fr x.to_ A m c' x.old a nl cl l g7 (k * 3) at' m hi w6.drew ((hs.below HB46.out).below (Below.refl _ w6).drew) ((hl.below HB6.out).below (Below.refl _ w6).drew) (cell_keep (Below.refl _ w6).drew E0.out) (cell_keep (Below.refl _ w6).drew E1.out) Hhi.out hih hcl hnl).mono ?_; rintro e w7 ⟨rfl, b7⟩
                       have D7 := Lib.hid (show Below w6.heap.size w6 w7 from (Below.refl _ w6).drew.next b7)
                       rw [HE.out])
                    | (go_at_call 62; refine (comesTo_any x.at_ x.en pl B m2 c2' w7 (by omega) (by omega)).mono ?_; rintro e w8 ⟨rfl, b8⟩
                       have D8 := Lib.hid (show Below w6.heap.size w6 w8 from D7.out.next b8)
                       rw [HCM.out])
                    | fail)
                go_wp2
                go_roundw
                case rel => exact ⟨k + 1, by go_num, by omega, hN.out, HO.out.below (HB46.out.next D8.out), HB6.out.next D8.out⟩
                case measure => simp [intOf]; omega
          · have hf := Lib.hid (show hunksOf l p = (p.map hunkP, 0, true) by
              have h1 : otherB l 0 p = false := by rw [← HOT.out]; exact other_end (by rw [HN.out]; omega)
              rw [HF.out]; unfold hunksC; rw [HCL.out, HQ.out, h1]; rfl)
            go_wp2
            go_ret3
            exact ⟨_, vs, by rw [hf.out]; rfl, by rw [hf.out]; exact ho, hb⟩

end Go.Proofs.YtnimaadjmejmpaaGreatDoor
