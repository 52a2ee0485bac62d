/-
  The laws' own comparison of groups, where both are the same.
  From what a row lists of the program's own table of signs to what a walk takes of it.
  From what a row lists of the program's own table of kinds to what a walk takes of it.
  ReadUnified, the program's.
  From what the row of ReadUnified lists of variables to what its walk takes of them.
  From what the row of FnGroupsDone lists of variables to what its walk takes of them: both of the program's own tables.
  The law FnGroupsDone.
-/
import Derived.Test.YtkamenidgkjodaaGreatDoorQbGMem
import Derived.Test.YtkamenidgkjodaaGreatDoorQbMemT
import Derived.Deep.RegionHeld3
import Derived.BigQuiet
import Derived.Test.YtkamenidgkjodaaGreatDoorQbNDoor
import Derived.Test.YtkamenidgkjodaaGreatDoorQbUTexts
import Derived.OpenShut
import Derived.ChangeArms
import Derived.Test.YtkamenidgkjodaaGreatDoorQbUTurn
import Derived.Test.YtkamenidgkjodaaGreatDoorQbUHead
import Derived.Test.YtkamenidgkjodaaGreatDoorQbURdr
import Derived.Test.YtkamenidgkjodaaGreatDoorQbHunked
import Derived.Test.YtkamenidgkjodaaGreatDoorQbUTurnS
import Derived.Test.YtkamenidgkjodaaGreatDoorQbHSame
import Derived.Test.YtkamenidgkjodaaGreatDoorQbUApplyS
set_option linter.unusedSimpArgs false
set_option linter.unusedVariables false
namespace Go.Proofs.YtkamenidgkjodaaGreatDoor
open Go.RowKit M

set_option maxHeartbeats 2000000 in
set_option maxRecDepth 100000 in
theorem sameGroup_same (A B : Option Addr) (n c d : Nat) (x : Gp) (w : World) (hl : Rws w A n x.rows) (hr : Rws w B n x.rows) :
    Calls Tryz.prog 41 #[.agg #[.int .i64 x.at_, .int .i64 x.to_, .slice A n c], .agg #[.int .i64 x.at_, .int .i64 x.to_, .slice B n d]] w fun e w' => e = .returned (.bool true) ∧ Below w.heap.size w w' := by
  have hlim := hl.lim
  unfold maxLen at hlim
  have q0 : (x.at_ != x.at_) = false := by simp
  have q1 : (x.to_ != x.to_) = false := by simp
  have q2 : ((n : Int) != (n : Int)) = false := by simp
  obtain ⟨W, HW⟩ : ∃ W, Hid ((w.alloc (.cells #[.int .i64 x.at_, .int .i64 x.to_, .slice A n c] 60)).alloc (.cells #[.int .i64 x.at_, .int .i64 x.to_, .slice B n d] 60) = W) := ⟨_, rfl⟩
  have HB := Lib.hid (show Below w.heap.size w W by rw [← HW.out]; exact ((Below.refl _ _).next (below_alloc _ _)).next (below_alloc _ _))
  have HA0 := Lib.hid (show W.cell? ⟨w.heap.size, 2, none⟩ = some (.slice A n c) by rw [← HW.out]; exact cell_keep (below_alloc _ _) (by rw [World.cell?, heap_alloc_new]; rfl))
  have HA1 := Lib.hid (show W.cell? ⟨w.heap.size + 1, 2, none⟩ = some (.slice B n d) by
    have hs : (w.alloc (.cells #[.int .i64 x.at_, .int .i64 x.to_, .slice A n c] 60)).heap.size = w.heap.size + 1 := by simp
    rw [← HW.out, ← hs, World.cell?, heap_alloc_new]; rfl)
  go_enter Tryz.func41, Tryz.ntmps41
  go_wp2
  rw [HW.out]
  go_loopw [30] (fun i w' => ∃ k : Nat, i = .int .i64 k ∧ k ≤ n ∧ Below W.heap.size W w') (fun i _ => n - (intOf i).toNat)
  case atStart => exact ⟨0, rfl, by omega, Below.refl _ _⟩
  case round =>
    obtain ⟨k, rfl, hk, hb⟩ := hrel
    have hbw := HB.out.next hb
    by_cases hlt : k < n
    · obtain ⟨b1, off1, y1, rfl, hx, d0, d1, _⟩ := (hl.below hbw).at_ hlt
      obtain ⟨b2, off2, y2, rfl, hy, e0, e1, _⟩ := (hr.below hbw).at_ hlt
      obtain rfl : y2 = y1 := by rw [hx] at hy; injection hy with hy; exact hy.symm
      clear hx hy
      clear hl hr
      have hi0 : (0 : Int) ≤ (k : Int) := by omega
      have hi1 : (k : Int) < (n : Int) := by omega
      have f0 := cell_keep hb HA0.out
      have f1 := cell_keep hb HA1.out
      go_wp2
      go_quiet (fail)
      go_wp2
      go_roundw
      case rel => exact ⟨k + 1, by go_num, by omega, below_drewN hb _⟩
      case measure => simp [intOf]; omega
    · go_wp2
      go_ret
      exact ⟨rfl, HB.out.next hb⟩

set_option maxHeartbeats 2000000 in
set_option maxRecDepth 100000 in
theorem sameGroups_same (a b : Option Addr) (n c d : Nat) (g : List Gp) (w : World) (hl : Gps w a n g) (hr : Gps w b n g) :
    Calls Tryz.prog 13 #[.slice a n c, .slice b n d] w fun e w' => e = .returned (.bool true) ∧ Below w.heap.size w w' := by
  have hlim := hl.lim
  unfold maxLen at hlim
  have hq : ((n : Int) != (n : Int)) = false := by simp
  go_enter Tryz.func13, Tryz.ntmps13
  go_wp2
  go_loopw [13] (fun i w' => ∃ k : Nat, i = .int .i64 k ∧ k ≤ n ∧ Below w.heap.size w w') (fun i _ => n - (intOf i).toNat)
  case atStart => exact ⟨0, rfl, by omega, Below.refl _ _⟩
  case round =>
    obtain ⟨k, rfl, hk, hb⟩ := hrel
    by_cases hlt : k < n
    · obtain ⟨b1, off1, A1, m1, c1, x, rfl, hx, d0, d1, d2, hs1, _, _⟩ := (hl.below hb).at_ hlt
      obtain ⟨b2, off2, A2, m2, c2, y, rfl, hy, e0, e1, e2, hs2, _, _⟩ := (hr.below hb).at_ hlt
      obtain rfl : y = x := by rw [hx] at hy; injection hy with hy; exact hy.symm
      have hm : m2 = m1 := by rw [← hs1.len, ← hs2.len]
      subst hm
      clear hx hy hl hr
      have hi0 : (0 : Int) ≤ (k : Int) := by omega
      have hi1 : (k : Int) < (n : Int) := by omega
      go_wp2
      go_region_held3 (fun w' => w'.cell? ⟨b1, off1 + k * 3, none⟩ = some (.int .i64 y.at_) ∧ w'.cell? ⟨b1, off1 + k * 3 + 1, none⟩ = some (.int .i64 y.to_) ∧ w'.cell? ⟨b1, off1 + k * 3 + 2, none⟩ = some (.slice A1 m2 c1) ∧ w'.cell? ⟨b2, off2 + k * 3, none⟩ = some (.int .i64 y.at_) ∧ w'.cell? ⟨b2, off2 + k * 3 + 1, none⟩ = some (.int .i64 y.to_) ∧ w'.cell? ⟨b2, off2 + k * 3 + 2, none⟩ = some (.slice A2 m2 c2)) (first | exact ⟨d0, d1, d2, e0, e1, e2⟩ | exact ⟨cell_keep q1 d0, cell_keep q1 d1, cell_keep q1 d2, cell_keep q1 e0, cell_keep q1 e1, cell_keep q1 e2⟩ | go_keep)
        (first | (go_at_call 41; refine (sameGroup_same A1 A2 m2 c1 c2 y _ (hs1.below (Below.refl _ _).drew) (hs2.below (Below.refl _ _).drew)).mono ?_; rintro e w1 ⟨rfl, q1⟩) | fail)
      have B5 := hb.drew.next q1
      go_wp2
      go_roundw
      case rel => exact ⟨k + 1, by go_num, by omega, B5⟩
      case measure => simp [intOf]; omega
    · go_wp2
      go_ret
      exact ⟨rfl, hb⟩

end Go.Proofs.YtkamenidgkjodaaGreatDoor

namespace Go.Proofs.YtkamenidgkjodaaGreatDoor
open Go.RowKit Go.Lib M

theorem gSgn : Tryz.prog.globalNamed "loop.example/g00825/impl.rowSigns" = some 0 := by kernel_rfl

set_option maxRecDepth 100000 in
theorem sgn_of_head {W : World} {r : List (String × DataW Unit)} (h : laidMet Tryz.prog (("loop.example/g00825/impl.rowSigns", Rows.laid_loop_example_g00825_impl_rowSigns) :: r) W) : Sgn W := by
  obtain ⟨ps, ⟨g', t', cs, fuel, p, q, hg', ht', hvar, hd, _, _⟩, _⟩ := h
  obtain rfl := Option.some.inj (gSgn.symm.trans hg')
  obtain rfl := Option.some.inj ((show (Tryz.prog.globals[0]?).map (·.type) = some 64 by kernel_rfl).symm.trans ht')
  obtain ⟨xs, m, rfl, hx, hl, hn, hi⟩ := DataW.trod_array Tryz.underlying64 hd
  have hc : Tryz.prog.cellsOf 9 = 1 := by kernel_rfl
  have hx1 : xs.map (·.1) = [.lit (.string []), .lit (.string [32]), .lit (.string [45]), .lit (.string [43])] := by
    have := congrArg Prod.fst hx
    unfold Rows.laid_loop_example_g00825_impl_rowSigns at this
    injection this with this
    exact this.symm
  have one : ∀ (i : Nat) (l : List UInt8), i < 4 → (xs.map (·.1))[i]? = some (.lit (.string l)) → W.cell? ⟨0, i, none⟩ = some (.string ⟨l.toArray⟩) := by
    intro i l hi4 hxi
    have h1 := hi i hi4
    rw [hc, Nat.mul_one] at h1
    have hy : xs[i]? = some (xs[i]'(by omega)) := List.getElem?_eq_getElem (by omega)
    rw [hy] at h1
    obtain ⟨s, e1, e2, _⟩ := DataW.trod_string Tryz.underlying9 h1
    rw [List.getElem?_map, hy, Option.map_some, e2] at hxi
    have hs : s = ⟨l.toArray⟩ := by
      injection hxi with hxi
      injection hxi with hxi
      injection hxi with hxi
      rw [← hxi]
    have h2 : cs.toList[i]? = some (.string s) := by
      have := congrArg (·[0]?) e1
      simpa [List.getElem?_take, List.getElem?_drop] using this
    have h3 := World.var?_cell gSgn hvar i
    rw [h3, ← hs]
    simpa using h2
  exact ⟨one 1 [32] (by omega) (by rw [hx1]; rfl), one 2 [45] (by omega) (by rw [hx1]; rfl), one 3 [43] (by omega) (by rw [hx1]; rfl)⟩

end Go.Proofs.YtkamenidgkjodaaGreatDoor

namespace Go.Proofs.YtkamenidgkjodaaGreatDoor
open Go.RowKit Go.Lib M

theorem gBk : Tryz.prog.globalNamed "loop.example/g00825/impl.backKinds" = some 1 := by kernel_rfl

set_option maxRecDepth 100000 in
theorem bk_of_head {W : World} {r : List (String × DataW Unit)} (h : laidMet Tryz.prog (("loop.example/g00825/impl.backKinds", Rows.laid_loop_example_g00825_impl_backKinds) :: r) W) : Bk W := by
  obtain ⟨ps, ⟨g', t', cs, fuel, p, q, hg', ht', hvar, hd, _, _⟩, _⟩ := h
  obtain rfl := Option.some.inj (gBk.symm.trans hg')
  obtain rfl := Option.some.inj ((show (Tryz.prog.globals[1]?).map (·.type) = some 138 by kernel_rfl).symm.trans ht')
  obtain ⟨xs, m, rfl, hx, hl, hn, hi⟩ := DataW.trod_array Tryz.underlying138 hd
  have hc : Tryz.prog.cellsOf 3 = 1 := by kernel_rfl
  have hx1 : xs.map (·.1) = [.lit (.int .i64 0), .lit (.int .i64 1), .lit (.int .i64 3), .lit (.int .i64 2)] := by
    have := congrArg Prod.fst hx
    unfold Rows.laid_loop_example_g00825_impl_backKinds at this
    injection this with this
    exact this.symm
  have one : ∀ (i : Nat) (z : Int), i < 4 → (xs.map (·.1))[i]? = some (.lit (.int .i64 z)) → W.cell? ⟨1, i, none⟩ = some (.int .i64 z) := by
    intro i z hi4 hxi
    have h1 := hi i hi4
    rw [hc, Nat.mul_one] at h1
    have hy : xs[i]? = some (xs[i]'(by omega)) := List.getElem?_eq_getElem (by omega)
    rw [hy] at h1
    obtain ⟨s, e1, e2, _⟩ := DataW.trod_int Tryz.underlying3 h1
    rw [List.getElem?_map, hy, Option.map_some, e2] at hxi
    have hs : s = z := by
      injection hxi with hxi
      injection hxi with hxi
      injection hxi with _ hxi
    have h2 : cs.toList[i]? = some (.int .i64 s) := by
      have := congrArg (·[0]?) e1
      simpa [List.getElem?_take, List.getElem?_drop] using this
    have h3 := World.var?_cell gBk hvar i
    rw [h3, ← hs]
    simpa using h2
  exact ⟨one 1 1 (by omega) (by rw [hx1]; rfl), one 2 3 (by omega) (by rw [hx1]; rfl), one 3 2 (by omega) (by rw [hx1]; rfl)⟩

end Go.Proofs.YtkamenidgkjodaaGreatDoor

namespace Go.Proofs.YtkamenidgkjodaaGreatDoor
open Go.RowKit M

theorem some_left {l : List UInt8} (h : l ≠ []) : (!(bs l).toList.isEmpty) = true := by
  rw [ByteArray.toList_eq, bs_list]
  cases l with
  | nil => exact absurd rfl h
  | cons => rfl
theorem none_left : (!(bs []).toList.isEmpty) = false := by
  rw [ByteArray.toList_eq, bs_list]; rfl
def ReadPost (s : ByteArray) (w : World) (e : Ending) (w' : World) : Prop := ∃ v vs g c o, e = .returned (.tuple #[v, .int .i64 c, .bool o]) ∧ OwnGp w' w.heap.size v g vs ∧ ReadIs s.data.toList g c o ∧ Below w.heap.size w w'
theorem gp_ok {r : List UInt8 × Bool} {x : Gp} {r2 : List UInt8 × Bool} (h : GpOut r x r2) (hs : r.1.length ≤ 3000) : GpOk x := by
  obtain ⟨a, b, c, d⟩ := h.nums
  refine ⟨⟨by omega, by omega⟩, ⟨by omega, by omega⟩, fun y hy => ?_⟩
  obtain ⟨e, f, g⟩ := h.size y hy
  exact ⟨⟨by omega, by omega⟩, by unfold maxLen; omega⟩

set_option maxHeartbeats 4000000 in
set_option maxRecDepth 100000 in
theorem implReadUnified_any (s : ByteArray) (hs : s.size ≤ 1048576) (w : World) (hv : VarsS w) :
    Calls Tryz.prog 12 #[.string s] w fun e w' => ReadPost s w e w' := by
  have HSZ := Lib.hid (Lib.size_eq s)
  by_cases h3 : 3000 < s.size
  · have HB := Lib.hid (ReadIs.long (s := s.data.toList) (by have := HSZ.out; omega))
    have hq := eq_true (show (3000 : Int) < (s.size : Int) by omega)
    clear h3
    go_enter Tryz.func12, Tryz.ntmps12
    go_wp2
    go_ret3
    exact ⟨_, [], [], 1, false, rfl, OwnGp.nil_, HB.out, Below.refl _ _⟩
  · have hq := eq_false (show ¬ (3000 : Int) < (s.size : Int) by omega)
    obtain ⟨W, HW⟩ : ∃ W, Hid (W = w.alloc (.cells #[.string s, .bool false] 71)) := ⟨_, rfl⟩
    have HR0 := Lib.hid (show Rdr w W w.heap.size (s.data.toList, false) from ⟨hv, by rw [HW.out]; exact below_alloc w _, Nat.le_refl _, by have := HSZ.out; dsimp only; omega, by rw [HW.out, bs_self]; exact heap_alloc_new w _⟩)
    have HS3 := Lib.hid (show s.size ≤ 3000 by omega)
    clear hv h3
    go_enter Tryz.func12, Tryz.ntmps12
    go_wp2
    rw [← HW.out]
    go_loopw [5] (fun lv w' => ∃ (v : Value) (vs : List (List D)) (p : List Gp) (r1 : List UInt8 × Bool), v = lv ∧ slenU v = p.length ∧ Hid (OwnGp w' (w.heap.size + 1) v p vs) ∧ Hid (Rdr w w' w.heap.size r1) ∧ Hid (GpsAt s.data.toList p r1)) (fun lv _ => 3005 - slenU lv)
    case atStart => exact ⟨_, [], [], (s.data.toList, false), rfl, rfl, Lib.hid OwnGp.nil_, HR0, Lib.hid (GpsAt.start _)⟩
    case round =>
      obtain ⟨v, vs, p, r1, rfl, hsl, HO, HR, HG⟩ := hrel
      obtain ⟨q, HQ⟩ : ∃ q, Hid (p.length = q) := ⟨_, rfl⟩
      obtain ⟨A0, cap0, rfl, hqc, _⟩ := HO.out.form HQ.out
      have cc0 := HR.out.c0
      have cc1 := HR.out.c1
      have HM := Lib.hid (show q + r1.1.length ≤ 3000 by have := HG.out.many; rw [HQ.out] at this; have := HSZ.out; have := HS3.out; omega)
      have HLOW := Lib.hid HR.out.low
      by_cases he : r1.1 = []
      · have hem := none_left
        rw [he] at cc0
        have HE := Lib.hid he
        clear he
        cases hf : r1.2
        · rw [hf] at cc1
          have HF := Lib.hid hf
          clear hf
          cases hgg : goodG p
          · have HGG := Lib.hid hgg
            have HB := Lib.hid (HG.out.bad HE.out (.inr hgg))
            clear hgg
            go_wp2_with fail
            refine (implGoodGroups_any A0 q cap0 p _ HO.out.gps).mono ?_
            rintro e w2 ⟨rfl, b2⟩
            rw [HGG.out]
            go_wp2
            go_ret3
            exact ⟨_, [], [], 1, false, rfl, OwnGp.nil_, HB.out, HLOW.out.next b2⟩
          · have HGG := Lib.hid hgg
            have HB := Lib.hid (HG.out.ok HE.out HF.out hgg (by have := HSZ.out; have := HS3.out; omega))
            clear hgg
            go_wp2_with fail
            refine (implGoodGroups_any A0 q cap0 p _ HO.out.gps).mono ?_
            rintro e w2 ⟨rfl, b2⟩
            rw [HGG.out]
            go_wp2
            go_ret3
            exact ⟨_, vs, p, 0, true, rfl, (HO.out.below b2).more (by omega), HB.out, HLOW.out.next b2⟩
        · rw [hf] at cc1
          have HB := Lib.hid (HG.out.bad HE.out (.inl hf))
          clear hf
          go_wp2
          go_ret3
          exact ⟨_, [], [], 1, false, rfl, OwnGp.nil_, HB.out, HLOW.out⟩
      · have hem := some_left he
        have HE := Lib.hid he
        have hr3 := Lib.hid (show r1.1.length ≤ 3000 by have := HM.out; omega)
        clear he
        go_wp2_with fail
        refine (rgroup_any w w.heap.size r1 _ HR.out).mono ?_
        rintro e w5 ⟨x, u, r5, rfl, o5, hg5, hr5, hw5⟩
        obtain ⟨ul, HUL⟩ : ∃ m, Hid (x.rows.length = m) := ⟨_, rfl⟩
        obtain ⟨uA, uc, rfl, hu1, _⟩ := o5.form HUL.out
        have HX := Lib.hid (gp_ok hg5 hr3.out)
        have HN := Lib.hid (HG.out.next HE.out hg5)
        have HO5 := Lib.hid (HO.out.wrote hw5 (fun g e e2 => by have := (HO.out.lt e).1; omega))
        have HOF := Lib.hid (show ∀ g, BlkR (.slice A0 q cap0) vs g → g < wr.heap.size from fun g e => (HO.out.lt e).2)
        have HR5 := Lib.hid hr5
        have HU5 := Lib.hid o5
        have hwr := Lib.hid (show w.heap.size + 1 ≤ wr.heap.size from HR.out.lt)
        have hfr := Lib.hid (show ∀ g', (Value.slice uA ul uc).ownBlock = some g' → ¬ BlkR (.slice A0 q cap0) vs g' from fun g' e e2 => by have h3 := (o5.lt e).1; have h4 := HOF.out g' e2; omega)
        obtain ⟨W2, HW2⟩ : ∃ W2, Hid (W2 = w5.alloc (.cells #[.int .i64 x.at_, .int .i64 x.to_, .slice uA ul uc] 60)) := ⟨_, rfl⟩
        have HB2 := Lib.hid (show Below w5.heap.size w5 W2 by rw [HW2.out]; exact below_alloc _ _)
        have k0 : W2.cell? ⟨w5.heap.size, 0, none⟩ = some (.int .i64 x.at_) := by rw [HW2.out]; simp
        have k1 : W2.cell? ⟨w5.heap.size, 1, none⟩ = some (.int .i64 x.to_) := by rw [HW2.out]; simp
        have k2 : W2.cell? ⟨w5.heap.size, 2, none⟩ = some (.slice uA ul uc) := by rw [HW2.out]; simp
        have OU := Lib.hid ((HU5.out.more hwr.out).below HB2.out)
        have OV := Lib.hid (HO5.out.below HB2.out)
        have RV := Lib.hid (HR5.out.keep HB2.out)
        have hol : p.length ≤ 1048576 := by have := HM.out; have := HQ.out; omega
        have hbz := Lib.hid (show w.heap.size + 1 ≤ W2.heap.size from Nat.le_trans hwr.out (Nat.le_trans hw5.size HB2.out.size))
        have hlt := Lib.hid (show q < 3000 by have := HM.out; have := List.length_pos_iff.2 HE.out; omega)
        clear o5 hg5 hr5 hw5 cc0 cc1
        go_wp2_with (first
          | (at_builtin; rw [← HW2.out]; refine wpList_gp (.tmp 15) (.tmp 17) (w.heap.size + 1) (.slice A0 q cap0) p vs OV.out x HX.out (.slice uA ul uc) OU.out hfr.out w5.heap.size k0 k1 k2 hol hbz.out rfl rfl rfl rfl ?_
             intro v7 w7 o7 g7 p7
             have O7 := Lib.hid o7
             have hs7 : Hid (slenU v7 = (p ++ [x]).length) := Lib.hid (by obtain ⟨_, _, e9, _⟩ := o7.form (n := (p ++ [x]).length) rfl; rw [e9]; rfl)
             have R7 := Lib.hid (RV.out.kept g7 (fun g' e => by have := (OV.out.lt (g := g') (List.mem_append.2 (.inl (by rw [e]; simp)))).1; omega))
             clear o7 g7 p7)
          | fail)
        go_roundw
        case rel => exact ⟨v7, _, p ++ [x], r5, rfl, hs7.out, O7, R7, HN⟩
        case measure => have h9 := hs7.out; have h4 := hlt.out; have hq := HQ.out; rw [List.length_append, List.length_singleton] at h9; show 3005 - slenU v7 < 3005 - q; omega

end Go.Proofs.YtkamenidgkjodaaGreatDoor

namespace Go.Proofs.YtkamenidgkjodaaGreatDoor
open Go.RowKit Go.Lib M

abbrev laidS6 : List (String × DataW Unit) := laid5 ++ [("loop.example/g00825/impl.rowSigns", Rows.laid_loop_example_g00825_impl_rowSigns)]

end Go.Proofs.YtkamenidgkjodaaGreatDoor

namespace Go.Proofs.YtkamenidgkjodaaGreatDoor
open Go.RowKit Go.Lib Go.ChangeShapes M

structure VarsSB (w : World) : Prop where
  lib : Vars w
  sgn : Sgn w
  bk : Bk w
theorem VarsSB.below {w w' : World} (h : VarsSB w) (hb : Below w.heap.size w w') : VarsSB w' := ⟨h.lib.below hb, h.sgn.below hb, h.bk.below hb⟩
theorem VarsSB.varsS {w : World} (h : VarsSB w) : VarsS w := ⟨h.lib, h.sgn⟩

abbrev laidS7 : List (String × DataW Unit) := laidS6 ++ [("loop.example/g00825/impl.backKinds", Rows.laid_loop_example_g00825_impl_backKinds)]
set_option maxRecDepth 100000 in
theorem varsSB_of_7 {W : World} (h : laidMet Tryz.prog laidS7 W) (hsh : W.ShapedOpen Tryz.prog) : VarsSB W :=
  ⟨⟨tab_of_head h.tail.tail, syn_of_head h.tail.tail.tail.tail, rng_of_head h.tail.tail.tail, Tryz.laysM145.s1_3 W hsh⟩, sgn_of_head h.tail.tail.tail.tail.tail, bk_of_head h.tail.tail.tail.tail.tail.tail⟩
set_option maxRecDepth 100000 in
theorem plainS7 (W : World) : laidMetH Tryz.prog laidS7 W = laidMet Tryz.prog laidS7 W := MakeChecks.laidMetH_plain _ _ _ (by kernel_rfl)
theorem vars_two {H : Type} {enc : TypeId × Value → H} {P : Program} {w : World} {spare : Nat → Bool} {n m : String} {gs : List (DataW H)} {ps : List MemPlace} (h : DataW.TrodVars enc P w spare [n, m] gs ps) : ∃ d e, gs = [d, e] := by
  obtain ⟨_, _, _, _, d0, _, _, _, _, _, d1, _, e, _⟩ := trodVars_two h
  exact ⟨d0, d1, e⟩

end Go.Proofs.YtkamenidgkjodaaGreatDoor

namespace Go.Proofs.YtkamenidgkjodaaGreatDoor
open Go.RowKit M

theorem unif_ok {l : List ByteArray} {hs : List Hk} {W : Int} {T : List UInt8} (h : unifT l hs W = (T, true)) : (groupsOf l hs W).2 = true ∧ textG (groupsOf l hs W).1 = (T, true) := by
  unfold unifT at h
  split at h
  · rename_i h1; exact ⟨h1, h⟩
  · injection h with _ h; cases h
theorem textG_ok {g : List Gp} {T : List UInt8} (h : textG g = (T, true)) : goodG g = true := by
  unfold textG at h
  split at h
  · rename_i h1; exact h1.1
  · injection h with _ h; cases h

set_option maxHeartbeats 4000000 in
set_option maxRecDepth 100000 in
theorem FnGroupsDone_any (w : World) (hv : VarsSB w) (a : Option Addr) (n c : Nat) (ha : Bytes w a n) (b : Option Addr) (m d : Nat) (hb : Bytes w b m) :
    Calls Tryz.prog 4 #[.slice a n c, .slice b m d] w fun e w' => e = .returned (.bool true) ∧ Below w.heap.size w w' := by
  by_cases hbig : 1048576 < n + m
  · have hd : decide (1048576 < n + m) = true := by simpa using hbig
    go_enter Tryz.func4, Tryz.ntmps4
    go_wp2_with fail
    refine (big_any a b n m c d _ ha.1 hb.1).mono ?_
    rintro e w1 ⟨rfl, rfl⟩
    rw [hd]
    go_wp2
    go_ret
    exact ⟨rfl, Below.refl _ _⟩
  · have hd : decide (1048576 < n + m) = false := by simpa using hbig
    go_enter Tryz.func4, Tryz.ntmps4
    go_wp2_with fail
    refine (big_any a b n m c d _ ha.1 hb.1).mono ?_
    rintro e w1 ⟨rfl, rfl⟩
    rw [hd]
    go_wp2_with fail
    refine (DrawUnifiedText_any a n c _ ha (by omega)).mono ?_
    rintro e w1 ⟨A, n1, c1, l, A2, n2, c2, hs, W, rfl, hW0, hW1, d1, d2, d3, d4, d5, d6, d7, d8, d9⟩
    have HNEW := Lib.hid (show ∀ x ∈ hs, x.new.length ≤ 1048576 from fun x hx => by have := (d8 x hx).2.2.2.2.1; omega)
    have HV := Lib.hid hv
    have HLN := Lib.hid d1.len
    clear d4 d8 hv
    obtain ⟨T, ok, HT⟩ : ∃ T ok, Hid (unifT l hs W = (T, ok)) := ⟨_, _, rfl⟩
    have HTL := Lib.hid (show T.length ≤ 3000 by have := unifT_len l hs W; rw [HT.out] at this; exact this)
    obtain ⟨S, HS⟩ : ∃ S, Hid (bs T = S) := ⟨_, rfl⟩
    have hSS := beq_same S
    have HSL := Lib.hid (show S.data.toList = T by rw [← HS.out, bs_list])
    have hSz : S.size ≤ 1048576 := by rw [← HS.out, bs_size]; have := HTL.out; omega
    go_wp2_with fail
    refine (implUnifiedText_any A n1 c1 l A2 n2 c2 hs W _ d1 d2 d5 d6 (by omega) (HV.out.below d9).lib.tab (HV.out.below d9).sgn).mono ?_
    rintro e w2 ⟨rfl, b2⟩
    rw [HT.out]
    dsimp only
    rw [HS.out]
    go_wp2_with fail
    refine (specUnifiedText_any A n1 c1 l A2 n2 c2 hs W _ (d1.below b2) d2 (d5.below b2) d6 HNEW.out (by omega)).mono ?_
    rintro e w3 ⟨rfl, b3⟩
    rw [HT.out]
    dsimp only
    rw [HS.out]
    have B3 := b2.next b3
    have B5 := Lib.hid (d9.next B3)
    have s1 := Lib.hid (d1.below B3)
    have s2 := Lib.hid (d5.below B3)
    clear b2 b3 B3 d1 d5 d9
    cases ok with
    | false =>
      go_wp2_with fail
      refine (DrawApplyGroups_any b m d _ (hb.below B5.out) (by omega)).mono ?_
      rintro e x1 ⟨Ac, nc, cc, L, Ag, ng, cg, g, rfl, hLs, hLc, hLn, hLf, hG, hGc, hGn, hGr, y1⟩
      have C1 := Lib.hid (B5.out.next y1)
      have HLS := Lib.hid hLs
      have HGS := Lib.hid hG
      have HGR := Lib.hid hGr
      have HLN := Lib.hid hLs.len
      have HGN := Lib.hid hG.len
      clear y1 hLs hLf hG hGr
      obtain ⟨P, k, o, HAP⟩ : ∃ P k o, Hid (applyG L g = (P, k, o)) := ⟨_, _, _, rfl⟩
      obtain ⟨Q, ob, HBK⟩ : ∃ Q ob, Hid (backG g = (Q, ob)) := ⟨_, _, rfl⟩
      obtain ⟨np, HNP⟩ : ∃ np, Hid (P.length = np) := ⟨_, rfl⟩
      obtain ⟨nq, HNQ⟩ : ∃ nq, Hid (Q.length = nq) := ⟨_, rfl⟩
      have HPL := Lib.hid (show np ≤ 40 by have := applyG_len L g; rw [HAP.out] at this; rw [← HNP.out]; exact this)
      have heP : eqT P P = true := eqT_refl P
      go_wp2_with fail
      refine (implApplyGroups_any Ac nc cc L Ag ng cg g _ HLS.out hLc HGS.out hGc (by omega)).mono ?_
      rintro e x2 ⟨v2, rfl, z2, u2⟩
      rw [HAP.out] at z2 ⊢
      dsimp only at z2 ⊢
      obtain ⟨E2, f2, rfl, hf2, _⟩ := z2.form HNP.out
      go_wp2_with fail
      refine (specApplyGroups_any Ac nc cc L Ag ng cg g _ (HLS.out.below u2) hLc (HGS.out.below u2) hGc HGR.out (by omega)).mono ?_
      rintro e x3 ⟨v3, rfl, z3, u3⟩
      rw [HAP.out] at z3 ⊢
      dsimp only at z3 ⊢
      obtain ⟨E3, f3, rfl, _, _⟩ := z3.form HNP.out
      have U3 := Lib.hid (u2.next u3)
      have Z2 := Lib.hid (z2.strs.below u3)
      have Z3 := Lib.hid z3.strs
      clear u2 u3 z2 z3
      go_wp2_with fail
      refine (implBackGroups_any Ag ng cg g _ (HGS.out.below U3.out) (HV.out.below (C1.out.next U3.out)).bk).mono ?_
      rintro e x4 ⟨v4, r4, rfl, z4, u4⟩
      rw [HBK.out] at z4 ⊢
      dsimp only at z4 ⊢
      obtain ⟨E4, f4, rfl, hf4, _⟩ := z4.form HNQ.out
      have U4 := Lib.hid (U3.out.next u4)
      have Z24 := Lib.hid (Z2.out.below u4)
      have Z34 := Lib.hid (Z3.out.below u4)
      have Z4 := Lib.hid z4.gps
      clear u4 z4
      go_wp2_with fail
      refine (specBackGroups_any Ag ng cg g _ (HGS.out.below U4.out) HGR.out).mono ?_
      rintro e x5 ⟨v5, r5, rfl, z5, u5⟩
      rw [HBK.out] at z5 ⊢
      dsimp only at z5 ⊢
      obtain ⟨E5, f5, rfl, _, _⟩ := z5.form HNQ.out
      have U5 := Lib.hid (U4.out.next u5)
      have Z25 := Lib.hid (Z24.out.below u5)
      have Z35 := Lib.hid (Z34.out.below u5)
      have Z45 := Lib.hid (Z4.out.below u5)
      have Z5 := Lib.hid z5.gps
      clear u5 z5
      go_wp2_with fail
      refine (sameTexts_any E2 E3 np np f2 f3 P P _ Z25.out Z35.out).mono ?_
      rintro e x6 ⟨rfl, b6⟩
      rw [heP]
      have u6 := b6.below
      obtain ⟨j6, rfl⟩ := b6
      go_wp2_with fail
      refine (sameGroups_same E4 E5 nq f4 f5 Q _ (Z45.out.below u6) (Z5.out.below u6)).mono ?_
      rintro e x7 ⟨rfl, u7⟩
      have U67 := Lib.hid (u6.next u7)
      have U7 := Lib.hid (U5.out.next U67.out)
      have C7 := Lib.hid (C1.out.next U7.out)
      have Z27 := Lib.hid (Z25.out.below U67.out)
      have Z47 := Lib.hid (Z45.out.below U67.out)
      clear u6 u7
      cases o with
      | false =>
        go_wp2
        go_ret
        exact ⟨rfl, C7.out⟩
      | true =>
        by_cases hk : k = 0
        · have hk1 : (k == 0) = true := by simp [hk]
          subst hk
          obtain ⟨t1, t2, t3⟩ := apply_back HAP.out
          have hQ : Q = g.map backGp ∧ ob = true := by
            have h9 := HBK.out
            rw [t2] at h9
            injection h9 with h9 h10
            exact ⟨h9.symm, h10.symm⟩
          obtain ⟨rfl, rfl⟩ := hQ
          have T1 := Lib.hid t1
          have T3 := Lib.hid t3
          have heL : eqT L L = true := eqT_refl L
          clear t1 t2 t3 HBK HAP
          go_wp2_with fail
          refine (implApplyGroups_any E2 np f2 P E4 nq f4 (g.map backGp) _ Z27.out hf2 Z47.out hf4 (by have := HPL.out; omega)).mono ?_
          rintro e y1 ⟨v8, rfl, z8, u8⟩
          rw [T1.out] at z8 ⊢
          dsimp only at z8 ⊢
          obtain ⟨E8, f8, rfl, _, _⟩ := z8.form HLN.out
          have Z8 := Lib.hid z8.strs
          have U8 := Lib.hid (U7.out.next u8)
          have Z48 := Lib.hid (Z47.out.below u8)
          clear z8 u8
          go_wp2_with fail
          refine (implBackGroups_any E4 nq f4 (g.map backGp) _ Z48.out (HV.out.below (C1.out.next U8.out)).bk).mono ?_
          rintro e y2 ⟨v9, r9, rfl, z9, u9⟩
          rw [T3.out] at z9 ⊢
          dsimp only at z9 ⊢
          obtain ⟨E9, f9, rfl, _, _⟩ := z9.form HGN.out
          have Z9 := Lib.hid z9.gps
          have U9 := Lib.hid (U8.out.next u9)
          have Z89 := Lib.hid (Z8.out.below u9)
          clear z9 u9
          go_wp2_with fail
          refine (sameTexts_any E8 Ac nc nc f8 cc L L _ Z89.out (HLS.out.below U9.out)).mono ?_
          rintro e y3 ⟨rfl, b8⟩
          rw [heL]
          have u10 := b8.below
          obtain ⟨j8, rfl⟩ := b8
          go_wp2_with fail
          refine (sameGroups_same E9 Ag ng f9 cg g _ (Z9.out.below u10) (HGS.out.below (U9.out.next u10))).mono ?_
          rintro e y4 ⟨rfl, u11⟩
          have C11 := Lib.hid (C1.out.next (U9.out.next (u10.next u11)))
          clear u10 u11
          go_wp2
          go_ret
          exact ⟨rfl, C11.out⟩
        · have hk1 : (k == 0) = false := by simpa using hk
          go_wp2
          go_ret
          exact ⟨rfl, C7.out⟩
    | true =>
      obtain ⟨gk, htx⟩ := unif_ok HT.out
      have HTX := Lib.hid htx
      have hga := groups_apply gk (textG_ok htx)
      have HGA := Lib.hid hga.1
      have HPO := Lib.hid (show patchOf l hs = (patchH l hs, true) from if_pos hga.2)
      obtain ⟨pn, HPN⟩ : ∃ pn, Hid ((patchH l hs).length = pn) := ⟨_, rfl⟩
      obtain ⟨R, HR⟩ : ∃ R, Hid (patchH l hs = R) := ⟨_, rfl⟩
      have heR : eqT R R = true := eqT_refl R
      clear gk htx hga
      go_wp2_with fail
      refine (implReadUnified_any S hSz _ (HV.out.below B5.out).varsS).mono ?_
      rintro e w6 ⟨v6, r6, P6, k6, o6, rfl, z6, HR6, b6⟩
      obtain ⟨hP6, rfl, rfl⟩ := ReadIs.text (g := (groupsOf l hs W).1) (by rw [HTX.out]) (by rw [HTX.out]; dsimp only; rw [← HSL.out]; exact HR6)
      have HA6 := Lib.hid (show applyG l P6 = (R, 0, true) by rw [hP6, HGA.out, HR.out])
      obtain ⟨n6, HN6⟩ : ∃ n6, Hid (P6.length = n6) := ⟨_, rfl⟩
      obtain ⟨A6, c6, rfl, hc6, _⟩ := z6.form HN6.out
      have Z6 := Lib.hid z6.gps
      have B6 := Lib.hid (B5.out.next b6)
      have S16 := Lib.hid (s1.out.below b6)
      have S26 := Lib.hid (s2.out.below b6)
      clear z6 b6 HR6 hP6 s1 s2
      go_wp2_with fail
      refine (implApplyGroups_any A n1 c1 l A6 n6 c6 P6 _ S16.out d2 Z6.out hc6 (by omega)).mono ?_
      rintro e w7 ⟨v7, rfl, z7, b7⟩
      rw [HA6.out] at z7 ⊢
      dsimp only at z7 ⊢
      obtain ⟨A7, c7, rfl, _, _⟩ := z7.form (show R.length = pn by rw [← HR.out]; exact HPN.out)
      go_wp2_with fail
      refine (implPatch_any A n1 c1 l A2 n2 c2 hs _ (S16.out.below b7) d2 (S26.out.below b7) (by omega)).mono ?_
      rintro e w8 ⟨v8, rfl, z8, b8⟩
      rw [HPO.out, HR.out] at z8
      rw [HPO.out]
      dsimp only at z8 ⊢
      obtain ⟨A8, c8, rfl, _, _⟩ := z8.form (show R.length = pn by rw [← HR.out]; exact HPN.out)
      go_wp2_with fail
      refine (sameTexts_any A7 A8 pn pn c7 c8 R R _ (z7.strs.below b8) z8.strs).mono ?_
      rintro e w9 ⟨rfl, b9⟩
      rw [heR]
      replace B5 := Lib.hid (B6.out.next (b7.next (b8.next b9.below)))
      obtain ⟨j9, rfl⟩ := b9
      clear z7 z8 b7 b8 HGA HPO HA6 Z6 S16 S26 B6
      go_wp2_with fail
      refine (DrawApplyGroups_any b m d _ (hb.below B5.out) (by omega)).mono ?_
      rintro e x1 ⟨Ac, nc, cc, L, Ag, ng, cg, g, rfl, hLs, hLc, hLn, hLf, hG, hGc, hGn, hGr, y1⟩
      have C1 := Lib.hid (B5.out.next y1)
      have HLS := Lib.hid hLs
      have HGS := Lib.hid hG
      have HGR := Lib.hid hGr
      have HLN := Lib.hid hLs.len
      have HGN := Lib.hid hG.len
      clear y1 hLs hLf hG hGr
      obtain ⟨P, k, o, HAP⟩ : ∃ P k o, Hid (applyG L g = (P, k, o)) := ⟨_, _, _, rfl⟩
      obtain ⟨Q, ob, HBK⟩ : ∃ Q ob, Hid (backG g = (Q, ob)) := ⟨_, _, rfl⟩
      obtain ⟨np, HNP⟩ : ∃ np, Hid (P.length = np) := ⟨_, rfl⟩
      obtain ⟨nq, HNQ⟩ : ∃ nq, Hid (Q.length = nq) := ⟨_, rfl⟩
      have HPL := Lib.hid (show np ≤ 40 by have := applyG_len L g; rw [HAP.out] at this; rw [← HNP.out]; exact this)
      have heP : eqT P P = true := eqT_refl P
      go_wp2_with fail
      refine (implApplyGroups_any Ac nc cc L Ag ng cg g _ HLS.out hLc HGS.out hGc (by omega)).mono ?_
      rintro e x2 ⟨v2, rfl, z2, u2⟩
      rw [HAP.out] at z2 ⊢
      dsimp only at z2 ⊢
      obtain ⟨E2, f2, rfl, hf2, _⟩ := z2.form HNP.out
      go_wp2_with fail
      refine (specApplyGroups_any Ac nc cc L Ag ng cg g _ (HLS.out.below u2) hLc (HGS.out.below u2) hGc HGR.out (by omega)).mono ?_
      rintro e x3 ⟨v3, rfl, z3, u3⟩
      rw [HAP.out] at z3 ⊢
      dsimp only at z3 ⊢
      obtain ⟨E3, f3, rfl, _, _⟩ := z3.form HNP.out
      have U3 := Lib.hid (u2.next u3)
      have Z2 := Lib.hid (z2.strs.below u3)
      have Z3 := Lib.hid z3.strs
      clear u2 u3 z2 z3
      go_wp2_with fail
      refine (implBackGroups_any Ag ng cg g _ (HGS.out.below U3.out) (HV.out.below (C1.out.next U3.out)).bk).mono ?_
      rintro e x4 ⟨v4, r4, rfl, z4, u4⟩
      rw [HBK.out] at z4 ⊢
      dsimp only at z4 ⊢
      obtain ⟨E4, f4, rfl, hf4, _⟩ := z4.form HNQ.out
      have U4 := Lib.hid (U3.out.next u4)
      have Z24 := Lib.hid (Z2.out.below u4)
      have Z34 := Lib.hid (Z3.out.below u4)
      have Z4 := Lib.hid z4.gps
      clear u4 z4
      go_wp2_with fail
      refine (specBackGroups_any Ag ng cg g _ (HGS.out.below U4.out) HGR.out).mono ?_
      rintro e x5 ⟨v5, r5, rfl, z5, u5⟩
      rw [HBK.out] at z5 ⊢
      dsimp only at z5 ⊢
      obtain ⟨E5, f5, rfl, _, _⟩ := z5.form HNQ.out
      have U5 := Lib.hid (U4.out.next u5)
      have Z25 := Lib.hid (Z24.out.below u5)
      have Z35 := Lib.hid (Z34.out.below u5)
      have Z45 := Lib.hid (Z4.out.below u5)
      have Z5 := Lib.hid z5.gps
      clear u5 z5
      go_wp2_with fail
      refine (sameTexts_any E2 E3 np np f2 f3 P P _ Z25.out Z35.out).mono ?_
      rintro e x6 ⟨rfl, b6⟩
      rw [heP]
      have u6 := b6.below
      obtain ⟨j6, rfl⟩ := b6
      go_wp2_with fail
      refine (sameGroups_same E4 E5 nq f4 f5 Q _ (Z45.out.below u6) (Z5.out.below u6)).mono ?_
      rintro e x7 ⟨rfl, u7⟩
      have U67 := Lib.hid (u6.next u7)
      have U7 := Lib.hid (U5.out.next U67.out)
      have C7 := Lib.hid (C1.out.next U7.out)
      have Z27 := Lib.hid (Z25.out.below U67.out)
      have Z47 := Lib.hid (Z45.out.below U67.out)
      clear u6 u7
      cases o with
      | false =>
        go_wp2
        go_ret
        exact ⟨rfl, C7.out⟩
      | true =>
        by_cases hk : k = 0
        · have hk1 : (k == 0) = true := by simp [hk]
          subst hk
          obtain ⟨t1, t2, t3⟩ := apply_back HAP.out
          have hQ : Q = g.map backGp ∧ ob = true := by
            have h9 := HBK.out
            rw [t2] at h9
            injection h9 with h9 h10
            exact ⟨h9.symm, h10.symm⟩
          obtain ⟨rfl, rfl⟩ := hQ
          have T1 := Lib.hid t1
          have T3 := Lib.hid t3
          have heL : eqT L L = true := eqT_refl L
          clear t1 t2 t3 HBK HAP
          go_wp2_with fail
          refine (implApplyGroups_any E2 np f2 P E4 nq f4 (g.map backGp) _ Z27.out hf2 Z47.out hf4 (by have := HPL.out; omega)).mono ?_
          rintro e y1 ⟨v8, rfl, z8, u8⟩
          rw [T1.out] at z8 ⊢
          dsimp only at z8 ⊢
          obtain ⟨E8, f8, rfl, _, _⟩ := z8.form HLN.out
          have Z8 := Lib.hid z8.strs
          have U8 := Lib.hid (U7.out.next u8)
          have Z48 := Lib.hid (Z47.out.below u8)
          clear z8 u8
          go_wp2_with fail
          refine (implBackGroups_any E4 nq f4 (g.map backGp) _ Z48.out (HV.out.below (C1.out.next U8.out)).bk).mono ?_
          rintro e y2 ⟨v9, r9, rfl, z9, u9⟩
          rw [T3.out] at z9 ⊢
          dsimp only at z9 ⊢
          obtain ⟨E9, f9, rfl, _, _⟩ := z9.form HGN.out
          have Z9 := Lib.hid z9.gps
          have U9 := Lib.hid (U8.out.next u9)
          have Z89 := Lib.hid (Z8.out.below u9)
          clear z9 u9
          go_wp2_with fail
          refine (sameTexts_any E8 Ac nc nc f8 cc L L _ Z89.out (HLS.out.below U9.out)).mono ?_
          rintro e y3 ⟨rfl, b8⟩
          rw [heL]
          have u10 := b8.below
          obtain ⟨j8, rfl⟩ := b8
          go_wp2_with fail
          refine (sameGroups_same E9 Ag ng f9 cg g _ (Z9.out.below u10) (HGS.out.below (U9.out.next u10))).mono ?_
          rintro e y4 ⟨rfl, u11⟩
          have C11 := Lib.hid (C1.out.next (U9.out.next (u10.next u11)))
          clear u10 u11
          go_wp2
          go_ret
          exact ⟨rfl, C11.out⟩
        · have hk1 : (k == 0) = false := by simpa using hk
          go_wp2
          go_ret
          exact ⟨rfl, C7.out⟩

end Go.Proofs.YtkamenidgkjodaaGreatDoor
