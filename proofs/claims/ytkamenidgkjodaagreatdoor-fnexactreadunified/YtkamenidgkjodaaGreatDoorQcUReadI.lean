/-
  ReadUnified, the program's.
-/
import Derived.Test.YtkamenidgkjodaaGreatDoorQcUHead
set_option linter.unusedSimpArgs false
set_option linter.unusedVariables false
namespace Go.Proofs.YtkamenidgkjodaaGreatDoor
open Go.RowKit M

theorem some_left {l : List UInt8} (h : l ≠ []) : (!(bs l).toList.isEmpty) = true := by
  rw [ByteArray.toList_eq, bs_list]
  cases l with
  | nil => exact absurd rfl h
  | cons => rfl
theorem none_left : (!(bs []).toList.isEmpty) = false := by
  rw [ByteArray.toList_eq, bs_list]; rfl
/-- What ReadUnified answers. -/
def ReadPost (s : ByteArray) (w : World) (e : Ending) (w' : World) : Prop := ∃ v vs g c o, e = .returned (.tuple #[v, .int .i64 c, .bool o]) ∧ OwnGp w' w.heap.size v g vs ∧ ReadIs s.data.toList g c o ∧ Below w.heap.size w w'
theorem gp_ok {r : List UInt8 × Bool} {x : Gp} {r2 : List UInt8 × Bool} (h : GpOut r x r2) (hs : r.1.length ≤ 3000) : GpOk x := by
  obtain ⟨a, b, c, d⟩ := h.nums
  refine ⟨⟨by omega, by omega⟩, ⟨by omega, by omega⟩, fun y hy => ?_⟩
  obtain ⟨e, f, g⟩ := h.size y hy
  exact ⟨⟨by omega, by omega⟩, by unfold maxLen; omega⟩

set_option maxHeartbeats 4000000 in
set_option maxRecDepth 100000 in
theorem implReadUnified_any (s : ByteArray) (hs : s.size ≤ 1048576) (w : World) (hv : VarsS w) :
    Calls Tryz.prog 12 #[.string s] w fun e w' => ReadPost s w e w' := by
  have HSZ := Lib.hid (Lib.size_eq s)
  by_cases h3 : 3000 < s.size
  · have HB := Lib.hid (ReadIs.long (s := s.data.toList) (by have := HSZ.out; omega))
    have hq := eq_true (show (3000 : Int) < (s.size : Int) by omega)
    clear h3
    go_enter Tryz.func12, Tryz.ntmps12
    go_wp2
    go_ret3
    exact ⟨_, [], [], 1, false, rfl, OwnGp.nil_, HB.out, Below.refl _ _⟩
  · have hq := eq_false (show ¬ (3000 : Int) < (s.size : Int) by omega)
    obtain ⟨W, HW⟩ : ∃ W, Hid (W = w.alloc (.cells #[.string s, .bool false] 71)) := ⟨_, rfl⟩
    have HR0 := Lib.hid (show Rdr w W w.heap.size (s.data.toList, false) from ⟨hv, by rw [HW.out]; exact below_alloc w _, Nat.le_refl _, by have := HSZ.out; dsimp only; omega, by rw [HW.out, bs_self]; exact heap_alloc_new w _⟩)
    have HS3 := Lib.hid (show s.size ≤ 3000 by omega)
    clear hv h3
    go_enter Tryz.func12, Tryz.ntmps12
    go_wp2
    rw [← HW.out]
    go_loopw [5] (fun lv w' => ∃ (v : Value) (vs : List (List D)) (p : List Gp) (r1 : List UInt8 × Bool), v = lv ∧ slenU v = p.length ∧ Hid (OwnGp w' (w.heap.size + 1) v p vs) ∧ Hid (Rdr w w' w.heap.size r1) ∧ Hid (GpsAt s.data.toList p r1)) (fun lv _ => 3005 - slenU lv)
    case atStart => exact ⟨_, [], [], (s.data.toList, false), rfl, rfl, Lib.hid OwnGp.nil_, HR0, Lib.hid (GpsAt.start _)⟩
    case round =>
      obtain ⟨v, vs, p, r1, rfl, hsl, HO, HR, HG⟩ := hrel
      obtain ⟨q, HQ⟩ : ∃ q, Hid (p.length = q) := ⟨_, rfl⟩
      obtain ⟨A0, cap0, rfl, hqc, _⟩ := HO.out.form HQ.out
      have cc0 := HR.out.c0
      have cc1 := HR.out.c1
      have HM := Lib.hid (show q + r1.1.length ≤ 3000 by have := HG.out.many; rw [HQ.out] at this; have := HSZ.out; have := HS3.out; omega)
      have HLOW := Lib.hid HR.out.low
      by_cases he : r1.1 = []
      · have hem := none_left
        rw [he] at cc0
        have HE := Lib.hid he
        clear he
        cases hf : r1.2
        · rw [hf] at cc1
          have HF := Lib.hid hf
          clear hf
          cases hgg : goodG p
          · have HGG := Lib.hid hgg
            have HB := Lib.hid (HG.out.bad HE.out (.inr hgg))
            clear hgg
            go_wp2_with fail
            refine (implGoodGroups_any A0 q cap0 p _ HO.out.gps).mono ?_
            rintro e w2 ⟨rfl, b2⟩
            rw [HGG.out]
            go_wp2
            go_ret3
            exact ⟨_, [], [], 1, false, rfl, OwnGp.nil_, HB.out, HLOW.out.next b2⟩
          · have HGG := Lib.hid hgg
            have HB := Lib.hid (HG.out.ok HE.out HF.out hgg (by have := HSZ.out; have := HS3.out; omega))
            clear hgg
            go_wp2_with fail
            refine (implGoodGroups_any A0 q cap0 p _ HO.out.gps).mono ?_
            rintro e w2 ⟨rfl, b2⟩
            rw [HGG.out]
            go_wp2
            go_ret3
            exact ⟨_, vs, p, 0, true, rfl, (HO.out.below b2).more (by omega), HB.out, HLOW.out.next b2⟩
        · rw [hf] at cc1
          have HB := Lib.hid (HG.out.bad HE.out (.inl hf))
          clear hf
          go_wp2
          go_ret3
          exact ⟨_, [], [], 1, false, rfl, OwnGp.nil_, HB.out, HLOW.out⟩
      · have hem := some_left he
        have HE := Lib.hid he
        have hr3 := Lib.hid (show r1.1.length ≤ 3000 by have := HM.out; omega)
        clear he
        go_wp2_with fail
        refine (rgroup_any w w.heap.size r1 _ HR.out).mono ?_
        rintro e w5 ⟨x, u, r5, rfl, o5, hg5, hr5, hw5⟩
        obtain ⟨ul, HUL⟩ : ∃ m, Hid (x.rows.length = m) := ⟨_, rfl⟩
        obtain ⟨uA, uc, rfl, hu1, _⟩ := o5.form HUL.out
        have HX := Lib.hid (gp_ok hg5 hr3.out)
        have HN := Lib.hid (HG.out.next HE.out hg5)
        have HO5 := Lib.hid (HO.out.wrote hw5 (fun g e e2 => by have := (HO.out.lt e).1; omega))
        have HOF := Lib.hid (show ∀ g, BlkR (.slice A0 q cap0) vs g → g < wr.heap.size from fun g e => (HO.out.lt e).2)
        have HR5 := Lib.hid hr5
        have HU5 := Lib.hid o5
        have hwr := Lib.hid (show w.heap.size + 1 ≤ wr.heap.size from HR.out.lt)
        have hfr := Lib.hid (show ∀ g', (Value.slice uA ul uc).ownBlock = some g' → ¬ BlkR (.slice A0 q cap0) vs g' from fun g' e e2 => by have h3 := (o5.lt e).1; have h4 := HOF.out g' e2; omega)
        obtain ⟨W2, HW2⟩ : ∃ W2, Hid (W2 = w5.alloc (.cells #[.int .i64 x.at_, .int .i64 x.to_, .slice uA ul uc] 60)) := ⟨_, rfl⟩
        have HB2 := Lib.hid (show Below w5.heap.size w5 W2 by rw [HW2.out]; exact below_alloc _ _)
        have k0 : W2.cell? ⟨w5.heap.size, 0, none⟩ = some (.int .i64 x.at_) := by rw [HW2.out]; simp
        have k1 : W2.cell? ⟨w5.heap.size, 1, none⟩ = some (.int .i64 x.to_) := by rw [HW2.out]; simp
        have k2 : W2.cell? ⟨w5.heap.size, 2, none⟩ = some (.slice uA ul uc) := by rw [HW2.out]; simp
        have OU := Lib.hid ((HU5.out.more hwr.out).below HB2.out)
        have OV := Lib.hid (HO5.out.below HB2.out)
        have RV := Lib.hid (HR5.out.keep HB2.out)
        have hol : p.length ≤ 1048576 := by have := HM.out; have := HQ.out; omega
        have hbz := Lib.hid (show w.heap.size + 1 ≤ W2.heap.size from Nat.le_trans hwr.out (Nat.le_trans hw5.size HB2.out.size))
        have hlt := Lib.hid (show q < 3000 by have := HM.out; have := List.length_pos_iff.2 HE.out; omega)
        clear o5 hg5 hr5 hw5 cc0 cc1
        go_wp2_with (first
          | (at_builtin; rw [← HW2.out]; refine wpList_gp (.tmp 15) (.tmp 17) (w.heap.size + 1) (.slice A0 q cap0) p vs OV.out x HX.out (.slice uA ul uc) OU.out hfr.out w5.heap.size k0 k1 k2 hol hbz.out rfl rfl rfl rfl ?_
             intro v7 w7 o7 g7 p7
             have O7 := Lib.hid o7
             have hs7 : Hid (slenU v7 = (p ++ [x]).length) := Lib.hid (by obtain ⟨_, _, e9, _⟩ := o7.form (n := (p ++ [x]).length) rfl; rw [e9]; rfl)
             have R7 := Lib.hid (RV.out.kept g7 (fun g' e => by have := (OV.out.lt (g := g') (List.mem_append.2 (.inl (by rw [e]; simp)))).1; omega))
             clear o7 g7 p7)
          | fail)
        go_roundw
        case rel => exact ⟨v7, _, p ++ [x], r5, rfl, hs7.out, O7, R7, HN⟩
        case measure => have h9 := hs7.out; have h4 := hlt.out; have hq := HQ.out; rw [List.length_append, List.length_singleton] at h9; show 3005 - slenU v7 < 3005 - q; omega

end Go.Proofs.YtkamenidgkjodaaGreatDoor
