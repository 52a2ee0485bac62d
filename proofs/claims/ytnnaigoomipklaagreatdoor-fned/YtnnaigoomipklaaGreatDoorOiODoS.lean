/-
  One order done, and orders run: the model's.
-/
import Derived.Test.YtnnaigoomipklaaGreatDoorOiOLaws
import Derived.Test.YtnnaigoomipklaaGreatDoorOiORun
import Derived.Test.YtnnaigoomipklaaGreatDoorOiPart
import Derived.Test.YtnnaigoomipklaaGreatDoorOiWhole
set_option linter.unusedSimpArgs false
set_option linter.unusedVariables false
namespace Go.Proofs.YtnnaigoomipklaaGreatDoor
open Go.RowKit Go.ChangeShapes Go.WideShapes M

theorem below_drewO (w : World) (n : Nat) : Below w.heap.size w (w.drewN n) := ⟨rfl, rfl, rfl, Nat.le_refl _, fun _ _ => rfl⟩
theorem step_strsR {w : World} {ops : Array Oper} {o : Oper} {a : Act} {K : Act → World → Prop} {Q : Exit → Act → World → Prop} {E : Prop} (s x : Operand) (base : Nat) (v : Value) (l : List ByteArray) (hown : OwnV w base v l) (A : Option Addr) (m c : Nat) (r : List ByteArray) (hr : Strs w A m r)
    (hbound : l.length + m ≤ 4294967296) (hbase : base ≤ w.heap.size) (hgd : Region.wanted o (yielded ops a.tmps) = true) (ho : o.op = .call { callee := .builtin .append, args := #[s, x], argTypes := #[33, 33] }) (hs : a.eval s = v) (hx : a.eval x = .slice A m c)
    (h : ∀ v' w', OwnV w' base v' (l ++ r) → w.grownBy w' v.ownBlock → (v'.ownBlock = v.ownBlock ∨ v'.ownBlock = some w.heap.size) → K (a.put o.dst v') w') : if Region.wanted o (yielded ops a.tmps) = true then Oper.wp Tryz.prog o a w K Q else E := by
  obtain ⟨i, h1, h2, h3, h4⟩ := info_parts str_info
  exact step_app Tryz.underlying33 h1 h2 h3 h4 s x base v l hown A m c r hr hbound hbase hgd ho hs hx h
theorem cut_loR (a : Option Addr) (n c lo : Nat) (h1 : lo ≤ n) (h2 : n ≤ c) (w : World) :
    (Instr.slice 33 (.slice a n c) (some (.int .i64 (lo : Int))) none none).run Tryz.prog w = .ok (.slice (cutA a c lo) (n - lo) (c - lo)) w := by
  obtain ⟨i, h3, h4, h5, h6⟩ := info_parts str_info
  exact run_cut_lo Tryz.underlying33 h3 h5 a n c lo h1 h2 w
theorem cut_hiR (a : Option Addr) (n c hi : Nat) (h2 : hi ≤ c) (w : World) :
    (Instr.slice 33 (.slice a n c) none (some (.int .i64 (hi : Int))) none).run Tryz.prog w = .ok (.slice a hi c) w := by
  obtain ⟨i, h3, h4, h5, h6⟩ := info_parts str_info
  exact run_cut_hi Tryz.underlying33 h3 h5 a n c hi h2 w

set_option maxHeartbeats 4000000 in
set_option maxRecDepth 100000 in
theorem l9Do_any (a : Option Addr) (n c : Nat) (l : List ByteArray) (x : Od) (A : Option Addr) (m cm : Nat) (w : World) (hl : Strs w a n l) (hnc : n ≤ c) (hn : n ≤ 100000) (he : ∀ s ∈ l, endsB s = true) (hx : orderB x = true) (hs : Strs w A m x.new) (hm : m ≤ cm) :
    Calls Tryz.prog 145 #[.slice a n c, .agg #[.int .i64 x.kd, .int .i64 x.fr, .int .i64 x.to_, .slice A m cm]] w fun e w' => ∃ v, e = .returned (.tuple #[v, .int .i64 (doO l x).2]) ∧ OwnV w' w.heap.size v (doO l x).1 ∧ Below w.heap.size w w' := by
  have HL := Lib.hid hl.len
  have HM := Lib.hid hs.len
  have hm40 : m ≤ 40 := by rw [← HM.out]; exact (order_lines hx).2
  obtain ⟨a0, b0, e1, e2, q1, q2, h5⟩ := order_cases hx
  obtain ⟨kd, fr, to_, new⟩ := x
  dsimp only at e1 e2 hs HM h5
  subst e1 e2
  have H5 := Lib.hid h5
  have HX := Lib.hid hx
  have HE := Lib.hid he
  clear h5 hx he
  obtain ⟨W, HW⟩ : ∃ W, Hid (W = w.alloc (.cells #[.int .i64 kd, .int .i64 (a0 : Int), .int .i64 (b0 : Int), .slice A m cm] 78)) := ⟨_, rfl⟩
  have HB := Lib.hid (show Below w.heap.size w W by rw [HW.out]; exact below_alloc w _)
  have z0 : W.cell? ⟨w.heap.size, 0, none⟩ = some (.int .i64 kd) := by rw [HW.out]; simp
  have z1 : W.cell? ⟨w.heap.size, 1, none⟩ = some (.int .i64 (a0 : Int)) := by rw [HW.out]; simp
  have z2 : W.cell? ⟨w.heap.size, 2, none⟩ = some (.int .i64 (b0 : Int)) := by rw [HW.out]; simp
  have z3 : W.cell? ⟨w.heap.size, 3, none⟩ = some (.slice A m cm) := by rw [HW.out]; simp
  by_cases hfar : n < b0
  · have hf := Lib.hid (show doO l ⟨kd, (a0 : Int), (b0 : Int), new⟩ = ([], 3) from if_pos (show (l.length : Int) < (b0 : Int) by rw [HL.out]; omega))
    go_enter Tryz.func145, Tryz.ntmps145
    go_wp2
    rw [← HW.out]
    go_ret2
    exact ⟨_, by rw [hf.out]; rfl, by rw [hf.out]; exact OwnV.nil_, HB.out⟩
  · have hd1 : decide ((n : Int) < (b0 : Int)) = false := by simp; omega
    have hd2 : decide (n < b0) = false := by simp; omega
    have hsub : IntKind.i64.wrap ((a0 : Int) - 1) = (a0 : Int) - 1 := by rw [IntKind.wrap_i64]; omega
    go_enter Tryz.func145, Tryz.ntmps145
    go_wp2
    rw [← HW.out]
    go_quiet (fail)
    rcases H5.out with ⟨k1, h2, _⟩ | ⟨k1, h2, h3, _⟩ | ⟨k1, h3, _⟩ | ⟨k1, h3, _⟩ | ⟨k1, h3, h2, hne⟩
    · subst k1
      obtain ⟨F, HF⟩ : ∃ F, Hid (a0 = F) := ⟨_, rfl⟩
      obtain ⟨B, HBB⟩ : ∃ B, Hid (b0 = B) := ⟨_, rfl⟩
      have hFB : F ≤ n ∧ B ≤ n := by have := HF.out; have := HBB.out; omega
      obtain ⟨hF, hBn⟩ := hFB
      have HDO := Lib.hid (show doO l ⟨1, (a0 : Int), (b0 : Int), new⟩ = (l.take F ++ (new ++ l.drop B), 0) by
        have eF : fromO ⟨1, (a0 : Int), (b0 : Int), new⟩ = F := by have := HF.out; simp [fromO]; omega
        have eB : behindO ⟨1, (a0 : Int), (b0 : Int), new⟩ = B := by have := HBB.out; simp [behindO]; omega
        unfold doO
        rw [if_neg (by rw [HL.out]; simp; omega), if_neg (by show ¬ ((1 : Int) = 5); decide), eF, eB])
      have HSL := Lib.hid (show (a0 : Int) = (F : Int) ∧ (b0 : Int) = (B : Int) from ⟨by rw [HF.out], by rw [HBB.out]⟩)
      clear h2 hfar
      go_wp2
      rw [HSL.out.1, HSL.out.2]
      obtain ⟨W1, HW1⟩ : ∃ W1, Hid (W1 = W.drewN nq) := ⟨_, rfl⟩
      rw [← HW1.out]
      have HBW1 := Lib.hid (show Below W.heap.size W W1 by rw [HW1.out]; exact below_drewO _ _)
      have y3 : W1.cell? ⟨w.heap.size, 3, none⟩ = some (.slice A m cm) := by rw [HW1.out]; exact z3
      have HLT := Lib.hid ((hl.take_ (show F ≤ n by omega)).below (HB.out.next HBW1.out))
      have HLD := Lib.hid ((hl.drop_ (show B ≤ n by omega) hnc).below (HB.out.next HBW1.out))
      have HS1 := Lib.hid (hs.below (HB.out.next HBW1.out))
      have HLW := Lib.hid (show w.heap.size < W1.heap.size by rw [HW1.out, HW.out]; simp)
      have hcF := cut_hiR a n c F (by omega)
      have hcB := cut_loR a n c B (by omega) hnc
      have HTL := Lib.hid (show (l.take F).length = F by rw [List.length_take, HL.out]; omega)
      clear z0 z1 z2 z3
      go_region_held3 (fun w' => w'.cell? ⟨w.heap.size, 3, none⟩ = some (.slice A m cm)) (first | exact y3 | exact cell_keep B5.out y3 | exact K7 | go_keep)
        (first
          | (go_at_call 103; refine (l1OwnT_any a F c (l.take F) W1.drew (HLT.out.below (Below.refl _ _).drew) (by omega)).mono ?_; rintro e w5 ⟨v5, rfl, o5, b5⟩
             have B5 := Lib.hid (show Below W1.heap.size W1 w5 from (Below.refl _ W1).drew.next b5)
             have O5 := Lib.hid (show OwnV w5 W1.heap.size v5 (l.take F) from o5)
             clear o5 b5)
          | (refine step_strsR (.tmp 56) (.tmp 58) W1.heap.size v5 (l.take F) O5.out A m cm new (HS1.out.below B5.out) (by rw [HTL.out]; omega) B5.out.size rfl rfl rfl rfl ?_
             intro v7 w7 o7 g7 p7
             have K7 := (show w7.cell? ⟨w.heap.size, 3, none⟩ = some (.slice A m cm) from g7.cell (cell_keep B5.out y3) (fun e => by have h5 := (O5.out.lt e.symm).1; have h6 := HLW.out; dsimp only at h5 h6; omega))
             have B7 := Lib.hid (show Below W1.heap.size W1 w7 from B5.out.grown g7 B5.out.size (fun k e => (O5.out.lt e).1))
             have O7 := Lib.hid o7
             clear o7 g7 p7)
          | (refine step_strsR (.tmp 59) (.tmp 62) W1.heap.size v7 (l.take F ++ new) O7.out (cutA a c B) (n - B) (c - B) (l.drop B) (HLD.out.below B7.out) (by rw [List.length_append, HTL.out, HM.out]; omega) B7.out.size rfl rfl rfl rfl ?_
             intro v8 w8 o8 g8 p8
             have K7 := (show w8.cell? ⟨w.heap.size, 3, none⟩ = some (.slice A m cm) from g8.cell K7 (fun e => by have h5 := (O7.out.lt e.symm).1; have h6 := HLW.out; dsimp only at h5 h6; omega))
             have B8 := Lib.hid (show Below W1.heap.size W1 w8 from B7.out.grown g8 B7.out.size (fun k e => (O7.out.lt e).1)))
          | fail)
      go_wp2
      go_ret2
      exact ⟨_, by rw [HDO.out]; rfl, by rw [HDO.out, ← List.append_assoc]; exact o8.more (by have := HLW.out; omega), (HB.out.next HBW1.out).next B8.out⟩
    · subst k1
      obtain ⟨F, HF⟩ : ∃ F, Hid (a0 = F + 1) := ⟨a0 - 1, Lib.hid (by omega)⟩
      obtain ⟨B, HBB⟩ : ∃ B, Hid (b0 - 1 = B) := ⟨_, rfl⟩
      have hFB : F ≤ n ∧ B ≤ n := by have := HF.out; have := HBB.out; omega
      obtain ⟨hF, hBn⟩ := hFB
      have HDO := Lib.hid (show doO l ⟨2, (a0 : Int), (b0 : Int), new⟩ = (l.take F ++ (new ++ l.drop B), 0) by
        have eF : fromO ⟨2, (a0 : Int), (b0 : Int), new⟩ = F := by have := HF.out; simp [fromO]; omega
        have eB : behindO ⟨2, (a0 : Int), (b0 : Int), new⟩ = B := by have := HBB.out; simp [behindO]; omega
        unfold doO
        rw [if_neg (by rw [HL.out]; simp; omega), if_neg (by show ¬ ((2 : Int) = 5); decide), eF, eB])
      have HSL := Lib.hid (show (a0 : Int) - 1 = (F : Int) by have := HF.out; omega)
      have HSB := Lib.hid (show F = B by have := HF.out; have := HBB.out; omega)
      have hBF := HSB.out
      subst hBF
      clear h2 hfar
      go_wp2
      rw [HSL.out]
      obtain ⟨W1, HW1⟩ : ∃ W1, Hid (W1 = W.drewN nq) := ⟨_, rfl⟩
      rw [← HW1.out]
      have HBW1 := Lib.hid (show Below W.heap.size W W1 by rw [HW1.out]; exact below_drewO _ _)
      have y3 : W1.cell? ⟨w.heap.size, 3, none⟩ = some (.slice A m cm) := by rw [HW1.out]; exact z3
      have HLT := Lib.hid ((hl.take_ (show F ≤ n by omega)).below (HB.out.next HBW1.out))
      have HLD := Lib.hid ((hl.drop_ (show F ≤ n by omega) hnc).below (HB.out.next HBW1.out))
      have HS1 := Lib.hid (hs.below (HB.out.next HBW1.out))
      have HLW := Lib.hid (show w.heap.size < W1.heap.size by rw [HW1.out, HW.out]; simp)
      have hcF := cut_hiR a n c F (by omega)
      have hcB := cut_loR a n c F (by omega) hnc
      have HTL := Lib.hid (show (l.take F).length = F by rw [List.length_take, HL.out]; omega)
      clear z0 z1 z2 z3
      go_region_held3 (fun w' => w'.cell? ⟨w.heap.size, 3, none⟩ = some (.slice A m cm)) (first | exact y3 | exact cell_keep B5.out y3 | exact K7 | go_keep)
        (first
          | (go_at_call 103; refine (l1OwnT_any a F c (l.take F) W1.drew (HLT.out.below (Below.refl _ _).drew) (by omega)).mono ?_; rintro e w5 ⟨v5, rfl, o5, b5⟩
             have B5 := Lib.hid (show Below W1.heap.size W1 w5 from (Below.refl _ W1).drew.next b5)
             have O5 := Lib.hid (show OwnV w5 W1.heap.size v5 (l.take F) from o5)
             clear o5 b5)
          | (refine step_strsR (.tmp 56) (.tmp 58) W1.heap.size v5 (l.take F) O5.out A m cm new (HS1.out.below B5.out) (by rw [HTL.out]; omega) B5.out.size rfl rfl rfl rfl ?_
             intro v7 w7 o7 g7 p7
             have K7 := (show w7.cell? ⟨w.heap.size, 3, none⟩ = some (.slice A m cm) from g7.cell (cell_keep B5.out y3) (fun e => by have h5 := (O5.out.lt e.symm).1; have h6 := HLW.out; dsimp only at h5 h6; omega))
             have B7 := Lib.hid (show Below W1.heap.size W1 w7 from B5.out.grown g7 B5.out.size (fun k e => (O5.out.lt e).1))
             have O7 := Lib.hid o7
             clear o7 g7 p7)
          | (refine step_strsR (.tmp 59) (.tmp 62) W1.heap.size v7 (l.take F ++ new) O7.out (cutA a c F) (n - F) (c - F) (l.drop F) (HLD.out.below B7.out) (by rw [List.length_append, HTL.out, HM.out]; omega) B7.out.size rfl rfl rfl rfl ?_
             intro v8 w8 o8 g8 p8
             have K7 := (show w8.cell? ⟨w.heap.size, 3, none⟩ = some (.slice A m cm) from g8.cell K7 (fun e => by have h5 := (O7.out.lt e.symm).1; have h6 := HLW.out; dsimp only at h5 h6; omega))
             have B8 := Lib.hid (show Below W1.heap.size W1 w8 from B7.out.grown g8 B7.out.size (fun k e => (O7.out.lt e).1)))
          | fail)
      go_wp2
      go_ret2
      exact ⟨_, by rw [HDO.out]; rfl, by rw [HDO.out, ← List.append_assoc]; exact o8.more (by have := HLW.out; omega), (HB.out.next HBW1.out).next B8.out⟩
    · subst k1
      obtain ⟨F, HF⟩ : ∃ F, Hid (a0 = F + 1) := ⟨a0 - 1, Lib.hid (by omega)⟩
      obtain ⟨B, HBB⟩ : ∃ B, Hid (b0 = B) := ⟨_, rfl⟩
      have hFB : F ≤ n ∧ B ≤ n := by have := HF.out; have := HBB.out; omega
      obtain ⟨hF, hBn⟩ := hFB
      have HDO := Lib.hid (show doO l ⟨3, (a0 : Int), (b0 : Int), new⟩ = (l.take F ++ (new ++ l.drop B), 0) by
        have eF : fromO ⟨3, (a0 : Int), (b0 : Int), new⟩ = F := by have := HF.out; simp [fromO]; omega
        have eB : behindO ⟨3, (a0 : Int), (b0 : Int), new⟩ = B := by have := HBB.out; simp [behindO]; omega
        unfold doO
        rw [if_neg (by rw [HL.out]; simp; omega), if_neg (by show ¬ ((3 : Int) = 5); decide), eF, eB])
      have HSL := Lib.hid (show (a0 : Int) - 1 = (F : Int) ∧ (b0 : Int) = (B : Int) from ⟨by have := HF.out; omega, by rw [HBB.out]⟩)
      clear hfar
      go_wp2
      rw [HSL.out.1, HSL.out.2]
      obtain ⟨W1, HW1⟩ : ∃ W1, Hid (W1 = W.drewN nq) := ⟨_, rfl⟩
      rw [← HW1.out]
      have HBW1 := Lib.hid (show Below W.heap.size W W1 by rw [HW1.out]; exact below_drewO _ _)
      have y3 : W1.cell? ⟨w.heap.size, 3, none⟩ = some (.slice A m cm) := by rw [HW1.out]; exact z3
      have HLT := Lib.hid ((hl.take_ (show F ≤ n by omega)).below (HB.out.next HBW1.out))
      have HLD := Lib.hid ((hl.drop_ (show B ≤ n by omega) hnc).below (HB.out.next HBW1.out))
      have HS1 := Lib.hid (hs.below (HB.out.next HBW1.out))
      have HLW := Lib.hid (show w.heap.size < W1.heap.size by rw [HW1.out, HW.out]; simp)
      have hcF := cut_hiR a n c F (by omega)
      have hcB := cut_loR a n c B (by omega) hnc
      have HTL := Lib.hid (show (l.take F).length = F by rw [List.length_take, HL.out]; omega)
      clear z0 z1 z2 z3
      go_region_held3 (fun w' => w'.cell? ⟨w.heap.size, 3, none⟩ = some (.slice A m cm)) (first | exact y3 | exact cell_keep B5.out y3 | exact K7 | go_keep)
        (first
          | (go_at_call 103; refine (l1OwnT_any a F c (l.take F) W1.drew (HLT.out.below (Below.refl _ _).drew) (by omega)).mono ?_; rintro e w5 ⟨v5, rfl, o5, b5⟩
             have B5 := Lib.hid (show Below W1.heap.size W1 w5 from (Below.refl _ W1).drew.next b5)
             have O5 := Lib.hid (show OwnV w5 W1.heap.size v5 (l.take F) from o5)
             clear o5 b5)
          | (refine step_strsR (.tmp 56) (.tmp 58) W1.heap.size v5 (l.take F) O5.out A m cm new (HS1.out.below B5.out) (by rw [HTL.out]; omega) B5.out.size rfl rfl rfl rfl ?_
             intro v7 w7 o7 g7 p7
             have K7 := (show w7.cell? ⟨w.heap.size, 3, none⟩ = some (.slice A m cm) from g7.cell (cell_keep B5.out y3) (fun e => by have h5 := (O5.out.lt e.symm).1; have h6 := HLW.out; dsimp only at h5 h6; omega))
             have B7 := Lib.hid (show Below W1.heap.size W1 w7 from B5.out.grown g7 B5.out.size (fun k e => (O5.out.lt e).1))
             have O7 := Lib.hid o7
             clear o7 g7 p7)
          | (refine step_strsR (.tmp 59) (.tmp 62) W1.heap.size v7 (l.take F ++ new) O7.out (cutA a c B) (n - B) (c - B) (l.drop B) (HLD.out.below B7.out) (by rw [List.length_append, HTL.out, HM.out]; omega) B7.out.size rfl rfl rfl rfl ?_
             intro v8 w8 o8 g8 p8
             have K7 := (show w8.cell? ⟨w.heap.size, 3, none⟩ = some (.slice A m cm) from g8.cell K7 (fun e => by have h5 := (O7.out.lt e.symm).1; have h6 := HLW.out; dsimp only at h5 h6; omega))
             have B8 := Lib.hid (show Below W1.heap.size W1 w8 from B7.out.grown g8 B7.out.size (fun k e => (O7.out.lt e).1)))
          | fail)
      go_wp2
      go_ret2
      exact ⟨_, by rw [HDO.out]; rfl, by rw [HDO.out, ← List.append_assoc]; exact o8.more (by have := HLW.out; omega), (HB.out.next HBW1.out).next B8.out⟩
    · subst k1
      obtain ⟨F, HF⟩ : ∃ F, Hid (a0 = F + 1) := ⟨a0 - 1, Lib.hid (by omega)⟩
      obtain ⟨B, HBB⟩ : ∃ B, Hid (b0 = B) := ⟨_, rfl⟩
      have hFB : F ≤ n ∧ B ≤ n := by have := HF.out; have := HBB.out; omega
      obtain ⟨hF, hBn⟩ := hFB
      have HDO := Lib.hid (show doO l ⟨4, (a0 : Int), (b0 : Int), new⟩ = (l.take F ++ (new ++ l.drop B), 0) by
        have eF : fromO ⟨4, (a0 : Int), (b0 : Int), new⟩ = F := by have := HF.out; simp [fromO]; omega
        have eB : behindO ⟨4, (a0 : Int), (b0 : Int), new⟩ = B := by have := HBB.out; simp [behindO]; omega
        unfold doO
        rw [if_neg (by rw [HL.out]; simp; omega), if_neg (by show ¬ ((4 : Int) = 5); decide), eF, eB])
      have HSL := Lib.hid (show (a0 : Int) - 1 = (F : Int) ∧ (b0 : Int) = (B : Int) from ⟨by have := HF.out; omega, by rw [HBB.out]⟩)
      clear hfar
      go_wp2
      rw [HSL.out.1, HSL.out.2]
      obtain ⟨W1, HW1⟩ : ∃ W1, Hid (W1 = W.drewN nq) := ⟨_, rfl⟩
      rw [← HW1.out]
      have HBW1 := Lib.hid (show Below W.heap.size W W1 by rw [HW1.out]; exact below_drewO _ _)
      have y3 : W1.cell? ⟨w.heap.size, 3, none⟩ = some (.slice A m cm) := by rw [HW1.out]; exact z3
      have HLT := Lib.hid ((hl.take_ (show F ≤ n by omega)).below (HB.out.next HBW1.out))
      have HLD := Lib.hid ((hl.drop_ (show B ≤ n by omega) hnc).below (HB.out.next HBW1.out))
      have HS1 := Lib.hid (hs.below (HB.out.next HBW1.out))
      have HLW := Lib.hid (show w.heap.size < W1.heap.size by rw [HW1.out, HW.out]; simp)
      have hcF := cut_hiR a n c F (by omega)
      have hcB := cut_loR a n c B (by omega) hnc
      have HTL := Lib.hid (show (l.take F).length = F by rw [List.length_take, HL.out]; omega)
      clear z0 z1 z2 z3
      go_region_held3 (fun w' => w'.cell? ⟨w.heap.size, 3, none⟩ = some (.slice A m cm)) (first | exact y3 | exact cell_keep B5.out y3 | exact K7 | go_keep)
        (first
          | (go_at_call 103; refine (l1OwnT_any a F c (l.take F) W1.drew (HLT.out.below (Below.refl _ _).drew) (by omega)).mono ?_; rintro e w5 ⟨v5, rfl, o5, b5⟩
             have B5 := Lib.hid (show Below W1.heap.size W1 w5 from (Below.refl _ W1).drew.next b5)
             have O5 := Lib.hid (show OwnV w5 W1.heap.size v5 (l.take F) from o5)
             clear o5 b5)
          | (refine step_strsR (.tmp 56) (.tmp 58) W1.heap.size v5 (l.take F) O5.out A m cm new (HS1.out.below B5.out) (by rw [HTL.out]; omega) B5.out.size rfl rfl rfl rfl ?_
             intro v7 w7 o7 g7 p7
             have K7 := (show w7.cell? ⟨w.heap.size, 3, none⟩ = some (.slice A m cm) from g7.cell (cell_keep B5.out y3) (fun e => by have h5 := (O5.out.lt e.symm).1; have h6 := HLW.out; dsimp only at h5 h6; omega))
             have B7 := Lib.hid (show Below W1.heap.size W1 w7 from B5.out.grown g7 B5.out.size (fun k e => (O5.out.lt e).1))
             have O7 := Lib.hid o7
             clear o7 g7 p7)
          | (refine step_strsR (.tmp 59) (.tmp 62) W1.heap.size v7 (l.take F ++ new) O7.out (cutA a c B) (n - B) (c - B) (l.drop B) (HLD.out.below B7.out) (by rw [List.length_append, HTL.out, HM.out]; omega) B7.out.size rfl rfl rfl rfl ?_
             intro v8 w8 o8 g8 p8
             have K7 := (show w8.cell? ⟨w.heap.size, 3, none⟩ = some (.slice A m cm) from g8.cell K7 (fun e => by have h5 := (O7.out.lt e.symm).1; have h6 := HLW.out; dsimp only at h5 h6; omega))
             have B8 := Lib.hid (show Below W1.heap.size W1 w8 from B7.out.grown g8 B7.out.size (fun k e => (O7.out.lt e).1)))
          | fail)
      go_wp2
      go_ret2
      exact ⟨_, by rw [HDO.out]; rfl, by rw [HDO.out, ← List.append_assoc]; exact o8.more (by have := HLW.out; omega), (HB.out.next HBW1.out).next B8.out⟩
    · subst k1
      clear hne
      obtain ⟨F, HF⟩ : ∃ F, Hid (a0 = F + 1) := ⟨a0 - 1, Lib.hid (by omega)⟩
      have hFn : F < n := by have := HF.out; omega
      have HSL := Lib.hid (show (a0 : Int) - 1 = (F : Int) by have := HF.out; omega)
      have HB2 := Lib.hid (show b0 = F + 1 by have := HF.out; omega)
      obtain ⟨bb, of, t, HAE, hts, htm, htc⟩ := (hl.below (HB.out.next (below_drewO W nq))).at_ hFn
      have HEN := Lib.hid (HE.out t (List.mem_of_getElem? hts))
      have htp : 0 < t.size := ends_pos HEN.out
      have hdo : doO l ⟨5, (a0 : Int), (b0 : Int), new⟩ = match fixS t with | some u => (l.take F ++ u :: l.drop (F + 1), 0) | none => ([], 2) := by
        unfold doO
        have e1 : ((a0 : Int) - 1).toNat = F := by rw [HSL.out]; rfl
        have e2 : (b0 : Int).toNat = F + 1 := by rw [HB2.out]; rfl
        rw [if_neg (by rw [HL.out]; simp; omega), if_pos rfl, e1, e2, hts, Option.bind_some]
        cases fixS t <;> rfl
      have HDO := Lib.hid hdo
      have hi0 : (0 : Int) ≤ (F : Int) := by omega
      have hi1 : (F : Int) < (n : Int) := by omega
      rw [HSL.out]
      subst HAE
      obtain ⟨W1, HW1⟩ : ∃ W1, Hid (W1 = W.drewN nq) := ⟨_, rfl⟩
      rw [← HW1.out]
      rw [← HW1.out] at htc
      clear hdo h2 hts
      have HBW1 := Lib.hid (show Below W.heap.size W W1 by rw [HW1.out]; exact below_drewO _ _)
      have y0 : W1.cell? ⟨w.heap.size, 0, none⟩ = some (.int .i64 5) := by rw [HW1.out]; exact z0
      have hhd : t.data.toList.head? = some (t[0]'htp) := by
        have e : t.data.toList[0]? = some (t[0]'htp) := by rw [List.getElem?_eq_getElem (by simp; exact htp)]; rfl
        rw [List.head?_eq_getElem?]; exact e
      clear z0 z1 z2 z3
      by_cases hdot : (t[0]'htp).toNat = 46
      · have hc1 : (((t[0]'htp).toNat : Int) == 46) = true := by simp; omega
        have hc2 : (((t[0]'htp).toNat : Int) != 46) = false := by simp; omega
        have h46 : t[0]'htp = 46 := UInt8.toNat_inj.1 (by rw [hdot]; rfl)
        cases hd : decide (t = dotA)
        · have hde : (t.toList == [46, 10]) = false := by rw [dot_bytes, hd]
          obtain ⟨u, HU⟩ : ∃ u, Hid (t.extract 1 t.size = u) := ⟨_, rfl⟩
          have HDF := Lib.hid (show doO l ⟨5, (a0 : Int), (b0 : Int), new⟩ = (l.take F ++ u :: l.drop (F + 1), 0) by
            have e : fixS t = some u := by
              unfold fixS
              rw [if_pos ⟨by rw [hhd, h46], by simpa using hd⟩, HU.out]
            rw [HDO.out, e])
          have HUS := Lib.hid (show u.size ≤ maxLen by rw [← HU.out]; simp; omega)
          have HLT := Lib.hid ((hl.take_ (show F ≤ n by omega)).below (HB.out.next HBW1.out))
          have HLD := Lib.hid ((hl.drop_ (show F + 1 ≤ n by omega) hnc).below (HB.out.next HBW1.out))
          have HLW := Lib.hid (show w.heap.size < W1.heap.size by rw [HW1.out, HW.out]; simp)
          have hcF := cut_hiR (some ⟨bb, of, none⟩) n c F (by omega)
          obtain ⟨B, HBB⟩ : ∃ B, Hid (F + 1 = B) := ⟨_, rfl⟩
          have hBn : B ≤ n := by have := HBB.out; omega
          have hcB := cut_loR (some ⟨bb, of, none⟩) n c B hBn hnc
          have ht1 : (1 : Int) ≤ (t.size : Int) := by omega
          have ht2 : 1 ≤ t.size := by omega
          have HTL := Lib.hid (show (l.take F).length = F by rw [List.length_take, HL.out]; omega)
          have HSB2 := Lib.hid (show (b0 : Int) = (B : Int) by rw [HB2.out, HBB.out])
          rw [HBB.out] at HLD HDF
          clear hd hdot h46 hhd HDO
          have hus : t.extract 1 t.size = u := HU.out
          go_wp2
          rw [HSB2.out]
          go_region_held3 (fun w' => True) (exact trivial)
            (first
              | (go_at_call 103; refine (l1OwnT_any (some ⟨bb, of, none⟩) F c (l.take F) _ (HLT.out.below (by first | exact (Below.refl _ _).drew | exact (below_alloc _ _).next (Below.refl _ _).drew | exact ((Below.refl _ _).drew).next (below_alloc _ _))) (by omega)).mono ?_; rintro e w5 ⟨v5, rfl, o5, b5⟩
                 have B5 := Lib.hid (show Below W1.heap.size W1 w5 by first | exact (Below.refl _ W1).drew.next b5 | exact ((below_alloc _ _).next (Below.refl _ _).drew).next b5 | exact (((Below.refl _ W1).drew).next (below_alloc _ _)).next b5)
                 have O5 := Lib.hid (show OwnV w5 W1.heap.size v5 (l.take F) from o5.more (by first | exact Nat.le_refl _ | (simp)))
                 (try have L5 := Lib.hid (show Strs w5 (some ⟨W1.heap.size, 0, none⟩) 1 [u] from ((strs_one W1 u HUS.out).below (Below.refl _ _).drew).below b5))
                 clear o5 b5)
              | (refine step_strsR (.tmp 44) (.tmp 47) W1.heap.size v5 (l.take F) (O5.out.below (below_alloc _ _)) (some ⟨w5.heap.size, 0, none⟩) 1 1 [u] (strs_one w5 u HUS.out) (by rw [HTL.out]; omega) (Nat.le_trans B5.out.size (below_alloc _ _).size) rfl rfl rfl rfl ?_
                 intro v7 w7 o7 g7 p7
                 have B7 := Lib.hid (show Below W1.heap.size W1 w7 from (B5.out.next (below_alloc _ _)).grown g7 (Nat.le_trans B5.out.size (below_alloc _ _).size) (fun k e => (O5.out.lt e).1))
                 have O7 := Lib.hid o7
                 clear o7 g7 p7)
              | (refine step_strsR (.tmp 44) (.tmp 47) W1.heap.size v5 (l.take F) O5.out (some ⟨W1.heap.size, 0, none⟩) 1 1 [u] L5.out (by rw [HTL.out]; omega) B5.out.size rfl rfl rfl rfl ?_
                 intro v7 w7 o7 g7 p7
                 have B7 := Lib.hid (show Below W1.heap.size W1 w7 from B5.out.grown g7 B5.out.size (fun k e => (O5.out.lt e).1))
                 have O7 := Lib.hid o7
                 clear o7 g7 p7)
              | (refine step_strsR (.tmp 48) (.tmp 51) W1.heap.size v7 (l.take F ++ [u]) O7.out (cutA (some ⟨bb, of, none⟩) c B) (n - B) (c - B) (l.drop B) (HLD.out.below B7.out) (by rw [List.length_append, HTL.out]; simp; omega) B7.out.size rfl rfl rfl rfl ?_
                 intro v8 w8 o8 g8 p8
                 have B8 := Lib.hid (show Below W1.heap.size W1 w8 from B7.out.grown g8 B7.out.size (fun k e => (O7.out.lt e).1)))
              | fail)
          all_goals go_wp2
          all_goals go_ret2
          all_goals exact ⟨_, by rw [HDF.out]; rfl, by rw [HDF.out]; rw [show l.take F ++ u :: l.drop B = l.take F ++ [u] ++ l.drop B by simp]; exact o8.more (by have := HLW.out; omega), (HB.out.next HBW1.out).next B8.out⟩
        · have hde : (t.toList == [46, 10]) = true := by rw [dot_bytes, hd]
          have HDF := Lib.hid (show doO l ⟨5, (a0 : Int), (b0 : Int), new⟩ = ([], 2) by
            have e : fixS t = none := by
              unfold fixS
              rw [if_neg (by rintro ⟨_, h⟩; exact h (by simpa using hd))]
            rw [HDO.out, e])
          clear hd hdot h46 hhd HDO
          go_wp2
          go_ret2
          exact ⟨_, by rw [HDF.out]; rfl, by rw [HDF.out]; exact OwnV.nil_, HB.out.next HBW1.out⟩
      · have hc1 : (((t[0]'htp).toNat : Int) == 46) = false := by simp; omega
        have hc2 : (((t[0]'htp).toNat : Int) != 46) = true := by simp; omega
        have HDF := Lib.hid (show doO l ⟨5, (a0 : Int), (b0 : Int), new⟩ = ([], 2) by
          have e : fixS t = none := by
            unfold fixS
            rw [if_neg (by rintro ⟨h, _⟩; rw [hhd] at h; injection h with h; exact hdot (by rw [h]; rfl))]
          rw [HDO.out, e])
        clear hdot hhd HDO
        go_wp2
        go_ret2
        exact ⟨_, by rw [HDF.out]; rfl, by rw [HDF.out]; exact OwnV.nil_, HB.out.next HBW1.out⟩

end Go.Proofs.YtnnaigoomipklaaGreatDoor
