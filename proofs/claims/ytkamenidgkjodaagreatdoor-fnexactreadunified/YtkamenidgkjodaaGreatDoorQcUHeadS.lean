/-
  Heads of groups, read: the model's way of cutting one.
-/
import Derived.Test.YtkamenidgkjodaaGreatDoorQcUReadS
set_option linter.unusedSimpArgs false
set_option linter.unusedVariables false
namespace Go.Proofs.YtkamenidgkjodaaGreatDoor
open Go.RowKit M

theorem split_le (b : UInt8) : ∀ (l : List UInt8) (p : List UInt8), p ∈ splitB b l → p.length ≤ l.length
  | [], p, h => by simp [splitB] at h; simp [h]
  | c :: r, p, h => by
    rw [splitB] at h
    split at h
    · rcases List.mem_cons.1 h with e | e
      · simp [e]
      · have := split_le b r p e; simp; omega
    · cases hs : splitB b r with
      | nil => rw [hs] at h; simp at h
      | cons x xs =>
        rw [hs] at h
        simp only [List.modifyHead_cons] at h
        rcases List.mem_cons.1 h with e | e
        · have := split_le b r x (by rw [hs]; simp); rw [e]; simp; omega
        · have := split_le b r p (by rw [hs]; simp [e]); simp; omega
theorem split_inv {l x : List UInt8} {rest : List (List UInt8)} (h : splitB 32 l = x :: rest) : (rest = [] ∧ l = x) ∨ ∃ q, l = x ++ 32 :: q ∧ splitB 32 q = rest := by
  rcases split_cases 32 l with h1 | ⟨p, q, rfl, h1⟩
  · rw [split_none 32 l h1] at h
    injection h with e1 e2
    exact .inl ⟨e2.symm, e1⟩
  · rw [split_hit 32 p q h1] at h
    injection h with e1 e2
    exact .inr ⟨q, by rw [e1], e2⟩
theorem head_split {h f s : List UInt8} {a o t c : Nat} (e : splitB 32 h = [[64, 64], 45 :: f, 43 :: s, [64, 64]]) (h1 : countL f = some (a, o)) (h2 : countL s = some (t, c)) : HeadIs h a o t c := by
  rcases split_inv e with ⟨e1, _⟩ | ⟨q, e1, e2⟩
  · cases e1
  rcases split_inv e2 with ⟨e3, _⟩ | ⟨q2, e3, e4⟩
  · cases e3
  rcases split_inv e4 with ⟨e5, _⟩ | ⟨q3, e5, e6⟩
  · cases e5
  rcases split_inv e6 with ⟨_, e7⟩ | ⟨q4, e7, e8⟩
  · exact ⟨f, s, by rw [e1, e3, e5, e7]; simp, h1, h2⟩
  · have := split_pos 32 q4
    rw [e8] at this
    simp at this
theorem head_is_split {h : List UInt8} {a o t c : Nat} (hh : HeadIs h a o t c) : ∃ f s, splitB 32 h = [[64, 64], 45 :: f, 43 :: s, [64, 64]] ∧ countL f = some (a, o) ∧ countL s = some (t, c) ∧ f ≠ [] ∧ s ≠ [] := by
  obtain ⟨f, s, rfl, h1, h2⟩ := hh
  have n1 := (countL_no h1).1
  have n2 := (countL_no h2).1
  refine ⟨f, s, ?_, h1, h2, fun e => ?_, fun e => ?_⟩
  · have e : [64, 64, 32, 45] ++ f ++ [32, 43] ++ s ++ [32, 64, 64] = [64, 64] ++ 32 :: ((45 :: f) ++ 32 :: ((43 :: s) ++ 32 :: [64, 64])) := by simp
    rw [e, split_hit 32 _ _ (by decide), split_hit 32 _ _ (by simp [n1]), split_hit 32 _ _ (by simp [n2]), split_none 32 _ (by decide)]
  · rw [e, show countL [] = none from by decide] at h1; cases h1
  · rw [e, show countL [] = none from by decide] at h2; cases h2
/-- What the model's reader of heads tells. -/
def HeadPost (h : List UInt8) (w : World) (e : Ending) (w' : World) : Prop := ∃ (a o t c : Int) (ok : Bool), e = .returned (.tuple #[.agg #[.int .i64 a, .int .i64 t, .slice none 0 0], .int .i64 o, .int .i64 c, .bool ok]) ∧ (ok = true → ∃ a' o' t' c' : Nat, HeadIs h a' o' t' c' ∧ a = a' ∧ o = o' ∧ t = t' ∧ c = c') ∧ (ok = false → ∀ a o t c, ¬ HeadIs h a o t c) ∧ Below w.heap.size w w'

set_option maxHeartbeats 8000000 in
set_option maxRecDepth 100000 in
theorem l7Head_any (h : List UInt8) (hs : h.length ≤ 3000) (w : World) :
    Calls Tryz.prog 47 #[.string (bs h)] w fun e w' => HeadPost h w e w' := by
  obtain ⟨W1, HW1⟩ : ∃ W1, Hid (W1 = w.alloc (.cells #[.int .i64 0, .int .i64 0, .slice none 0 0] 60)) := ⟨_, rfl⟩
  have HB1 := Lib.hid (show Below w.heap.size w W1 by rw [HW1.out]; exact below_alloc _ _)
  have HQ := Lib.hid (show W1.heap[w.heap.size]? = some (.cells #[.int .i64 0, .int .i64 0, .slice none 0 0] 60 (0, 0)) by rw [HW1.out]; exact heap_at rfl)
  have HSZ := Lib.hid (show w.heap.size < W1.heap.size by rw [HW1.out]; simp)
  have HSP := Lib.hid (l1Split32_any (bs h) (by rw [bs_size]; omega))
  have HBL := Lib.hid (bs_list h)
  rw [HBL.out] at HSP
  obtain ⟨Wl, HWL⟩ : ∃ Wl, Hid (splitB 32 h = Wl) := ⟨_, rfl⟩
  rw [HWL.out] at HSP
  obtain ⟨M, HM⟩ : ∃ M, Hid (Wl.length = M) := ⟨_, rfl⟩
  by_cases h4 : M = 4
  case neg =>
    have HNO := Lib.hid (show ∀ a o t c, ¬ HeadIs h a o t c from fun a o t c hh => by
      obtain ⟨f, s, e, _⟩ := head_is_split hh
      rw [HWL.out] at e
      exact h4 (by rw [← HM.out, e]; rfl))
    have qM : ((M : Int) != 4) = true := by simp; omega
    clear h4
    go_enter Tryz.func47, Tryz.ntmps47
    go_wp2_with fail
    rw [← HW1.out]
    refine (HSP.out _).mono ?_
    rintro e w2 ⟨v2, rfl, o2, b2⟩
    obtain ⟨A2, k2, rfl, h21, _⟩ := o2.form (n := M) (by rw [List.length_map]; exact HM.out)
    clear o2
    have HQ2 := Lib.hid ((b2.block w.heap.size HSZ.out).trans HQ.out)
    have HB2 := Lib.hid (HB1.out.next b2)
    have s0 : w2.cell? ⟨w.heap.size, 0, none⟩ = some (.int .i64 0) := by simp [World.cell?, HQ2.out]
    have s1 : w2.cell? ⟨w.heap.size, 1, none⟩ = some (.int .i64 0) := by simp [World.cell?, HQ2.out]
    have s2 : w2.cell? ⟨w.heap.size, 2, none⟩ = some (.slice none 0 0) := by simp [World.cell?, HQ2.out]
    have sf : ∀ j, w2.frozen? ⟨w.heap.size, j, none⟩ = false := fun j => by simp [World.frozen?, HQ2.out]
    clear b2
    go_wp2
    (try simp only [Exit.inBlock, Exit.then])
    refine bodyPost_ret (v := .tuple #[.agg #[.int .i64 0, .int .i64 0, .slice none 0 0], .int .i64 0, .int .i64 0, .bool false]) (by simp [results, Tryz.results47, go_sem, s0, s1, s2]) rfl ?_
    exact ⟨0, 0, 0, 0, false, rfl, (fun e => by cases e), fun _ => HNO.out, ((HB2.out.setCell (Nat.le_refl _) _).setCell (Nat.le_refl _) _).setCell (Nat.le_refl _) _⟩
  case pos =>
  subst h4
  have qM : ((4 : Int) != 4) = false := by decide
  obtain ⟨p0, p1, p2, p3, HP⟩ : ∃ p0 p1 p2 p3, Hid (Wl = [p0, p1, p2, p3]) := by
    have hm := HM.out
    match Wl, hm with
    | [p0, p1, p2, p3], _ => exact ⟨_, _, _, _, rfl⟩
  have hsm : ∀ p ∈ Wl, p.length ≤ 3000 := fun p hp => by
    have := split_le 32 h p (by rw [HWL.out]; exact hp)
    omega
  rw [HP.out] at hsm
  have z1 := hsm p1 (by simp)
  have z2 := hsm p2 (by simp)
  rw [HP.out] at HSP HWL
  clear hsm
  have HONLY := Lib.hid (show ∀ a o t c, HeadIs h a o t c → ∃ f s, p0 = [64, 64] ∧ p1 = 45 :: f ∧ p2 = 43 :: s ∧ p3 = [64, 64] ∧ countL f = some (a, o) ∧ countL s = some (t, c) ∧ f ≠ [] ∧ s ≠ [] from fun a o t c hh => by
    obtain ⟨f, s, e, e1, e2, e3, e4⟩ := head_is_split hh
    rw [HWL.out] at e
    simp only [List.cons.injEq, and_true] at e
    exact ⟨f, s, e.1, e.2.1, e.2.2.1, e.2.2.2, e1, e2, e3, e4⟩)
  have i0 : (0 : Int) < 4 := by decide
  have i1 : (1 : Int) < 4 := by decide
  have i2 : (2 : Int) < 4 := by decide
  have i3 : (3 : Int) < 4 := by decide
  have y1 : (bs p1).size = p1.length := bs_size p1
  have y2 : (bs p2).size = p2.length := bs_size p2
  by_cases g0 : p0 = [64, 64]
  case neg =>
    have HNO := Lib.hid (show ∀ a o t c, ¬ HeadIs h a o t c from fun a o t c hh => by obtain ⟨f, s, e, _⟩ := HONLY.out a o t c hh; exact g0 e)
    have q0 : ((bs p0).toList == [64, 64]) = false := by rw [ByteArray.toList_eq, bs_list]; simp [g0]
    clear g0
    go_enter Tryz.func47, Tryz.ntmps47
    go_wp2_with fail
    rw [← HW1.out]
    refine (HSP.out _).mono ?_
    rintro e w2 ⟨v2, rfl, o2, b2⟩
    obtain ⟨A2, k2, rfl, h21, _⟩ := o2.form (n := 4) rfl
    obtain ⟨g2, off2, rfl, t0⟩ := o2.strs.cell 0 _ rfl
    replace t0 : w2.cell? ⟨g2, off2, none⟩ = some (.string (bs p0)) := by simpa using t0
    obtain ⟨_, _, e2, t1⟩ := o2.strs.cell 1 _ rfl
    injection e2 with e2; injection e2 with e2 e2'; subst e2 e2'
    obtain ⟨_, _, e2, t2⟩ := o2.strs.cell 2 _ rfl
    injection e2 with e2; injection e2 with e2 e2'; subst e2 e2'
    obtain ⟨_, _, e2, t3⟩ := o2.strs.cell 3 _ rfl
    injection e2 with e2; injection e2 with e2 e2'; subst e2 e2'
    clear o2
    have HQ2 := Lib.hid ((b2.block w.heap.size HSZ.out).trans HQ.out)
    have HB2 := Lib.hid (HB1.out.next b2)
    have s0 : w2.cell? ⟨w.heap.size, 0, none⟩ = some (.int .i64 0) := by simp [World.cell?, HQ2.out]
    have s1 : w2.cell? ⟨w.heap.size, 1, none⟩ = some (.int .i64 0) := by simp [World.cell?, HQ2.out]
    have s2 : w2.cell? ⟨w.heap.size, 2, none⟩ = some (.slice none 0 0) := by simp [World.cell?, HQ2.out]
    have sf : ∀ j, w2.frozen? ⟨w.heap.size, j, none⟩ = false := fun j => by simp [World.frozen?, HQ2.out]
    clear b2
    go_wp2
    (try simp only [Exit.inBlock, Exit.then])
    refine bodyPost_ret (v := .tuple #[.agg #[.int .i64 0, .int .i64 0, .slice none 0 0], .int .i64 0, .int .i64 0, .bool false]) (by simp [results, Tryz.results47, go_sem, s0, s1, s2]) rfl ?_
    exact ⟨0, 0, 0, 0, false, rfl, (fun e => by cases e), fun _ => HNO.out, ((HB2.out.setCell (Nat.le_refl _) _).setCell (Nat.le_refl _) _).setCell (Nat.le_refl _) _⟩
  case pos =>
  have q0 : ((bs p0).toList == [64, 64]) = true := by rw [ByteArray.toList_eq, bs_list, g0]; rfl
  by_cases g3 : p3 = [64, 64]
  case neg =>
    have HNO := Lib.hid (show ∀ a o t c, ¬ HeadIs h a o t c from fun a o t c hh => by obtain ⟨f, s, _, _, _, e, _⟩ := HONLY.out a o t c hh; exact g3 e)
    have q3 : ((bs p3).toList == [64, 64]) = false := by rw [ByteArray.toList_eq, bs_list]; simp [g3]
    clear g0 g3
    go_enter Tryz.func47, Tryz.ntmps47
    go_wp2_with fail
    rw [← HW1.out]
    refine (HSP.out _).mono ?_
    rintro e w2 ⟨v2, rfl, o2, b2⟩
    obtain ⟨A2, k2, rfl, h21, _⟩ := o2.form (n := 4) rfl
    obtain ⟨g2, off2, rfl, t0⟩ := o2.strs.cell 0 _ rfl
    replace t0 : w2.cell? ⟨g2, off2, none⟩ = some (.string (bs p0)) := by simpa using t0
    obtain ⟨_, _, e2, t1⟩ := o2.strs.cell 1 _ rfl
    injection e2 with e2; injection e2 with e2 e2'; subst e2 e2'
    obtain ⟨_, _, e2, t2⟩ := o2.strs.cell 2 _ rfl
    injection e2 with e2; injection e2 with e2 e2'; subst e2 e2'
    obtain ⟨_, _, e2, t3⟩ := o2.strs.cell 3 _ rfl
    injection e2 with e2; injection e2 with e2 e2'; subst e2 e2'
    clear o2
    have HQ2 := Lib.hid ((b2.block w.heap.size HSZ.out).trans HQ.out)
    have HB2 := Lib.hid (HB1.out.next b2)
    have s0 : w2.cell? ⟨w.heap.size, 0, none⟩ = some (.int .i64 0) := by simp [World.cell?, HQ2.out]
    have s1 : w2.cell? ⟨w.heap.size, 1, none⟩ = some (.int .i64 0) := by simp [World.cell?, HQ2.out]
    have s2 : w2.cell? ⟨w.heap.size, 2, none⟩ = some (.slice none 0 0) := by simp [World.cell?, HQ2.out]
    have sf : ∀ j, w2.frozen? ⟨w.heap.size, j, none⟩ = false := fun j => by simp [World.frozen?, HQ2.out]
    clear b2
    go_wp2
    (try simp only [Exit.inBlock, Exit.then])
    refine bodyPost_ret (v := .tuple #[.agg #[.int .i64 0, .int .i64 0, .slice none 0 0], .int .i64 0, .int .i64 0, .bool false]) (by simp [results, Tryz.results47, go_sem, s0, s1, s2]) rfl ?_
    exact ⟨0, 0, 0, 0, false, rfl, (fun e => by cases e), fun _ => HNO.out, ((HB2.out.setCell (Nat.le_refl _) _).setCell (Nat.le_refl _) _).setCell (Nat.le_refl _) _⟩
  case pos =>
  have q3 : ((bs p3).toList == [64, 64]) = true := by rw [ByteArray.toList_eq, bs_list, g3]; rfl
  by_cases g1 : p1.length < 2
  case pos =>
    have HNO := Lib.hid (show ∀ a o t c, ¬ HeadIs h a o t c from fun a o t c hh => by
      obtain ⟨f, s, _, e, _, _, _, _, e5, _⟩ := HONLY.out a o t c hh
      rw [e] at g1
      cases f with
      | nil => exact e5 rfl
      | cons x f => simp only [List.length_cons] at g1; omega)
    have qa : ((p1.length : Int) < 2) = True := eq_true (by omega)
    clear g0 g1 g3
    go_enter Tryz.func47, Tryz.ntmps47
    go_wp2_with fail
    rw [← HW1.out]
    refine (HSP.out _).mono ?_
    rintro e w2 ⟨v2, rfl, o2, b2⟩
    obtain ⟨A2, k2, rfl, h21, _⟩ := o2.form (n := 4) rfl
    obtain ⟨g2, off2, rfl, t0⟩ := o2.strs.cell 0 _ rfl
    replace t0 : w2.cell? ⟨g2, off2, none⟩ = some (.string (bs p0)) := by simpa using t0
    obtain ⟨_, _, e2, t1⟩ := o2.strs.cell 1 _ rfl
    injection e2 with e2; injection e2 with e2 e2'; subst e2 e2'
    obtain ⟨_, _, e2, t2⟩ := o2.strs.cell 2 _ rfl
    injection e2 with e2; injection e2 with e2 e2'; subst e2 e2'
    obtain ⟨_, _, e2, t3⟩ := o2.strs.cell 3 _ rfl
    injection e2 with e2; injection e2 with e2 e2'; subst e2 e2'
    clear o2
    have HQ2 := Lib.hid ((b2.block w.heap.size HSZ.out).trans HQ.out)
    have HB2 := Lib.hid (HB1.out.next b2)
    have s0 : w2.cell? ⟨w.heap.size, 0, none⟩ = some (.int .i64 0) := by simp [World.cell?, HQ2.out]
    have s1 : w2.cell? ⟨w.heap.size, 1, none⟩ = some (.int .i64 0) := by simp [World.cell?, HQ2.out]
    have s2 : w2.cell? ⟨w.heap.size, 2, none⟩ = some (.slice none 0 0) := by simp [World.cell?, HQ2.out]
    have sf : ∀ j, w2.frozen? ⟨w.heap.size, j, none⟩ = false := fun j => by simp [World.frozen?, HQ2.out]
    clear b2
    go_wp2
    (try simp only [Exit.inBlock, Exit.then])
    refine bodyPost_ret (v := .tuple #[.agg #[.int .i64 0, .int .i64 0, .slice none 0 0], .int .i64 0, .int .i64 0, .bool false]) (by simp [results, Tryz.results47, go_sem, s0, s1, s2]) rfl ?_
    exact ⟨0, 0, 0, 0, false, rfl, (fun e => by cases e), fun _ => HNO.out, ((HB2.out.setCell (Nat.le_refl _) _).setCell (Nat.le_refl _) _).setCell (Nat.le_refl _) _⟩
  case neg =>
  have qa : ((p1.length : Int) < 2) = False := eq_false (by omega)
  by_cases g2 : p2.length < 2
  case pos =>
    have HNO := Lib.hid (show ∀ a o t c, ¬ HeadIs h a o t c from fun a o t c hh => by
      obtain ⟨f, s, _, _, e, _, _, _, _, e5⟩ := HONLY.out a o t c hh
      rw [e] at g2
      cases s with
      | nil => exact e5 rfl
      | cons x f => simp only [List.length_cons] at g2; omega)
    have qb : ((p2.length : Int) < 2) = True := eq_true (by omega)
    clear g0 g1 g2 g3
    go_enter Tryz.func47, Tryz.ntmps47
    go_wp2_with fail
    rw [← HW1.out]
    refine (HSP.out _).mono ?_
    rintro e w2 ⟨v2, rfl, o2, b2⟩
    obtain ⟨A2, k2, rfl, h21, _⟩ := o2.form (n := 4) rfl
    obtain ⟨g2, off2, rfl, t0⟩ := o2.strs.cell 0 _ rfl
    replace t0 : w2.cell? ⟨g2, off2, none⟩ = some (.string (bs p0)) := by simpa using t0
    obtain ⟨_, _, e2, t1⟩ := o2.strs.cell 1 _ rfl
    injection e2 with e2; injection e2 with e2 e2'; subst e2 e2'
    obtain ⟨_, _, e2, t2⟩ := o2.strs.cell 2 _ rfl
    injection e2 with e2; injection e2 with e2 e2'; subst e2 e2'
    obtain ⟨_, _, e2, t3⟩ := o2.strs.cell 3 _ rfl
    injection e2 with e2; injection e2 with e2 e2'; subst e2 e2'
    clear o2
    have HQ2 := Lib.hid ((b2.block w.heap.size HSZ.out).trans HQ.out)
    have HB2 := Lib.hid (HB1.out.next b2)
    have s0 : w2.cell? ⟨w.heap.size, 0, none⟩ = some (.int .i64 0) := by simp [World.cell?, HQ2.out]
    have s1 : w2.cell? ⟨w.heap.size, 1, none⟩ = some (.int .i64 0) := by simp [World.cell?, HQ2.out]
    have s2 : w2.cell? ⟨w.heap.size, 2, none⟩ = some (.slice none 0 0) := by simp [World.cell?, HQ2.out]
    have sf : ∀ j, w2.frozen? ⟨w.heap.size, j, none⟩ = false := fun j => by simp [World.frozen?, HQ2.out]
    clear b2
    go_wp2
    (try simp only [Exit.inBlock, Exit.then])
    refine bodyPost_ret (v := .tuple #[.agg #[.int .i64 0, .int .i64 0, .slice none 0 0], .int .i64 0, .int .i64 0, .bool false]) (by simp [results, Tryz.results47, go_sem, s0, s1, s2]) rfl ?_
    exact ⟨0, 0, 0, 0, false, rfl, (fun e => by cases e), fun _ => HNO.out, ((HB2.out.setCell (Nat.le_refl _) _).setCell (Nat.le_refl _) _).setCell (Nat.le_refl _) _⟩
  case neg =>
  have qb : ((p2.length : Int) < 2) = False := eq_false (by omega)
  obtain ⟨x1, f1, rfl⟩ : ∃ x f, p1 = x :: f := by
    cases p1 with
    | nil => simp at g1
    | cons x f => exact ⟨x, f, rfl⟩
  obtain ⟨x2, f2, rfl⟩ : ∃ x f, p2 = x :: f := by
    cases p2 with
    | nil => simp at g2
    | cons x f => exact ⟨x, f, rfl⟩
  have hz1 : 0 < (bs (x1 :: f1)).size := by omega
  have hz2 : 0 < (bs (x2 :: f2)).size := by omega
  have hb1 : (bs (x1 :: f1))[0]'hz1 = x1 := by
    have := get_at (bs (x1 :: f1)) 0 hz1
    rw [bs_list] at this
    injection this with this
  have hb2 : (bs (x2 :: f2))[0]'hz2 = x2 := by
    have := get_at (bs (x2 :: f2)) 0 hz2
    rw [bs_list] at this
    injection this with this
  have hx1 : (bs (x1 :: f1)).extract 1 (f1.length + 1) = bs f1 := by rw [extract_bs, bs_list]; simp
  have hx2 : (bs (x2 :: f2)).extract 1 (f2.length + 1) = bs f2 := by rw [extract_bs, bs_list]; simp
  rw [List.length_cons] at y1 y2 z1 z2 g1 g2
  clear qa qb
  have qa : ((f1.length : Int) + 1 < 2) = False := eq_false (by omega)
  have qb : ((f2.length : Int) + 1 < 2) = False := eq_false (by omega)
  by_cases b1 : x1 = 45
  case neg =>
    have HNO := Lib.hid (show ∀ a o t c, ¬ HeadIs h a o t c from fun a o t c hh => by obtain ⟨f, s, _, e, _⟩ := HONLY.out a o t c hh; injection e with e _; exact b1 e)
    have qc : (((x1.toNat : Nat) : Int) != 45) = true := by
      have : x1.toNat ≠ 45 := fun e => b1 (UInt8.toNat.inj (by simpa using e))
      simp; omega
    clear g0 g1 g2 g3 b1
    go_enter Tryz.func47, Tryz.ntmps47
    go_wp2_with fail
    rw [← HW1.out]
    refine (HSP.out _).mono ?_
    rintro e w2 ⟨v2, rfl, o2, b2⟩
    obtain ⟨A2, k2, rfl, h21, _⟩ := o2.form (n := 4) rfl
    obtain ⟨g2, off2, rfl, t0⟩ := o2.strs.cell 0 _ rfl
    replace t0 : w2.cell? ⟨g2, off2, none⟩ = some (.string (bs p0)) := by simpa using t0
    obtain ⟨_, _, e2, t1⟩ := o2.strs.cell 1 _ rfl
    injection e2 with e2; injection e2 with e2 e2'; subst e2 e2'
    obtain ⟨_, _, e2, t2⟩ := o2.strs.cell 2 _ rfl
    injection e2 with e2; injection e2 with e2 e2'; subst e2 e2'
    obtain ⟨_, _, e2, t3⟩ := o2.strs.cell 3 _ rfl
    injection e2 with e2; injection e2 with e2 e2'; subst e2 e2'
    clear o2
    have HQ2 := Lib.hid ((b2.block w.heap.size HSZ.out).trans HQ.out)
    have HB2 := Lib.hid (HB1.out.next b2)
    have s0 : w2.cell? ⟨w.heap.size, 0, none⟩ = some (.int .i64 0) := by simp [World.cell?, HQ2.out]
    have s1 : w2.cell? ⟨w.heap.size, 1, none⟩ = some (.int .i64 0) := by simp [World.cell?, HQ2.out]
    have s2 : w2.cell? ⟨w.heap.size, 2, none⟩ = some (.slice none 0 0) := by simp [World.cell?, HQ2.out]
    have sf : ∀ j, w2.frozen? ⟨w.heap.size, j, none⟩ = false := fun j => by simp [World.frozen?, HQ2.out]
    clear b2
    go_wp2
    (try simp only [Exit.inBlock, Exit.then])
    refine bodyPost_ret (v := .tuple #[.agg #[.int .i64 0, .int .i64 0, .slice none 0 0], .int .i64 0, .int .i64 0, .bool false]) (by simp [results, Tryz.results47, go_sem, s0, s1, s2]) rfl ?_
    exact ⟨0, 0, 0, 0, false, rfl, (fun e => by cases e), fun _ => HNO.out, ((HB2.out.setCell (Nat.le_refl _) _).setCell (Nat.le_refl _) _).setCell (Nat.le_refl _) _⟩
  case pos =>
  subst b1
  by_cases b2 : x2 = 43
  case neg =>
    have HNO := Lib.hid (show ∀ a o t c, ¬ HeadIs h a o t c from fun a o t c hh => by obtain ⟨f, s, _, _, e, _⟩ := HONLY.out a o t c hh; injection e with e _; exact b2 e)
    have qd : (((x2.toNat : Nat) : Int) != 43) = true := by
      have : x2.toNat ≠ 43 := fun e => b2 (UInt8.toNat.inj (by simpa using e))
      simp; omega
    clear g0 g1 g2 g3 b2
    go_enter Tryz.func47, Tryz.ntmps47
    go_wp2_with fail
    rw [← HW1.out]
    refine (HSP.out _).mono ?_
    rintro e w2 ⟨v2, rfl, o2, b2⟩
    obtain ⟨A2, k2, rfl, h21, _⟩ := o2.form (n := 4) rfl
    obtain ⟨g2, off2, rfl, t0⟩ := o2.strs.cell 0 _ rfl
    replace t0 : w2.cell? ⟨g2, off2, none⟩ = some (.string (bs p0)) := by simpa using t0
    obtain ⟨_, _, e2, t1⟩ := o2.strs.cell 1 _ rfl
    injection e2 with e2; injection e2 with e2 e2'; subst e2 e2'
    obtain ⟨_, _, e2, t2⟩ := o2.strs.cell 2 _ rfl
    injection e2 with e2; injection e2 with e2 e2'; subst e2 e2'
    obtain ⟨_, _, e2, t3⟩ := o2.strs.cell 3 _ rfl
    injection e2 with e2; injection e2 with e2 e2'; subst e2 e2'
    clear o2
    have HQ2 := Lib.hid ((b2.block w.heap.size HSZ.out).trans HQ.out)
    have HB2 := Lib.hid (HB1.out.next b2)
    have s0 : w2.cell? ⟨w.heap.size, 0, none⟩ = some (.int .i64 0) := by simp [World.cell?, HQ2.out]
    have s1 : w2.cell? ⟨w.heap.size, 1, none⟩ = some (.int .i64 0) := by simp [World.cell?, HQ2.out]
    have s2 : w2.cell? ⟨w.heap.size, 2, none⟩ = some (.slice none 0 0) := by simp [World.cell?, HQ2.out]
    have sf : ∀ j, w2.frozen? ⟨w.heap.size, j, none⟩ = false := fun j => by simp [World.frozen?, HQ2.out]
    clear b2
    go_wp2
    (try simp only [Exit.inBlock, Exit.then])
    refine bodyPost_ret (v := .tuple #[.agg #[.int .i64 0, .int .i64 0, .slice none 0 0], .int .i64 0, .int .i64 0, .bool false]) (by simp [results, Tryz.results47, go_sem, s0, s1, s2]) rfl ?_
    exact ⟨0, 0, 0, 0, false, rfl, (fun e => by cases e), fun _ => HNO.out, ((HB2.out.setCell (Nat.le_refl _) _).setCell (Nat.le_refl _) _).setCell (Nat.le_refl _) _⟩
  case pos =>
  subst b2
  have HW4 := Lib.hid (show splitB 32 h = [[64, 64], 45 :: f1, 43 :: f2, [64, 64]] by rw [HWL.out, g0, g3])
  clear g0 g3
  obtain ⟨i1', j1, r1, hD1, hY1, hN1⟩ := duo_form (countL f1)
  obtain ⟨i2', j2, r2, hD2, hY2, hN2⟩ := duo_form (countL f2)
  have HD1 := Lib.hid hD1
  have HD2 := Lib.hid hD2
  have HF1 := Lib.hid (bs_list f1)
  have HF2 := Lib.hid (bs_list f2)
  have HZ := Lib.hid (show f1.length ≤ 1048576 ∧ f2.length ≤ 1048576 by omega)
  have HYES := Lib.hid (show (r1 && r2) = true → ∃ a' o' t' c' : Nat, HeadIs h a' o' t' c' ∧ i1' = a' ∧ j1 = o' ∧ i2' = t' ∧ j2 = c' from fun e => by
    rw [Bool.and_eq_true] at e
    obtain ⟨a, o, e1, e2, e3⟩ := hY1 e.1
    obtain ⟨t, c, e4, e5, e6⟩ := hY2 e.2
    exact ⟨a, o, t, c, head_split HW4.out e1 e4, e2, e3, e5, e6⟩)
  have HNO := Lib.hid (show (r1 && r2) = false → ∀ a o t c, ¬ HeadIs h a o t c from fun e a o t c hh => by
    obtain ⟨f, s, _, e1, e2, _, e3, e4, _⟩ := HONLY.out a o t c hh
    injection e1 with _ e1
    injection e2 with _ e2
    subst e1 e2
    cases r1
    · have := hN1 rfl; rw [e3] at this; cases this
    · cases r2
      · have := hN2 rfl; rw [e4] at this; cases this
      · cases e)
  clear hD1 hD2 hY1 hY2 hN1 hN2 g1 g2
  go_enter Tryz.func47, Tryz.ntmps47
  go_wp2_with fail
  rw [← HW1.out]
  refine (HSP.out _).mono ?_
  rintro e w2 ⟨v2, rfl, o2, b2⟩
  obtain ⟨A2, k2, rfl, h21, _⟩ := o2.form (n := 4) rfl
  obtain ⟨g2, off2, rfl, t0⟩ := o2.strs.cell 0 _ rfl
  replace t0 : w2.cell? ⟨g2, off2, none⟩ = some (.string (bs p0)) := by simpa using t0
  obtain ⟨_, _, e2, t1⟩ := o2.strs.cell 1 _ rfl
  injection e2 with e2; injection e2 with e2 e2'; subst e2 e2'
  obtain ⟨_, _, e2, t2⟩ := o2.strs.cell 2 _ rfl
  injection e2 with e2; injection e2 with e2 e2'; subst e2 e2'
  obtain ⟨_, _, e2, t3⟩ := o2.strs.cell 3 _ rfl
  injection e2 with e2; injection e2 with e2 e2'; subst e2 e2'
  clear o2
  have HQ2 := Lib.hid ((b2.block w.heap.size HSZ.out).trans HQ.out)
  have HB2 := Lib.hid (HB1.out.next b2)
  have s0 : w2.cell? ⟨w.heap.size, 0, none⟩ = some (.int .i64 0) := by simp [World.cell?, HQ2.out]
  have s1 : w2.cell? ⟨w.heap.size, 1, none⟩ = some (.int .i64 0) := by simp [World.cell?, HQ2.out]
  have s2 : w2.cell? ⟨w.heap.size, 2, none⟩ = some (.slice none 0 0) := by simp [World.cell?, HQ2.out]
  have sf : ∀ j, w2.frozen? ⟨w.heap.size, j, none⟩ = false := fun j => by simp [World.frozen?, HQ2.out]
  go_wp2_with fail
  refine (sReadCount_any (bs f1) (by rw [bs_size]; exact HZ.out.1) _).mono ?_
  rintro e w5 ⟨rfl, b5⟩
  rw [HF1.out, HD1.out]
  have u1 := cell_keep b5 t1
  have u2 := cell_keep b5 t2
  have HQ5 := Lib.hid ((b5.block w.heap.size (Array.getElem?_eq_some_iff.1 HQ2.out).1).trans HQ2.out)
  have HB5 := Lib.hid (HB2.out.next b5)
  clear b5
  go_wp2_with fail
  refine (sReadCount_any (bs f2) (by rw [bs_size]; exact HZ.out.2) _).mono ?_
  rintro e w6 ⟨rfl, b6⟩
  rw [HF2.out, HD2.out]
  have HQ6 := Lib.hid ((b6.block w.heap.size (Array.getElem?_eq_some_iff.1 HQ5.out).1).trans HQ5.out)
  have HB6 := Lib.hid (HB5.out.next b6)
  have v0 : w6.cell? ⟨w.heap.size, 0, none⟩ = some (.int .i64 0) := by simp [World.cell?, HQ6.out]
  have v1 : w6.cell? ⟨w.heap.size, 1, none⟩ = some (.int .i64 0) := by simp [World.cell?, HQ6.out]
  have v2 : w6.cell? ⟨w.heap.size, 2, none⟩ = some (.slice none 0 0) := by simp [World.cell?, HQ6.out]
  have vf : ∀ j, w6.frozen? ⟨w.heap.size, j, none⟩ = false := fun j => by simp [World.frozen?, HQ6.out]
  clear b6
  cases r1
  · go_wp2
    (try simp only [Exit.inBlock, Exit.then])
    refine bodyPost_ret (v := .tuple #[.agg #[.int .i64 i1', .int .i64 i2', .slice none 0 0], .int .i64 j1, .int .i64 j2, .bool false]) (by simp [results, Tryz.results47, go_sem, v0, v1, v2]) rfl ?_
    exact ⟨i1', j1, i2', j2, false, rfl, (fun e => by cases e), fun _ => HNO.out rfl, ((HB6.out.setCell (Nat.le_refl _) _).setCell (Nat.le_refl _) _).setCell (Nat.le_refl _) _⟩
  · go_wp2
    (try simp only [Exit.inBlock, Exit.then])
    refine bodyPost_ret (v := .tuple #[.agg #[.int .i64 i1', .int .i64 i2', .slice none 0 0], .int .i64 j1, .int .i64 j2, .bool r2]) (by simp [results, Tryz.results47, go_sem, v0, v1, v2]) rfl ?_
    exact ⟨i1', j1, i2', j2, r2, rfl, (fun e => HYES.out (by rw [e]; rfl)), (fun e => HNO.out (by rw [e]; rfl)), ((HB6.out.setCell (Nat.le_refl _) _).setCell (Nat.le_refl _) _).setCell (Nat.le_refl _) _⟩

end Go.Proofs.YtkamenidgkjodaaGreatDoor
