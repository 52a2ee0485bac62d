/-
  Rows and what is told of them: the lines that are not of a kind, good rows, where lines can stand.
-/
import Derived.Test.YtkamenidgkjodaaGreatDoorQcGBase
import Derived.Test.YtkamenidgkjodaaGreatDoorQcGLaws
import Derived.Test.YtkamenidgkjodaaGreatDoorQcGood
import Derived.Test.YtkamenidgkjodaaGreatDoorQcStr
import Derived.ChangeKeysEq
set_option linter.unusedSimpArgs false
set_option linter.unusedVariables false
namespace Go.Proofs.YtkamenidgkjodaaGreatDoor
open Go.RowKit Go.ChangeShapes Go.WideShapes M

set_option maxHeartbeats 1000000 in
theorem linesWithout_any (k : Int) (a : Option Addr) (n c : Nat) (l : List Rw) (w : World) (hl : Rws w a n l) (hn : n ≤ 1048576) :
    Calls Tryz.prog 77 #[.int .i64 k, .slice a n c] w fun e w' => ∃ v, e = .returned v ∧ OwnV w' w.heap.size v (lw k l) ∧ Below w.heap.size w w' := by
  have HL := Lib.hid hl.len
  go_enter Tryz.func77, Tryz.ntmps77
  go_wp2
  go_loopw [5, 10] (fun lv i w' => ∃ (v : Value) (j : Nat), v = lv ∧ i = .int .i64 j ∧ j ≤ n ∧ OwnV w' w.heap.size v (lw k (l.take j)) ∧ Below w.heap.size w w') (fun _ i _ => n - (intOf i).toNat)
  case atStart => exact ⟨_, 0, rfl, rfl, by omega, OwnV.nil_, Below.refl _ _⟩
  case round =>
    obtain ⟨v, j, rfl, rfl, hj, ho, hb⟩ := hrel
    by_cases hlt : j < n
    · obtain ⟨b, off, x, rfl, hx, c0, c1, hok⟩ := (hl.below hb).at_ hlt
      have HX := Lib.hid hx
      have hlen : (lw k (l.take j)).length ≤ 1048576 := by have h5 := lw_len k (l.take j); rw [List.length_take] at h5; omega
      clear hx
      by_cases hk : x.kind = k
      · have q1 : (x.kind != k) = false := by simp [hk]
        have hs := Lib.hid (lw_step_out HX.out hk)
        clear hk
        go_wp2
        go_roundw
        case rel => exact ⟨v, j + 1, rfl, by go_num, by omega, by rw [hs.out]; exact ho.below (below_alloc _ _), hb.next (below_alloc _ _)⟩
        case measure => simp [intOf]; omega
      · have q1 : (x.kind != k) = true := by simp [hk]
        have hs := Lib.hid (lw_step_in HX.out hk)
        clear hk
        obtain ⟨W, HW⟩ : ∃ W, Hid (W = wr.alloc (.cells #[.int .i64 x.kind, .string x.line] 62)) := ⟨_, rfl⟩
        have HB := Lib.hid (show Below wr.heap.size wr W by rw [HW.out]; exact below_alloc _ _)
        have d1 : W.cell? ⟨wr.heap.size, 1, none⟩ = some (.string x.line) := by rw [HW.out]; simp
        have d0 : W.cell? ⟨wr.heap.size, 0, none⟩ = some (.int .i64 x.kind) := by rw [HW.out]; simp
        have hst := strs_one W x.line hok.line
        rw [show W.heap.size = wr.heap.size + 1 by rw [HW.out]; simp] at hst
        have hbW := hb.next HB.out
        have hzW := hbW.size
        have hoW := (ho.below HB.out).below (below_alloc W (.cells #[.string x.line] 9))
        have hbk : ∀ b, v.ownBlock = some b → w.heap.size ≤ b := fun b e => (ho.lt e).1
        go_wp2_with (at_builtin; (rw [← HW.out]; refine app_strs (.tmp 18) (.tmp 21) w.heap.size v (lw k (l.take j)) hoW _ 1 1 [x.line] hst (by omega) (by simp; omega) rfl rfl rfl rfl ?_; intro v3 w3 o3 g3 p3))
        go_roundw
        case rel => exact ⟨v3, j + 1, rfl, by go_num, by omega, by rw [hs.out]; exact o3, Below.grown (hbW.next (below_alloc _ _)) g3 (by simp; omega) (fun b e => hbk b e)⟩
        case measure => simp [intOf]; omega
    · have hf := Lib.hid (show lw k (l.take j) = lw k l by rw [List.take_of_length_le (by rw [HL.out]; omega)])
      go_wp2
      go_ret
      exact ⟨v, rfl, by rw [← hf.out]; exact ho, hb⟩

set_option maxHeartbeats 1000000 in
theorem l6Old_any (a : Option Addr) (n c : Nat) (x0 : Gp) (w : World) (hl0 : Rws w a n x0.rows) (hn : n ≤ 1048576) :
    Calls Tryz.prog 71 #[.agg #[.int .i64 x0.at_, .int .i64 x0.to_, .slice a n c]] w fun e w' => ∃ v, e = .returned v ∧ OwnV w' w.heap.size v (lw 3 x0.rows) ∧ Below w.heap.size w w' := by
  obtain ⟨l, HLL⟩ : ∃ l, Hid (x0.rows = l) := ⟨_, rfl⟩
  rw [HLL.out] at hl0 ⊢
  have HL := Lib.hid hl0.len
  obtain ⟨W0, HW0⟩ : ∃ W0, Hid (W0 = w.alloc (.cells #[.int .i64 x0.at_, .int .i64 x0.to_, .slice a n c] 60)) := ⟨_, rfl⟩
  have HB0 := Lib.hid (show Below w.heap.size w W0 by rw [HW0.out]; exact below_alloc _ _)
  go_enter Tryz.func71, Tryz.ntmps71
  go_wp2
  rw [← HW0.out]
  go_loopw [3, 9] (fun lv i w' => ∃ (v : Value) (j : Nat), v = lv ∧ i = .int .i64 j ∧ j ≤ n ∧ OwnV w' w.heap.size v (lw 3 (l.take j)) ∧ Below w.heap.size w w') (fun _ i _ => n - (intOf i).toNat)
  case atStart => exact ⟨_, 0, rfl, rfl, by omega, OwnV.nil_, HB0.out⟩
  case round =>
    obtain ⟨v, j, rfl, rfl, hj, ho, hb⟩ := hrel
    by_cases hlt : j < n
    · obtain ⟨b, off, x, rfl, hx, c0, c1, hok⟩ := (hl0.below hb).at_ hlt
      have HX := Lib.hid hx
      have hlen : (lw 3 (l.take j)).length ≤ 1048576 := by have h5 := lw_len 3 (l.take j); rw [List.length_take] at h5; omega
      clear hx
      by_cases hk : x.kind = 3
      · have q1 : (x.kind != 3) = false := by simp [hk]
        have hs := Lib.hid (lw_step_out HX.out hk)
        clear hk
        go_wp2
        go_roundw
        case rel => exact ⟨v, j + 1, rfl, by go_num, by omega, by rw [hs.out]; exact ho.below (below_alloc _ _), hb.next (below_alloc _ _)⟩
        case measure => simp [intOf]; omega
      · have q1 : (x.kind != 3) = true := by simp [hk]
        have hs := Lib.hid (lw_step_in HX.out hk)
        clear hk
        obtain ⟨W, HW⟩ : ∃ W, Hid (W = wr.alloc (.cells #[.int .i64 x.kind, .string x.line] 62)) := ⟨_, rfl⟩
        have HB := Lib.hid (show Below wr.heap.size wr W by rw [HW.out]; exact below_alloc _ _)
        have d1 : W.cell? ⟨wr.heap.size, 1, none⟩ = some (.string x.line) := by rw [HW.out]; simp
        have d0 : W.cell? ⟨wr.heap.size, 0, none⟩ = some (.int .i64 x.kind) := by rw [HW.out]; simp
        have hst := strs_one W x.line hok.line
        rw [show W.heap.size = wr.heap.size + 1 by rw [HW.out]; simp] at hst
        have hbW := hb.next HB.out
        have hzW := hbW.size
        have hoW := (ho.below HB.out).below (below_alloc W (.cells #[.string x.line] 9))
        have hbk : ∀ b, v.ownBlock = some b → w.heap.size ≤ b := fun b e => (ho.lt e).1
        go_wp2_with (at_builtin; (rw [← HW.out]; refine app_strs (.tmp 16) (.tmp 19) w.heap.size v (lw 3 (l.take j)) hoW _ 1 1 [x.line] hst (by omega) (by simp; omega) rfl rfl rfl rfl ?_; intro v3 w3 o3 g3 p3))
        go_roundw
        case rel => exact ⟨v3, j + 1, rfl, by go_num, by omega, by rw [hs.out]; exact o3, Below.grown (hbW.next (below_alloc _ _)) g3 (by simp; omega) (fun b e => hbk b e)⟩
        case measure => simp [intOf]; omega
    · have hf := Lib.hid (show lw 3 (l.take j) = lw 3 l by rw [List.take_of_length_le (by rw [HL.out]; omega)])
      go_wp2
      go_ret
      exact ⟨v, rfl, by rw [← hf.out]; exact ho, hb⟩

set_option maxHeartbeats 1000000 in
theorem l6New_any (a : Option Addr) (n c : Nat) (x0 : Gp) (w : World) (hl0 : Rws w a n x0.rows) (hn : n ≤ 1048576) :
    Calls Tryz.prog 72 #[.agg #[.int .i64 x0.at_, .int .i64 x0.to_, .slice a n c]] w fun e w' => ∃ v, e = .returned v ∧ OwnV w' w.heap.size v (lw 2 x0.rows) ∧ Below w.heap.size w w' := by
  obtain ⟨l, HLL⟩ : ∃ l, Hid (x0.rows = l) := ⟨_, rfl⟩
  rw [HLL.out] at hl0 ⊢
  have HL := Lib.hid hl0.len
  obtain ⟨W0, HW0⟩ : ∃ W0, Hid (W0 = w.alloc (.cells #[.int .i64 x0.at_, .int .i64 x0.to_, .slice a n c] 60)) := ⟨_, rfl⟩
  have HB0 := Lib.hid (show Below w.heap.size w W0 by rw [HW0.out]; exact below_alloc _ _)
  go_enter Tryz.func72, Tryz.ntmps72
  go_wp2
  rw [← HW0.out]
  go_loopw [3, 9] (fun lv i w' => ∃ (v : Value) (j : Nat), v = lv ∧ i = .int .i64 j ∧ j ≤ n ∧ OwnV w' w.heap.size v (lw 2 (l.take j)) ∧ Below w.heap.size w w') (fun _ i _ => n - (intOf i).toNat)
  case atStart => exact ⟨_, 0, rfl, rfl, by omega, OwnV.nil_, HB0.out⟩
  case round =>
    obtain ⟨v, j, rfl, rfl, hj, ho, hb⟩ := hrel
    by_cases hlt : j < n
    · obtain ⟨b, off, x, rfl, hx, c0, c1, hok⟩ := (hl0.below hb).at_ hlt
      have HX := Lib.hid hx
      have hlen : (lw 2 (l.take j)).length ≤ 1048576 := by have h5 := lw_len 2 (l.take j); rw [List.length_take] at h5; omega
      clear hx
      by_cases hk : x.kind = 2
      · have q1 : (x.kind != 2) = false := by simp [hk]
        have hs := Lib.hid (lw_step_out HX.out hk)
        clear hk
        go_wp2
        go_roundw
        case rel => exact ⟨v, j + 1, rfl, by go_num, by omega, by rw [hs.out]; exact ho.below (below_alloc _ _), hb.next (below_alloc _ _)⟩
        case measure => simp [intOf]; omega
      · have q1 : (x.kind != 2) = true := by simp [hk]
        have hs := Lib.hid (lw_step_in HX.out hk)
        clear hk
        obtain ⟨W, HW⟩ : ∃ W, Hid (W = wr.alloc (.cells #[.int .i64 x.kind, .string x.line] 62)) := ⟨_, rfl⟩
        have HB := Lib.hid (show Below wr.heap.size wr W by rw [HW.out]; exact below_alloc _ _)
        have d1 : W.cell? ⟨wr.heap.size, 1, none⟩ = some (.string x.line) := by rw [HW.out]; simp
        have d0 : W.cell? ⟨wr.heap.size, 0, none⟩ = some (.int .i64 x.kind) := by rw [HW.out]; simp
        have hst := strs_one W x.line hok.line
        rw [show W.heap.size = wr.heap.size + 1 by rw [HW.out]; simp] at hst
        have hbW := hb.next HB.out
        have hzW := hbW.size
        have hoW := (ho.below HB.out).below (below_alloc W (.cells #[.string x.line] 9))
        have hbk : ∀ b, v.ownBlock = some b → w.heap.size ≤ b := fun b e => (ho.lt e).1
        go_wp2_with (at_builtin; (rw [← HW.out]; refine app_strs (.tmp 16) (.tmp 19) w.heap.size v (lw 2 (l.take j)) hoW _ 1 1 [x.line] hst (by omega) (by simp; omega) rfl rfl rfl rfl ?_; intro v3 w3 o3 g3 p3))
        go_roundw
        case rel => exact ⟨v3, j + 1, rfl, by go_num, by omega, by rw [hs.out]; exact o3, Below.grown (hbW.next (below_alloc _ _)) g3 (by simp; omega) (fun b e => hbk b e)⟩
        case measure => simp [intOf]; omega
    · have hf := Lib.hid (show lw 2 (l.take j) = lw 2 l by rw [List.take_of_length_le (by rw [HL.out]; omega)])
      go_wp2
      go_ret
      exact ⟨v, rfl, by rw [← hf.out]; exact ho, hb⟩

theorem oldIn_any (b off : Nat) (a : Option Addr) (n c : Nat) (l : List Rw) (w : World) (hc : w.cell? ⟨b, off + 2, none⟩ = some (.slice a n c)) (hl : Rws w a n l) (hn : n ≤ 1048576) :
    Calls Tryz.prog 38 #[.pointer (some ⟨b, off, none⟩)] w fun e w' => ∃ v, e = .returned v ∧ OwnV w' w.heap.size v (lw 3 l) ∧ Below w.heap.size w w' := by
  go_enter Tryz.func38, Tryz.ntmps38
  go_wp2_with fail
  refine (linesWithout_any 3 a n c l _ hl hn).mono ?_
  rintro e w1 ⟨v, rfl, o1, b1⟩
  go_wp2
  go_ret
  exact ⟨v, rfl, o1, b1⟩
theorem newIn_any (b off : Nat) (a : Option Addr) (n c : Nat) (l : List Rw) (w : World) (hc : w.cell? ⟨b, off + 2, none⟩ = some (.slice a n c)) (hl : Rws w a n l) (hn : n ≤ 1048576) :
    Calls Tryz.prog 39 #[.pointer (some ⟨b, off, none⟩)] w fun e w' => ∃ v, e = .returned v ∧ OwnV w' w.heap.size v (lw 2 l) ∧ Below w.heap.size w w' := by
  go_enter Tryz.func39, Tryz.ntmps39
  go_wp2_with fail
  refine (linesWithout_any 2 a n c l _ hl hn).mono ?_
  rintro e w1 ⟨v, rfl, o1, b1⟩
  go_wp2
  go_ret
  exact ⟨v, rfl, o1, b1⟩

theorem changes_any (x : Rw) (w : World) :
    Calls Tryz.prog 121 #[.agg #[.int .i64 x.kind, .string x.line]] w fun e w' => e = .returned (.bool (decide (x.kind ≠ 1))) ∧ Below w.heap.size w w' := by
  by_cases h : x.kind = 1
  · have q : (x.kind != 1) = false := by simp [h]
    have hf := Lib.hid (show decide (x.kind ≠ 1) = false by simp [h])
    clear h
    go_enter Tryz.func121, Tryz.ntmps121
    go_wp2
    go_ret
    exact ⟨ret_bool hf.out.symm, below_alloc _ _⟩
  · have q : (x.kind != 1) = true := by simp [h]
    have hf := Lib.hid (show decide (x.kind ≠ 1) = true by simp [h])
    clear h
    go_enter Tryz.func121, Tryz.ntmps121
    go_wp2
    go_ret
    exact ⟨ret_bool hf.out.symm, below_alloc _ _⟩

end Go.Proofs.YtkamenidgkjodaaGreatDoor

namespace Go.Proofs.YtkamenidgkjodaaGreatDoor.M
/-- How many rows that stay stand ahead of the first one that does not. -/
def aheadR : List Rw → Nat
  | [] => 0
  | x :: l => if x.kind = 1 then aheadR l + 1 else 0
theorem aheadR_le : ∀ l : List Rw, aheadR l ≤ l.length
  | [] => by simp [aheadR]
  | x :: l => by have := aheadR_le l; simp only [aheadR]; split <;> simp <;> omega
theorem someB_iff : ∀ l : List Rw, someB l = decide (aheadR l < l.length)
  | [] => by simp [someB, aheadR]
  | x :: l => by
    have h := someB_iff l
    have h2 := aheadR_le l
    unfold someB at h ⊢
    rw [List.any_cons, h]
    by_cases hx : x.kind = 1
    · simp [aheadR, hx]
    · simp [aheadR, hx]
theorem aheadR_all {l : List Rw} {k : Nat} (h : ∀ (j : Nat) x, j < k → l[j]? = some x → x.kind = 1) (hk : k ≤ l.length) : k ≤ aheadR l := by
  induction l generalizing k with
  | nil => simp at hk; omega
  | cons y l ih =>
    cases k with
    | zero => omega
    | succ k =>
      have h1 := h 0 y (by omega) rfl
      have h2 := ih (k := k) (fun j x hj hx => h (j + 1) x (by omega) (by simpa using hx)) (by simpa using hk)
      simp only [aheadR, h1, if_true]; omega
theorem aheadR_at {l : List Rw} {k : Nat} {x : Rw} (h : ∀ (j : Nat) x, j < k → l[j]? = some x → x.kind = 1) (hx : l[k]? = some x) (hne : x.kind ≠ 1) : aheadR l = k := by
  induction l generalizing k with
  | nil => simp at hx
  | cons y l ih =>
    cases k with
    | zero =>
      simp at hx
      subst hx
      simp [aheadR, hne]
    | succ k =>
      have h1 := h 0 y (by omega) rfl
      have h2 := ih (k := k) (fun j x hj hx => h (j + 1) x (by omega) (by simpa using hx)) (by simpa using hx)
      simp only [aheadR, h1, if_true, h2]
def idxR (l : List Rw) : Int := if aheadR l < l.length then (aheadR l : Int) else -1
theorem keep_step {l : List Rw} {k : Nat} {x : Rw} (H : ∀ (j : Nat) x, j < k → l[j]? = some x → x.kind = 1) (hx : l[k]? = some x) (h : x.kind = 1) : ∀ (j : Nat) x, j < k + 1 → l[j]? = some x → x.kind = 1 := by
  intro j y hj hy
  by_cases e : j = k
  · subst e; rw [hx] at hy; injection hy with hy; rw [← hy]; exact h
  · exact H j y (by omega) hy
end Go.Proofs.YtkamenidgkjodaaGreatDoor.M

namespace Go.Proofs.YtkamenidgkjodaaGreatDoor
open Go.RowKit Go.ChangeShapes Go.WideShapes M

set_option maxHeartbeats 1000000 in
theorem indexFunc_any (a : Option Addr) (n c : Nat) (l : List Rw) (w : World) (hl : Rws w a n l) :
    Calls Tryz.prog 149 #[.slice a n c, .func (.func 121) #[] #[]] w fun e w' => e = .returned (.int .i64 (idxR l)) ∧ Below w.heap.size w w' := by
  have HL := Lib.hid hl.len
  have hlim := hl.lim
  unfold maxLen at hlim
  go_enter Tryz.func149, Tryz.ntmps149
  go_wp2
  go_loopw [8] (fun i w' => ∃ k : Nat, i = .int .i64 k ∧ k ≤ n ∧ Hid (∀ (j : Nat) x, j < k → l[j]? = some x → x.kind = 1) ∧ Below w.heap.size w w') (fun i _ => n - (intOf i).toNat)
  case atStart => exact ⟨0, rfl, by omega, fun j x h => by omega, Below.refl _ _⟩
  case round =>
    obtain ⟨k, rfl, hk, H, hb⟩ := hrel
    by_cases hlt : k < n
    · obtain ⟨b, off, x, rfl, hx, c0, c1, hok⟩ := (hl.below hb).at_ hlt
      have HX := Lib.hid hx
      clear hx
      by_cases hq : x.kind = 1
      · have hd := Lib.hid (show decide (x.kind ≠ 1) = false by simp [hq])
        have HQ := Lib.hid hq
        clear hq
        go_wp2_with fail
        refine (changes_any x _).mono ?_
        rintro e w1 ⟨rfl, b1⟩
        rw [hd.out]
        go_wp2
        go_roundw
        case rel => exact ⟨k + 1, by go_num, by omega, keep_step H.out HX.out HQ.out, hb.next b1⟩
        case measure => simp [intOf]; omega
      · have hd := Lib.hid (show decide (x.kind ≠ 1) = true by simp [hq])
        have hf := Lib.hid (show idxR l = (k : Int) by unfold idxR; rw [aheadR_at H.out HX.out hq, if_pos (by rw [HL.out]; exact hlt)])
        clear hq
        go_wp2_with fail
        refine (changes_any x _).mono ?_
        rintro e w1 ⟨rfl, b1⟩
        rw [hd.out]
        go_wp2
        go_ret
        exact ⟨ret_int hf.out.symm, hb.next b1⟩
    · have hf := Lib.hid (show idxR l = -1 from if_neg (by have := aheadR_all H.out (by rw [HL.out]; exact hk); have := HL.out; omega))
      go_wp2
      go_ret
      exact ⟨ret_int hf.out.symm, hb⟩
theorem containsFunc_any (a : Option Addr) (n c : Nat) (l : List Rw) (w : World) (hl : Rws w a n l) :
    Calls Tryz.prog 120 #[.slice a n c, .func (.func 121) #[] #[]] w fun e w' => e = .returned (.bool (someB l)) ∧ Below w.heap.size w w' := by
  rw [someB_iff]
  by_cases h : aheadR l < l.length
  · have hf := Lib.hid (show idxR l = (aheadR l : Int) from if_pos h)
    have hd := Lib.hid (decide_eq_true h)
    clear h
    go_enter Tryz.func120, Tryz.ntmps120
    go_wp2_with fail
    refine (indexFunc_any a n c l _ hl).mono ?_
    rintro e w1 ⟨rfl, b1⟩
    rw [hf.out]
    go_wp2
    go_ret
    exact ⟨ret_bool (by rw [hd.out]), b1⟩
  · have hf := Lib.hid (show idxR l = -1 from if_neg h)
    have hd := Lib.hid (decide_eq_false h)
    clear h
    go_enter Tryz.func120, Tryz.ntmps120
    go_wp2_with fail
    refine (indexFunc_any a n c l _ hl).mono ?_
    rintro e w1 ⟨rfl, b1⟩
    rw [hf.out]
    go_wp2
    go_ret
    exact ⟨ret_bool (by rw [hd.out]), b1⟩

/-- Two kinds side by side are compared. -/
theorem eqNb (a b : Int) (w : World) : (Op.equalIn 10000 147 (.agg #[.int .i64 a, .int .i64 b]) (.agg #[.int .i64 3, .int .i64 2])).run Tryz.prog w = .ok ((a == 3) && (b == 2)) w := by
  obtain ⟨i, hi⟩ : ∃ i, Tryz.prog.info? 3 = some i := by
    have h : (Tryz.prog.info? 3).isSome = true := by kernel_rfl
    exact Option.isSome_iff_exists.1 h
  have hc : Tryz.prog.cellsOf 3 = 1 := by kernel_rfl
  rw [run_equalIn_array w 9999 _ _ Tryz.underlying147 hi, hc]
  simp only [show List.range 2 = [0, 1] from rfl, Op.eqItems, Sem.run_bind]
  simp [go_sem, part]
  by_cases h1 : a = 3 <;> by_cases h2 : b = 2 <;> simp [h1, h2]

set_option maxHeartbeats 1000000 in
set_option maxRecDepth 100000 in
theorem areRows_any (a : Option Addr) (n c : Nat) (l : List Rw) (w : World) (hl : Rws w a n l) :
    Calls Tryz.prog 75 #[.slice a n c] w fun e w' => e = .returned (.bool (rowsB l)) ∧ Below w.heap.size w w' := by
  have HL := Lib.hid hl.len
  have hlim := hl.lim
  unfold maxLen at hlim
  by_cases hn : n ≤ 80
  case neg =>
    have hd : decide ((80 : Int) < (n : Int)) = true := by simp; omega
    have hf := Lib.hid (show rowsB l = false by unfold rowsB; rw [HL.out, decide_eq_false hn]; rfl)
    clear hn
    go_enter Tryz.func75, Tryz.ntmps75
    go_wp2
    go_ret
    exact ⟨ret_bool hf.out.symm, Below.refl _ _⟩
  have hd : decide ((80 : Int) < (n : Int)) = false := by simp; omega
  cases hs : someB l
  · have hf := Lib.hid (show rowsB l = false by unfold rowsB; rw [hs]; simp)
    have HS := Lib.hid hs
    clear hs
    go_enter Tryz.func75, Tryz.ntmps75
    go_wp2_with fail
    refine (containsFunc_any a n c l _ hl).mono ?_
    rintro e w1 ⟨rfl, b1⟩
    rw [HS.out]
    go_wp2
    go_ret
    exact ⟨ret_bool hf.out.symm, b1⟩
  · have hf := Lib.hid (show rowsB l = kindsB 1 l by unfold rowsB; rw [hs, HL.out, decide_eq_true hn]; simp)
    have HS := Lib.hid hs
    clear hs
    go_enter Tryz.func75, Tryz.ntmps75
    go_wp2_with fail
    refine (containsFunc_any a n c l _ hl).mono ?_
    rintro e w1 ⟨rfl, b1⟩
    rw [HS.out]
    go_wp2
    go_loopw [3, 16] (fun q i w' => ∃ k : Nat, ∃ ah : Int, i = .int .i64 k ∧ q = .int .i64 ah ∧ k ≤ n ∧ Hid (kindsB ah (l.drop k) = kindsB 1 l) ∧ Below w.heap.size w w') (fun _ i _ => n - (intOf i).toNat)
    case atStart => exact ⟨0, 1, rfl, rfl, by omega, rfl, b1⟩
    case round =>
      obtain ⟨k, ah, rfl, rfl, hk, H, hb⟩ := hrel
      by_cases hlt : k < n
      · obtain ⟨b, off, x, rfl, hx, c0, c1, hok⟩ := (hl.below hb).at_ hlt
        have HS := Lib.hid (show kindsB ah (l.drop k) = ((decide (1 ≤ x.kind) && decide (x.kind ≤ 3)) && !(decide (ah = 3) && decide (x.kind = 2)) && kindsB x.kind (l.drop (k + 1))) by rw [drop_at hx]; rfl)
        clear hx
        by_cases h1 : 1 ≤ x.kind
        case neg =>
          have q1 : decide (x.kind < 1) = true := by simp; omega
          have hf2 := Lib.hid (show rowsB l = false by rw [hf.out, ← H.out, HS.out, decide_eq_false h1]; rfl)
          clear h1
          go_wp2
          go_ret
          exact ⟨ret_bool hf2.out.symm, hb.next (below_alloc _ _)⟩
        have q1 : decide (x.kind < 1) = false := by simp; omega
        by_cases h2 : x.kind ≤ 3
        case neg =>
          have q2 : decide (3 < x.kind) = true := by simp; omega
          have hf2 := Lib.hid (show rowsB l = false by rw [hf.out, ← H.out, HS.out, decide_eq_false h2]; simp)
          clear h1 h2
          go_wp2
          go_ret
          exact ⟨ret_bool hf2.out.symm, hb.next (below_alloc _ _)⟩
        have q2 : decide (3 < x.kind) = false := by simp; omega
        by_cases h3 : ah = 3 ∧ x.kind = 2
        · obtain ⟨rfl, h3⟩ := h3
          have hf2 := Lib.hid (show rowsB l = false by rw [hf.out, ← H.out, HS.out, h3]; simp)
          have hnb : ∀ w, (Op.equalIn 10000 147 (.agg #[.int .i64 3, .int .i64 x.kind]) (.agg #[.int .i64 3, .int .i64 2])).run Tryz.prog w = .ok true w := fun w => by rw [eqNb, h3]; rfl
          clear h1 h2 h3
          go_wp2
          go_ret
          exact ⟨ret_bool hf2.out.symm, hb.next (below_alloc _ _)⟩
        · have hS2 := Lib.hid (show kindsB x.kind (l.drop (k + 1)) = kindsB 1 l by
            rw [← H.out, HS.out, decide_eq_true h1, decide_eq_true h2]
            rcases Decidable.not_and_iff_or_not.1 h3 with e | e <;> simp [e])
          have q3 : ((ah == 3) && (x.kind == 2)) = false := by
            rcases Decidable.not_and_iff_or_not.1 h3 with e | e <;> simp [e]
          have hnb : ∀ w, (Op.equalIn 10000 147 (.agg #[.int .i64 ah, .int .i64 x.kind]) (.agg #[.int .i64 3, .int .i64 2])).run Tryz.prog w = .ok false w := fun w => by rw [eqNb, q3]
          clear h1 h2 h3 q3
          go_wp2
          go_roundw
          case rel => exact ⟨k + 1, x.kind, by go_num, rfl, by omega, hS2.out, hb.next (below_alloc _ _)⟩
          case measure => simp [intOf]; omega
      · have hf2 := Lib.hid (show rowsB l = true by rw [hf.out, ← H.out, List.drop_eq_nil_of_le (by rw [HL.out]; omega)]; rfl)
        go_wp2
        go_ret
        exact ⟨ret_bool hf2.out.symm, hb⟩

theorem isRangeG_any (a b : Int) (w : World) :
    Calls Tryz.prog 114 #[.int .i64 a, .int .i64 b] w fun e w' => e = .returned (.bool ((decide (0 ≤ a) && decide (a ≤ 999)) && (decide (0 ≤ b) && decide (b ≤ 999)))) ∧ w = w' := by
  go_enter Tryz.func114, Tryz.ntmps114
  by_cases h1 : 0 ≤ a
  case neg =>
    have q1 : decide (0 ≤ a) = false := decide_eq_false h1
    have H := Lib.hid (show ((decide (0 ≤ a) && decide (a ≤ 999)) && (decide (0 ≤ b) && decide (b ≤ 999))) = false by rw [q1]; rfl)
    rw [H.out]
    clear h1
    go_wp2
    go_ret
    exact ⟨rfl, rfl⟩
  have q1 : decide (0 ≤ a) = true := decide_eq_true h1
  by_cases h2 : a ≤ 999
  case neg =>
    have q2 : decide (a ≤ 999) = false := decide_eq_false h2
    have H := Lib.hid (show ((decide (0 ≤ a) && decide (a ≤ 999)) && (decide (0 ≤ b) && decide (b ≤ 999))) = false by rw [q1, q2]; rfl)
    rw [H.out]
    clear h1 h2
    go_wp2
    go_ret
    exact ⟨rfl, rfl⟩
  have q2 : decide (a ≤ 999) = true := decide_eq_true h2
  by_cases h3 : 0 ≤ b
  case neg =>
    have q3 : decide (0 ≤ b) = false := decide_eq_false h3
    have H := Lib.hid (show ((decide (0 ≤ a) && decide (a ≤ 999)) && (decide (0 ≤ b) && decide (b ≤ 999))) = false by rw [q1, q2, q3]; rfl)
    rw [H.out]
    clear h1 h2 h3
    go_wp2
    go_ret
    exact ⟨rfl, rfl⟩
  have q3 : decide (0 ≤ b) = true := decide_eq_true h3
  obtain ⟨q, q4⟩ : ∃ q, decide (b ≤ 999) = q := ⟨_, rfl⟩
  have H := Lib.hid (show ((decide (0 ≤ a) && decide (a ≤ 999)) && (decide (0 ≤ b) && decide (b ≤ 999))) = q by rw [q1, q2, q3, q4]; rfl)
  rw [H.out]
  clear h1 h2 h3
  go_wp2
  go_ret
  exact ⟨rfl, rfl⟩

set_option maxHeartbeats 400000 in
theorem canStandAt_any (p : Int) (a : Option Addr) (n c : Nat) (l : List ByteArray) (w : World) (hp : i64ok p) (hl : Strs w a n l) :
    Calls Tryz.prog 76 #[.int .i64 p, .slice a n c] w fun e w' => e = .returned (.bool (standB p l)) ∧ Below w.heap.size w w' := by
  have HL := Lib.hid hl.len
  cases hg : goodB l
  · have hf := Lib.hid (show standB p l = false by unfold standB; rw [hg]; rfl)
    have HG := Lib.hid hg
    clear hg
    go_enter Tryz.func76, Tryz.ntmps76
    go_wp2_with fail
    refine (implGoodLines_any a n c l _ hl).mono ?_
    rintro e w1 ⟨rfl, b1⟩
    rw [HG.out]
    go_wp2
    go_ret
    exact ⟨ret_bool hf.out.symm, b1⟩
  · have HG := Lib.hid hg
    have hn : n ≤ 40 := by rw [← HL.out]; exact goodB_len hg
    have hq : ((decide (0 ≤ p) && decide (p ≤ 999)) && (decide ((0 : Int) ≤ (n : Int)) && decide ((n : Int) ≤ 999))) = (decide (0 ≤ p) && decide (p ≤ 999)) := by
      rw [decide_eq_true (show (0 : Int) ≤ (n : Int) by omega), decide_eq_true (show (n : Int) ≤ 999 by omega)]; simp
    have HQ := Lib.hid hq
    clear hg hq
    cases hr : (decide (0 ≤ p) && decide (p ≤ 999))
    · have hf := Lib.hid (show standB p l = false by unfold standB; rw [hr]; simp)
      have HR := Lib.hid hr
      clear hr
      go_enter Tryz.func76, Tryz.ntmps76
      go_wp2_with fail
      refine (implGoodLines_any a n c l _ hl).mono ?_
      rintro e w1 ⟨rfl, b1⟩
      rw [HG.out]
      go_wp2_with fail
      refine (isRangeG_any p n _).mono ?_
      rintro e w2 ⟨rfl, rfl⟩
      rw [HQ.out, HR.out]
      go_wp2
      go_ret
      exact ⟨ret_bool hf.out.symm, b1⟩
    · obtain ⟨q, HD⟩ : ∃ q, Hid (decide (p + (n : Int) ≤ 1000) = q) := ⟨_, rfl⟩
      have hf := Lib.hid (show standB p l = q by unfold standB; rw [hr, HG.out, HL.out, HD.out]; rfl)
      have HR := Lib.hid hr
      have hp0 : 0 ≤ p ∧ p ≤ 999 := by simpa using hr
      obtain ⟨hp0, hp1⟩ := hp0
      have hd : decide (p + (n : Int) ≤ 1000) = q := HD.out
      clear hr
      go_enter Tryz.func76, Tryz.ntmps76
      go_wp2_with fail
      refine (implGoodLines_any a n c l _ hl).mono ?_
      rintro e w1 ⟨rfl, b1⟩
      rw [HG.out]
      go_wp2_with fail
      refine (isRangeG_any p n _).mono ?_
      rintro e w2 ⟨rfl, rfl⟩
      rw [HQ.out, HR.out]
      go_wp2
      go_ret
      exact ⟨ret_bool hf.out.symm, b1⟩

end Go.Proofs.YtkamenidgkjodaaGreatDoor
