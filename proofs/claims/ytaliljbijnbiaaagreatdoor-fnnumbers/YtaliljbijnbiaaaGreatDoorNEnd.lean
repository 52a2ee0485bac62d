/-
  The program's ReadEnd, and its exact law.
-/
import Derived.Test.YtaliljbijnbiaaaGreatDoorNTwo
import Derived.Test.YtaliljbijnbiaaaGreatDoorNSpecC
import Derived.Test.YtaliljbijnbiaaaGreatDoorNAsC
set_option linter.unusedSimpArgs false
set_option linter.unusedVariables false
namespace Go.Proofs.YtaliljbijnbiaaaGreatDoor
open Go.RowKit M

structure VarsE (w : World) : Prop where
  vars : Vars w
  et : ErrT w
theorem VarsE.below {w w' : World} (h : VarsE w) (hb : Below w.heap.size w w') : VarsE w' := ⟨h.vars.below hb, h.et.below hb⟩

theorem isByOne_any (n m : Nat) (hn : n ≤ 1000) (hm : m ≤ 1000) (w : World) :
    Calls Tryz.prog 38 #[.agg #[.int .i64 (n : Int), .int .i64 (m : Int)]] w fun e w' => e = .returned (.bool (decide (n = m + 1))) ∧ Below w.heap.size w w' := by
  go_enter Tryz.func38, Tryz.ntmps38
  go_wp2
  go_ret
  refine ⟨ret_bool ?_, below_alloc _ _⟩
  rw [Bool.eq_iff_iff]
  simp
  omega

theorem endL_ok {l : List UInt8} {n m : Nat} (h : twoL l = some (n, m)) (h1 : max n m ≤ 1000) (h2 : n ≤ m + 1) : endL l = some (n, m) := by
  unfold endL; rw [h]; simp [Option.filter]; omega
theorem endL_far {l : List UInt8} {n m : Nat} (h : twoL l = some (n, m)) (h2 : m + 1 < n) : endL l = none := by
  unfold endL; rw [h]; simp [Option.filter]; omega
theorem endL_bad {l : List UInt8} (h : ∀ n m, twoL l = some (n, m) → 1000 < max n m) : endL l = none := by
  unfold endL
  cases e : twoL l with
  | none => rfl
  | some x => have := h x.1 x.2 e; simp [Option.filter]; omega

theorem zero2 (w : World) : (w.alloc (.cells #[.int .i64 0, .int .i64 0] 50)).heap[w.heap.size]? = some (.cells #[.int .i64 0, .int .i64 0] 50 (0, 0)) := heap_alloc_new w _

set_option maxHeartbeats 1600000 in
theorem ReadEnd_any (s : ByteArray) (hs : s.size ≤ 2097152) (w : World) (hv : VarsE w) :
    Calls Tryz.prog 19 #[.string s] w fun e w' => e = .returned (duo (endL s.data.toList)) ∧ Below w.heap.size w w' := by
  have HV := Lib.hid hv
  rcases readPair_any s hs w hv.vars with ⟨n, m, h, h1, h2, hc⟩ | ⟨n, m, h, h1, h2, hc⟩ | ⟨h, hc⟩
  · have H := Lib.hid (endL_ok h h1 (by omega))
    have HC := Lib.hid hc
    clear h h1 h2 hc hv
    go_enter Tryz.func19, Tryz.ntmps19
    go_wp2_with (first
      | (go_at_call 33; refine HC.out.mono ?_; rintro e w1 ⟨rfl, b1⟩)
      | (go_at_call 37; refine (as_nil _ _).mono ?_; rintro e w' ⟨rfl, rfl⟩))
    go_quiet (fail)
    go_wp2
    go_ret3
    exact ⟨by rw [H.out]; rfl, below_drewN (b1.next (below_alloc _ _)) _⟩
  · have hn : n ≤ 1000 := by omega
    have hm : m ≤ 1000 := by omega
    have HC := Lib.hid hc
    by_cases hone : n = m + 1
    · have H := Lib.hid (endL_ok h h1 (by omega))
      have HD := Lib.hid (show decide (n = m + 1) = true by simp [hone])
      clear h h1 h2 hc hv hone
      go_enter Tryz.func19, Tryz.ntmps19
      go_wp2_with (first
        | (go_at_call 33; refine HC.out.mono ?_; rintro e w1 ⟨rfl, b1⟩)
        | (go_at_call 37; refine (as_hit _ _ w1.heap.size _ _ _ (HV.out.et.below (b1.next (below_alloc _ _))) (zero2 w1)).mono ?_; rintro e w2 ⟨rfl, k2, p2⟩; have c20 := cell_of k2 0; have c21 := cell_of k2 1; simp at c20 c21; have b2 := p2 w.heap.size w b1.size (by have := b1.size; simp; omega) (b1.next (below_alloc _ _)))
        | (go_at_call 38; refine (isByOne_any n m hn hm _).mono ?_; rintro e w3 ⟨rfl, b3⟩; rw [HD.out]; have c30 := cell_keep b3 c20; have c31 := cell_keep b3 c21))
      go_quiet (fail)
      go_wp2
      go_ret3
      exact ⟨by rw [H.out]; rfl, below_drewN (b2.next b3) _⟩
    · have H := Lib.hid (endL_far h (by omega))
      have HD := Lib.hid (show decide (n = m + 1) = false by simp [hone])
      clear h h1 h2 hc hv hone
      go_enter Tryz.func19, Tryz.ntmps19
      go_wp2_with (first
        | (go_at_call 33; refine HC.out.mono ?_; rintro e w1 ⟨rfl, b1⟩)
        | (go_at_call 37; refine (as_hit _ _ w1.heap.size _ _ _ (HV.out.et.below (b1.next (below_alloc _ _))) (zero2 w1)).mono ?_; rintro e w2 ⟨rfl, k2, p2⟩; have c20 := cell_of k2 0; have c21 := cell_of k2 1; simp at c20 c21; have b2 := p2 w.heap.size w b1.size (by have := b1.size; simp; omega) (b1.next (below_alloc _ _)))
        | (go_at_call 38; refine (isByOne_any n m hn hm _).mono ?_; rintro e w3 ⟨rfl, b3⟩; rw [HD.out]))
      go_quiet (fail)
      go_wp2
      go_ret3
      exact ⟨by rw [H.out]; rfl, below_drewN (b2.next b3) _⟩
  · have H := Lib.hid (endL_bad h)
    have HC := Lib.hid hc
    clear h hc hv
    go_enter Tryz.func19, Tryz.ntmps19
    go_wp2_with (first
      | (go_at_call 33; refine HC.out.mono ?_; rintro e w1 ⟨t, rfl, b1⟩)
      | (go_at_call 37; refine (as_miss _ w1.heap.size _ (HV.out.et.below (b1.next (below_alloc _ _)))).mono ?_; rintro e w2 ⟨rfl, hw2⟩; have b2 : Below w.heap.size w w2 := (by rw [hw2]; exact (((b1.next (below_alloc _ _)).next (below_alloc _ _)).next (below_alloc _ _)).next (below_alloc _ _)); clear hw2))
    go_quiet (fail)
    go_wp2
    go_ret3
    exact ⟨by rw [H.out]; rfl, below_drewN b2 _⟩

theorem duo_parts (o : Option (Nat × Nat)) : ∃ (k m : Int) (b : Bool), duo o = .tuple #[.int .i64 k, .int .i64 m, .bool b] := ⟨_, _, _, rfl⟩

end Go.Proofs.YtaliljbijnbiaaaGreatDoor
