/-
  Two texts that are drawn.
-/
import Derived.Test.YtdejlepgihgfgaaDraw2
set_option linter.unusedSimpArgs false
set_option linter.unusedVariables false
namespace Go.Proofs.Ytdejlepgihgfgaa
open Go.RowKit M

set_option maxHeartbeats 1000000 in
theorem DrawSameAhead_any (a : Option Addr) (n c : Nat) (w : World) (h : Bytes w a n) (hn : n ≤ 1048576) :
    Calls Try.prog 18 #[.slice a n c] w fun e w' => ∃ (v v2 : Value) (l l2 : List ByteArray), e = .returned (.tuple #[v, v2]) ∧ OwnV w' w.heap.size v l ∧ OwnV w' w.heap.size v2 l2 ∧ l.length ≤ 9 ∧ l2.length ≤ 12 ∧ Below w.heap.size w w' := by
  have c0 := Curs.new (c := c) h hn
  have hz : (w.alloc (.cells #[.slice a n c, .int .i64 0, .int .u64 0] 51)).heap.size = w.heap.size + 1 := by simp
  have HZ := Lib.hid hz
  clear hz
  go_enter Try.func18, Try.ntmps18
  go_wp2_with fail
  refine (anyText_any _ 0 _ c0 (by omega)).mono ?_
  rintro e w1 ⟨v, l, rfl, o1, hl, hsm, c1, g1⟩
  have HSM := Lib.hid hsm
  clear hsm
  obtain ⟨q, HN⟩ : ∃ q, Hid (l.length = q) := ⟨_, rfl⟩
  obtain ⟨A, cap, rfl, hn1, hn2⟩ := o1.form HN.out
  have hq9 : q ≤ 9 := by rw [← HN.out]; exact hl
  clear hl
  go_wp2_with fail
  refine (one_any _ _ _ _ c1 (by omega) (by omega)).mono ?_
  rintro e w2 ⟨y, rfl, c2, g2⟩
  have o2 := o1.kept g2 (fun b e h => by injection e with e; have := (o1.lt h).1; have := HZ.out; omega)
  have hlt : w.heap.size < w2.heap.size := c2.lt
  have rest : ∀ w3 : World, w2.grownBy w3 (some w.heap.size) → OwnV w3 w.heap.size (.slice A q cap) l := fun w3 g3 =>
    (o2.kept g3 (fun b e h => by injection e with e; have := (o1.lt h).1; have := HZ.out; omega)).more (by have := HZ.out; omega)
  have REST := Lib.hid rest
  clear rest
  by_cases hy : (y && goodB l) = true
  · simp at hy
    obtain ⟨rfl, hg⟩ := hy
    have hfine : Fine 30 l := fun s hs => ⟨good_ne hg s hs, by
      obtain ⟨j, hj⟩ := List.mem_iff_getElem?.1 hs
      exact (lineB_size (goodB_at hg hj).1).2⟩
    go_wp2_with fail
    refine (l1Good_any _ _ _ l _ o2.strs).mono ?_
    rintro e w3 ⟨rfl, rfl⟩
    rw [hg]
    go_wp2_with fail
    refine (other_any _ _ 30 _ _ _ l _ c2 (by omega) o2.strs (by omega) hfine (by omega) (by omega)).mono ?_
    rintro e w3 ⟨v3, l3, rfl, s3⟩
    go_wp2
    go_ret2
    exact ⟨_, v3, l, l3, rfl, REST.out _ s3.grown, s3.own.more (by omega), by rw [HN.out]; exact hq9, by have := s3.len; omega, below_new ((g1.trans g2).trans s3.grown)⟩
  · cases y with
    | true =>
      have hg : goodB l = false := by simpa using hy
      clear hy
      go_wp2_with fail
      refine (l1Good_any _ _ _ l _ o2.strs).mono ?_
      rintro e w3 ⟨rfl, rfl⟩
      rw [hg]
      go_wp2_with fail
      refine (text_any _ _ _ c2 (by omega)).mono ?_
      rintro e w3 ⟨v3, l3, rfl, o3, hl3, hsm3, c3, g3⟩
      clear hsm3
      go_wp2
      go_ret2
      exact ⟨_, v3, l, l3, rfl, REST.out _ g3, o3.more (by omega), by rw [HN.out]; exact hq9, by omega, below_new ((g1.trans g2).trans g3)⟩
    | false =>
      clear hy
      go_wp2_with fail
      refine (text_any _ _ _ c2 (by omega)).mono ?_
      rintro e w3 ⟨v3, l3, rfl, o3, hl3, hsm3, c3, g3⟩
      clear hsm3
      go_wp2
      go_ret2
      exact ⟨_, v3, l, l3, rfl, REST.out _ g3, o3.more (by omega), by rw [HN.out]; exact hq9, by omega, below_new ((g1.trans g2).trans g3)⟩

end Go.Proofs.Ytdejlepgihgfgaa
