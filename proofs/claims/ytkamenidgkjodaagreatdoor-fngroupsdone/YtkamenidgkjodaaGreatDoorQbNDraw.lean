/-
  What is drawn for chapter 4: ranges and texts.
-/
import Derived.Test.YtkamenidgkjodaaGreatDoorQbDraw
import Derived.Test.YtkamenidgkjodaaGreatDoorQbNVars
set_option linter.unusedSimpArgs false
set_option linter.unusedVariables false
namespace Go.Proofs.YtkamenidgkjodaaGreatDoor
open Go.RowKit M

def ints (zs : List Int) : Array Value := (zs.map (Value.int .i64)).toArray

set_option maxHeartbeats 400000 in
theorem amongN_any (g M bl n : Nat) (zs : List Int) (w : World) (h : Curs w g M) (hM : M ≤ 1048000) (hb : w.heap[bl]? = some (.cells (ints zs) 3 (0, 0))) (hbg : bl ≠ g) (hn : zs.length = n) (h0 : 0 < n) (h1 : n ≤ 1000) :
    Calls Tryz.prog 87 #[.pointer (some ⟨g, 0, none⟩), .slice (some ⟨bl, 0, none⟩) n n] w fun e w' => ∃ x : Int, x ∈ zs ∧ e = .returned (.int .i64 x) ∧ Curs w' g (M + 2) ∧ w.grownBy w' (some g) := by
  have HB := Lib.hid hb
  have hlt := (Array.getElem?_eq_some_iff.1 hb).1
  clear hb
  go_enter Tryz.func87, Tryz.ntmps87
  go_wp2_with fail
  refine (pick_any g M n _ h hM (by omega)).mono ?_
  rintro e w1 ⟨x, rfl, hx0, hx1, c1, g1⟩
  have hb1 : w1.heap[bl]? = some (.cells (ints zs) 3 (0, 0)) := (g1.block bl hlt (by simp; exact hbg)).trans HB.out
  obtain ⟨k, rfl⟩ := Int.eq_ofNat_of_zero_le hx0
  have hk : k < n := by omega
  have hkz : k < zs.length := by omega
  have hc : w1.cell? ⟨bl, k, none⟩ = some (.int .i64 (zs[k]'hkz)) := by simp [World.cell?, hb1, ints, hkz]
  obtain ⟨z, hz⟩ : ∃ z, z = zs[k]'hkz := ⟨_, rfl⟩
  have HZ := Lib.hid (show z ∈ zs by rw [hz]; exact List.getElem_mem hkz)
  rw [← hz] at hc
  clear hx0 hx1 hz hb1
  go_wp2
  go_ret
  exact ⟨z, HZ.out, rfl, c1, g1⟩

end Go.Proofs.YtkamenidgkjodaaGreatDoor
