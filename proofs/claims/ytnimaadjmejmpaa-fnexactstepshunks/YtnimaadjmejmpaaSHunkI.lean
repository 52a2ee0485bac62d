/-
  Hunks made of steps: the program's small functions.
-/
import Derived.Test.YtnimaadjmejmpaaSSteps
import Derived.Test.YtnimaadjmejmpaaSGood2
import Derived.Test.YtnimaadjmejmpaaHBack
import Derived.Test.YtnimaadjmejmpaaHSame
import Derived.Test.YtnimaadjmejmpaaHPlace
set_option linter.unusedSimpArgs false
set_option linter.unusedVariables false
namespace Go.Proofs.Ytnimaadjmejmpaa
open Go.RowKit Go.ChangeShapes Go.WideShapes M

theorem cell_s {w : World} {p a : Addr} {u v : Value} (h : w.cell? a = some u) (hn : a.block ≠ p.block) : (w.setCell p v).cell? a = some u :=
  (World.cell?_of_block (Below.heap_setCell w p v a.block hn)).trans h
theorem zero_hk {w : World} {k : Nat} (h : w.heap[k]? = some (.cells #[.int .i64 0, .int .i64 0, .slice none 0 0] 72 (0, 0))) : w.cell? ⟨k, 0, none⟩ = some (.int .i64 0) ∧ w.cell? ⟨k, 1, none⟩ = some (.int .i64 0) ∧ w.cell? ⟨k, 2, none⟩ = some (.slice none 0 0) ∧ ∀ j, w.frozen? ⟨k, j, none⟩ = false :=
  ⟨by simp [World.cell?, h], by simp [World.cell?, h], by simp [World.cell?, h], fun j => by simp [World.frozen?, h]⟩
def baseN (a : Int) (n : Nat) : Int := if n = 0 then a else a - 1
theorem baseN_eq (a : Int) (l : List ByteArray) {n : Nat} (h : l.length = n) : baseI a l = baseN a n := by unfold baseI baseN; rw [h]
theorem numI_zero (n : Nat) (a : Int) : a - numI 0 n = baseN a n := by unfold numI baseN; split <;> omega

set_option maxHeartbeats 1000000 in
theorem place_any (x y : Int) (a : Option Addr) (n c : Nat) (w : World) (hx0 : -100000 ≤ x) (hx1 : x ≤ 100000) :
    Calls Try.prog 68 #[.agg #[.int .i64 x, .int .i64 y, .slice a n c]] w fun e w' => e = .returned (.int .i64 (baseN x n)) ∧ Below w.heap.size w w' := by
  obtain ⟨W, HW⟩ : ∃ W, Hid (W = w.alloc (.cells #[.int .i64 x, .int .i64 y, .slice a n c] 55)) := ⟨_, rfl⟩
  have HB := Lib.hid (show Below w.heap.size w W by rw [HW.out]; exact below_alloc w _)
  have k0 : W.cell? ⟨w.heap.size, 0, none⟩ = some (.int .i64 x) := by rw [HW.out]; simp
  have k2 : W.cell? ⟨w.heap.size, 2, none⟩ = some (.slice a n c) := by rw [HW.out]; simp
  have hN : numI 0 n = 0 ∨ numI 0 n = 1 := by unfold numI; split <;> simp
  obtain ⟨q, Hq⟩ : ∃ q, Hid (numI 0 n = q) := ⟨_, rfl⟩
  have hq : 0 ≤ q ∧ q ≤ 1 := by have := Hq.out; omega
  obtain ⟨hq0, hq1⟩ := hq
  have hws : IntKind.i64.wrap (x - q) = x - q := by rw [IntKind.wrap_i64]; omega
  have hf := Lib.hid (show baseN x n = x - q by rw [← Hq.out, numI_zero])
  clear hN
  go_enter Try.func68, Try.ntmps68
  go_wp2
  rw [← HW.out]
  go_region_held3 (fun w' => w'.cell? ⟨w.heap.size, 0, none⟩ = some (.int .i64 x) ∧ w'.cell? ⟨w.heap.size, 2, none⟩ = some (.slice a n c)) (first | exact ⟨k0, k2⟩ | go_keep)
    (first | (go_at_call 52; refine (numberAtI_any 0 n (by omega) (by omega) _).mono ?_; rintro e w9 ⟨rfl, rfl⟩; rw [Hq.out]) | fail)
  go_wp2
  go_ret
  exact ⟨ret_int hf.out.symm, HB.out.drew⟩

set_option maxHeartbeats 1000000 in
theorem comesTo_any (x y pl : Int) (a : Option Addr) (n c : Nat) (w : World) (hx0 : -100000 ≤ x) (hx1 : x ≤ 100000) :
    Calls Try.prog 46 #[.agg #[.int .i64 x, .int .i64 y, .slice a n c], .int .i64 pl] w fun e w' => e = .returned (.bool (decide (baseN x n = pl))) ∧ Below w.heap.size w w' := by
  obtain ⟨W, HW⟩ : ∃ W, Hid (W = w.alloc (.cells #[.int .i64 x, .int .i64 y, .slice a n c] 58)) := ⟨_, rfl⟩
  have HB := Lib.hid (show Below w.heap.size w W by rw [HW.out]; exact below_alloc w _)
  obtain ⟨q, Hq⟩ : ∃ q, Hid (baseN x n = q) := ⟨_, rfl⟩
  cases h : decide (q = pl)
  all_goals
    have h7 : (q == pl) = decide (q = pl) := rfl
    rw [h] at h7
    have H := Lib.hid h
    clear h
    go_enter Try.func46, Try.ntmps46
    go_wp2_with fail
    rw [← HW.out]
    refine (place_any x y a n c _ hx0 hx1).mono ?_
    rintro e w1 ⟨rfl, b1⟩
    rw [Hq.out]
    go_wp2
    go_ret
    exact ⟨ret_bool (by rw [Hq.out, H.out]), HB.out.next b1⟩

set_option maxHeartbeats 1000000 in
theorem standsIn_any (x y : Int) (a : Option Addr) (n c : Nat) (old : List ByteArray) (al : Option Addr) (nl cl : Nat) (l : List ByteArray) (b off at' go hi : Nat) (w : World) (ho : Strs w a n old) (hl : Strs w al nl l)
    (k0 : w.cell? ⟨b, off, none⟩ = some (.int .i64 (at' : Int))) (k1 : w.cell? ⟨b, off + 1, none⟩ = some (.int .i64 (go : Int))) (hhi : hi = at' + go) (h1 : hi ≤ nl) (h2 : nl ≤ cl) (h3 : nl ≤ 1048576) :
    Calls Try.prog 45 #[.agg #[.int .i64 x, .int .i64 y, .slice a n c], .slice al nl cl, .pointer (some ⟨b, off, none⟩)] w fun e w' => e = .returned (.bool (eqT old (seg l at' hi))) ∧ Below w.heap.size w w' := by
  obtain ⟨W, HW⟩ : ∃ W, Hid (W = w.alloc (.cells #[.int .i64 x, .int .i64 y, .slice a n c] 57)) := ⟨_, rfl⟩
  have HB := Lib.hid (show Below w.heap.size w W by rw [HW.out]; exact below_alloc w _)
  have m2 : W.cell? ⟨w.heap.size, 2, none⟩ = some (.slice a n c) := by rw [HW.out]; simp
  have HH := Lib.hid hhi
  have K0 := Lib.hid (cell_keep HB.out k0)
  have K1 := Lib.hid (cell_keep HB.out k1)
  have hh0 : at' ≤ hi := by omega
  clear hhi k0 k1
  go_enter Try.func45, Try.ntmps45
  go_wp2
  rw [← HW.out]
  go_region_held3 (fun w' => w'.cell? ⟨w.heap.size, 2, none⟩ = some (.slice a n c)) (first | exact m2 | exact cell_keep D1.out m2 | exact cell_keep D2.out m2 | go_keep)
    (first
      | (go_at_call 71; refine (goneOf_any al nl cl b off at' go hi _ (cell_keep (Below.refl _ W).drew K0.out) (cell_keep (Below.refl _ W).drew K1.out) HH.out h1 h2 h3).mono ?_; rintro e w4 ⟨rfl, d4⟩
         have D1 := Lib.hid (show Below W.heap.size W w4 from (Below.refl _ W).drew.next d4.below))
      | (go_at_call 70; refine (slicesEqual_any a _ n _ c _ old (seg l at' hi) _ ((ho.below HB.out).below D1.out) (((hl.below HB.out).below D1.out).cut3 hh0 h1)).mono ?_; rintro e w5 ⟨rfl, d5⟩
         have D2 := Lib.hid (show Below W.heap.size W w5 from D1.out.next d5.below))
      | fail)
  go_wp2
  go_ret
  exact ⟨rfl, HB.out.next D2.out⟩

end Go.Proofs.Ytnimaadjmejmpaa
