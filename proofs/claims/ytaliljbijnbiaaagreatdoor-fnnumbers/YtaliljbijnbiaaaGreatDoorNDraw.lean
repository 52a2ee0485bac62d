/-
  What is drawn for chapter 4: ranges and texts.
-/
import Derived.Test.YtaliljbijnbiaaaGreatDoorDraw
import Derived.Test.YtaliljbijnbiaaaGreatDoorNVars
set_option linter.unusedSimpArgs false
set_option linter.unusedVariables false
namespace Go.Proofs.YtaliljbijnbiaaaGreatDoor
open Go.RowKit M

def ints (zs : List Int) : Array Value := (zs.map (Value.int .i64)).toArray

set_option maxHeartbeats 400000 in
theorem amongN_any (g M bl n : Nat) (zs : List Int) (w : World) (h : Curs w g M) (hM : M ≤ 1048000) (hb : w.heap[bl]? = some (.cells (ints zs) 3 (0, 0))) (hbg : bl ≠ g) (hn : zs.length = n) (h0 : 0 < n) (h1 : n ≤ 1000) :
    Calls Tryz.prog 56 #[.pointer (some ⟨g, 0, none⟩), .slice (some ⟨bl, 0, none⟩) n n] w fun e w' => ∃ x : Int, x ∈ zs ∧ e = .returned (.int .i64 x) ∧ Curs w' g (M + 2) ∧ w.grownBy w' (some g) := by
  have HB := Lib.hid hb
  have hlt := (Array.getElem?_eq_some_iff.1 hb).1
  clear hb
  go_enter Tryz.func56, Tryz.ntmps56
  go_wp2_with fail
  refine (pick_any g M n _ h hM (by omega)).mono ?_
  rintro e w1 ⟨x, rfl, hx0, hx1, c1, g1⟩
  have hb1 : w1.heap[bl]? = some (.cells (ints zs) 3 (0, 0)) := (g1.block bl hlt (by simp; exact hbg)).trans HB.out
  obtain ⟨k, rfl⟩ := Int.eq_ofNat_of_zero_le hx0
  have hk : k < n := by omega
  have hkz : k < zs.length := by omega
  have hc : w1.cell? ⟨bl, k, none⟩ = some (.int .i64 (zs[k]'hkz)) := by simp [World.cell?, hb1, ints, hkz]
  obtain ⟨z, hz⟩ : ∃ z, z = zs[k]'hkz := ⟨_, rfl⟩
  have HZ := Lib.hid (show z ∈ zs by rw [hz]; exact List.getElem_mem hkz)
  rw [← hz] at hc
  clear hx0 hx1 hz hb1
  go_wp2
  go_ret
  exact ⟨z, HZ.out, rfl, c1, g1⟩

theorem ints_bound {x : Int} {zs : List Int} (h : x ∈ zs) (hz : ∀ y ∈ zs, -1 ≤ y ∧ y ≤ 1000) : -1 ≤ x ∧ x ≤ 1000 := hz x h

set_option maxHeartbeats 800000 in
theorem range2_any (g M : Nat) (w : World) (h : Curs w g M) (hM : M ≤ 1000000) :
    Calls Tryz.prog 42 #[.pointer (some ⟨g, 0, none⟩)] w fun e w' => ∃ a b : Int, (-1 ≤ a ∧ a ≤ 1000) ∧ (-1 ≤ b ∧ b ≤ 1000) ∧ e = .returned (.tuple #[.int .i64 a, .int .i64 b]) ∧ Curs w' g (M + 4) ∧ w.grownBy w' (some g) := by
  have hlt := h.lt
  go_enter Tryz.func42, Tryz.ntmps42
  go_wp2_with fail
  refine (amongN_any g M w.heap.size 9 [0, 1, 2, 5, 9, 998, 999, 1000, -1] _ (h.below (below_alloc _ _)) (by omega) (heap_alloc_new w _) (by omega) rfl (by omega) (by omega)).mono ?_
  rintro e w1 ⟨a, ha, rfl, c1, g1⟩
  have ha2 := ints_bound ha (by decide)
  have hg1 : w.grownBy w1 (some g) := (grown_of_below (below_alloc w _) (some g)).trans g1
  have hz1 := hg1.size
  clear ha
  go_wp2_with fail
  refine (amongN_any g _ w1.heap.size 7 [0, 1, 2, 3, 7, 999, 1000] _ (c1.below (below_alloc _ _)) (by omega) (heap_alloc_new w1 _) (by omega) rfl (by omega) (by omega)).mono ?_
  rintro e w2 ⟨b, hb, rfl, c2, g2⟩
  have hb2 := ints_bound hb (by decide)
  clear hb
  go_wp2
  go_ret2
  exact ⟨a, b, ha2, hb2, rfl, c2, hg1.trans ((grown_of_below (below_alloc w1 _) (some g)).trans g2)⟩

set_option maxHeartbeats 800000 in
theorem DrawPairText_any (a : Option Addr) (n c : Nat) (w : World) (h : Bytes w a n) (hn : n ≤ 1048576) :
    Calls Tryz.prog 24 #[.slice a n c] w fun e w' => ∃ x y : Int, (-1 ≤ x ∧ x ≤ 1000) ∧ (-1 ≤ y ∧ y ≤ 1000) ∧ e = .returned (.tuple #[.int .i64 x, .int .i64 y]) ∧ Below w.heap.size w w' := by
  have c0 := Curs.new (c := c) h hn
  go_enter Tryz.func24, Tryz.ntmps24
  go_wp2_with fail
  refine (range2_any _ 0 _ c0 (by omega)).mono ?_
  rintro e w1 ⟨x, y, hx, hy, rfl, c1, g1⟩
  go_wp2
  go_ret2
  exact ⟨x, y, hx, hy, rfl, below_new g1⟩

set_option maxHeartbeats 800000 in
theorem DrawCountText_any (a : Option Addr) (n c : Nat) (w : World) (h : Bytes w a n) (hn : n ≤ 1048576) :
    Calls Tryz.prog 5 #[.slice a n c] w fun e w' => ∃ x y : Int, (-1 ≤ x ∧ x ≤ 1000) ∧ (-1 ≤ y ∧ y ≤ 1000) ∧ e = .returned (.tuple #[.int .i64 x, .int .i64 y]) ∧ Below w.heap.size w w' := by
  go_enter Tryz.func5, Tryz.ntmps5
  go_wp2_with (go_at_call 24; refine (DrawPairText_any a n c _ h hn).mono ?_; rintro e w1 ⟨x, y, hx, hy, rfl, b1⟩)
  go_ret2
  exact ⟨x, y, hx, hy, rfl, b1⟩

def heads : List ByteArray := [⟨#[48]⟩, ⟨#[49]⟩, ⟨#[50]⟩, ⟨#[53]⟩, ⟨#[49, 50]⟩, ⟨#[49, 48, 48, 48]⟩, ⟨#[48, 49]⟩, ⟨#[]⟩]
def tails : List ByteArray := [⟨#[48]⟩, ⟨#[49]⟩, ⟨#[50]⟩, ⟨#[53]⟩, ⟨#[52]⟩, ⟨#[49, 50]⟩, ⟨#[49, 48, 48, 48]⟩, ⟨#[49, 48, 48, 49]⟩, ⟨#[120]⟩, ⟨#[]⟩]
def nums : List ByteArray := [⟨#[]⟩, ⟨#[48]⟩, ⟨#[49]⟩, ⟨#[49, 50]⟩, ⟨#[48, 49]⟩, ⟨#[57, 57, 57, 57]⟩, ⟨#[49, 48, 48, 48, 48]⟩, ⟨#[97]⟩, ⟨#[45, 49]⟩, ⟨#[49, 48, 48, 48]⟩]

theorem text_bound {s : ByteArray} {l : List ByteArray} (h : s ∈ l) (hl : ∀ t ∈ l, t.size ≤ 5) : s.size ≤ 5 := hl s h
theorem size_cat (s t : ByteArray) : (s ++ t).size = s.size + t.size := ByteArray.size_append

set_option maxHeartbeats 1600000 in
theorem pairText_any (g M : Nat) (w : World) (h : Curs w g M) (hM : M ≤ 1000000) :
    Calls Tryz.prog 35 #[.pointer (some ⟨g, 0, none⟩)] w fun e w' => ∃ s : ByteArray, s.size ≤ 20 ∧ e = .returned (.string s) ∧ Curs w' g (M + 8) ∧ w.grownBy w' (some g) := by
  have hlt := h.lt
  have hst := strs_lit w heads (by decide) (by decide)
  go_enter Tryz.func35, Tryz.ntmps35
  go_wp2_with fail
  refine (of_any g M _ 8 8 heads _ (h.below (below_alloc _ _)) (by omega) hst (by omega) (by omega) (fun x e => by injection e with e; subst e; simp; omega)).mono ?_
  rintro e w1 ⟨s, hs, rfl, c1, g1⟩
  have hs2 := text_bound hs (by decide)
  have hg1 : w.grownBy w1 (some g) := (grown_of_below (below_alloc w _) (some g)).trans g1
  have hz1 := hg1.size
  clear hs hst
  go_wp2_with fail
  refine (one_any g _ 2 _ c1 (by omega) (by omega)).mono ?_
  rintro e w2 ⟨q, rfl, c2, g2⟩
  have hg2 := hg1.trans g2
  have hz2 := hg2.size
  cases q with
  | false =>
    go_wp2_with fail
    refine (one_any g _ 12 _ c2 (by omega) (by omega)).mono ?_
    rintro e w3 ⟨q, rfl, c3, g3⟩
    have hlim : (9223372036854775807 < s.size + 2) = False := eq_false (by omega)
    cases q with
    | false =>
      go_wp2
      go_ret
      exact ⟨s, by omega, rfl, c3.more (by omega), hg2.trans g3⟩
    | true =>
      go_wp2
      go_ret
      exact ⟨_, by rw [size_cat]; exact (show s.size + 2 ≤ 20 by omega), rfl, c3.more (by omega), hg2.trans g3⟩
  | true =>
    have hst2 := strs_lit w2 tails (by decide) (by decide)
    go_wp2_with fail
    refine (of_any g _ _ 10 10 tails _ (c2.below (below_alloc _ _)) (by omega) hst2 (by omega) (by omega) (fun x e => by injection e with e; subst e; simp; omega)).mono ?_
    rintro e w3 ⟨t, ht, rfl, c3, g3⟩
    have ht2 := text_bound ht (by decide)
    have hg3 : w.grownBy w3 (some g) := hg2.trans ((grown_of_below (below_alloc w2 _) (some g)).trans g3)
    clear ht hst2
    obtain ⟨u, hu⟩ : ∃ u, u = s ++ ((⟨#[44]⟩ : ByteArray) ++ t) := ⟨_, rfl⟩
    have hus : u.size ≤ 11 := by rw [hu, size_cat, size_cat]; exact (show s.size + (1 + t.size) ≤ 11 by omega)
    have HU := Lib.hid hu
    clear hu
    have hl1 : (9223372036854775807 < 1 + t.size) = False := eq_false (by omega)
    have hl2 : (9223372036854775807 < s.size + ((⟨#[44]⟩ : ByteArray) ++ t).size) = False := eq_false (by rw [size_cat]; exact (show ¬ 9223372036854775807 < s.size + (1 + t.size) by omega))
    have hl3 : (9223372036854775807 < u.size + 2) = False := eq_false (by omega)
    go_wp2_with fail
    rw [← HU.out]
    refine (one_any g _ 12 _ c3 (by omega) (by omega)).mono ?_
    rintro e w4 ⟨q, rfl, c4, g4⟩
    cases q with
    | false =>
      go_wp2
      go_ret
      exact ⟨u, by omega, rfl, c4.more (by omega), hg3.trans g4⟩
    | true =>
      go_wp2
      go_ret
      exact ⟨_, by rw [size_cat]; exact (show u.size + 2 ≤ 20 by omega), rfl, c4.more (by omega), hg3.trans g4⟩

set_option maxHeartbeats 800000 in
theorem DrawReadPair_any (a : Option Addr) (n c : Nat) (w : World) (h : Bytes w a n) (hn : n ≤ 1048576) :
    Calls Tryz.prog 16 #[.slice a n c] w fun e w' => ∃ s : ByteArray, s.size ≤ 20 ∧ e = .returned (.string s) ∧ Below w.heap.size w w' := by
  have c0 := Curs.new (c := c) h hn
  go_enter Tryz.func16, Tryz.ntmps16
  go_wp2_with fail
  refine (pairText_any _ 0 _ c0 (by omega)).mono ?_
  rintro e w1 ⟨s, hs, rfl, c1, g1⟩
  go_wp2
  go_ret
  exact ⟨s, hs, rfl, below_new g1⟩

theorem DrawReadCount_any (a : Option Addr) (n c : Nat) (w : World) (h : Bytes w a n) (hn : n ≤ 1048576) :
    Calls Tryz.prog 14 #[.slice a n c] w fun e w' => ∃ s : ByteArray, s.size ≤ 20 ∧ e = .returned (.string s) ∧ Below w.heap.size w w' := by
  go_enter Tryz.func14, Tryz.ntmps14
  go_wp2_with (go_at_call 16; refine (DrawReadPair_any a n c _ h hn).mono ?_; rintro e w1 ⟨s, hs, rfl, b1⟩)
  go_ret
  exact ⟨s, hs, rfl, b1⟩

theorem DrawReadEnd_any (a : Option Addr) (n c : Nat) (w : World) (h : Bytes w a n) (hn : n ≤ 1048576) :
    Calls Tryz.prog 18 #[.slice a n c] w fun e w' => ∃ s : ByteArray, s.size ≤ 20 ∧ e = .returned (.string s) ∧ Below w.heap.size w w' := by
  go_enter Tryz.func18, Tryz.ntmps18
  go_wp2_with (go_at_call 16; refine (DrawReadPair_any a n c _ h hn).mono ?_; rintro e w1 ⟨s, hs, rfl, b1⟩)
  go_ret
  exact ⟨s, hs, rfl, b1⟩

set_option maxHeartbeats 800000 in
theorem DrawReadNumber_any (a : Option Addr) (n c : Nat) (w : World) (h : Bytes w a n) (hn : n ≤ 1048576) :
    Calls Tryz.prog 21 #[.slice a n c] w fun e w' => ∃ s : ByteArray, s.size ≤ 20 ∧ e = .returned (.string s) ∧ Below w.heap.size w w' := by
  have c0 := Curs.new (c := c) h hn
  have hst := strs_lit (w.alloc (.cells #[.slice a n c, .int .i64 0, .int .u64 0] 47)) nums (by decide) (by decide)
  have hsz : (w.alloc (.cells #[.slice a n c, .int .i64 0, .int .u64 0] 47)).heap.size = w.heap.size + 1 := by simp
  rw [hsz] at hst
  clear hsz
  go_enter Tryz.func21, Tryz.ntmps21
  go_wp2_with fail
  refine (of_any w.heap.size 0 _ 10 10 nums _ (c0.below (below_alloc _ _)) (by omega) hst (by omega) (by omega) (fun x e => by injection e with e; subst e; simp)).mono ?_
  rintro e w1 ⟨s, hs, rfl, c1, g1⟩
  have hs2 := text_bound hs (by decide)
  clear hs
  go_wp2
  go_ret
  exact ⟨s, by omega, rfl, below_new ((grown_of_below (below_alloc _ _) (some w.heap.size)).trans g1)⟩

end Go.Proofs.YtaliljbijnbiaaaGreatDoor
