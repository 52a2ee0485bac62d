/-
  A place drawn, and hunks to join.
-/
import Derived.Test.YtaajldodobclaaaHDrawC
import Derived.Test.YtaajldodobclaaaLHPatch
set_option linter.unusedSimpArgs false
set_option linter.unusedVariables false
namespace Go.Proofs.Ytaajldodobclaaa
open Go.RowKit M

/-- Drawn hunks are few. -/
theorem few_of {hs : List Hk} (h1 : hs.length ≤ 6) (h2 : ∀ x ∈ hs, smallA x) : few hs :=
  ⟨by omega, fun x hx => by obtain ⟨_, _, a, b, c, _⟩ := h2 x hx; exact ⟨a, by omega, by omega⟩⟩
theorem new_of {hs : List Hk} (h2 : ∀ x ∈ hs, smallA x) : ∀ x ∈ hs, x.new.length ≤ 1048576 := fun x hx => by
  obtain ⟨_, _, a, b, c, _⟩ := h2 x hx; omega
theorem goodB_last {l : List ByteArray} (h : goodB l = true) : ∀ s, l.getLast? = some s → 1 ≤ s.size := fun s hs => by
  rw [List.getLast?_eq_getElem?] at hs
  exact (lineB_size (goodB_at h hs).1).1

set_option maxHeartbeats 1000000 in
theorem DrawPlaceOf_any (a : Option Addr) (n c : Nat) (w : World) (h : Bytes w a n) (hn : n ≤ 1048576) :
    Calls Try.prog 33 #[.slice a n c] w fun e w' => ∃ many k : Int, ∃ A2 n2 c2 hs, e = .returned (.tuple #[.slice A2 n2 c2, .int .i64 many, .int .i64 k]) ∧ 0 ≤ many ∧ many ≤ 1000 ∧ -1000 ≤ k ∧ k ≤ 1000 ∧ Hks w' A2 n2 hs ∧ n2 ≤ 6 ∧ (∀ x ∈ hs, smallA x) ∧ Below w.heap.size w w' := by
  have c0 := Curs.new (c := c) h hn
  go_enter Try.func33, Try.ntmps33
  go_wp2_with fail
  refine (hunked_any _ 0 _ c0 (by omega)).mono ?_
  rintro e w1 ⟨A, n1, c1, l, A2, n2, c2, out, vs, B, rfl, o1, h1, h2, h3, h4, h5, h6, o2, h7, h8, c3, g1⟩
  have H8 := Lib.hid h8
  have HO2 := Lib.hid o2
  have hzz : w.heap.size < B := by simp at h5; omega
  clear h3 h4 h6 h8 o1 o2 h5
  go_wp2_with fail
  refine (pick_any _ _ _ _ c3 (by omega) (by omega)).mono ?_
  rintro e w2 ⟨y, rfl, hy0, hy1, c4, g2⟩
  have hy : y ≤ 19 := by omega
  clear hy1
  have o3 := HO2.out.keptg g2 hzz
  have HO3 := Lib.hid o3
  clear o3
  go_wp2_with fail
  refine (pick_any _ _ 20 _ c4 (by omega) (by omega)).mono ?_
  rintro e w3 ⟨z, rfl, hz0, hz1, c5, g3⟩
  have hz : z ≤ 19 := by omega
  clear hz1
  have o4 := HO3.out.keptg g3 hzz
  have HO4 := Lib.hid o4
  have HB2 := Lib.hid (below_new ((g1.trans g2).trans g3))
  clear o4
  go_wp2
  go_ret3
  refine ⟨_, _, A2, n2, c2, out, rfl, ?_, ?_, ?_, ?_, HO4.out.hks, h7, H8.out, HB2.out⟩
  all_goals omega

set_option maxHeartbeats 1000000 in
theorem DrawJoinHunks_any (a : Option Addr) (n c : Nat) (w : World) (h : Bytes w a n) (hn : n ≤ 1048576) :
    Calls Try.prog 36 #[.slice a n c] w fun e w' => ∃ A n1 c1 l A2 n2 c2 hs A3 n3 c3 hs3, e = .returned (.tuple #[.slice A n1 c1, .slice A2 n2 c2, .slice A3 n3 c3]) ∧ DrewLH w w' A n1 c1 l A2 n2 c2 hs ∧ Hks w' A3 n3 hs3 ∧ n3 ≤ 6 ∧ (∀ x ∈ hs3, smallA x) := by
  have c0 := Curs.new (c := c) h hn
  go_enter Try.func36, Try.ntmps36
  go_wp2_with fail
  refine (hunked_any _ 0 _ c0 (by omega)).mono ?_
  rintro e w1 ⟨A, n1, c1, l, A2, n2, c2, out, vs, B, rfl, o1, h1, h2, h3, h4, h5, h6, o2, h7, h8, cu, g1⟩
  obtain ⟨_, _, e2, hc2, _⟩ := o2.form o2.hks.len
  injection e2 with e2 e3 e4
  have hc22 : n2 ≤ c2 := by omega
  have H3 := Lib.hid h3
  have H4 := Lib.hid h4
  have H8 := Lib.hid h8
  have HO1 := Lib.hid o1
  have HO2 := Lib.hid o2
  have hzz : w.heap.size < B := by simp at h5; omega
  have hwl : w.heap.size < w1.heap.size := cu.lt
  have HA := Lib.hid (show ∀ x, A = some x → x.block ≠ w.heap.size from fun x e => by
    subst e
    have := (o1.lt (g := x.block) rfl).1
    simp at this
    omega)
  clear h3 h4 h6 h8 o1 o2 h5 e2 e3 e4
  go_wp2_with fail
  refine (specPatch_any A n1 c1 l A2 n2 c2 out _ HO1.out.strs h1 HO2.out.hks (new_of H8.out) (by omega)).mono ?_
  rintro e w2 ⟨v, rfl, o3, b2⟩
  have cu2 := cu.below b2
  have HP1 := Lib.hid (HO1.out.below b2)
  have HP2 := Lib.hid (HO2.out.below b2)
  have G2 := Lib.hid (g1.trans (grown_of_below b2 (some w.heap.size)))
  obtain ⟨nm, HM⟩ : ∃ nm, Hid ((patchOf l out).1.length = nm) := ⟨_, rfl⟩
  obtain ⟨AM, cm, rfl, hm1, hm2⟩ := o3.form HM.out
  have HO3 := Lib.hid o3
  clear o3
  cases hq : (patchOf l out).2
  · go_wp2_with fail
    refine (anyHunks_any _ _ A n1 c1 l _ cu2 (by omega) HP1.out.strs HA.out (by omega) H4.out).mono ?_
    rintro e w3 ⟨v3, out3, vs3, rfl, o5, hlen, hsa, cu3, g3⟩
    obtain ⟨n3, HN3⟩ : ∃ n3, Hid (out3.length = n3) := ⟨_, rfl⟩
    obtain ⟨A3, c3, rfl, hn1, hn2⟩ := o5.form HN3.out
    have HSA := Lib.hid hsa
    have HO5 := Lib.hid o5
    clear hsa o5
    go_wp2
    go_ret3
    refine ⟨A, n1, c1, l, A2, n2, c2, out, A3, n3, c3, out3, rfl, ⟨HP1.out.strs.keptg g3 HA.out, h1, h2, H3.out, (HP2.out.keptg g3 hzz).hks, hc22, h7, H8.out, below_new (G2.out.trans g3)⟩, HO5.out.hks, by rw [← HN3.out]; exact hlen, HSA.out⟩
  · have hpk : patchOk l out = true := by rw [← patchOf_ok]; exact hq
    have hpe : (patchOf l out).1 = patchH l out := by unfold patchOf; rw [if_pos hpk]
    have hgm := (patchOk_parts hpk).2.2
    have hnm : nm ≤ 40 := by rw [← HM.out, hpe]; exact goodB_len hgm
    have HLM := Lib.hid (show ∀ s, (patchOf l out).1.getLast? = some s → 1 ≤ s.size by rw [hpe]; exact goodB_last hgm)
    have HAM := Lib.hid (show ∀ x, AM = some x → x.block ≠ w.heap.size from fun x e => by
      subst e
      have := (HO3.out.lt (g := x.block) rfl).1
      omega)
    clear hpk hpe hgm
    go_wp2_with fail
    refine (anyHunks_any _ _ AM nm cm _ _ cu2 (by omega) HO3.out.strs HAM.out (by omega) HLM.out).mono ?_
    rintro e w3 ⟨v3, out3, vs3, rfl, o5, hlen, hsa, cu3, g3⟩
    obtain ⟨n3, HN3⟩ : ∃ n3, Hid (out3.length = n3) := ⟨_, rfl⟩
    obtain ⟨A3, c3, rfl, hn1, hn2⟩ := o5.form HN3.out
    have HSA := Lib.hid hsa
    have HO5 := Lib.hid o5
    clear hsa o5
    go_wp2
    go_ret3
    refine ⟨A, n1, c1, l, A2, n2, c2, out, A3, n3, c3, out3, rfl, ⟨HP1.out.strs.keptg g3 HA.out, h1, h2, H3.out, (HP2.out.keptg g3 hzz).hks, hc22, h7, H8.out, below_new (G2.out.trans g3)⟩, HO5.out.hks, by rw [← HN3.out]; exact hlen, HSA.out⟩

end Go.Proofs.Ytaajldodobclaaa
