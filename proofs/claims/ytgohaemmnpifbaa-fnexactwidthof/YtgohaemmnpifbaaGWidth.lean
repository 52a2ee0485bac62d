/-
  WidthOf, the program's and the model's.
-/
import Derived.Test.YtgohaemmnpifbaaGGood
import Derived.Test.YtgohaemmnpifbaaGGoodT
set_option linter.unusedSimpArgs false
set_option linter.unusedVariables false
namespace Go.Proofs.Ytgohaemmnpifbaa.M
open Go

def behindR (l : List Rw) : Nat := aheadR l.reverse
def widthF (m : Nat) : List Gp → Nat
  | [] => m
  | x :: l => widthF (max m (max (aheadR x.rows) (behindR x.rows))) l
def widthOf (l : List Gp) : Int × Bool := if goodG l then ((widthF 0 l : Nat), true) else (0, false)
theorem someB_rev (l : List Rw) : someB l.reverse = someB l := by unfold someB; rw [List.any_reverse]
theorem behindR_lt {l : List Rw} (h : someB l = true) : behindR l < l.length := by
  rw [← someB_rev, someB_iff] at h
  simpa [behindR] using h
theorem aheadR_lt {l : List Rw} (h : someB l = true) : aheadR l < l.length := by
  rw [someB_iff] at h
  simpa using h
theorem behindR_le (l : List Rw) : behindR l ≤ l.length := by
  have := aheadR_le l.reverse
  simpa [behindR] using this
theorem rev_at {l : List Rw} {k : Nat} (h : k < l.length) : l.reverse[k]? = l[l.length - 1 - k]? := by rw [List.getElem?_reverse h]
theorem groupB_some {x : Gp} (h : groupB x = true) : someB x.rows = true := by
  unfold groupB rowsB at h
  simp only [Bool.and_eq_true] at h
  exact h.1.1.1.2

end Go.Proofs.Ytgohaemmnpifbaa.M

namespace Go.Proofs.Ytgohaemmnpifbaa
open Go.RowKit Go.ChangeShapes Go.WideShapes M

theorem keptAhead_any (a : Option Addr) (n c : Nat) (l : List Rw) (w : World) (hl : Rws w a n l) (hs : someB l = true) :
    Calls Try.prog 60 #[.slice a n c] w fun e w' => e = .returned (.int .i64 (aheadR l : Int)) ∧ Below w.heap.size w w' := by
  have hf := Lib.hid (show idxR l = (aheadR l : Int) by unfold idxR; rw [if_pos (aheadR_lt hs)])
  go_enter Try.func60, Try.ntmps60
  go_wp2_with fail
  refine (indexFunc_any a n c l _ hl).mono ?_
  rintro e w1 ⟨rfl, b1⟩
  rw [hf.out]
  go_wp2
  go_ret
  exact ⟨rfl, b1⟩

set_option maxHeartbeats 1000000 in
theorem keptBehind_any (a : Option Addr) (n c : Nat) (l : List Rw) (w : World) (hl : Rws w a n l) (hs : someB l = true) (hn : n ≤ 1048576) :
    Calls Try.prog 61 #[.slice a n c] w fun e w' => e = .returned (.int .i64 (behindR l : Int)) ∧ Below w.heap.size w w' := by
  have HL := Lib.hid hl.len
  have HBL := Lib.hid (behindR_lt hs)
  clear hs
  go_enter Try.func61, Try.ntmps61
  go_wp2
  go_loopw [3] (fun i w' => ∃ k : Nat, i = .int .i64 k ∧ k < n ∧ Hid (∀ (j : Nat) x, j < k → l.reverse[j]? = some x → x.kind = 1) ∧ Below w.heap.size w w') (fun i _ => n - (intOf i).toNat)
  case atStart => exact ⟨0, rfl, by have := HBL.out; have := HL.out; omega, fun j x h => by omega, Below.refl _ _⟩
  case round =>
    obtain ⟨k, rfl, hk, H, hb⟩ := hrel
    obtain ⟨b, off, x, rfl, hx, c0, c1, hok⟩ := (hl.below hb).at_ (show n - 1 - k < n by omega)
    have HX := Lib.hid (show l.reverse[k]? = some x by rw [rev_at (by rw [HL.out]; exact hk), HL.out]; exact hx)
    have s1 : IntKind.i64.wrap ((n : Int) - 1) = (n : Int) - 1 := by rw [IntKind.wrap_i64]; omega
    have s2 : IntKind.i64.wrap ((n : Int) - 1 - (k : Int)) = (n : Int) - 1 - (k : Int) := by rw [IntKind.wrap_i64]; omega
    have i0 : (0 : Int) ≤ (n : Int) - 1 - (k : Int) := by omega
    have i1 : (n : Int) - 1 - (k : Int) < (n : Int) := by omega
    have tn : ((n : Int) - 1 - (k : Int)).toNat = n - 1 - k := by omega
    clear hx
    by_cases hq : x.kind = 1
    · have hd := Lib.hid (show decide (x.kind ≠ 1) = false by simp [hq])
      have HQ := Lib.hid hq
      have hk2 : k + 1 < n := by
        have h1 := aheadR_all (l := l.reverse) (k := k + 1) (keep_step H.out HX.out hq) (by rw [List.length_reverse, HL.out]; omega)
        have h2 := HBL.out
        have h3 := HL.out
        unfold behindR at h2
        omega
      clear hq
      go_wp2_with fail
      refine (changes_any x _).mono ?_
      rintro e w1 ⟨rfl, b1⟩
      rw [hd.out]
      go_wp2
      go_roundw
      case rel => exact ⟨k + 1, by go_num, by omega, keep_step H.out HX.out HQ.out, hb.next b1⟩
      case measure => simp [intOf]; omega
    · have hd := Lib.hid (show decide (x.kind ≠ 1) = true by simp [hq])
      have hf := Lib.hid (show behindR l = k from aheadR_at H.out HX.out hq)
      clear hq
      go_wp2_with fail
      refine (changes_any x _).mono ?_
      rintro e w1 ⟨rfl, b1⟩
      rw [hd.out]
      go_wp2
      go_ret
      exact ⟨ret_int (by rw [hf.out]), hb.next b1⟩

set_option maxHeartbeats 4000000 in
set_option maxRecDepth 100000 in
theorem implWidthOf_any (a : Option Addr) (n c : Nat) (l : List Gp) (w : World) (hl : Gps w a n l) :
    Calls Try.prog 35 #[.slice a n c] w fun e w' => e = .returned (.tuple #[.int .i64 (widthOf l).1, .bool (widthOf l).2]) ∧ Below w.heap.size w w' := by
  have HL := Lib.hid hl.len
  have hlim := hl.lim
  unfold maxLen at hlim
  cases hg : goodG l
  · have hf := Lib.hid (show widthOf l = (0, false) by unfold widthOf; rw [hg]; rfl)
    have HG := Lib.hid hg
    clear hg
    go_enter Try.func35, Try.ntmps35
    go_wp2_with fail
    refine (implGoodGroups_any a n c l _ hl).mono ?_
    rintro e w1 ⟨rfl, b1⟩
    rw [HG.out]
    go_wp2
    go_ret2
    exact ⟨by rw [hf.out]; rfl, b1⟩
  · have hf := Lib.hid (show widthOf l = (((widthF 0 l : Nat) : Int), true) by unfold widthOf; rw [hg]; rfl)
    have HG := Lib.hid hg
    have HM := Lib.hid (show ∀ x ∈ l, groupB x = true from fun x hx => goodGF_mem (a := 0) (t := 0) (by unfold goodG at hg; simp only [Bool.and_eq_true] at hg; exact hg.2) x hx)
    clear hg
    go_enter Try.func35, Try.ntmps35
    go_wp2_with fail
    refine (implGoodGroups_any a n c l _ hl).mono ?_
    rintro e w1 ⟨rfl, b1⟩
    rw [HG.out]
    go_wp2
    go_loopw [4, 11] (fun q i w' => ∃ k m : Nat, i = .int .i64 k ∧ q = .int .i64 (m : Int) ∧ k ≤ n ∧ m ≤ 80 ∧ Hid (widthF m (l.drop k) = widthF 0 l) ∧ Below w.heap.size w w') (fun _ i _ => n - (intOf i).toNat)
    case atStart => exact ⟨0, 0, rfl, rfl, by omega, by omega, rfl, b1⟩
    case round =>
      obtain ⟨k, m, rfl, rfl, hk, hm, H, hb⟩ := hrel
      by_cases hlt : k < n
      · obtain ⟨b, off, A1, m1, c1, x, rfl, hx, d0, d1, d2, hs, hmc, hok⟩ := (hl.below hb).at_ hlt
        have hgx := HM.out x (List.mem_of_getElem? hx)
        have HSB := Lib.hid (groupB_some hgx)
        have h80 := (groupB_len hgx).1
        have HLX := Lib.hid hs.len
        have hm1 : m1 ≤ 1048576 := by have := HLX.out; omega
        obtain ⟨p, HP⟩ : ∃ p, Hid (aheadR x.rows = p) := ⟨_, rfl⟩
        obtain ⟨q, HQ⟩ : ∃ q, Hid (behindR x.rows = q) := ⟨_, rfl⟩
        have hp : p ≤ 80 := by have := aheadR_le x.rows; have := HP.out; omega
        have hq : q ≤ 80 := by have := behindR_le x.rows; have := HQ.out; omega
        have HN := Lib.hid (show widthF (max m (max p q)) (l.drop (k + 1)) = widthF 0 l by rw [← H.out, drop_at hx, ← HP.out, ← HQ.out]; rfl)
        have hi0 : (0 : Int) ≤ (k : Int) := by omega
        have hi1 : (k : Int) < (n : Int) := by omega
        clear hx hgx h80
        go_wp2
        refine wp_region_held_drew (S := fun w' => w'.cell? ⟨b, off + k * 3 + 2, none⟩ = some (.slice A1 m1 c1)) (by kernel_rfl) ?_ (fun hHeld => ?_)
        · exact d2
        refine wpAnyH_take (i := 0) (v := ?_) (by simp only [List.getElem?_toArray, List.getElem?_cons_succ, List.getElem?_cons_zero]; rfl) (by kernel_rfl) (by kernel_rfl) (by kernel_rfl) (by exact fun _ _ _ h => h) (Or.inl ⟨by rfl, ?_⟩) hHeld ?_
        rotate_left 1
        · (intro w hSw; (try dsimp only at hSw); go_simp; (try with_reducible rfl))
        (try simp only [Act.put, List.setIfInBounds_toArray, List.set_cons_zero, List.set_cons_succ])
        refine wpAnyH_take (i := 1) (v := ?_) (by simp only [List.getElem?_toArray, List.getElem?_cons_succ, List.getElem?_cons_zero]; rfl) (by kernel_rfl) (by kernel_rfl) (by kernel_rfl) (by exact fun _ _ _ h => h) (Or.inl ⟨by rfl, ?_⟩) hHeld ?_
        rotate_left 1
        · (intro w hSw; (try dsimp only at hSw); go_simp; (try with_reducible rfl))
        (try simp only [Act.put, List.setIfInBounds_toArray, List.set_cons_zero, List.set_cons_succ])
        refine wpAnyH_take (i := 2) (v := ?_) (by simp only [List.getElem?_toArray, List.getElem?_cons_succ, List.getElem?_cons_zero]; rfl) (by kernel_rfl) (by kernel_rfl) (by kernel_rfl) (by exact fun _ _ _ h => h) (Or.inl ⟨by rfl, ?_⟩) hHeld ?_
        rotate_left 1
        · (intro w hSw; (try dsimp only at hSw); go_simp; (try with_reducible rfl))
        (try simp only [Act.put, List.setIfInBounds_toArray, List.set_cons_zero, List.set_cons_succ])
        refine wpAnyH_take (i := 3) (v := ?_) (by simp only [List.getElem?_toArray, List.getElem?_cons_succ, List.getElem?_cons_zero]; rfl) (by kernel_rfl) (by kernel_rfl) (by kernel_rfl) (by exact fun _ _ _ h => h) (Or.inl ⟨by rfl, ?_⟩) hHeld ?_
        rotate_left 1
        · (intro w hSw; (try dsimp only at hSw); go_simp; (try with_reducible rfl))
        (try simp only [Act.put, List.setIfInBounds_toArray, List.set_cons_zero, List.set_cons_succ])
        refine wpAnyH_take (i := 4) (v := ?_) (by simp only [List.getElem?_toArray, List.getElem?_cons_succ, List.getElem?_cons_zero]; rfl) (by kernel_rfl) (by kernel_rfl) (by kernel_rfl) (by exact fun _ _ _ h => h) (Or.inl ⟨by rfl, ?_⟩) hHeld ?_
        rotate_left 1
        · (intro w hSw; (try dsimp only at hSw); go_simp; (try with_reducible rfl))
        (try simp only [Act.put, List.setIfInBounds_toArray, List.set_cons_zero, List.set_cons_succ])
        refine wpAnyH_take (i := 5) (v := ?_) (by simp only [List.getElem?_toArray, List.getElem?_cons_succ, List.getElem?_cons_zero]; rfl) (by kernel_rfl) (by kernel_rfl) (by kernel_rfl) (by exact fun _ _ _ h => h) (Or.inl ⟨by rfl, ?_⟩) hHeld ?_
        rotate_left 1
        · (intro w hSw; (try dsimp only at hSw); go_simp; (try with_reducible rfl))
        (try simp only [Act.put, List.setIfInBounds_toArray, List.set_cons_zero, List.set_cons_succ])
        refine wpAnyH_take (i := 7) (v := ?_) (by simp only [List.getElem?_toArray, List.getElem?_cons_succ, List.getElem?_cons_zero]; rfl) (by kernel_rfl) (by kernel_rfl) (by kernel_rfl) (by exact fun _ _ _ h => h) (Or.inl ⟨by rfl, ?_⟩) hHeld ?_
        rotate_left 1
        · (intro w hSw; (try dsimp only at hSw); go_simp; (try with_reducible rfl))
        (try simp only [Act.put, List.setIfInBounds_toArray, List.set_cons_zero, List.set_cons_succ])
        refine wpAnyH_take (i := 8) (v := ?_) (by simp only [List.getElem?_toArray, List.getElem?_cons_succ, List.getElem?_cons_zero]; rfl) (by kernel_rfl) (by kernel_rfl) (by kernel_rfl) (by exact fun _ _ _ h => h) (Or.inl ⟨by rfl, ?_⟩) hHeld ?_
        rotate_left 1
        · (intro w hSw; (try dsimp only at hSw); go_simp; (try with_reducible rfl))
        (try simp only [Act.put, List.setIfInBounds_toArray, List.set_cons_zero, List.set_cons_succ])
        refine wpAnyH_take (i := 9) (v := ?_) (by simp only [List.getElem?_toArray, List.getElem?_cons_succ, List.getElem?_cons_zero]; rfl) (by kernel_rfl) (by kernel_rfl) (by kernel_rfl) (by exact fun _ _ _ h => h) (Or.inl ⟨by rfl, ?_⟩) hHeld ?_
        rotate_left 1
        · (intro w hSw; (try dsimp only at hSw); go_simp; (try with_reducible rfl))
        (try simp only [Act.put, List.setIfInBounds_toArray, List.set_cons_zero, List.set_cons_succ])
        refine wpAnyH_take (i := 10) (v := ?_) (by simp only [List.getElem?_toArray, List.getElem?_cons_succ, List.getElem?_cons_zero]; rfl) (by kernel_rfl) (by kernel_rfl) (by kernel_rfl) (by exact fun _ _ _ h => h) (Or.inl ⟨by rfl, ?_⟩) hHeld ?_
        rotate_left 1
        · (intro w hSw; (try dsimp only at hSw); go_simp; (try with_reducible rfl))
        (try simp only [Act.put, List.setIfInBounds_toArray, List.set_cons_zero, List.set_cons_succ])
        refine wpAnyH_take (i := 11) (v := ?_) (by simp only [List.getElem?_toArray, List.getElem?_cons_succ, List.getElem?_cons_zero]; rfl) (by kernel_rfl) (by kernel_rfl) (by kernel_rfl) (by exact fun _ _ _ h => h) (Or.inl ⟨by rfl, ?_⟩) hHeld ?_
        rotate_left 1
        · (intro w hSw; (try dsimp only at hSw); go_simp; (try with_reducible rfl))
        (try simp only [Act.put, List.setIfInBounds_toArray, List.set_cons_zero, List.set_cons_succ])
        refine wpAnyH_ready (rs := [6]) (by kernel_rfl) (by simp) ?_
        refine AllReadyH.cons (by simp only [List.getElem?_toArray, List.getElem?_cons_succ, List.getElem?_cons_zero]; rfl) (fun K hK => ?_) AllReadyH.nil
        go_simp
        go_at_call 60
        refine (keptAhead_any A1 m1 c1 x.rows _ (hs.below (Below.refl _ wr).drew) HSB.out).mono ?_
        rintro e w2 ⟨rfl, b2⟩
        rw [HP.out]
        have D2 := Lib.hid (show Below wr.heap.size wr w2 from (Below.refl _ wr).drew.next b2)
        clear b2
        refine hK.out _ _ ?_ (fun hHeld => ?_)
        · exact cell_keep D2.out d2
        clear hK K
        (try simp only [Act.put, List.setIfInBounds_toArray, List.set_cons_zero, List.set_cons_succ])
        refine wpAnyH_ready (rs := [12]) (by kernel_rfl) (by simp) ?_
        refine AllReadyH.cons (by simp only [List.getElem?_toArray, List.getElem?_cons_succ, List.getElem?_cons_zero]; rfl) (fun K hK => ?_) AllReadyH.nil
        go_simp
        go_at_call 61
        refine (keptBehind_any A1 m1 c1 x.rows _ (hs.below D2.out) HSB.out hm1).mono ?_
        rintro e w3 ⟨rfl, b3⟩
        rw [HQ.out]
        have D3 := Lib.hid (D2.out.next b3)
        clear b3
        refine hK.out _ _ ?_ (fun hHeld => ?_)
        · exact cell_keep D3.out d2
        clear hK K
        (try simp only [Act.put, List.setIfInBounds_toArray, List.set_cons_zero, List.set_cons_succ])
        refine wpAnyH_take (i := 13) (v := ?_) (by simp only [List.getElem?_toArray, List.getElem?_cons_succ, List.getElem?_cons_zero]; rfl) (by kernel_rfl) (by kernel_rfl) (by kernel_rfl) (by exact fun _ _ _ h => h) (Or.inl ⟨by rfl, ?_⟩) hHeld ?_
        rotate_left 1
        · (intro w hSw; (try dsimp only at hSw); go_simp; (try with_reducible rfl))
        (try simp only [Act.put, List.setIfInBounds_toArray, List.set_cons_zero, List.set_cons_succ])
        refine wpAnyH_take (i := 14) (v := ?_) (by simp only [List.getElem?_toArray, List.getElem?_cons_succ, List.getElem?_cons_zero]; rfl) (by kernel_rfl) (by kernel_rfl) (by kernel_rfl) (by exact fun _ _ _ h => h) (Or.inl ⟨by rfl, ?_⟩) hHeld ?_
        rotate_left 1
        · (intro w hSw; (try dsimp only at hSw); go_simp; (try with_reducible rfl))
        (try simp only [Act.put, List.setIfInBounds_toArray, List.set_cons_zero, List.set_cons_succ])
        refine wpAnyH_done (by kernel_rfl) ?_ _
        have B3 := Lib.hid (hb.next D3.out)
        go_wp2
        go_roundw
        case rel => exact ⟨k + 1, max m (max p q), by go_num, by (congr 1; split <;> (try split) <;> omega), by omega, by omega, HN.out, B3.out⟩
        case measure => simp [intOf]; omega
      · have hf2 := Lib.hid (show widthF 0 l = m by rw [← H.out, List.drop_eq_nil_of_le (by rw [HL.out]; omega)]; rfl)
        go_wp2
        go_ret2
        exact ⟨by rw [hf.out, hf2.out]; rfl, hb⟩

theorem l1MostG_any (a b : Int) (w : World) :
    Calls Try.prog 59 #[.int .i64 a, .int .i64 b] w fun e w' => e = .returned (.int .i64 (max a b)) ∧ w = w' := by
  by_cases h : b < a
  · have hd : decide (b < a) = true := decide_eq_true h
    have hf := Lib.hid (show max a b = a by omega)
    clear h
    go_enter Try.func59, Try.ntmps59
    go_wp2
    go_ret
    exact ⟨ret_int hf.out.symm, rfl⟩
  · have hd : decide (b < a) = false := decide_eq_false h
    have hf := Lib.hid (show max a b = b by omega)
    clear h
    go_enter Try.func59, Try.ntmps59
    go_wp2
    go_ret
    exact ⟨ret_int hf.out.symm, rfl⟩

set_option maxHeartbeats 4000000 in
set_option maxRecDepth 100000 in
theorem specWidthOf_any (a : Option Addr) (n c : Nat) (l : List Gp) (w : World) (hl : Gps w a n l) (hsm : ∀ x ∈ l, x.rows.length ≤ 1048576) :
    Calls Try.prog 34 #[.slice a n c] w fun e w' => e = .returned (.tuple #[.int .i64 (widthOf l).1, .bool (widthOf l).2]) ∧ Below w.heap.size w w' := by
  have HL := Lib.hid hl.len
  have hlim := hl.lim
  unfold maxLen at hlim
  cases hg : goodG l
  · have hf := Lib.hid (show widthOf l = (0, false) by unfold widthOf; rw [hg]; rfl)
    have HG := Lib.hid hg
    clear hg
    go_enter Try.func34, Try.ntmps34
    go_wp2_with fail
    refine (l6Good_any a n c l _ hl hsm).mono ?_
    rintro e w1 ⟨rfl, b1⟩
    rw [HG.out]
    go_wp2
    go_ret2
    exact ⟨by rw [hf.out]; rfl, b1⟩
  · have hf := Lib.hid (show widthOf l = (((widthF 0 l : Nat) : Int), true) by unfold widthOf; rw [hg]; rfl)
    have HG := Lib.hid hg
    have HM := Lib.hid (show ∀ x ∈ l, groupB x = true from fun x hx => goodGF_mem (a := 0) (t := 0) (by unfold goodG at hg; simp only [Bool.and_eq_true] at hg; exact hg.2) x hx)
    clear hg
    go_enter Try.func34, Try.ntmps34
    go_wp2_with fail
    refine (l6Good_any a n c l _ hl hsm).mono ?_
    rintro e w1 ⟨rfl, b1⟩
    rw [HG.out]
    clear hsm
    go_wp2
    go_loopw [4, 14] (fun q i w' => ∃ k m : Nat, i = .int .i64 k ∧ q = .int .i64 (m : Int) ∧ k ≤ n ∧ m ≤ 80 ∧ Hid (widthF m (l.drop k) = widthF 0 l) ∧ Below w.heap.size w w') (fun _ i _ => n - (intOf i).toNat)
    case atStart => exact ⟨0, 0, rfl, rfl, by omega, by omega, rfl, b1⟩
    case round =>
      obtain ⟨k, m, rfl, rfl, hk, hm, H, hb⟩ := hrel
      by_cases hlt : k < n
      · obtain ⟨b, off, A1, m1, c1, x, rfl, hx, d0, d1, d2, hs, hmc, hok⟩ := (hl.below hb).at_ hlt
        have hgx := HM.out x (List.mem_of_getElem? hx)
        have HSB := Lib.hid (groupB_some hgx)
        have h80 := (groupB_len hgx).1
        have HLX := Lib.hid hs.len
        have hm1 : m1 ≤ 80 := by have := HLX.out; omega
        obtain ⟨p, HP⟩ : ∃ p, Hid (aheadR x.rows = p) := ⟨_, rfl⟩
        obtain ⟨q, HQ⟩ : ∃ q, Hid (behindR x.rows = q) := ⟨_, rfl⟩
        have hp : p < m1 := by have := aheadR_lt HSB.out; have := HP.out; have := HLX.out; omega
        have hq : q < m1 := by have := behindR_lt HSB.out; have := HQ.out; have := HLX.out; omega
        have HN := Lib.hid (show widthF (max m (max p q)) (l.drop (k + 1)) = widthF 0 l by rw [← H.out, drop_at hx, ← HP.out, ← HQ.out]; rfl)
        obtain ⟨W1, HW1⟩ : ∃ W1, Hid (W1 = wr.alloc (.cells #[.int .i64 x.at_, .int .i64 x.to_, .slice A1 m1 c1] 51)) := ⟨_, rfl⟩
        have HB1 := Lib.hid (show Below wr.heap.size wr W1 by rw [HW1.out]; exact below_alloc _ _)
        have e2 : W1.cell? ⟨wr.heap.size, 2, none⟩ = some (.slice A1 m1 c1) := by rw [HW1.out]; simp
        have hs1 := hs.below HB1.out
        clear hx hgx h80 hs
        go_wp2
        rw [← HW1.out]
        go_loop [7] (fun i => ∃ j : Nat, i = .int .i64 j ∧ j < m1 ∧ Hid (∀ (t : Nat) y, t < j → x.rows[t]? = some y → y.kind = 1)) (fun i => m1 - (intOf i).toNat)
        case atStart => exact ⟨0, rfl, by omega, fun t y h => by omega⟩
        case round =>
          obtain ⟨j, rfl, hj, HJ⟩ := hrel
          obtain ⟨b2, off2, y, rfl, hy, y0, y1, hyok⟩ := hs1.at_ hj
          have HY := Lib.hid hy
          have hdj : decide ((j : Int) < (m1 : Int)) = true := by simp; omega
          have hdj' : decide (j < m1) = true := by simp; omega
          clear hy
          by_cases hyk : y.kind = 1
          · have ek : (y.kind == 1) = true := by simp [hyk]
            have hj2 : j + 1 < m1 := by
              have h1 := aheadR_all (l := x.rows) (k := j + 1) (keep_step HJ.out HY.out hyk) (by rw [HLX.out]; omega)
              have h2 := HP.out
              omega
            have HK := Lib.hid hyk
            clear hyk
            go_wp2
            go_round
            case rel => exact ⟨j + 1, by go_num, by omega, keep_step HJ.out HY.out HK.out⟩
            case measure => simp [intOf]; omega
          · have ek : (y.kind == 1) = false := by simp [hyk]
            have hjp : j = p := by rw [← HP.out]; exact (aheadR_at HJ.out HY.out hyk).symm
            subst hjp
            clear hyk HJ HY
            go_wp2
            clear y0 y1 hdj hdj' ek
            go_loop [8] (fun i => ∃ j : Nat, i = .int .i64 j ∧ j < m1 ∧ Hid (∀ (t : Nat) y, t < j → x.rows.reverse[t]? = some y → y.kind = 1)) (fun i => m1 - (intOf i).toNat)
            case atStart => exact ⟨0, rfl, by omega, fun t y h => by omega⟩
            case round =>
              obtain ⟨i, rfl, hi, HJ⟩ := hrel
              obtain ⟨b3, off3, z, hbo, hz, z0, z1, hzok⟩ := hs1.at_ (show m1 - 1 - i < m1 by omega)
              injection hbo with hbo
              injection hbo with hbo1 hbo2
              subst hbo1 hbo2
              have HY := Lib.hid (show x.rows.reverse[i]? = some z by rw [rev_at (by rw [HLX.out]; exact hi), HLX.out]; exact hz)
              have s1 : IntKind.i64.wrap ((m1 : Int) - 1) = (m1 : Int) - 1 := by rw [IntKind.wrap_i64]; omega
              have s2 : IntKind.i64.wrap ((m1 : Int) - 1 - (i : Int)) = (m1 : Int) - 1 - (i : Int) := by rw [IntKind.wrap_i64]; omega
              have i0 : (0 : Int) ≤ (m1 : Int) - 1 - (i : Int) := by omega
              have i1 : (m1 : Int) - 1 - (i : Int) < (m1 : Int) := by omega
              have tn : ((m1 : Int) - 1 - (i : Int)).toNat = m1 - 1 - i := by omega
              have hdj : decide ((i : Int) < (m1 : Int)) = true := by simp; omega
              have hdj' : decide (i < m1) = true := by simp; omega
              clear hz
              by_cases hyk : z.kind = 1
              · have ek : (z.kind == 1) = true := by simp [hyk]
                have hj2 : i + 1 < m1 := by
                  have h1 := aheadR_all (l := x.rows.reverse) (k := i + 1) (keep_step HJ.out HY.out hyk) (by rw [List.length_reverse, HLX.out]; omega)
                  have h2 := HQ.out
                  unfold behindR at h2
                  omega
                have HK := Lib.hid hyk
                clear hyk
                go_wp2
                go_round
                case rel => exact ⟨i + 1, by go_num, by omega, keep_step HJ.out HY.out HK.out⟩
                case measure => simp [intOf]; omega
              · have ek : (z.kind == 1) = false := by simp [hyk]
                have hjq : i = q := by rw [← HQ.out]; exact (aheadR_at HJ.out HY.out hyk).symm
                subst hjq
                clear hyk HJ HY
                have B1 := Lib.hid (hb.next HB1.out)
                go_wp2_with fail
                refine (l1MostG_any _ _ _).mono ?_
                rintro e w' ⟨rfl, rfl⟩
                go_wp2_with fail
                refine (l1MostG_any _ _ _).mono ?_
                rintro e w' ⟨rfl, rfl⟩
                have hmx : max (m : Int) (max (j : Int) (i : Int)) = ((max m (max j i) : Nat) : Int) := by omega
                rw [hmx]
                go_wp2
                go_roundw
                case rel => exact ⟨k + 1, max m (max j i), by go_num, rfl, by omega, by omega, HN.out, B1.out⟩
                case measure => simp [intOf]; omega
      · have hf2 := Lib.hid (show widthF 0 l = m by rw [← H.out, List.drop_eq_nil_of_le (by rw [HL.out]; omega)]; rfl)
        go_wp2
        go_ret2
        exact ⟨by rw [hf.out, hf2.out]; rfl, hb⟩

end Go.Proofs.Ytgohaemmnpifbaa
