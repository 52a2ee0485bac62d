/-
  CountHunks where what goes is not too much, the program's and the model's; the laws' own comparison.
-/
import Derived.Test.YtdejlepgihgfgaaHSame
import Derived.Test.YtdejlepgihgfgaaHBase9
set_option linter.unusedSimpArgs false
set_option linter.unusedVariables false
namespace Go.Proofs.Ytdejlepgihgfgaa
open Go.RowKit M

set_option maxHeartbeats 2000000 in
theorem sameHunks_any (a b : Option Addr) (n m c d : Nat) (l r : List Hk) (w : World) (hl : Hks w a n l) (hr : Hks w b m r) :
    Calls Try.prog 10 #[.slice a n c, .slice b m d] w fun e w' => e = .returned (.bool (eqHS l r)) ∧ Below w.heap.size w w' := by
  have HL := Lib.hid hl.len
  have HR := Lib.hid hr.len
  have hlim := hl.lim
  unfold maxLen at hlim
  by_cases hnm : n = m
  · subst hnm
    have hq : ((n : Int) != (n : Int)) = false := by simp
    go_enter Try.func10, Try.ntmps10
    go_wp2
    go_loopw [14] (fun i w' => ∃ k : Nat, i = .int .i64 k ∧ k ≤ n ∧ Hid (∀ j s t, j < k → l[j]? = some s → r[j]? = some t → eqH s t = true) ∧ Below w.heap.size w w') (fun i _ => n - (intOf i).toNat)
    case atStart => exact ⟨0, rfl, by omega, fun j s t h => by omega, Below.refl _ _⟩
    case round =>
      obtain ⟨k, rfl, hk, H, hb⟩ := hrel
      by_cases hlt : k < n
      · obtain ⟨b1, off1, A1, m1, c1, x, rfl, hx, d0, d1, d2, hs1, _, _, _⟩ := (hl.below hb).at_ hlt
        obtain ⟨b2, off2, A2, m2, c2, y, rfl, hy, e0, e1, e2, hs2, _, _, _⟩ := (hr.below hb).at_ hlt
        have HX := Lib.hid hx
        have HY := Lib.hid hy
        clear hx hy
        have hi0 : (0 : Int) ≤ (k : Int) := by omega
        have hi1 : (k : Int) < (n : Int) := by omega
        have hp0 : ∀ o, (wr.alloc o).cell? ⟨b2, off2 + k * 3, none⟩ = some (.int .i64 y.at_) := fun o => cell_keep (below_alloc wr o) e0
        have hp1 : ∀ o, (wr.alloc o).cell? ⟨b2, off2 + k * 3 + 1, none⟩ = some (.int .i64 y.gone) := fun o => cell_keep (below_alloc wr o) e1
        have hp2 : ∀ o, (wr.alloc o).cell? ⟨b2, off2 + k * 3 + 2, none⟩ = some (.slice A2 m2 c2) := fun o => cell_keep (below_alloc wr o) e2
        have hbn := hb.next (below_alloc wr (.cells #[.int .i64 x.at_, .int .i64 x.gone, .slice A1 m1 c1] 46))
        by_cases h1 : x.at_ = y.at_
        · have q1 : (x.at_ != y.at_) = false := by simp [h1]
          by_cases h2 : x.gone = y.gone
          · have q2 : (x.gone != y.gone) = false := by simp [h2]
            have hf := Lib.hid (show eqH x y = eqT x.new y.new by simp [eqH, h1, h2])
            clear h1 h2
            cases hq2 : eqT x.new y.new
            · have hf := Lib.hid (eqHS_at HX.out HY.out (by rw [hf.out]; exact hq2))
              go_wp2
              go_quiet (first | (go_at_call 15; refine Calls.quiet_of (sameTexts_any A1 A2 m1 m2 c1 c2 x.new y.new _ ?_ ?_); exact hs1.below (below_drewN (below_alloc _ _) _); exact hs2.below (below_drewN (below_alloc _ _) _)))
              go_wp2
              go_ret
              exact ⟨ret_bool hf.out.symm, below_drewN hbn _⟩
            · have HST := Lib.hid (hf.out.trans hq2)
              go_wp2
              go_quiet (first | (go_at_call 15; refine Calls.quiet_of (sameTexts_any A1 A2 m1 m2 c1 c2 x.new y.new _ ?_ ?_); exact hs1.below (below_drewN (below_alloc _ _) _); exact hs2.below (below_drewN (below_alloc _ _) _)))
              go_wp2
              go_roundw
              case rel => exact ⟨k + 1, by go_num, by omega, eqH_step H.out HX.out HY.out HST.out, below_drewN hbn _⟩
              case measure => simp [intOf]; omega
          · have q2 : (x.gone != y.gone) = true := by simp [h2]
            have hf := Lib.hid (eqHS_at HX.out HY.out (show eqH x y = false by simp [eqH, h2]))
            clear h1 h2
            go_wp2
            go_quiet (fail)
            go_wp2
            go_ret
            exact ⟨ret_bool hf.out.symm, below_drewN hbn _⟩
        · have q1 : (x.at_ != y.at_) = true := by simp [h1]
          have hf := Lib.hid (eqHS_at HX.out HY.out (show eqH x y = false by simp [eqH, h1]))
          clear h1
          go_wp2
          go_quiet (fail)
          go_wp2
          go_ret
          exact ⟨ret_bool hf.out.symm, below_drewN hbn _⟩
      · have hf := Lib.hid (eqHS_all (fun j s t h1 h2 => H.out j s t (by have := (List.getElem?_eq_some_iff.1 h1).1; have := HL.out; omega) h1 h2) (HL.out.trans HR.out.symm))
        go_wp2
        go_ret
        exact ⟨ret_bool hf.out.symm, hb⟩
  · have hq : ((n : Int) != (m : Int)) = true := by simp; omega
    have hf := Lib.hid (eqHS_len (l := l) (r := r) (by rw [HL.out, HR.out]; exact hnm))
    go_enter Try.func10, Try.ntmps10
    go_wp2
    go_ret
    exact ⟨ret_bool hf.out.symm, Below.refl _ _⟩

/-- What CountHunks is asked here. -/
def few (l : List Hk) : Prop := l.length ≤ 20 ∧ ∀ x ∈ l, 0 ≤ x.gone ∧ x.gone ≤ 1000 ∧ x.new.length ≤ 1000
theorem sums_step {l : List Hk} {k : Nat} {x : Hk} (h : l[k]? = some x) : goneSum (l.drop k) = x.gone + goneSum (l.drop (k + 1)) ∧ comeSum (l.drop k) = x.new.length + comeSum (l.drop (k + 1)) := by
  rw [drop_at h, goneSum, comeSum]
  exact ⟨rfl, rfl⟩
theorem sums_end {l : List Hk} {k : Nat} (h : l.length ≤ k) : goneSum (l.drop k) = 0 ∧ comeSum (l.drop k) = 0 := by
  rw [List.drop_eq_nil_of_le h]; exact ⟨rfl, rfl⟩

set_option maxHeartbeats 1000000 in
theorem implCountHunks_few (a : Option Addr) (n c : Nat) (l : List Hk) (w : World) (hl : Hks w a n l) (hf : few l) :
    Calls Try.prog 14 #[.slice a n c] w fun e w' => e = .returned (.tuple #[.int .i64 (goneSum l), .int .i64 (comeSum l), .bool true]) ∧ Below w.heap.size w w' := by
  have HL := Lib.hid hl.len
  have hn20 : n ≤ 20 := by rw [← HL.out]; exact hf.1
  have HF := Lib.hid hf.2
  clear hf
  have q0 : decide (20 < (n : Int)) = false := by simp; omega
  go_enter Try.func14, Try.ntmps14
  go_wp2
  go_loopw [5, 6, 14] (fun p q i w' => ∃ k : Nat, ∃ g m : Int, i = .int .i64 k ∧ p = .int .i64 g ∧ q = .int .i64 m ∧ k ≤ n ∧ 0 ≤ g ∧ g ≤ 1000 * (k : Int) ∧ 0 ≤ m ∧ m ≤ 1000 * (k : Int) ∧ Hid (g + goneSum (l.drop k) = goneSum l) ∧ Hid (m + comeSum (l.drop k) = comeSum l) ∧ Below w.heap.size w w') (fun _ _ i _ => n - (intOf i).toNat)
  case atStart => exact ⟨0, 0, 0, rfl, rfl, rfl, by omega, by omega, by omega, by omega, by omega, show _ = _ by simp, show _ = _ by simp, Below.refl _ _⟩
  case round =>
    obtain ⟨k, g, m, rfl, rfl, rfl, hk, hg0, hg1, hm0, hm1, HG, HM, hb⟩ := hrel
    by_cases hlt : k < n
    · obtain ⟨b, off, A, mm, c', x, rfl, hx, c0, c1, c2, hs, hmc, i0, i1⟩ := (hl.below hb).atc hlt
      obtain ⟨hx0, hx1, hx2⟩ := HF.out x (List.mem_of_getElem? hx)
      rw [hs.len] at hx2
      have HS := Lib.hid (sums_step hx)
      have HMM := Lib.hid hs.len
      clear hx
      have q1 : decide (x.gone < 0) = false := by simp; omega
      have q2 : decide (9223372036854775807 - g < x.gone) = false := by simp; omega
      go_wp2
      go_roundw
      case rel => exact ⟨k + 1, g + x.gone, m + (mm : Int), by go_num, rfl, rfl, by omega, by omega, by omega, by omega, by omega, show _ = _ by have h5 := HS.out.1; have h6 := HG.out; omega, show _ = _ by have h5 := HS.out.2; have h6 := HM.out; rw [HMM.out] at h5; omega, hb⟩
      case measure => simp [intOf]; omega
    · have HE := Lib.hid (sums_end (l := l) (k := k) (by rw [HL.out]; omega))
      have hg2 : Hid (g = goneSum l) := show _ = _ by have h5 := HE.out.1; have h6 := HG.out; omega
      have hm2 : Hid (m = comeSum l) := show _ = _ by have h5 := HE.out.2; have h6 := HM.out; omega
      go_wp2
      go_ret3
      exact ⟨by rw [← hg2.out, ← hm2.out]; rfl, hb⟩

set_option maxHeartbeats 1000000 in
theorem specCountHunks_few (a : Option Addr) (n c : Nat) (l : List Hk) (w : World) (hl : Hks w a n l) (hf : few l) :
    Calls Try.prog 31 #[.slice a n c] w fun e w' => e = .returned (.tuple #[.int .i64 (goneSum l), .int .i64 (comeSum l), .bool true]) ∧ Below w.heap.size w w' := by
  have HL := Lib.hid hl.len
  have hn20 : n ≤ 20 := by rw [← HL.out]; exact hf.1
  have HF := Lib.hid hf.2
  clear hf
  have q0 : decide (20 < (n : Int)) = false := by simp; omega
  go_enter Try.func31, Try.ntmps31
  go_wp2
  go_loopw [5, 6, 11] (fun p q i w' => ∃ k : Nat, ∃ g m : Int, i = .int .i64 k ∧ p = .int .i64 g ∧ q = .int .i64 m ∧ k ≤ n ∧ 0 ≤ g ∧ g ≤ 1000 * (k : Int) ∧ 0 ≤ m ∧ m ≤ 1000 * (k : Int) ∧ Hid (g + goneSum (l.drop k) = goneSum l) ∧ Hid (m + comeSum (l.drop k) = comeSum l) ∧ Below w.heap.size w w') (fun _ _ i _ => n - (intOf i).toNat)
  case atStart => exact ⟨0, 0, 0, rfl, rfl, rfl, by omega, by omega, by omega, by omega, by omega, show _ = _ by simp, show _ = _ by simp, Below.refl _ _⟩
  case round =>
    obtain ⟨k, g, m, rfl, rfl, rfl, hk, hg0, hg1, hm0, hm1, HG, HM, hb⟩ := hrel
    by_cases hlt : k < n
    · obtain ⟨b, off, A, mm, c', x, rfl, hx, c0, c1, c2, hs, hmc, i0, i1⟩ := (hl.below hb).atc hlt
      obtain ⟨hx0, hx1, hx2⟩ := HF.out x (List.mem_of_getElem? hx)
      rw [hs.len] at hx2
      have HS := Lib.hid (sums_step hx)
      have HMM := Lib.hid hs.len
      clear hx
      have hbn := hb.next (below_alloc wr (.cells #[.int .i64 x.at_, .int .i64 x.gone, .slice A mm c'] 46))
      have q1 : decide ((0 : Int) ≤ x.gone) = true := by simp; omega
      have q2 : decide (x.gone ≤ 1000000) = true := by simp; omega
      go_wp2_with fail
      refine (l1In_any _ _ _ _).mono ?_
      rintro e w' ⟨rfl, rfl⟩
      rw [q1, q2]
      go_wp2
      go_roundw
      case rel => exact ⟨k + 1, g + x.gone, m + (mm : Int), by go_num, rfl, rfl, by omega, by omega, by omega, by omega, by omega, show _ = _ by have h5 := HS.out.1; have h6 := HG.out; omega, show _ = _ by have h5 := HS.out.2; have h6 := HM.out; rw [HMM.out] at h5; omega, hbn⟩
      case measure => simp [intOf]; omega
    · have HE := Lib.hid (sums_end (l := l) (k := k) (by rw [HL.out]; omega))
      have hg2 : Hid (g = goneSum l) := show _ = _ by have h5 := HE.out.1; have h6 := HG.out; omega
      have hm2 : Hid (m = comeSum l) := show _ = _ by have h5 := HE.out.2; have h6 := HM.out; omega
      go_wp2
      go_ret3
      exact ⟨by rw [← hg2.out, ← hm2.out]; rfl, hb⟩

end Go.Proofs.Ytdejlepgihgfgaa
