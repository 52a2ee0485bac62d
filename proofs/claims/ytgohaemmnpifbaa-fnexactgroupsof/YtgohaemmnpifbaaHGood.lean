/-
  GoodHunks, the program's and the model's.
-/
import Derived.Test.YtgohaemmnpifbaaHMem
import Derived.Test.YtgohaemmnpifbaaGood
set_option linter.unusedSimpArgs false
set_option linter.unusedVariables false
namespace Go.Proofs.Ytgohaemmnpifbaa
open Go.RowKit M

/-- The three cells of a hunk at a place. -/
structure HkC (w : World) (b off : Nat) (x : Hk) (A : Option Addr) (m c : Nat) : Prop where
  c0 : w.cell? ⟨b, off, none⟩ = some (.int .i64 x.at_)
  c1 : w.cell? ⟨b, off + 1, none⟩ = some (.int .i64 x.gone)
  c2 : w.cell? ⟨b, off + 2, none⟩ = some (.slice A m c)
  strs : Strs w A m x.new
  mc : m ≤ c
  i0 : i64ok x.at_
  i1 : i64ok x.gone
theorem HkC.below {w w' : World} {b off : Nat} {x : Hk} {A : Option Addr} {m c : Nat} (h : HkC w b off x A m c) (hb : Below w.heap.size w w') : HkC w' b off x A m c :=
  ⟨cell_keep hb h.c0, cell_keep hb h.c1, cell_keep hb h.c2, h.strs.below hb, h.mc, h.i0, h.i1⟩
theorem Hks.atc {w : World} {a : Option Addr} {n k : Nat} {l : List Hk} (h : Hks w a n l) (hk : k < n) : ∃ b off A m c x, a = some ⟨b, off, none⟩ ∧ l[k]? = some x ∧ HkC w b (off + k * 3) x A m c := by
  obtain ⟨b, off, A, m, c, x, e, hx, h0, h1, h2, h3, h4, h5, h6⟩ := h.at_ hk
  exact ⟨b, off, A, m, c, x, e, hx, ⟨h0, h1, h2, h3, h4, h5, h6⟩⟩

theorem isNothing_any (b off : Nat) (x : Hk) (A : Option Addr) (m c : Nat) (w : World) (h : HkC w b off x A m c) :
    Calls Try.prog 90 #[.pointer (some ⟨b, off, none⟩)] w fun e w' => e = .returned (.bool (nothing x)) ∧ w = w' := by
  obtain ⟨c0, c1, c2, hs, hmc, i0, i1⟩ := h
  have HL := Lib.hid hs.len
  by_cases h1 : x.gone = 0
  · have q1 : (x.gone == 0) = true := by simp [h1]
    have hf := Lib.hid (show nothing x = ((m : Int) == 0) by rw [Bool.eq_iff_iff]; simp [nothing, h1, HL.out])
    clear h1
    go_enter Try.func90, Try.ntmps90
    go_wp2
    go_ret
    exact ⟨ret_bool hf.out.symm, rfl⟩
  · have q1 : (x.gone == 0) = false := by simp [h1]
    have hf := Lib.hid (show nothing x = false by simp [nothing, h1])
    clear h1
    go_enter Try.func90, Try.ntmps90
    go_wp2
    go_ret
    exact ⟨ret_bool hf.out.symm, rfl⟩

set_option maxHeartbeats 400000 in
theorem areLines_any (a : Option Addr) (n c : Nat) (l : List ByteArray) (w : World) (hl : Strs w a n l) :
    Calls Try.prog 91 #[.slice a n c] w fun e w' => e = .returned (.bool (linesB l)) ∧ Below w.heap.size w w' := by
  have hlim := hl.lim
  unfold maxLen at hlim
  have HL := Lib.hid hl.len
  by_cases h40 : n ≤ 40
  · have hb40 : decide (40 < (n : Int)) = false := by simp; omega
    go_enter Try.func91, Try.ntmps91
    go_wp2
    go_loopw [10] (fun i w' => ∃ k : Nat, i = .int .i64 k ∧ k ≤ n ∧ Hid (∀ j s, j < k → l[j]? = some s → lineB s = true) ∧ Below w.heap.size w w') (fun i _ => n - (intOf i).toNat)
    case atStart => exact ⟨0, rfl, by omega, fun j s h => by omega, Below.refl _ _⟩
    case round =>
      obtain ⟨k, rfl, hk, H, hb⟩ := hrel
      by_cases hlt : k < n
      · obtain ⟨b, off, s, rfl, hs, hsz, hc⟩ := (hl.below hb).at_ hlt
        have HS := Lib.hid hs
        clear hs
        cases h1 : lineB s
        · have hf := Lib.hid (linesB_bad HS.out h1)
          go_wp2_with fail
          refine (isLine_any s _ hsz).mono ?_
          rintro e w1 ⟨rfl, hb1⟩
          rw [h1]
          go_wp2
          go_ret
          exact ⟨ret_bool hf.out.symm, hb.next hb1⟩
        · have hf := Lib.hid (line_step H.out HS.out h1)
          go_wp2_with fail
          refine (isLine_any s _ hsz).mono ?_
          rintro e w1 ⟨rfl, hb1⟩
          rw [h1]
          go_wp2
          go_roundw
          case rel => exact ⟨k + 1, by go_num, by omega, hf.out, hb.next hb1⟩
          case measure => simp [intOf]; omega
      · have hf := Lib.hid (linesB_ok (l := l) (fun j s hj => H.out j s (by have := (List.getElem?_eq_some_iff.1 hj).1; have := HL.out; omega) hj))
        go_wp2
        go_ret
        exact ⟨ret_bool (by rw [hf.out, HL.out]; simp; omega), hb⟩
  · have H := Lib.hid (show linesB l = false by simp [linesB, HL.out]; omega)
    go_enter Try.func91, Try.ntmps91
    go_wp2
    go_ret
    exact ⟨ret_bool H.out.symm, Below.refl _ _⟩

set_option maxHeartbeats 1000000 in
theorem isHunk_any (b off : Nat) (x : Hk) (A : Option Addr) (m c : Nat) (many : Int) (w : World) (h : HkC w b off x A m c) (hm0 : 0 ≤ many) (hm1 : many ≤ 40) :
    Calls Try.prog 86 #[.int .i64 many, .pointer (some ⟨b, off, none⟩)] w fun e w' => e = .returned (.bool (hunkB many x)) ∧ Below w.heap.size w w' := by
  have hh := h
  obtain ⟨c0, c1, c2, hs, hmc, i0, i1⟩ := h
  obtain ⟨i00, i01⟩ := i0
  obtain ⟨i10, i11⟩ := i1
  have HH := Lib.hid hh
  clear hh
  by_cases h1 : x.at_ < 0
  · have q1 : decide (x.at_ < 0) = true := by simpa using h1
    have hf := Lib.hid (show hunkB many x = false by simp [hunkB]; omega)
    clear h1
    go_enter Try.func86, Try.ntmps86
    go_wp2
    go_quiet (fail)
    go_wp2
    go_ret
    exact ⟨ret_bool hf.out.symm, below_drewN (Below.refl _ _) _⟩
  · have q1 : decide (x.at_ < 0) = false := by simpa using h1
    by_cases h2 : x.gone < 0
    · have q2 : decide (x.gone < 0) = true := by simpa using h2
      have hf := Lib.hid (show hunkB many x = false by simp [hunkB]; omega)
      clear h1 h2
      go_enter Try.func86, Try.ntmps86
      go_wp2
      go_quiet (fail)
      go_wp2
      go_ret
      exact ⟨ret_bool hf.out.symm, below_drewN (Below.refl _ _) _⟩
    · have q2 : decide (x.gone < 0) = false := by simpa using h2
      have hwr : IntKind.i64.wrap (many - x.at_) = many - x.at_ := by rw [IntKind.wrap_i64]; omega
      by_cases h3 : many - x.at_ < x.gone
      · have q3 : decide (many - x.at_ < x.gone) = true := by simpa using h3
        have hf := Lib.hid (show hunkB many x = false by simp [hunkB]; omega)
        clear h1 h2 h3
        go_enter Try.func86, Try.ntmps86
        go_wp2
        go_quiet (fail)
        go_wp2
        go_ret
        exact ⟨ret_bool hf.out.symm, below_drewN (Below.refl _ _) _⟩
      · have q3 : decide (many - x.at_ < x.gone) = false := by simpa using h3
        have hf := Lib.hid (show hunkB many x = (!nothing x && linesB x.new) by
          have e1 : decide (0 ≤ x.at_) = true := by simp; omega
          have e2 : decide (0 ≤ x.gone) = true := by simp; omega
          have e3 : decide (x.at_ + x.gone ≤ many) = true := by simp; omega
          simp [hunkB, e1, e2, e3])
        clear h1 h2 h3
        go_enter Try.func86, Try.ntmps86
        go_wp2
        go_quiet (fail)
        go_wp2_with fail
        refine (isNothing_any b off x A m c _ (HH.out.below (below_drewN (Below.refl _ _) _))).mono ?_
        rintro e w1 ⟨rfl, rfl⟩
        cases hq : nothing x
        · go_wp2_with fail
          refine (areLines_any A m c x.new _ (hs.below (below_drewN (Below.refl _ _) _))).mono ?_
          rintro e w1 ⟨rfl, b1⟩
          go_wp2
          go_ret
          exact ⟨ret_bool (by rw [hf.out, hq]; rfl), (below_drewN (Below.refl _ _) _).next b1⟩
        · go_wp2
          go_ret
          exact ⟨ret_bool (by rw [hf.out, hq]; rfl), below_drewN (Below.refl _ _) _⟩

set_option maxHeartbeats 1000000 in
theorem implGoodHunks_any (many : Int) (a : Option Addr) (n c : Nat) (l : List Hk) (w : World) (hl : Hks w a n l) (hmany : i64ok many) :
    Calls Try.prog 67 #[.int .i64 many, .slice a n c] w fun e w' => e = .returned (.bool (goodH many l)) ∧ Below w.heap.size w w' := by
  have hlim := hl.lim
  unfold maxLen at hlim
  have HL := Lib.hid hl.len
  obtain ⟨hy0, hy1⟩ := hmany
  by_cases h0 : many < 0
  · have q0 : decide (many < 0) = true := by simpa using h0
    have hf := Lib.hid (show goodH many l = false by simp [goodH]; omega)
    clear h0
    go_enter Try.func67, Try.ntmps67
    go_wp2
    go_ret
    exact ⟨ret_bool hf.out.symm, Below.refl _ _⟩
  · have q0 : decide (many < 0) = false := by simpa using h0
    by_cases h1 : 40 < many
    · have q1 : decide (40 < many) = true := by simpa using h1
      have hf := Lib.hid (show goodH many l = false by simp [goodH]; omega)
      clear h0 h1
      go_enter Try.func67, Try.ntmps67
      go_wp2
      go_ret
      exact ⟨ret_bool hf.out.symm, Below.refl _ _⟩
    · have q1 : decide (40 < many) = false := by simpa using h1
      have hm0 : 0 ≤ many := by omega
      have hm1 : many ≤ 40 := by omega
      by_cases h2 : 20 < n
      · have q2 : decide (20 < (n : Int)) = true := by simp; omega
        have hf := Lib.hid (show goodH many l = false by simp [goodH, HL.out]; omega)
        clear h0 h1 h2
        go_enter Try.func67, Try.ntmps67
        go_wp2
        go_ret
        exact ⟨ret_bool hf.out.symm, Below.refl _ _⟩
      · have q2 : decide (20 < (n : Int)) = false := by simp; omega
        have hn20 : n ≤ 20 := by omega
        clear h0 h1 h2
        go_enter Try.func67, Try.ntmps67
        go_wp2
        go_loopw [5, 21] (fun q i w' => ∃ k : Nat, ∃ e : Int, i = .int .i64 k ∧ q = .int .i64 e ∧ k ≤ n ∧ -1 ≤ e ∧ e ≤ 40 ∧ Hid (riseB many e (l.drop k) = riseB many (-1) l) ∧ Below w.heap.size w w') (fun _ i _ => n - (intOf i).toNat)
        case atStart => exact ⟨0, -1, rfl, rfl, by omega, by omega, by omega, rfl, Below.refl _ _⟩
        case round =>
          obtain ⟨k, e, rfl, rfl, hk, he0, he1, H, hb⟩ := hrel
          by_cases hlt : k < n
          · obtain ⟨b, off, A, m, c', x, rfl, hx, hc⟩ := (hl.below hb).atc hlt
            have HX := Lib.hid hx
            have HC := Lib.hid hc
            clear hx hc
            have hst := Lib.hid (rise_step (many := many) (e := e) HX.out)
            cases hq : hunkB many x
            · have hf := Lib.hid (goodH_bad (show riseB many (-1) l = false by rw [← H.out, hst.out, hq]; rfl))
              go_wp2_with fail
              refine (isHunk_any b (off + k * 3) x A m c' many _ HC.out hm0 hm1).mono ?_
              rintro e' w1 ⟨rfl, b1⟩
              rw [hq]
              go_wp2
              go_ret
              exact ⟨ret_bool hf.out.symm, hb.next b1⟩
            · have hx0 : 0 ≤ x.at_ ∧ 0 ≤ x.gone ∧ x.at_ + x.gone ≤ many := by
                simp [hunkB] at hq; omega
              obtain ⟨hx0, hx1, hx2⟩ := hx0
              by_cases h3 : x.at_ ≤ e
              · have q3 : decide (x.at_ ≤ e) = true := by simpa using h3
                have hf := Lib.hid (goodH_bad (show riseB many (-1) l = false by
                  rw [← H.out, hst.out]
                  have : decide (e < x.at_) = false := by simp; omega
                  rw [this]; simp))
                clear h3
                go_wp2_with fail
                refine (isHunk_any b (off + k * 3) x A m c' many _ HC.out hm0 hm1).mono ?_
                rintro e' w1 ⟨rfl, b1⟩
                rw [hq]
                obtain ⟨c0, c1, c2, hs, hmc, i0, i1⟩ := HC.out.below b1
                go_wp2
                go_ret
                exact ⟨ret_bool hf.out.symm, hb.next b1⟩
              · have q3 : decide (x.at_ ≤ e) = false := by simpa using h3
                have hrest := Lib.hid (show riseB many (x.at_ + x.gone) (l.drop (k + 1)) = riseB many (-1) l by
                  rw [← H.out, hst.out, hq]
                  have : decide (e < x.at_) = true := by simp; omega
                  rw [this]; rfl)
                have hwr : IntKind.i64.wrap (x.at_ + x.gone) = x.at_ + x.gone := by rw [IntKind.wrap_i64]; omega
                clear h3
                go_wp2_with fail
                refine (isHunk_any b (off + k * 3) x A m c' many _ HC.out hm0 hm1).mono ?_
                rintro e' w1 ⟨rfl, b1⟩
                rw [hq]
                obtain ⟨c0, c1, c2, hs, hmc, i0, i1⟩ := HC.out.below b1
                go_wp2
                go_quiet (fail)
                go_wp2
                go_roundw
                case rel => exact ⟨k + 1, x.at_ + x.gone, by go_num, rfl, by omega, by omega, by omega, hrest.out, below_drewN (hb.next b1) _⟩
                case measure => simp [intOf]; omega
          · have hf := Lib.hid (goodH_ok (many := many) (l := l) (by rw [← H.out]; exact rise_end (by rw [HL.out]; omega)))
            go_wp2
            go_ret
            exact ⟨ret_bool (by rw [hf.out, HL.out]; simp; omega), hb⟩

end Go.Proofs.Ytgohaemmnpifbaa
