/-
  GoodHunks, the program's and the model's.
  GoodHunks of the model, and the law on it.
-/
import Derived.Test.YtnnaigoomipklaaDoorOkHMems
import Derived.Test.YtnnaigoomipklaaDoorOkGood
set_option linter.unusedSimpArgs false
set_option linter.unusedVariables false
namespace Go.Proofs.YtnnaigoomipklaaDoor
open Go.RowKit M

/-- The three cells of a hunk at a place. -/
structure HkC (w : World) (b off : Nat) (x : Hk) (A : Option Addr) (m c : Nat) : Prop where
  c0 : w.cell? ⟨b, off, none⟩ = some (.int .i64 x.at_)
  c1 : w.cell? ⟨b, off + 1, none⟩ = some (.int .i64 x.gone)
  c2 : w.cell? ⟨b, off + 2, none⟩ = some (.slice A m c)
  strs : Strs w A m x.new
  mc : m ≤ c
  i0 : i64ok x.at_
  i1 : i64ok x.gone
theorem HkC.below {w w' : World} {b off : Nat} {x : Hk} {A : Option Addr} {m c : Nat} (h : HkC w b off x A m c) (hb : Below w.heap.size w w') : HkC w' b off x A m c :=
  ⟨cell_keep hb h.c0, cell_keep hb h.c1, cell_keep hb h.c2, h.strs.below hb, h.mc, h.i0, h.i1⟩
theorem Hks.atc {w : World} {a : Option Addr} {n k : Nat} {l : List Hk} (h : Hks w a n l) (hk : k < n) : ∃ b off A m c x, a = some ⟨b, off, none⟩ ∧ l[k]? = some x ∧ HkC w b (off + k * 3) x A m c := by
  obtain ⟨b, off, A, m, c, x, e, hx, h0, h1, h2, h3, h4, h5, h6⟩ := h.at_ hk
  exact ⟨b, off, A, m, c, x, e, hx, ⟨h0, h1, h2, h3, h4, h5, h6⟩⟩

theorem isNothing_any (b off : Nat) (x : Hk) (A : Option Addr) (m c : Nat) (w : World) (h : HkC w b off x A m c) :
    Calls Tryd.prog 114 #[.pointer (some ⟨b, off, none⟩)] w fun e w' => e = .returned (.bool (nothing x)) ∧ w = w' := by
  obtain ⟨c0, c1, c2, hs, hmc, i0, i1⟩ := h
  have HL := Lib.hid hs.len
  by_cases h1 : x.gone = 0
  · have q1 : (x.gone == 0) = true := by simp [h1]
    have hf := Lib.hid (show nothing x = ((m : Int) == 0) by rw [Bool.eq_iff_iff]; simp [nothing, h1, HL.out])
    clear h1
    go_enter Tryd.func114, Tryd.ntmps114
    go_wp2
    go_ret
    exact ⟨ret_bool hf.out.symm, rfl⟩
  · have q1 : (x.gone == 0) = false := by simp [h1]
    have hf := Lib.hid (show nothing x = false by simp [nothing, h1])
    clear h1
    go_enter Tryd.func114, Tryd.ntmps114
    go_wp2
    go_ret
    exact ⟨ret_bool hf.out.symm, rfl⟩

set_option maxHeartbeats 400000 in
theorem areLines_any (a : Option Addr) (n c : Nat) (l : List ByteArray) (w : World) (hl : Strs w a n l) :
    Calls Tryd.prog 115 #[.slice a n c] w fun e w' => e = .returned (.bool (linesB l)) ∧ Below w.heap.size w w' := by
  have hlim := hl.lim
  unfold maxLen at hlim
  have HL := Lib.hid hl.len
  by_cases h40 : n ≤ 40
  · have hb40 : decide (40 < (n : Int)) = false := by simp; omega
    go_enter Tryd.func115, Tryd.ntmps115
    go_wp2
    go_loopw [10] (fun i w' => ∃ k : Nat, i = .int .i64 k ∧ k ≤ n ∧ Hid (∀ j s, j < k → l[j]? = some s → lineB s = true) ∧ Below w.heap.size w w') (fun i _ => n - (intOf i).toNat)
    case atStart => exact ⟨0, rfl, by omega, fun j s h => by omega, Below.refl _ _⟩
    case round =>
      obtain ⟨k, rfl, hk, H, hb⟩ := hrel
      by_cases hlt : k < n
      · obtain ⟨b, off, s, rfl, hs, hsz, hc⟩ := (hl.below hb).at_ hlt
        have HS := Lib.hid hs
        clear hs
        cases h1 : lineB s
        · have hf := Lib.hid (linesB_bad HS.out h1)
          go_wp2_with fail
          refine (isLine_any s _ hsz).mono ?_
          rintro e w1 ⟨rfl, hb1⟩
          rw [h1]
          go_wp2
          go_ret
          exact ⟨ret_bool hf.out.symm, hb.next hb1⟩
        · have hf := Lib.hid (line_step H.out HS.out h1)
          go_wp2_with fail
          refine (isLine_any s _ hsz).mono ?_
          rintro e w1 ⟨rfl, hb1⟩
          rw [h1]
          go_wp2
          go_roundw
          case rel => exact ⟨k + 1, by go_num, by omega, hf.out, hb.next hb1⟩
          case measure => simp [intOf]; omega
      · have hf := Lib.hid (linesB_ok (l := l) (fun j s hj => H.out j s (by have := (List.getElem?_eq_some_iff.1 hj).1; have := HL.out; omega) hj))
        go_wp2
        go_ret
        exact ⟨ret_bool (by rw [hf.out, HL.out]; simp; omega), hb⟩
  · have H := Lib.hid (show linesB l = false by simp [linesB, HL.out]; omega)
    go_enter Tryd.func115, Tryd.ntmps115
    go_wp2
    go_ret
    exact ⟨ret_bool H.out.symm, Below.refl _ _⟩

set_option maxHeartbeats 1000000 in
theorem isHunk_any (b off : Nat) (x : Hk) (A : Option Addr) (m c : Nat) (many : Int) (w : World) (h : HkC w b off x A m c) (hm0 : 0 ≤ many) (hm1 : many ≤ 40) :
    Calls Tryd.prog 108 #[.int .i64 many, .pointer (some ⟨b, off, none⟩)] w fun e w' => e = .returned (.bool (hunkB many x)) ∧ Below w.heap.size w w' := by
  have hh := h
  obtain ⟨c0, c1, c2, hs, hmc, i0, i1⟩ := h
  obtain ⟨i00, i01⟩ := i0
  obtain ⟨i10, i11⟩ := i1
  have HH := Lib.hid hh
  clear hh
  by_cases h1 : x.at_ < 0
  · have q1 : decide (x.at_ < 0) = true := by simpa using h1
    have hf := Lib.hid (show hunkB many x = false by simp [hunkB]; omega)
    clear h1
    go_enter Tryd.func108, Tryd.ntmps108
    go_wp2
    go_quiet (fail)
    go_wp2
    go_ret
    exact ⟨ret_bool hf.out.symm, below_drewN (Below.refl _ _) _⟩
  · have q1 : decide (x.at_ < 0) = false := by simpa using h1
    by_cases h2 : x.gone < 0
    · have q2 : decide (x.gone < 0) = true := by simpa using h2
      have hf := Lib.hid (show hunkB many x = false by simp [hunkB]; omega)
      clear h1 h2
      go_enter Tryd.func108, Tryd.ntmps108
      go_wp2
      go_quiet (fail)
      go_wp2
      go_ret
      exact ⟨ret_bool hf.out.symm, below_drewN (Below.refl _ _) _⟩
    · have q2 : decide (x.gone < 0) = false := by simpa using h2
      have hwr : IntKind.i64.wrap (many - x.at_) = many - x.at_ := by rw [IntKind.wrap_i64]; omega
      by_cases h3 : many - x.at_ < x.gone
      · have q3 : decide (many - x.at_ < x.gone) = true := by simpa using h3
        have hf := Lib.hid (show hunkB many x = false by simp [hunkB]; omega)
        clear h1 h2 h3
        go_enter Tryd.func108, Tryd.ntmps108
        go_wp2
        go_quiet (fail)
        go_wp2
        go_ret
        exact ⟨ret_bool hf.out.symm, below_drewN (Below.refl _ _) _⟩
      · have q3 : decide (many - x.at_ < x.gone) = false := by simpa using h3
        have hf := Lib.hid (show hunkB many x = (!nothing x && linesB x.new) by
          have e1 : decide (0 ≤ x.at_) = true := by simp; omega
          have e2 : decide (0 ≤ x.gone) = true := by simp; omega
          have e3 : decide (x.at_ + x.gone ≤ many) = true := by simp; omega
          simp [hunkB, e1, e2, e3])
        clear h1 h2 h3
        go_enter Tryd.func108, Tryd.ntmps108
        go_wp2
        go_quiet (fail)
        go_wp2_with fail
        refine (isNothing_any b off x A m c _ (HH.out.below (below_drewN (Below.refl _ _) _))).mono ?_
        rintro e w1 ⟨rfl, rfl⟩
        cases hq : nothing x
        · go_wp2_with fail
          refine (areLines_any A m c x.new _ (hs.below (below_drewN (Below.refl _ _) _))).mono ?_
          rintro e w1 ⟨rfl, b1⟩
          go_wp2
          go_ret
          exact ⟨ret_bool (by rw [hf.out, hq]; rfl), (below_drewN (Below.refl _ _) _).next b1⟩
        · go_wp2
          go_ret
          exact ⟨ret_bool (by rw [hf.out, hq]; rfl), below_drewN (Below.refl _ _) _⟩

set_option maxHeartbeats 1000000 in
theorem implGoodHunks_any (many : Int) (a : Option Addr) (n c : Nat) (l : List Hk) (w : World) (hl : Hks w a n l) (hmany : i64ok many) :
    Calls Tryd.prog 89 #[.int .i64 many, .slice a n c] w fun e w' => e = .returned (.bool (goodH many l)) ∧ Below w.heap.size w w' := by
  have hlim := hl.lim
  unfold maxLen at hlim
  have HL := Lib.hid hl.len
  obtain ⟨hy0, hy1⟩ := hmany
  by_cases h0 : many < 0
  · have q0 : decide (many < 0) = true := by simpa using h0
    have hf := Lib.hid (show goodH many l = false by simp [goodH]; omega)
    clear h0
    go_enter Tryd.func89, Tryd.ntmps89
    go_wp2
    go_ret
    exact ⟨ret_bool hf.out.symm, Below.refl _ _⟩
  · have q0 : decide (many < 0) = false := by simpa using h0
    by_cases h1 : 40 < many
    · have q1 : decide (40 < many) = true := by simpa using h1
      have hf := Lib.hid (show goodH many l = false by simp [goodH]; omega)
      clear h0 h1
      go_enter Tryd.func89, Tryd.ntmps89
      go_wp2
      go_ret
      exact ⟨ret_bool hf.out.symm, Below.refl _ _⟩
    · have q1 : decide (40 < many) = false := by simpa using h1
      have hm0 : 0 ≤ many := by omega
      have hm1 : many ≤ 40 := by omega
      by_cases h2 : 20 < n
      · have q2 : decide (20 < (n : Int)) = true := by simp; omega
        have hf := Lib.hid (show goodH many l = false by simp [goodH, HL.out]; omega)
        clear h0 h1 h2
        go_enter Tryd.func89, Tryd.ntmps89
        go_wp2
        go_ret
        exact ⟨ret_bool hf.out.symm, Below.refl _ _⟩
      · have q2 : decide (20 < (n : Int)) = false := by simp; omega
        have hn20 : n ≤ 20 := by omega
        clear h0 h1 h2
        go_enter Tryd.func89, Tryd.ntmps89
        go_wp2
        go_loopw [5, 21] (fun q i w' => ∃ k : Nat, ∃ e : Int, i = .int .i64 k ∧ q = .int .i64 e ∧ k ≤ n ∧ -1 ≤ e ∧ e ≤ 40 ∧ Hid (riseB many e (l.drop k) = riseB many (-1) l) ∧ Below w.heap.size w w') (fun _ i _ => n - (intOf i).toNat)
        case atStart => exact ⟨0, -1, rfl, rfl, by omega, by omega, by omega, rfl, Below.refl _ _⟩
        case round =>
          obtain ⟨k, e, rfl, rfl, hk, he0, he1, H, hb⟩ := hrel
          by_cases hlt : k < n
          · obtain ⟨b, off, A, m, c', x, rfl, hx, hc⟩ := (hl.below hb).atc hlt
            have HX := Lib.hid hx
            have HC := Lib.hid hc
            clear hx hc
            have hst := Lib.hid (rise_step (many := many) (e := e) HX.out)
            cases hq : hunkB many x
            · have hf := Lib.hid (goodH_bad (show riseB many (-1) l = false by rw [← H.out, hst.out, hq]; rfl))
              go_wp2_with fail
              refine (isHunk_any b (off + k * 3) x A m c' many _ HC.out hm0 hm1).mono ?_
              rintro e' w1 ⟨rfl, b1⟩
              rw [hq]
              go_wp2
              go_ret
              exact ⟨ret_bool hf.out.symm, hb.next b1⟩
            · have hx0 : 0 ≤ x.at_ ∧ 0 ≤ x.gone ∧ x.at_ + x.gone ≤ many := by
                simp [hunkB] at hq; omega
              obtain ⟨hx0, hx1, hx2⟩ := hx0
              by_cases h3 : x.at_ ≤ e
              · have q3 : decide (x.at_ ≤ e) = true := by simpa using h3
                have hf := Lib.hid (goodH_bad (show riseB many (-1) l = false by
                  rw [← H.out, hst.out]
                  have : decide (e < x.at_) = false := by simp; omega
                  rw [this]; simp))
                clear h3
                go_wp2_with fail
                refine (isHunk_any b (off + k * 3) x A m c' many _ HC.out hm0 hm1).mono ?_
                rintro e' w1 ⟨rfl, b1⟩
                rw [hq]
                obtain ⟨c0, c1, c2, hs, hmc, i0, i1⟩ := HC.out.below b1
                go_wp2
                go_ret
                exact ⟨ret_bool hf.out.symm, hb.next b1⟩
              · have q3 : decide (x.at_ ≤ e) = false := by simpa using h3
                have hrest := Lib.hid (show riseB many (x.at_ + x.gone) (l.drop (k + 1)) = riseB many (-1) l by
                  rw [← H.out, hst.out, hq]
                  have : decide (e < x.at_) = true := by simp; omega
                  rw [this]; rfl)
                have hwr : IntKind.i64.wrap (x.at_ + x.gone) = x.at_ + x.gone := by rw [IntKind.wrap_i64]; omega
                clear h3
                go_wp2_with fail
                refine (isHunk_any b (off + k * 3) x A m c' many _ HC.out hm0 hm1).mono ?_
                rintro e' w1 ⟨rfl, b1⟩
                rw [hq]
                obtain ⟨c0, c1, c2, hs, hmc, i0, i1⟩ := HC.out.below b1
                go_wp2
                go_quiet (fail)
                go_wp2
                go_roundw
                case rel => exact ⟨k + 1, x.at_ + x.gone, by go_num, rfl, by omega, by omega, by omega, hrest.out, below_drewN (hb.next b1) _⟩
                case measure => simp [intOf]; omega
          · have hf := Lib.hid (goodH_ok (many := many) (l := l) (by rw [← H.out]; exact rise_end (by rw [HL.out]; omega)))
            go_wp2
            go_ret
            exact ⟨ret_bool (by rw [hf.out, HL.out]; simp; omega), hb⟩

end Go.Proofs.YtnnaigoomipklaaDoor

namespace Go.Proofs.YtnnaigoomipklaaDoor
open Go.RowKit M

theorem hunkB_no {many : Int} {x : Hk} (h : x.at_ < 0 ∨ x.gone < 0 ∨ many < x.at_ + x.gone ∨ nothing x = true ∨ linesB x.new = false) : hunkB many x = false := by
  rw [Bool.eq_false_iff]
  intro e
  simp only [hunkB, Bool.and_eq_true, decide_eq_true_eq, Bool.not_eq_true'] at e
  obtain ⟨⟨⟨⟨e1, e2⟩, e3⟩, e4⟩, e5⟩ := e
  rcases h with h | h | h | h | h
  · omega
  · omega
  · omega
  · rw [e4] at h; cases h
  · rw [e5] at h; cases h
theorem hunkB_yes {many : Int} {x : Hk} (h0 : 0 ≤ x.at_) (h1 : 0 ≤ x.gone) (h2 : x.at_ + x.gone ≤ many) (h3 : nothing x = false) : hunkB many x = linesB x.new := by
  simp [hunkB, h0, h1, h2, h3]
theorem rise_bad {many e : Int} {l : List Hk} {k : Nat} {x : Hk} (h : l[k]? = some x) (H : riseB many e (l.drop k) = riseB many (-1) l) (hx : hunkB many x = false ∨ x.at_ ≤ e) : goodH many l = false := by
  refine goodH_bad ?_
  rw [← H, rise_step h]
  rcases hx with hx | hx
  · rw [hx]; rfl
  · have : decide (e < x.at_) = false := by simp; omega
    rw [this]; simp

theorem rise_on {many e : Int} {l : List Hk} {k : Nat} {x : Hk} (h : l[k]? = some x) (H : riseB many e (l.drop k) = riseB many (-1) l) (hx : hunkB many x = true) (he : e < x.at_) : riseB many (x.at_ + x.gone) (l.drop (k + 1)) = riseB many (-1) l := by
  rw [← H, rise_step h, hx]
  have : decide (e < x.at_) = true := by simpa using he
  rw [this]
  rfl

set_option maxHeartbeats 4000000 in
set_option maxRecDepth 100000 in
theorem l2Hunks_any (many : Int) (a : Option Addr) (n c : Nat) (l : List Hk) (w : World) (hl : Hks w a n l) (hmany : i64ok many) (hnew : ∀ x ∈ l, x.new.length ≤ 1048576) :
    Calls Tryd.prog 109 #[.int .i64 many, .slice a n c] w fun e w' => e = .returned (.bool (goodH many l)) ∧ Below w.heap.size w w' := by
  have hlim := hl.lim
  unfold maxLen at hlim
  have HL := Lib.hid hl.len
  have HNEW := Lib.hid hnew
  obtain ⟨hy0, hy1⟩ := hmany
  clear hnew
  go_enter Tryd.func109, Tryd.ntmps109
  go_wp2
  go_loopw [11] (fun i w' => ∃ k : Nat, ∃ e : Int, i = .int .i64 k ∧ k ≤ n ∧ Hid ((k = 0 ∧ e = -1) ∨ (0 < k ∧ ∃ y, l[k - 1]? = some y ∧ e = y.at_ + y.gone ∧ 0 ≤ y.at_ ∧ 0 ≤ y.gone ∧ y.at_ + y.gone ≤ many)) ∧ Hid (riseB many e (l.drop k) = riseB many (-1) l) ∧ Below w.heap.size w w') (fun i _ => n - (intOf i).toNat)
  case atStart => exact ⟨0, -1, rfl, by omega, .inl ⟨rfl, rfl⟩, rfl, Below.refl _ _⟩
  case round =>
    obtain ⟨k, e, rfl, hk, HE, H, hb⟩ := hrel
    by_cases hlt : k < n
    · obtain ⟨b, off, A, m, c', x, rfl, hx, c0, c1, c2, hs, hmc, i0, i1⟩ := (hl.below hb).atc hlt
      have HX := Lib.hid hx
      have hm20 : m ≤ 1048576 := by rw [← hs.len]; exact HNEW.out x (List.mem_of_getElem? hx)
      clear hx
      have HM := Lib.hid hs.len
      obtain ⟨i00, i01⟩ := i0
      obtain ⟨i10, i11⟩ := i1
      by_cases h1 : x.at_ < 0
      · have q1 : decide (x.at_ < 0) = true := by simpa using h1
        have hf := Lib.hid (rise_bad HX.out H.out (.inl (hunkB_no (.inl h1))))
        clear h1
        go_wp2
        go_quiet (fail)
        go_wp2
        go_ret
        exact ⟨ret_bool hf.out.symm, below_drewN (hb.next (below_alloc _ _)) _⟩
      · have q1 : decide (x.at_ < 0) = false := by simpa using h1
        by_cases h2 : x.gone < 0
        · have q2 : decide (x.gone < 0) = true := by simpa using h2
          have hf := Lib.hid (rise_bad HX.out H.out (.inl (hunkB_no (.inr (.inl h2)))))
          clear h1 h2
          go_wp2
          go_quiet (fail)
          go_wp2
          go_ret
          exact ⟨ret_bool hf.out.symm, below_drewN (hb.next (below_alloc _ _)) _⟩
        · have q2 : decide (x.gone < 0) = false := by simpa using h2
          by_cases h3 : many < x.gone
          · have q3 : decide (many < x.gone) = true := by simpa using h3
            have hf := Lib.hid (rise_bad HX.out H.out (.inl (hunkB_no (.inr (.inr (.inl (by omega)))))))
            clear h1 h2 h3
            go_wp2
            go_quiet (fail)
            go_wp2
            go_ret
            exact ⟨ret_bool hf.out.symm, below_drewN (hb.next (below_alloc _ _)) _⟩
          · have q3 : decide (many < x.gone) = false := by simpa using h3
            have hwr : IntKind.i64.wrap (many - x.gone) = many - x.gone := by rw [IntKind.wrap_i64]; omega
            by_cases h4 : many - x.gone < x.at_
            · have q4 : decide (many - x.gone < x.at_) = true := by simpa using h4
              have hf := Lib.hid (rise_bad HX.out H.out (.inl (hunkB_no (.inr (.inr (.inl (by omega)))))))
              clear h1 h2 h3 h4
              go_wp2
              go_quiet (fail)
              go_wp2
              go_ret
              exact ⟨ret_bool hf.out.symm, below_drewN (hb.next (below_alloc _ _)) _⟩
            · have q4 : decide (many - x.gone < x.at_) = false := by simpa using h4
              have hx0 : 0 ≤ x.at_ := by omega
              have hx1 : 0 ≤ x.gone := by omega
              have hx2 : x.at_ + x.gone ≤ many := by omega
              obtain ⟨s, hws, hs5⟩ : ∃ s, IntKind.i64.wrap (x.gone + (m : Int)) = s ∧ Hid (s = 0 ↔ nothing x = true) := by
                refine ⟨_, rfl, ?_⟩
                show _ ↔ _
                rw [IntKind.wrap_i64]
                simp only [nothing, Bool.and_eq_true, decide_eq_true_eq, HM.out]
                omega
              by_cases h5 : s = 0
              · have q5 : (s == 0) = true := by simp [h5]
                have hf := Lib.hid (rise_bad HX.out H.out (.inl (hunkB_no (.inr (.inr (.inr (.inl (hs5.out.1 h5))))))))
                clear h1 h2 h3 h4 h5
                go_wp2
                go_quiet (fail)
                go_wp2
                go_ret
                exact ⟨ret_bool hf.out.symm, below_drewN (hb.next (below_alloc _ _)) _⟩
              · have q5 : (s == 0) = false := by simp [h5]
                have hno := Lib.hid (show nothing x = false by rw [Bool.eq_false_iff]; exact fun h => h5 (hs5.out.2 h))
                have hyes := Lib.hid (hunkB_yes hx0 hx1 hx2 hno.out)
                clear h1 h2 h3 h4 h5
                by_cases h6 : 40 < m
                · have q6 : decide (40 < (m : Int)) = true := by simp; omega
                  have hf := Lib.hid (rise_bad HX.out H.out (.inl (by rw [hyes.out]; simp [linesB, HM.out]; omega)))
                  clear h6
                  go_wp2
                  go_quiet (fail)
                  go_wp2
                  go_ret
                  exact ⟨ret_bool hf.out.symm, below_drewN (hb.next (below_alloc _ _)) _⟩
                · have q6 : decide (40 < (m : Int)) = false := by simp; omega
                  have hm40 : m ≤ 40 := by omega
                  have hl40 := Lib.hid (show decide (x.new.length ≤ 40) = true by rw [HM.out]; simp; omega)
                  clear h6
                  by_cases h7 : 0 < k
                  · have q7 : decide (0 < k) = true := by simp; omega
                    obtain ⟨y, hy, he, hy2, hy3, hy4⟩ : ∃ y, l[k - 1]? = some y ∧ e = y.at_ + y.gone ∧ 0 ≤ y.at_ ∧ 0 ≤ y.gone ∧ y.at_ + y.gone ≤ many := by
                      rcases HE.out with ⟨h8, _⟩ | ⟨_, h8⟩
                      · omega
                      · exact h8
                    obtain ⟨b', off', A', m', c'', y', hb', hy', p0, p1, p2, hps, _, _, _⟩ := (hl.below hb).atc (show k - 1 < n by omega)
                    rw [hy] at hy'
                    injection hy' with hy'
                    subst hy'
                    injection hb' with hb'
                    injection hb' with hb1 hb2
                    subst hb1 hb2
                    have HY := Lib.hid hy
                    clear hy
                    have hpa : ∀ o, (wr.alloc o).cell? ⟨b, off + (k - 1) * 3, none⟩ = some (.int .i64 y.at_) := fun o => cell_keep (below_alloc wr o) p0
                    have hpb : ∀ o, (wr.alloc o).cell? ⟨b, off + (k - 1) * 3 + 1, none⟩ = some (.int .i64 y.gone) := fun o => cell_keep (below_alloc wr o) p1
                    have HEE := Lib.hid he
                    clear he
                    have hwi : IntKind.i64.wrap ((k : Int) - 1) = ((k - 1 : Nat) : Int) := by rw [IntKind.wrap_i64]; omega
                    have hi0 : (0 : Int) ≤ ((k - 1 : Nat) : Int) := by omega
                    have hi1 : ((k - 1 : Nat) : Int) < (n : Int) := by omega
                    have hwe : IntKind.i64.wrap (y.at_ + y.gone) = y.at_ + y.gone := by rw [IntKind.wrap_i64]; omega
                    by_cases h8 : x.at_ ≤ y.at_ + y.gone
                    · have q8 : decide (x.at_ ≤ y.at_ + y.gone) = true := by simpa using h8
                      have hf := Lib.hid (rise_bad HX.out H.out (.inr (by rw [HEE.out]; exact h8)))
                      clear h7 h8
                      go_wp2
                      go_quiet (fail)
                      go_wp2
                      go_ret
                      exact ⟨ret_bool hf.out.symm, below_drewN (hb.next (below_alloc _ _)) _⟩
                    · have q8 : decide (x.at_ ≤ y.at_ + y.gone) = false := by simpa using h8
                      have hgt := Lib.hid (show e < x.at_ by rw [HEE.out]; omega)
                      clear h7 h8
                      go_wp2
                      go_quiet (fail)
                      go_wp2
                      go_loopw [79] (fun i w' => ∃ j : Nat, i = .int .i64 j ∧ j ≤ m ∧ Hid (∀ i s, i < j → x.new[i]? = some s → lineB s = true) ∧ Below wr.heap.size wr w') (fun i _ => m - (intOf i).toNat)
                      case atStart => exact ⟨0, rfl, by omega, fun j s h => by omega, below_drewN (below_alloc _ _) _⟩
                      case round =>
                        obtain ⟨j, rfl, hj, HJ, hbj⟩ := hrel
                        by_cases hjm : j < m
                        · obtain ⟨bs, offs, t, rfl, ht, htz, hct⟩ := (hs.below hbj).at_ hjm
                          have HT := Lib.hid ht
                          clear ht
                          cases hq : lineB t
                          · have hf := Lib.hid (rise_bad HX.out H.out (.inl (by rw [hyes.out]; exact linesB_bad HT.out hq)))
                            go_wp2_with fail
                            refine (l1Line_any t _ htz).mono ?_
                            rintro e' w' ⟨rfl, rfl⟩
                            rw [hq]
                            go_wp2
                            go_ret
                            exact ⟨ret_bool hf.out.symm, hb.next hbj⟩
                          · have hf := Lib.hid (line_step HJ.out HT.out hq)
                            go_wp2_with fail
                            refine (l1Line_any t _ htz).mono ?_
                            rintro e' w' ⟨rfl, rfl⟩
                            rw [hq]
                            go_wp2
                            go_roundw
                            case rel => exact ⟨j + 1, by go_num, by omega, hf.out, hbj⟩
                            case measure => simp [intOf]; omega
                        · have hrest := Lib.hid (rise_on HX.out H.out (by
                            rw [hyes.out, linesB_ok (fun i s hi => HJ.out i s (by have := (List.getElem?_eq_some_iff.1 hi).1; have := HM.out; omega) hi), hl40.out]) hgt.out)
                          have hbn := hb.next hbj
                          go_wp2
                          go_roundw
                          case rel => exact ⟨k + 1, x.at_ + x.gone, by go_num, by omega, .inr ⟨by omega, x, by rw [Nat.add_sub_cancel]; exact HX.out, rfl, hx0, hx1, hx2⟩, hrest.out, hbn⟩
                          case measure => simp [intOf]; omega
                  · have q7 : decide (0 < k) = false := by simp; omega
                    have hgt := Lib.hid (show e < x.at_ by rcases HE.out with ⟨_, h8⟩ | ⟨h8, _⟩ <;> omega)
                    clear h7
                    go_wp2
                    go_quiet (fail)
                    go_wp2
                    go_loopw [79] (fun i w' => ∃ j : Nat, i = .int .i64 j ∧ j ≤ m ∧ Hid (∀ i s, i < j → x.new[i]? = some s → lineB s = true) ∧ Below wr.heap.size wr w') (fun i _ => m - (intOf i).toNat)
                    case atStart => exact ⟨0, rfl, by omega, fun j s h => by omega, below_drewN (below_alloc _ _) _⟩
                    case round =>
                      obtain ⟨j, rfl, hj, HJ, hbj⟩ := hrel
                      by_cases hjm : j < m
                      · obtain ⟨bs, offs, t, rfl, ht, htz, hct⟩ := (hs.below hbj).at_ hjm
                        have HT := Lib.hid ht
                        clear ht
                        cases hq : lineB t
                        · have hf := Lib.hid (rise_bad HX.out H.out (.inl (by rw [hyes.out]; exact linesB_bad HT.out hq)))
                          go_wp2_with fail
                          refine (l1Line_any t _ htz).mono ?_
                          rintro e' w' ⟨rfl, rfl⟩
                          rw [hq]
                          go_wp2
                          go_ret
                          exact ⟨ret_bool hf.out.symm, hb.next hbj⟩
                        · have hf := Lib.hid (line_step HJ.out HT.out hq)
                          go_wp2_with fail
                          refine (l1Line_any t _ htz).mono ?_
                          rintro e' w' ⟨rfl, rfl⟩
                          rw [hq]
                          go_wp2
                          go_roundw
                          case rel => exact ⟨j + 1, by go_num, by omega, hf.out, hbj⟩
                          case measure => simp [intOf]; omega
                      · have hrest := Lib.hid (rise_on HX.out H.out (by
                          rw [hyes.out, linesB_ok (fun i s hi => HJ.out i s (by have := (List.getElem?_eq_some_iff.1 hi).1; have := HM.out; omega) hi), hl40.out]) hgt.out)
                        have hbn := hb.next hbj
                        go_wp2
                        go_roundw
                        case rel => exact ⟨k + 1, x.at_ + x.gone, by go_num, by omega, .inr ⟨by omega, x, by rw [Nat.add_sub_cancel]; exact HX.out, rfl, hx0, hx1, hx2⟩, hrest.out, hbn⟩
                        case measure => simp [intOf]; omega
    · have hf := Lib.hid (goodH_ok (many := many) (l := l) (by rw [← H.out]; exact rise_end (by rw [HL.out]; omega)))
      by_cases h20 : n ≤ 20
      · have q20 : decide ((n : Int) ≤ 20) = true := by simp; omega
        go_wp2_with fail
        refine (l1In_any _ _ _ _).mono ?_
        rintro e' w' ⟨rfl, rfl⟩
        go_wp2
        go_ret
        exact ⟨ret_bool (by rw [hf.out, HL.out]; simp [h20]), hb⟩
      · have q20 : decide ((n : Int) ≤ 20) = false := by simp; omega
        go_wp2
        go_ret
        exact ⟨ret_bool (by rw [hf.out, HL.out]; simp [h20]), hb⟩

theorem new_small {l : List Hk} (h : l.length + totalH l ≤ 1048576) : ∀ x ∈ l, x.new.length ≤ 1048576 := fun x hx => by have := totalH_mem hx; omega

end Go.Proofs.YtnnaigoomipklaaDoor
