/-
  The program's numbers read: readNumber, ReadNumber, readTwo, readPair, ReadPair, ReadCount.
-/
import Derived.Test.YtnnaigoomipklaaGreatDoorOgNSpecs
set_option linter.unusedSimpArgs false
set_option linter.unusedVariables false
namespace Go.Proofs.YtnnaigoomipklaaGreatDoor
open Go.RowKit M

/-- A number and no fault, or a fault that bears the text. -/
def numV (s : ByteArray) : Value := match numL s.data.toList with
  | some n => .tuple #[.int .i64 (n : Int), .nilIface]
  | none => .tuple #[.int .i64 0, .iface 228 (.agg #[.string s])]

theorem Atoi_ok (s : ByteArray) (hs : s.size ≤ 2097152) (w : World) (hv : Vars w) (v : Int) (h : Lib.atoiAll s.data.toList = .ok v) :
    Calls Tryz.prog 244 #[.string s] w fun e w' => e = .returned (.tuple #[.int .i64 v, .nilIface]) ∧ Below w.heap.size w w' := by
  refine (Atoi_any s hs w hv).mono ?_
  rintro e w' ⟨⟨u, h1, rfl⟩ | ⟨h1, _⟩, hb⟩
  · rw [h] at h1; injection h1 with h1; subst h1; exact ⟨rfl, hb⟩
  · exact absurd h (h1 v)
theorem Atoi_bad (s : ByteArray) (hs : s.size ≤ 2097152) (w : World) (hv : Vars w) (h : ∀ v, Lib.atoiAll s.data.toList ≠ .ok v) :
    Calls Tryz.prog 244 #[.string s] w fun e w' => ∃ v t x, e = .returned (.tuple #[.int .i64 v, .iface t x]) ∧ Below w.heap.size w w' := by
  refine (Atoi_any s hs w hv).mono ?_
  rintro e w' ⟨⟨u, h1, rfl⟩ | ⟨_, v, t, x, rfl⟩, hb⟩
  · exact absurd h1 (h u)
  · exact ⟨v, t, x, rfl, hb⟩

set_option maxHeartbeats 800000 in
theorem readNumber_any (s : ByteArray) (hs : s.size ≤ 2097152) (w : World) (hv : Vars w) :
    Calls Tryz.prog 228 #[.string s] w fun e w' => e = .returned (numV s) ∧ Below w.heap.size w w' := by
  have HV := Lib.hid hv
  clear hv
  by_cases h : ∃ v, Lib.atoiAll s.data.toList = .ok v
  · obtain ⟨v, h⟩ := h
    by_cases h0 : v < 0
    · have H := Lib.hid (show numV s = _ by unfold numV; rw [numL_none_bad h (.inl h0)])
      have HA := Lib.hid h
      clear h
      go_enter Tryz.func228, Tryz.ntmps228
      go_wp2_with (go_at_call 244; refine (Atoi_ok s hs _ HV.out v HA.out).mono ?_; rintro e w1 ⟨rfl, b1⟩)
      go_ret2
      exact ⟨by rw [H.out]; rfl, b1⟩
    · by_cases h1 : 9999 < v
      · have H := Lib.hid (show numV s = _ by unfold numV; rw [numL_none_bad h (.inr (.inl h1))])
        have HA := Lib.hid h
        clear h
        go_enter Tryz.func228, Tryz.ntmps228
        go_wp2_with (go_at_call 244; refine (Atoi_ok s hs _ HV.out v HA.out).mono ?_; rintro e w1 ⟨rfl, b1⟩)
        go_ret2
        exact ⟨by rw [H.out]; rfl, b1⟩
      · obtain ⟨X, hX⟩ : ∃ X, X = bs (Lib.itoa v) := ⟨_, rfl⟩
        have HX := Lib.hid hX
        by_cases h2 : Lib.itoa v = s.data.toList
        · have H := Lib.hid (show numV s = _ by unfold numV; rw [numL_of_atoi (by omega) (by omega) h2])
          have HA := Lib.hid h
          have hcmp : (X.toList == s.toList) = true := by rw [hX, h2, bs_self]; simp
          clear h h2 hX
          go_enter Tryz.func228, Tryz.ntmps228
          go_wp2_with (first
            | (go_at_call 244; refine (Atoi_ok s hs _ HV.out v HA.out).mono ?_; rintro e w1 ⟨rfl, b1⟩)
            | (go_at_call 173; refine (ItoaI_any v (by omega) (by omega) _ (HV.out.below b1).tab).mono ?_; rintro e w2 ⟨rfl, b2⟩; rw [← HX.out]))
          go_ret2
          exact ⟨by rw [H.out, Int.toNat_of_nonneg (by omega)]; rfl, b1.next b2⟩
        · have H := Lib.hid (show numV s = _ by unfold numV; rw [numL_none_bad h (.inr (.inr h2))])
          have HA := Lib.hid h
          have hcmp : (X.toList == s.toList) = false := beq_other (fun e => h2 (by rw [hX] at e; rw [← e, bs_list]))
          clear h h2 hX
          go_enter Tryz.func228, Tryz.ntmps228
          go_wp2_with (first
            | (go_at_call 244; refine (Atoi_ok s hs _ HV.out v HA.out).mono ?_; rintro e w1 ⟨rfl, b1⟩)
            | (go_at_call 173; refine (ItoaI_any v (by omega) (by omega) _ (HV.out.below b1).tab).mono ?_; rintro e w2 ⟨rfl, b2⟩; rw [← HX.out]))
          go_ret2
          exact ⟨by rw [H.out]; rfl, b1.next b2⟩
  · have H := Lib.hid (show numV s = _ by unfold numV; rw [numL_none_of (fun v e => h ⟨v, e⟩)])
    have HA := Lib.hid (fun v e => h ⟨v, e⟩ : ∀ v, Lib.atoiAll s.data.toList ≠ .ok v)
    clear h
    go_enter Tryz.func228, Tryz.ntmps228
    go_wp2_with (go_at_call 244; refine (Atoi_bad s hs _ HV.out HA.out).mono ?_; rintro e w1 ⟨v, t, x, rfl, b1⟩)
    go_ret2
    exact ⟨by rw [H.out]; rfl, b1⟩

theorem numV_some {s : ByteArray} {n : Nat} (h : numL s.data.toList = some n) : numV s = .tuple #[.int .i64 (n : Int), .nilIface] := by unfold numV; rw [h]
theorem numV_none {s : ByteArray} (h : numL s.data.toList = none) : numV s = .tuple #[.int .i64 0, .iface 228 (.agg #[.string s])] := by unfold numV; rw [h]

end Go.Proofs.YtnnaigoomipklaaGreatDoor
