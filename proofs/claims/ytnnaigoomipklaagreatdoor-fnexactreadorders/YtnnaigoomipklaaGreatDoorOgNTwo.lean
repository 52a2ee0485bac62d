/-
  The program's two numbers: readTwo, readPair, ReadPair, ReadCount.
-/
import Derived.Test.YtnnaigoomipklaaGreatDoorOgNRead
set_option linter.unusedSimpArgs false
set_option linter.unusedVariables false
namespace Go.Proofs.YtnnaigoomipklaaGreatDoor
open Go.RowKit M

theorem Cut_none (s : ByteArray) (hs : s.size ≤ 2097152) (w : World) (hv : Vars w) (h : (44 : UInt8) ∉ s.data.toList) :
    Calls Tryz.prog 178 #[.string s, .string ⟨#[44]⟩] w fun e w' => e = .returned (.tuple #[.string s, .string ⟨#[]⟩, .bool false]) ∧ Below w.heap.size w w' := by
  refine (Cut_any s hs w hv).mono ?_
  rintro e w' ⟨rfl, hb⟩
  rw [cut_none 44 _ h, bs_self]
  exact ⟨rfl, hb⟩
theorem Cut_hit (s : ByteArray) (hs : s.size ≤ 2097152) (w : World) (hv : Vars w) (p q : List UInt8) (e1 : s.data.toList = p ++ 44 :: q) (h : (44 : UInt8) ∉ p) :
    Calls Tryz.prog 178 #[.string s, .string ⟨#[44]⟩] w fun e w' => e = .returned (.tuple #[.string (bs p), .string (bs q), .bool true]) ∧ Below w.heap.size w w' := by
  refine (Cut_any s hs w hv).mono ?_
  rintro e w' ⟨rfl, hb⟩
  rw [e1, cut_hit 44 p q h]
  exact ⟨rfl, hb⟩

/-- A fault that is none of two numbers of which the second is less. -/
abbrev faultN (t : ByteArray) : Value := .iface 228 (.agg #[.string t])

set_option maxHeartbeats 1600000 in
theorem readTwo_some (s : ByteArray) (hs : s.size ≤ 2097152) (w : World) (hv : Vars w) (n m : Nat) (h : twoL s.data.toList = some (n, m)) :
    Calls Tryz.prog 212 #[.string s] w fun e w' => e = .returned (.tuple #[.int .i64 (n : Int), .int .i64 (m : Int), .nilIface]) ∧ Below w.heap.size w w' := by
  have HV := Lib.hid hv
  clear hv
  rcases split_cases 44 s.data.toList with h0 | ⟨p, q, e1, h0⟩
  · rw [twoL_none h0] at h
    obtain ⟨k, hk, he⟩ := Option.map_eq_some_iff.1 h
    obtain ⟨rfl, rfl⟩ : k = n ∧ k = m := by simpa using he
    have H := Lib.hid (numV_some hk)
    have HC := Lib.hid h0
    clear h h0 he hk
    go_enter Tryz.func212, Tryz.ntmps212
    go_wp2_with (first
      | (go_at_call 178; refine (Cut_none s hs _ HV.out HC.out).mono ?_; rintro e w1 ⟨rfl, b1⟩)
      | (go_at_call 228; first
          | (have b0 := b2; refine (readNumber_any s hs _ (HV.out.below (b1.next b2))).mono ?_; rintro e w3 ⟨rfl, b3⟩; rw [H.out])
          | (refine (readNumber_any s hs _ (HV.out.below b1)).mono ?_; rintro e w2 ⟨rfl, b2⟩; rw [H.out])))
    go_ret3
    exact ⟨rfl, (b1.next b2).next b3⟩
  · rw [e1, twoL_hit h0] at h
    split at h
    · rename_i n' m' hp hq
      obtain ⟨rfl, rfl⟩ : n' = n ∧ m' = m := by simpa using h
      have H1 := Lib.hid (numV_some (s := bs p) (by rw [bs_list]; exact hp))
      have H2 := Lib.hid (numV_some (s := bs q) (by rw [bs_list]; exact hq))
      have el : s.size = p.length + (q.length + 1) := by
        have := congrArg List.length e1
        simpa using this
      have s1 : (bs p).size ≤ 2097152 := by rw [bs_size]; omega
      have s2 : (bs q).size ≤ 2097152 := by rw [bs_size]; omega
      have HC := Lib.hid h0
      have HE := Lib.hid e1
      clear h h0 hp hq e1
      obtain ⟨A, hA⟩ : ∃ A, A = bs p := ⟨_, rfl⟩
      obtain ⟨B, hB⟩ : ∃ B, B = bs q := ⟨_, rfl⟩
      rw [← hA] at H1 s1
      rw [← hB] at H2 s2
      have HA := Lib.hid hA
      have HB := Lib.hid hB
      clear hA hB
      go_enter Tryz.func212, Tryz.ntmps212
      go_wp2_with (first
        | (go_at_call 178; refine (Cut_hit s hs _ HV.out p q HE.out HC.out).mono ?_; rintro e w1 ⟨rfl, b1⟩; rw [← HA.out, ← HB.out])
        | (go_at_call 228; first
            | (have b0 := b2; refine (readNumber_any B s2 _ (HV.out.below (b1.next b2))).mono ?_; rintro e w3 ⟨rfl, b3⟩; rw [H2.out])
            | (refine (readNumber_any A s1 _ (HV.out.below b1)).mono ?_; rintro e w2 ⟨rfl, b2⟩; rw [H1.out])))
      go_ret3
      exact ⟨rfl, (b1.next b2).next b3⟩
    · cases h

set_option maxHeartbeats 1600000 in
theorem readTwo_none (s : ByteArray) (hs : s.size ≤ 2097152) (w : World) (hv : Vars w) (h : twoL s.data.toList = none) :
    Calls Tryz.prog 212 #[.string s] w fun e w' => ∃ t, e = .returned (.tuple #[.int .i64 0, .int .i64 0, faultN t]) ∧ Below w.heap.size w w' := by
  have HV := Lib.hid hv
  clear hv
  rcases split_cases 44 s.data.toList with h0 | ⟨p, q, e1, h0⟩
  · rw [twoL_none h0] at h
    have hk : numL s.data.toList = none := by simpa using h
    have H := Lib.hid (numV_none hk)
    have HC := Lib.hid h0
    clear h h0 hk
    go_enter Tryz.func212, Tryz.ntmps212
    go_wp2_with (first
      | (go_at_call 178; refine (Cut_none s hs _ HV.out HC.out).mono ?_; rintro e w1 ⟨rfl, b1⟩)
      | (go_at_call 228; refine (readNumber_any s hs _ (HV.out.below b1)).mono ?_; rintro e w2 ⟨rfl, b2⟩; rw [H.out]))
    go_ret3
    exact ⟨s, rfl, b1.next b2⟩
  · rw [e1, twoL_hit h0] at h
    have el : s.size = p.length + (q.length + 1) := by
      have := congrArg List.length e1
      simpa using this
    have s1 : (bs p).size ≤ 2097152 := by rw [bs_size]; omega
    have s2 : (bs q).size ≤ 2097152 := by rw [bs_size]; omega
    have HC := Lib.hid h0
    have HE := Lib.hid e1
    clear h0 e1
    obtain ⟨A, hA⟩ : ∃ A, A = bs p := ⟨_, rfl⟩
    obtain ⟨B, hB⟩ : ∃ B, B = bs q := ⟨_, rfl⟩
    rw [← hA] at s1
    rw [← hB] at s2
    have HA := Lib.hid hA
    have HB := Lib.hid hB
    cases hp : numL p with
    | none =>
      have H1 := Lib.hid (numV_none (s := A) (by rw [hA, bs_list]; exact hp))
      clear hA hB h hp
      go_enter Tryz.func212, Tryz.ntmps212
      go_wp2_with (first
        | (go_at_call 178; refine (Cut_hit s hs _ HV.out p q HE.out HC.out).mono ?_; rintro e w1 ⟨rfl, b1⟩; rw [← HA.out, ← HB.out])
        | (go_at_call 228; refine (readNumber_any A s1 _ (HV.out.below b1)).mono ?_; rintro e w2 ⟨rfl, b2⟩; rw [H1.out]))
      go_ret3
      exact ⟨A, rfl, b1.next b2⟩
    | some k =>
      have H1 := Lib.hid (numV_some (s := A) (by rw [hA, bs_list]; exact hp))
      rw [hp] at h
      have hq : numL q = none := by
        cases e : numL q with
        | none => rfl
        | some j => rw [e] at h; cases h
      have H2 := Lib.hid (numV_none (s := B) (by rw [hB, bs_list]; exact hq))
      clear hA hB h hp hq
      go_enter Tryz.func212, Tryz.ntmps212
      go_wp2_with (first
        | (go_at_call 178; refine (Cut_hit s hs _ HV.out p q HE.out HC.out).mono ?_; rintro e w1 ⟨rfl, b1⟩; rw [← HA.out, ← HB.out])
        | (go_at_call 228; first
            | (have b0 := b2; refine (readNumber_any B s2 _ (HV.out.below (b1.next b2))).mono ?_; rintro e w3 ⟨rfl, b3⟩; rw [H2.out])
            | (refine (readNumber_any A s1 _ (HV.out.below b1)).mono ?_; rintro e w2 ⟨rfl, b2⟩; rw [H1.out])))
      go_ret3
      exact ⟨B, rfl, (b1.next b2).next b3⟩

/-! Pairs. -/

set_option maxHeartbeats 800000 in
theorem readPair_ok (s : ByteArray) (hs : s.size ≤ 2097152) (w : World) (hv : Vars w) (n m : Nat) (h : twoL s.data.toList = some (n, m)) (h1 : max n m ≤ 1000) (h2 : n ≤ m) :
    Calls Tryz.prog 180 #[.string s] w fun e w' => e = .returned (.tuple #[.int .i64 (n : Int), .int .i64 (m : Int), .nilIface]) ∧ Below w.heap.size w w' := by
  have HV := Lib.hid hv
  have HT := Lib.hid h
  have hm1 : n ≤ 1000 := by omega
  have hm2 : m ≤ 1000 := by omega
  clear hv h h1
  go_enter Tryz.func180, Tryz.ntmps180
  go_wp2_with (go_at_call 212; refine (readTwo_some s hs _ HV.out n m HT.out).mono ?_; rintro e w1 ⟨rfl, b1⟩)
  go_ret3
  exact ⟨rfl, b1⟩

abbrev faultF (n m : Nat) : Value := .iface 230 (.agg #[.int .i64 (n : Int), .int .i64 (m : Int)])

set_option maxHeartbeats 800000 in
theorem readPair_fall (s : ByteArray) (hs : s.size ≤ 2097152) (w : World) (hv : Vars w) (n m : Nat) (h : twoL s.data.toList = some (n, m)) (h1 : max n m ≤ 1000) (h2 : m < n) :
    Calls Tryz.prog 180 #[.string s] w fun e w' => e = .returned (.tuple #[.int .i64 0, .int .i64 0, faultF n m]) ∧ Below w.heap.size w w' := by
  have HV := Lib.hid hv
  have HT := Lib.hid h
  have hm1 : n ≤ 1000 := by omega
  have hm2 : m ≤ 1000 := by omega
  clear hv h h1
  go_enter Tryz.func180, Tryz.ntmps180
  go_wp2_with (go_at_call 212; refine (readTwo_some s hs _ HV.out n m HT.out).mono ?_; rintro e w1 ⟨rfl, b1⟩)
  go_ret3
  exact ⟨rfl, b1⟩

set_option maxHeartbeats 800000 in
theorem readPair_big (s : ByteArray) (hs : s.size ≤ 2097152) (w : World) (hv : Vars w) (n m : Nat) (h : twoL s.data.toList = some (n, m)) (h1 : 1000 < max n m) :
    Calls Tryz.prog 180 #[.string s] w fun e w' => ∃ t, e = .returned (.tuple #[.int .i64 0, .int .i64 0, faultN t]) ∧ Below w.heap.size w w' := by
  have HV := Lib.hid hv
  have HT := Lib.hid h
  have hm : (1000 : Int) < max (n : Int) (m : Int) := by omega
  clear hv h h1
  go_enter Tryz.func180, Tryz.ntmps180
  go_wp2_with (go_at_call 212; refine (readTwo_some s hs _ HV.out n m HT.out).mono ?_; rintro e w1 ⟨rfl, b1⟩)
  go_ret3
  exact ⟨s, rfl, b1⟩

set_option maxHeartbeats 800000 in
theorem readPair_none (s : ByteArray) (hs : s.size ≤ 2097152) (w : World) (hv : Vars w) (h : twoL s.data.toList = none) :
    Calls Tryz.prog 180 #[.string s] w fun e w' => ∃ t, e = .returned (.tuple #[.int .i64 0, .int .i64 0, faultN t]) ∧ Below w.heap.size w w' := by
  have HV := Lib.hid hv
  have HT := Lib.hid h
  clear hv h
  go_enter Tryz.func180, Tryz.ntmps180
  go_wp2_with (go_at_call 212; refine (readTwo_none s hs _ HV.out HT.out).mono ?_; rintro e w1 ⟨t, rfl, b1⟩)
  go_ret3
  exact ⟨t, rfl, b1⟩

/-- How readPair ends. -/
theorem readPair_any (s : ByteArray) (hs : s.size ≤ 2097152) (w : World) (hv : Vars w) :
    (∃ n m, twoL s.data.toList = some (n, m) ∧ max n m ≤ 1000 ∧ n ≤ m ∧ Calls Tryz.prog 180 #[.string s] w fun e w' => e = .returned (.tuple #[.int .i64 (n : Int), .int .i64 (m : Int), .nilIface]) ∧ Below w.heap.size w w') ∨
    (∃ n m, twoL s.data.toList = some (n, m) ∧ max n m ≤ 1000 ∧ m < n ∧ Calls Tryz.prog 180 #[.string s] w fun e w' => e = .returned (.tuple #[.int .i64 0, .int .i64 0, faultF n m]) ∧ Below w.heap.size w w') ∨
    ((∀ n m, twoL s.data.toList = some (n, m) → 1000 < max n m) ∧ Calls Tryz.prog 180 #[.string s] w fun e w' => ∃ t, e = .returned (.tuple #[.int .i64 0, .int .i64 0, faultN t]) ∧ Below w.heap.size w w') := by
  cases h : twoL s.data.toList with
  | none => exact .inr (.inr ⟨(fun n m e => by cases e), readPair_none s hs w hv h⟩)
  | some x =>
    obtain ⟨n, m⟩ := x
    by_cases h1 : max n m ≤ 1000
    · by_cases h2 : n ≤ m
      · exact .inl ⟨n, m, rfl, h1, h2, readPair_ok s hs w hv n m h h1 h2⟩
      · exact .inr (.inl ⟨n, m, rfl, h1, by omega, readPair_fall s hs w hv n m h h1 (by omega)⟩)
    · refine .inr (.inr ⟨(fun a b e => ?_), readPair_big s hs w hv n m h (by omega)⟩)
      obtain ⟨rfl, rfl⟩ : n = a ∧ m = b := by simpa using e
      omega

theorem pairL_ok {l : List UInt8} {n m : Nat} (h : twoL l = some (n, m)) (h1 : max n m ≤ 1000) (h2 : n ≤ m) : pairL l = some (n, m) := by
  unfold pairL; rw [h]; simp [Option.filter]; omega
theorem pairL_fall {l : List UInt8} {n m : Nat} (h : twoL l = some (n, m)) (h2 : m < n) : pairL l = none := by
  unfold pairL; rw [h]; simp [Option.filter]; omega
theorem pairL_bad {l : List UInt8} (h : ∀ n m, twoL l = some (n, m) → 1000 < max n m) : pairL l = none := by
  unfold pairL
  cases e : twoL l with
  | none => rfl
  | some x => have := h x.1 x.2 e; simp [Option.filter]; omega

set_option maxHeartbeats 800000 in
theorem ReadPair_any (s : ByteArray) (hs : s.size ≤ 2097152) (w : World) (hv : Vars w) :
    Calls Tryz.prog 127 #[.string s] w fun e w' => e = .returned (duo (pairL s.data.toList)) ∧ Below w.heap.size w w' := by
  rcases readPair_any s hs w hv with ⟨n, m, h, h1, h2, hc⟩ | ⟨n, m, h, h1, h2, hc⟩ | ⟨h, hc⟩
  · have H := Lib.hid (pairL_ok h h1 h2)
    have HC := Lib.hid hc
    clear h h1 h2 hc hv
    go_enter Tryz.func127, Tryz.ntmps127
    go_wp2_with (go_at_call 180; refine HC.out.mono ?_; rintro e w1 ⟨rfl, b1⟩)
    go_quiet (fail)
    go_wp2
    go_ret3
    exact ⟨by rw [H.out]; rfl, below_drewN b1 _⟩
  · have H := Lib.hid (pairL_fall h h2)
    have HC := Lib.hid hc
    clear h h1 h2 hc hv
    go_enter Tryz.func127, Tryz.ntmps127
    go_wp2_with (go_at_call 180; refine HC.out.mono ?_; rintro e w1 ⟨rfl, b1⟩)
    go_quiet (fail)
    go_wp2
    go_ret3
    exact ⟨by rw [H.out]; rfl, below_drewN b1 _⟩
  · have H := Lib.hid (pairL_bad h)
    have HC := Lib.hid hc
    clear h hc hv
    go_enter Tryz.func127, Tryz.ntmps127
    go_wp2_with (go_at_call 180; refine HC.out.mono ?_; rintro e w1 ⟨t, rfl, b1⟩)
    go_quiet (fail)
    go_wp2
    go_ret3
    exact ⟨by rw [H.out]; rfl, below_drewN b1 _⟩

/-! Counts. -/

end Go.Proofs.YtnnaigoomipklaaGreatDoor
