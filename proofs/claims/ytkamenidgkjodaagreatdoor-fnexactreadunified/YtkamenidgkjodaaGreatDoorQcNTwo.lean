/-
  The program's two numbers: readTwo, readPair, ReadPair, ReadCount.
-/
import Derived.Test.YtkamenidgkjodaaGreatDoorQcNRead
set_option linter.unusedSimpArgs false
set_option linter.unusedVariables false
namespace Go.Proofs.YtkamenidgkjodaaGreatDoor
open Go.RowKit M

theorem Cut_none (s : ByteArray) (hs : s.size ≤ 2097152) (w : World) (hv : Vars w) (h : (44 : UInt8) ∉ s.data.toList) :
    Calls Tryz.prog 81 #[.string s, .string ⟨#[44]⟩] w fun e w' => e = .returned (.tuple #[.string s, .string ⟨#[]⟩, .bool false]) ∧ Below w.heap.size w w' := by
  refine (Cut_any s hs w hv).mono ?_
  rintro e w' ⟨rfl, hb⟩
  rw [cut_none 44 _ h, bs_self]
  exact ⟨rfl, hb⟩
theorem Cut_hit (s : ByteArray) (hs : s.size ≤ 2097152) (w : World) (hv : Vars w) (p q : List UInt8) (e1 : s.data.toList = p ++ 44 :: q) (h : (44 : UInt8) ∉ p) :
    Calls Tryz.prog 81 #[.string s, .string ⟨#[44]⟩] w fun e w' => e = .returned (.tuple #[.string (bs p), .string (bs q), .bool true]) ∧ Below w.heap.size w w' := by
  refine (Cut_any s hs w hv).mono ?_
  rintro e w' ⟨rfl, hb⟩
  rw [e1, cut_hit 44 p q h]
  exact ⟨rfl, hb⟩

/-- A fault that is none of two numbers of which the second is less. -/
abbrev faultN (t : ByteArray) : Value := .iface 168 (.agg #[.string t])

set_option maxHeartbeats 1600000 in
theorem readTwo_some (s : ByteArray) (hs : s.size ≤ 2097152) (w : World) (hv : Vars w) (n m : Nat) (h : twoL s.data.toList = some (n, m)) :
    Calls Tryz.prog 126 #[.string s] w fun e w' => e = .returned (.tuple #[.int .i64 (n : Int), .int .i64 (m : Int), .nilIface]) ∧ Below w.heap.size w w' := by
  have HV := Lib.hid hv
  clear hv
  rcases split_cases 44 s.data.toList with h0 | ⟨p, q, e1, h0⟩
  · rw [twoL_none h0] at h
    obtain ⟨k, hk, he⟩ := Option.map_eq_some_iff.1 h
    obtain ⟨rfl, rfl⟩ : k = n ∧ k = m := by simpa using he
    have H := Lib.hid (numV_some hk)
    have HC := Lib.hid h0
    clear h h0 he hk
    go_enter Tryz.func126, Tryz.ntmps126
    go_wp2_with (first
      | (go_at_call 81; refine (Cut_none s hs _ HV.out HC.out).mono ?_; rintro e w1 ⟨rfl, b1⟩)
      | (go_at_call 153; first
          | (have b0 := b2; refine (readNumber_any s hs _ (HV.out.below (b1.next b2))).mono ?_; rintro e w3 ⟨rfl, b3⟩; rw [H.out])
          | (refine (readNumber_any s hs _ (HV.out.below b1)).mono ?_; rintro e w2 ⟨rfl, b2⟩; rw [H.out])))
    go_ret3
    exact ⟨rfl, (b1.next b2).next b3⟩
  · rw [e1, twoL_hit h0] at h
    split at h
    · rename_i n' m' hp hq
      obtain ⟨rfl, rfl⟩ : n' = n ∧ m' = m := by simpa using h
      have H1 := Lib.hid (numV_some (s := bs p) (by rw [bs_list]; exact hp))
      have H2 := Lib.hid (numV_some (s := bs q) (by rw [bs_list]; exact hq))
      have el : s.size = p.length + (q.length + 1) := by
        have := congrArg List.length e1
        simpa using this
      have s1 : (bs p).size ≤ 2097152 := by rw [bs_size]; omega
      have s2 : (bs q).size ≤ 2097152 := by rw [bs_size]; omega
      have HC := Lib.hid h0
      have HE := Lib.hid e1
      clear h h0 hp hq e1
      obtain ⟨A, hA⟩ : ∃ A, A = bs p := ⟨_, rfl⟩
      obtain ⟨B, hB⟩ : ∃ B, B = bs q := ⟨_, rfl⟩
      rw [← hA] at H1 s1
      rw [← hB] at H2 s2
      have HA := Lib.hid hA
      have HB := Lib.hid hB
      clear hA hB
      go_enter Tryz.func126, Tryz.ntmps126
      go_wp2_with (first
        | (go_at_call 81; refine (Cut_hit s hs _ HV.out p q HE.out HC.out).mono ?_; rintro e w1 ⟨rfl, b1⟩; rw [← HA.out, ← HB.out])
        | (go_at_call 153; first
            | (have b0 := b2; refine (readNumber_any B s2 _ (HV.out.below (b1.next b2))).mono ?_; rintro e w3 ⟨rfl, b3⟩; rw [H2.out])
            | (refine (readNumber_any A s1 _ (HV.out.below b1)).mono ?_; rintro e w2 ⟨rfl, b2⟩; rw [H1.out])))
      go_ret3
      exact ⟨rfl, (b1.next b2).next b3⟩
    · cases h

set_option maxHeartbeats 1600000 in
theorem readTwo_none (s : ByteArray) (hs : s.size ≤ 2097152) (w : World) (hv : Vars w) (h : twoL s.data.toList = none) :
    Calls Tryz.prog 126 #[.string s] w fun e w' => ∃ t, e = .returned (.tuple #[.int .i64 0, .int .i64 0, faultN t]) ∧ Below w.heap.size w w' := by
  have HV := Lib.hid hv
  clear hv
  rcases split_cases 44 s.data.toList with h0 | ⟨p, q, e1, h0⟩
  · rw [twoL_none h0] at h
    have hk : numL s.data.toList = none := by simpa using h
    have H := Lib.hid (numV_none hk)
    have HC := Lib.hid h0
    clear h h0 hk
    go_enter Tryz.func126, Tryz.ntmps126
    go_wp2_with (first
      | (go_at_call 81; refine (Cut_none s hs _ HV.out HC.out).mono ?_; rintro e w1 ⟨rfl, b1⟩)
      | (go_at_call 153; refine (readNumber_any s hs _ (HV.out.below b1)).mono ?_; rintro e w2 ⟨rfl, b2⟩; rw [H.out]))
    go_ret3
    exact ⟨s, rfl, b1.next b2⟩
  · rw [e1, twoL_hit h0] at h
    have el : s.size = p.length + (q.length + 1) := by
      have := congrArg List.length e1
      simpa using this
    have s1 : (bs p).size ≤ 2097152 := by rw [bs_size]; omega
    have s2 : (bs q).size ≤ 2097152 := by rw [bs_size]; omega
    have HC := Lib.hid h0
    have HE := Lib.hid e1
    clear h0 e1
    obtain ⟨A, hA⟩ : ∃ A, A = bs p := ⟨_, rfl⟩
    obtain ⟨B, hB⟩ : ∃ B, B = bs q := ⟨_, rfl⟩
    rw [← hA] at s1
    rw [← hB] at s2
    have HA := Lib.hid hA
    have HB := Lib.hid hB
    cases hp : numL p with
    | none =>
      have H1 := Lib.hid (numV_none (s := A) (by rw [hA, bs_list]; exact hp))
      clear hA hB h hp
      go_enter Tryz.func126, Tryz.ntmps126
      go_wp2_with (first
        | (go_at_call 81; refine (Cut_hit s hs _ HV.out p q HE.out HC.out).mono ?_; rintro e w1 ⟨rfl, b1⟩; rw [← HA.out, ← HB.out])
        | (go_at_call 153; refine (readNumber_any A s1 _ (HV.out.below b1)).mono ?_; rintro e w2 ⟨rfl, b2⟩; rw [H1.out]))
      go_ret3
      exact ⟨A, rfl, b1.next b2⟩
    | some k =>
      have H1 := Lib.hid (numV_some (s := A) (by rw [hA, bs_list]; exact hp))
      rw [hp] at h
      have hq : numL q = none := by
        cases e : numL q with
        | none => rfl
        | some j => rw [e] at h; cases h
      have H2 := Lib.hid (numV_none (s := B) (by rw [hB, bs_list]; exact hq))
      clear hA hB h hp hq
      go_enter Tryz.func126, Tryz.ntmps126
      go_wp2_with (first
        | (go_at_call 81; refine (Cut_hit s hs _ HV.out p q HE.out HC.out).mono ?_; rintro e w1 ⟨rfl, b1⟩; rw [← HA.out, ← HB.out])
        | (go_at_call 153; first
            | (have b0 := b2; refine (readNumber_any B s2 _ (HV.out.below (b1.next b2))).mono ?_; rintro e w3 ⟨rfl, b3⟩; rw [H2.out])
            | (refine (readNumber_any A s1 _ (HV.out.below b1)).mono ?_; rintro e w2 ⟨rfl, b2⟩; rw [H1.out])))
      go_ret3
      exact ⟨B, rfl, (b1.next b2).next b3⟩

/-! Pairs. -/

/-! Counts. -/

theorem countL_eq {l : List UInt8} : countL l = match twoL (if Lib.contains l [44] then l else l ++ [44, 49]) with
  | some (n, m) => if numAt 0 m ≤ n ∧ n - numAt 0 m ≤ 999 ∧ m ≤ 999 then some (n - numAt 0 m, m) else none
  | none => none := rfl

theorem okR_count (n m : Nat) : okR ((n : Int) - (numAt 0 m : Nat)) (m : Int) = decide (numAt 0 m ≤ n ∧ n - numAt 0 m ≤ 999 ∧ m ≤ 999) := by
  rw [Bool.eq_iff_iff]
  simp [okR]
  omega

/-- ReadCount from the second statement on: the text is t. -/
theorem count_text (s : ByteArray) (hs : s.size ≤ 1048576) : ∃ t : ByteArray, t.size ≤ 2097152 ∧ t.data.toList = (if Lib.contains s.data.toList [44] then s.data.toList else s.data.toList ++ [44, 49]) ∧
    (Lib.contains s.data.toList [44] = true → t = s) ∧ (Lib.contains s.data.toList [44] = false → t = s ++ ⟨#[44, 49]⟩) := by
  cases h : Lib.contains s.data.toList [44] with
  | true => exact ⟨s, by omega, by simp, fun _ => rfl, fun e => by cases e⟩
  | false =>
    refine ⟨s ++ ⟨#[44, 49]⟩, ?_, ?_, (fun e => by cases e), fun _ => rfl⟩
    · rw [ByteArray.size_append]
      have : (⟨#[44, 49]⟩ : ByteArray).size = 2 := rfl
      omega
    · simp

set_option maxHeartbeats 1600000 in
theorem ReadCount_any (s : ByteArray) (hs : s.size ≤ 1048576) (w : World) (hv : Vars w) :
    Calls Tryz.prog 82 #[.string s] w fun e w' => e = .returned (duo (countL s.data.toList)) ∧ Below w.heap.size w w' := by
  obtain ⟨t, ht, et, e1, e2⟩ := count_text s hs
  have HV := Lib.hid hv
  clear hv
  have hlim : (9223372036854775807 < s.size + 2) = False := eq_false (by omega)
  cases h2 : twoL t.data.toList with
  | none =>
    have H := Lib.hid (show countL s.data.toList = none by rw [countL_eq, ← et, h2])
    have HT := Lib.hid h2
    cases hc : Lib.contains s.data.toList [44] with
    | true =>
      obtain rfl := e1 hc
      have HC := Lib.hid hc
      clear e1 e2 et hc h2
      go_enter Tryz.func82, Tryz.ntmps82
      go_wp2_with (first
        | (go_at_call 125; refine (Contains_any _ (by omega) _ HV.out).mono ?_; rintro e w' ⟨rfl, rfl⟩; rw [HC.out])
        | (go_at_call 126; refine (readTwo_none _ ht _ HV.out HT.out).mono ?_; rintro e w1 ⟨x, rfl, b1⟩))
      go_ret3
      exact ⟨by rw [H.out]; rfl, b1⟩
    | false =>
      have HE := Lib.hid (e2 hc)
      have HC := Lib.hid hc
      clear e1 e2 et hc h2
      go_enter Tryz.func82, Tryz.ntmps82
      go_wp2_with (first
        | (go_at_call 125; refine (Contains_any _ (by omega) _ HV.out).mono ?_; rintro e w' ⟨rfl, rfl⟩; rw [HC.out])
        | (go_at_call 126; rw [← HE.out]; refine (readTwo_none _ ht _ HV.out HT.out).mono ?_; rintro e w1 ⟨x, rfl, b1⟩))
      go_ret3
      exact ⟨by rw [H.out]; rfl, b1⟩
  | some x =>
    obtain ⟨n, m⟩ := x
    have HK := Lib.hid (okR_count n m)
    have hle := twoL_le h2
    have HT := Lib.hid h2
    obtain ⟨c, hc0⟩ : ∃ c, c = numAt 0 m := ⟨_, rfl⟩
    have hc1 : c ≤ 1 := by rw [hc0]; unfold numAt; split <;> omega
    have H := Lib.hid (show countL s.data.toList = if c ≤ n ∧ n - c ≤ 999 ∧ m ≤ 999 then some (n - c, m) else none by rw [countL_eq, ← et, h2, hc0])
    rw [← hc0] at HK
    have HN := Lib.hid hc0
    clear hc0 h2
    obtain ⟨d, hd⟩ : ∃ d : Int, d = (n : Int) - (c : Int) := ⟨_, rfl⟩
    have hsub : IntKind.i64.wrap ((n : Int) - (c : Int)) = d := by simp [IntKind.wrap, IntKind.bits, IntKind.signed]; omega
    rw [← hd] at HK
    obtain ⟨b, hb⟩ : ∃ b, b = decide (c ≤ n ∧ n - c ≤ 999 ∧ m ≤ 999) := ⟨_, rfl⟩
    rw [← hb] at HK
    have HD := Lib.hid hd
    have HB := Lib.hid hb
    clear hd
    cases hc : Lib.contains s.data.toList [44] with
    | true =>
      obtain rfl := e1 hc
      have HC := Lib.hid hc
      clear e1 e2 et hc
      cases b with
      | true =>
        have hg : c ≤ n ∧ n - c ≤ 999 ∧ m ≤ 999 := by simpa using hb.symm
        clear hb
        go_enter Tryz.func82, Tryz.ntmps82
        go_wp2_with (first
          | (go_at_call 125; refine (Contains_any _ (by omega) _ HV.out).mono ?_; rintro e w' ⟨rfl, rfl⟩; rw [HC.out])
          | (go_at_call 126; refine (readTwo_some _ ht _ HV.out n m HT.out).mono ?_; rintro e w1 ⟨rfl, b1⟩)
          | (go_at_call 116; refine (numberAt_any 0 m (by omega) _).mono ?_; rintro e w' ⟨rfl, rfl⟩; rw [← HN.out])
          | (go_at_call 114; refine (isRange_any _ _ _).mono ?_; rintro e w' ⟨rfl, rfl⟩; rw [HK.out]))
        go_ret3
        exact ⟨by rw [H.out, if_pos hg, HD.out, ← Int.ofNat_sub hg.1]; rfl, b1⟩
      | false =>
        have hg : ¬ (c ≤ n ∧ n - c ≤ 999 ∧ m ≤ 999) := by simpa using hb.symm
        have HG := Lib.hid hg
        clear hb hg
        go_enter Tryz.func82, Tryz.ntmps82
        go_wp2_with (first
          | (go_at_call 125; refine (Contains_any _ (by omega) _ HV.out).mono ?_; rintro e w' ⟨rfl, rfl⟩; rw [HC.out])
          | (go_at_call 126; refine (readTwo_some _ ht _ HV.out n m HT.out).mono ?_; rintro e w1 ⟨rfl, b1⟩)
          | (go_at_call 116; refine (numberAt_any 0 m (by omega) _).mono ?_; rintro e w' ⟨rfl, rfl⟩; rw [← HN.out])
          | (go_at_call 114; refine (isRange_any _ _ _).mono ?_; rintro e w' ⟨rfl, rfl⟩; rw [HK.out]))
        go_ret3
        exact ⟨by rw [H.out, if_neg HG.out]; rfl, b1⟩
    | false =>
      have HE := Lib.hid (e2 hc)
      have HC := Lib.hid hc
      clear e1 e2 et hc
      cases b with
      | true =>
        have hg : c ≤ n ∧ n - c ≤ 999 ∧ m ≤ 999 := by simpa using hb.symm
        clear hb
        go_enter Tryz.func82, Tryz.ntmps82
        go_wp2_with (first
          | (go_at_call 125; refine (Contains_any _ (by omega) _ HV.out).mono ?_; rintro e w' ⟨rfl, rfl⟩; rw [HC.out])
          | (go_at_call 126; rw [← HE.out]; refine (readTwo_some _ ht _ HV.out n m HT.out).mono ?_; rintro e w1 ⟨rfl, b1⟩)
          | (go_at_call 116; refine (numberAt_any 0 m (by omega) _).mono ?_; rintro e w' ⟨rfl, rfl⟩; rw [← HN.out])
          | (go_at_call 114; refine (isRange_any _ _ _).mono ?_; rintro e w' ⟨rfl, rfl⟩; rw [HK.out]))
        go_ret3
        exact ⟨by rw [H.out, if_pos hg, HD.out, ← Int.ofNat_sub hg.1]; rfl, b1⟩
      | false =>
        have hg : ¬ (c ≤ n ∧ n - c ≤ 999 ∧ m ≤ 999) := by simpa using hb.symm
        have HG := Lib.hid hg
        clear hb hg
        go_enter Tryz.func82, Tryz.ntmps82
        go_wp2_with (first
          | (go_at_call 125; refine (Contains_any _ (by omega) _ HV.out).mono ?_; rintro e w' ⟨rfl, rfl⟩; rw [HC.out])
          | (go_at_call 126; rw [← HE.out]; refine (readTwo_some _ ht _ HV.out n m HT.out).mono ?_; rintro e w1 ⟨rfl, b1⟩)
          | (go_at_call 116; refine (numberAt_any 0 m (by omega) _).mono ?_; rintro e w' ⟨rfl, rfl⟩; rw [← HN.out])
          | (go_at_call 114; refine (isRange_any _ _ _).mono ?_; rintro e w' ⟨rfl, rfl⟩; rw [HK.out]))
        go_ret3
        exact ⟨by rw [H.out, if_neg HG.out]; rfl, b1⟩

end Go.Proofs.YtkamenidgkjodaaGreatDoor
