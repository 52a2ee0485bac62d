/-
  Heads and shown lines, the model's.
-/
import Derived.Test.YtnimaadjmejmpaaGreatDoorRMath
import Derived.Test.YtnimaadjmejmpaaGreatDoorNSpecS
import Derived.Test.YtnimaadjmejmpaaGreatDoorSSteps
import Derived.Test.YtnimaadjmejmpaaGreatDoorHPatch
import Derived.StillTailTactics
set_option linter.unusedSimpArgs false
set_option linter.unusedVariables false
namespace Go.Proofs.YtnimaadjmejmpaaGreatDoor
open Go.RowKit M

theorem duo_yes {l : List UInt8} {n m : Nat} (h : pairL l = some (n, m)) : duo (pairL l) = .tuple #[.int .i64 (n : Int), .int .i64 (m : Int), .bool true] := by rw [h]; rfl
theorem duo_not {l : List UInt8} (h : pairL l = none) : duo (pairL l) = .tuple #[.int .i64 0, .int .i64 0, .bool false] := by rw [h]; rfl

/-- The answer of l5Head. -/
def headO : Option (Nat × Nat × UInt8 × Nat × Nat) → Value
  | some (f, t, c, n, m) => .tuple #[.agg #[.int .i64 (f : Int), .int .i64 (t : Int), .slice none 0 0, .int .i64 (n : Int), .int .i64 (m : Int), .slice none 0 0], .int .u8 (c.toNat : Int), .bool true]
  | none => .tuple #[.agg #[.int .i64 0, .int .i64 0, .slice none 0 0, .int .i64 0, .int .i64 0, .slice none 0 0], .int .u8 0, .bool false]

theorem headAt_none : ∀ p : List UInt8, (∀ d ∈ p, ¬ (d = 97 ∨ d = 99 ∨ d = 100)) → headAt p = none
  | [], _ => rfl
  | c :: r, h => by rw [headAt, if_neg (h c (by simp)), headAt_none r (fun d hd => h d (by simp [hd]))]; rfl
theorem byte_eq {c : UInt8} {k : Nat} (h : c.toNat = k) (hk : k < 256) : c = UInt8.ofNat k := by
  apply UInt8.toNat.inj
  rw [h]
  simp
  omega
/-- None of the first k bytes is a letter of a head. -/
def noLetter (s : ByteArray) (k : Nat) : Prop := ∀ j (hj : j < s.size), j < k → (s[j]'hj).toNat ≠ 97 ∧ (s[j]'hj).toNat ≠ 99 ∧ (s[j]'hj).toNat ≠ 100
theorem noLetter.mem {s : ByteArray} {k : Nat} (h : noLetter s k) : ∀ d ∈ s.data.toList.take k, ¬ (d = 97 ∨ d = 99 ∨ d = 100) := by
  intro d hd
  obtain ⟨j, hj, e⟩ := List.getElem_of_mem hd
  rw [List.length_take] at hj
  have hjs : j < s.size := by rw [Lib.size_eq]; omega
  have e2 : s.data.toList[j]? = some (s[j]'hjs) := Lib.data_getElem? s j hjs
  have e3 : d = s[j]'hjs := by
    have e4 : (s.data.toList.take k)[j]? = some d := by rw [List.getElem?_eq_getElem (by rw [List.length_take]; exact hj), e]
    rw [List.getElem?_take, if_pos (by omega), e2] at e4
    exact (Option.some.inj e4).symm
  have h1 := h j hjs (by omega)
  rw [e3]
  rintro (e5 | e5 | e5) <;> (rw [e5] at h1; simp at h1)
theorem head_split {s : ByteArray} {k : Nat} (hk : k < s.size) (h : noLetter s k) (hc : s[k]'hk = 97 ∨ s[k]'hk = 99 ∨ s[k]'hk = 100) : headAt s.data.toList = some (s.data.toList.take k, s[k]'hk, s.data.toList.drop (k + 1)) := by
  have e2 : s.data.toList[k]? = some (s[k]'hk) := Lib.data_getElem? s k hk
  have hkl : k < s.data.toList.length := by rw [← Lib.size_eq]; exact hk
  have e3 : s.data.toList[k] = s[k]'hk := by rw [List.getElem?_eq_getElem hkl] at e2; exact Option.some.inj e2
  have e4 : s.data.toList = s.data.toList.take k ++ (s[k]'hk) :: s.data.toList.drop (k + 1) := by
    rw [← e3, ← List.drop_eq_getElem_cons hkl, List.take_append_drop]
  have e5 := headAt_hit (s.data.toList.take k) (s[k]'hk) (s.data.toList.drop (k + 1)) h.mem hc
  rw [← e4] at e5
  exact e5
theorem head_gone {s : ByteArray} (h : noLetter s s.size) : readHead s.data.toList = none := by
  have h1 := headAt_none s.data.toList (by
    have := h.mem
    rwa [Lib.size_eq, List.take_length] at this)
  unfold readHead
  rw [h1]
theorem readHead_at {l p q : List UInt8} {c : UInt8} (h : headAt l = some (p, c, q)) : readHead l = match pairL p, pairL q with
    | some (f, t), some (n, m) => some (f, t, c, n, m)
    | _, _ => none := by
  unfold readHead
  rw [h]
  rfl
theorem headAt_letter : ∀ {l p q : List UInt8} {c : UInt8}, headAt l = some (p, c, q) → c = 97 ∨ c = 99 ∨ c = 100
  | [], _, _, _, h => by simp [headAt] at h
  | d :: r, p, q, c, h => by
    rw [headAt] at h
    split at h
    · rename_i hd
      simp at h
      rw [← h.2.1]; exact hd
    · cases e : headAt r with
      | none => rw [e] at h; simp at h
      | some x =>
        obtain ⟨p', c', q'⟩ := x
        rw [e] at h
        simp at h
        have := headAt_letter e
        rw [← h.2.1]; exact this
theorem readHead_letter {l : List UInt8} {f t n m : Nat} {c : UInt8} (h : readHead l = some (f, t, c, n, m)) : (c = 97 ∨ c = 99 ∨ c = 100) := by
  unfold readHead at h
  split at h
  · cases h
  · rename_i p d q e
    split at h
    · simp at h
      rw [← h.2.2.1]
      exact headAt_letter e
    · cases h
theorem readHead_le {l : List UInt8} {f t n m : Nat} {c : UInt8} (h : readHead l = some (f, t, c, n, m)) : f ≤ 1000 ∧ t ≤ 1000 ∧ n ≤ 1000 ∧ m ≤ 1000 := by
  have key : ∀ {p : List UInt8} {a b : Nat}, pairL p = some (a, b) → a ≤ 1000 ∧ b ≤ 1000 := fun h => by
    rw [pairL_two] at h
    have h1 := Option.filter_eq_some_iff.1 h
    have h2 := two1000_le h1.1
    exact h2.2
  unfold readHead at h
  split at h
  · cases h
  · split at h
    · rename_i p d q e f' t' n' m' e1 e2
      simp at h
      have k1 := key e1
      have k2 := key e2
      omega
    · cases h

set_option maxHeartbeats 4000000 in
set_option maxRecDepth 100000 in
theorem l5Head_any (s : ByteArray) (hs : s.size ≤ 3000) (w : World) :
    Calls Tryz.prog 47 #[.string s] w fun e w' => e = .returned (headO (readHead s.data.toList)) ∧ Below w.heap.size w w' := by
  obtain ⟨W, HW⟩ : ∃ W, Hid (W = w.alloc (.cells #[.int .i64 0, .int .i64 0, .slice none 0 0, .int .i64 0, .int .i64 0, .slice none 0 0] 69)) := ⟨_, rfl⟩
  have HB := Lib.hid (show Below w.heap.size w W by rw [HW.out]; exact below_alloc w _)
  have HG := Lib.hid (show W.heap[w.heap.size]? = some (.cells #[.int .i64 0, .int .i64 0, .slice none 0 0, .int .i64 0, .int .i64 0, .slice none 0 0] 69 (0, 0)) by rw [HW.out]; exact heap_alloc_new w _)
  have HLW := Lib.hid (show w.heap.size < W.heap.size from (Array.getElem?_eq_some_iff.1 HG.out).1)
  go_enter Tryz.func47, Tryz.ntmps47
  go_wp2
  rw [← HW.out]
  go_loopw [5] (fun i w' => ∃ k : Nat, i = .int .i64 k ∧ k ≤ s.size ∧ Hid (noLetter s k) ∧ w' = W) (fun i _ => s.size - (intOf i).toNat)
  case atStart => exact ⟨0, rfl, by omega, Lib.hid (fun j _ h => by omega), rfl⟩
  case round =>
    obtain ⟨k, rfl, hk, H, rfl⟩ := hrel
    by_cases hlt : k < s.size
    · by_cases hhit : (s[k]'hlt).toNat = 97 ∨ (s[k]'hlt).toNat = 99 ∨ (s[k]'hlt).toNat = 100
      · have HH := Lib.hid (head_split hlt H.out (by
          rcases hhit with h | h | h
          · exact .inl (byte_eq h (by decide))
          · exact .inr (.inl (byte_eq h (by decide)))
          · exact .inr (.inr (byte_eq h (by decide)))))
        have HX1 := Lib.hid (show (s.extract 0 k).data.toList = s.data.toList.take k by rw [extract_bs, bs_list]; simp)
        have HX2 := Lib.hid (show (s.extract (k + 1) s.size).data.toList = s.data.toList.drop (k + 1) by rw [extract_bs, bs_list]; exact List.take_of_length_le (by rw [Lib.size_eq]; simp))
        have hX1 : (s.extract 0 k).size ≤ 1048576 := by rw [ByteArray.size_extract]; omega
        have hX2 : (s.extract (k + 1) s.size).size ≤ 1048576 := by rw [ByteArray.size_extract]; omega
        obtain ⟨X1, hXe1⟩ : ∃ X, Hid (X = s.extract 0 k) := ⟨_, rfl⟩
        obtain ⟨X2, hXe2⟩ : ∃ X, Hid (X = s.extract (k + 1) s.size) := ⟨_, rfl⟩
        rw [← hXe1.out] at HX1 hX1
        rw [← hXe2.out] at HX2 hX2
        have HRH := Lib.hid (readHead_at HH.out)
        cases hp1 : pairL (s.data.toList.take k) with
        | none =>
          have HE := Lib.hid (show readHead s.data.toList = none by rw [HRH.out, hp1])
          have HD1 := Lib.hid (show duo (pairL X1.data.toList) = .tuple #[.int .i64 0, .int .i64 0, .bool false] by rw [HX1.out]; exact duo_not hp1)
          obtain ⟨f2, t2, o2, HD2⟩ : ∃ f2 t2 o2, Hid (duo (pairL X2.data.toList) = .tuple #[.int .i64 f2, .int .i64 t2, .bool o2]) := by
            cases hp2 : pairL X2.data.toList with
            | none => exact ⟨0, 0, false, rfl⟩
            | some x => exact ⟨_, _, true, rfl⟩
          clear hp1
          rcases hhit with hhit | hhit | hhit
          all_goals
            go_wp2_with fail
            rw [← hXe1.out]
            refine (sReadPair_any X1 hX1 _).mono ?_
            rintro e w3 ⟨rfl, b3⟩
            rw [HD1.out]
            go_wp2_with fail
            rw [← hXe2.out]
            refine (sReadPair_any X2 hX2 _).mono ?_
            rintro e w4 ⟨rfl, b4⟩
            rw [HD2.out]
            have q := ((b3.next b4).block _ HLW.out).trans HG.out
            have z0 : w4.cell? ⟨w.heap.size, 0, none⟩ = some (.int .i64 0) := by simp [World.cell?, q]
            have z1 : w4.cell? ⟨w.heap.size, 1, none⟩ = some (.int .i64 0) := by simp [World.cell?, q]
            have z2 : w4.cell? ⟨w.heap.size, 2, none⟩ = some (.slice none 0 0) := by simp [World.cell?, q]
            have z3 : w4.cell? ⟨w.heap.size, 3, none⟩ = some (.int .i64 0) := by simp [World.cell?, q]
            have z4 : w4.cell? ⟨w.heap.size, 4, none⟩ = some (.int .i64 0) := by simp [World.cell?, q]
            have z5 : w4.cell? ⟨w.heap.size, 5, none⟩ = some (.slice none 0 0) := by simp [World.cell?, q]
            have fz : ∀ j, w4.frozen? ⟨w.heap.size, j, none⟩ = false := fun j => by simp [World.frozen?, q]
            have HB4 := Lib.hid (HB.out.next (b3.next b4))
            clear q b3 b4
            go_wp2
            (try simp only [Exit.inBlock, Exit.then])
            refine bodyPost_ret (v := headO none) (by simp [results, Tryz.results47, go_sem, z0, z1, z2, z3, z4, z5, headO]) rfl ?_
            exact ⟨by rw [HE.out], (((((HB4.out.setCell (Nat.le_refl _) _).setCell (Nat.le_refl _) _).setCell (Nat.le_refl _) _).setCell (Nat.le_refl _) _).setCell (Nat.le_refl _) _).setCell (Nat.le_refl _) _⟩
        | some x1 =>
          obtain ⟨f, t⟩ := x1
          have HD1 := Lib.hid (show duo (pairL X1.data.toList) = .tuple #[.int .i64 (f : Int), .int .i64 (t : Int), .bool true] by rw [HX1.out]; exact duo_yes hp1)
          cases hp2 : pairL (s.data.toList.drop (k + 1)) with
          | none =>
            have HE := Lib.hid (show readHead s.data.toList = none by rw [HRH.out, hp1, hp2])
            have HD2 := Lib.hid (show duo (pairL X2.data.toList) = .tuple #[.int .i64 0, .int .i64 0, .bool false] by rw [HX2.out]; exact duo_not hp2)
            clear hp1 hp2
            rcases hhit with hhit | hhit | hhit
            all_goals
              go_wp2_with fail
              rw [← hXe1.out]
              refine (sReadPair_any X1 hX1 _).mono ?_
              rintro e w3 ⟨rfl, b3⟩
              rw [HD1.out]
              go_wp2_with fail
              rw [← hXe2.out]
              refine (sReadPair_any X2 hX2 _).mono ?_
              rintro e w4 ⟨rfl, b4⟩
              rw [HD2.out]
              have q := ((b3.next b4).block _ HLW.out).trans HG.out
              have z0 : w4.cell? ⟨w.heap.size, 0, none⟩ = some (.int .i64 0) := by simp [World.cell?, q]
              have z1 : w4.cell? ⟨w.heap.size, 1, none⟩ = some (.int .i64 0) := by simp [World.cell?, q]
              have z2 : w4.cell? ⟨w.heap.size, 2, none⟩ = some (.slice none 0 0) := by simp [World.cell?, q]
              have z3 : w4.cell? ⟨w.heap.size, 3, none⟩ = some (.int .i64 0) := by simp [World.cell?, q]
              have z4 : w4.cell? ⟨w.heap.size, 4, none⟩ = some (.int .i64 0) := by simp [World.cell?, q]
              have z5 : w4.cell? ⟨w.heap.size, 5, none⟩ = some (.slice none 0 0) := by simp [World.cell?, q]
              have fz : ∀ j, w4.frozen? ⟨w.heap.size, j, none⟩ = false := fun j => by simp [World.frozen?, q]
              have HB4 := Lib.hid (HB.out.next (b3.next b4))
              clear q b3 b4
              go_wp2
              (try simp only [Exit.inBlock, Exit.then])
              refine bodyPost_ret (v := headO none) (by simp [results, Tryz.results47, go_sem, z0, z1, z2, z3, z4, z5, headO]) rfl ?_
              exact ⟨by rw [HE.out], (((((HB4.out.setCell (Nat.le_refl _) _).setCell (Nat.le_refl _) _).setCell (Nat.le_refl _) _).setCell (Nat.le_refl _) _).setCell (Nat.le_refl _) _).setCell (Nat.le_refl _) _⟩
          | some x2 =>
            obtain ⟨n, m⟩ := x2
            have HE := Lib.hid (show readHead s.data.toList = some (f, t, s[k]'hlt, n, m) by rw [HRH.out, hp1, hp2])
            have HD2 := Lib.hid (show duo (pairL X2.data.toList) = .tuple #[.int .i64 (n : Int), .int .i64 (m : Int), .bool true] by rw [HX2.out]; exact duo_yes hp2)
            clear hp1 hp2
            rcases hhit with hhit | hhit | hhit
            all_goals
              go_wp2_with fail
              rw [← hXe1.out]
              refine (sReadPair_any X1 hX1 _).mono ?_
              rintro e w3 ⟨rfl, b3⟩
              rw [HD1.out]
              go_wp2_with fail
              rw [← hXe2.out]
              refine (sReadPair_any X2 hX2 _).mono ?_
              rintro e w4 ⟨rfl, b4⟩
              rw [HD2.out]
              have q := ((b3.next b4).block _ HLW.out).trans HG.out
              have z0 : w4.cell? ⟨w.heap.size, 0, none⟩ = some (.int .i64 0) := by simp [World.cell?, q]
              have z1 : w4.cell? ⟨w.heap.size, 1, none⟩ = some (.int .i64 0) := by simp [World.cell?, q]
              have z2 : w4.cell? ⟨w.heap.size, 2, none⟩ = some (.slice none 0 0) := by simp [World.cell?, q]
              have z3 : w4.cell? ⟨w.heap.size, 3, none⟩ = some (.int .i64 0) := by simp [World.cell?, q]
              have z4 : w4.cell? ⟨w.heap.size, 4, none⟩ = some (.int .i64 0) := by simp [World.cell?, q]
              have z5 : w4.cell? ⟨w.heap.size, 5, none⟩ = some (.slice none 0 0) := by simp [World.cell?, q]
              have fz : ∀ j, w4.frozen? ⟨w.heap.size, j, none⟩ = false := fun j => by simp [World.frozen?, q]
              have HB4 := Lib.hid (HB.out.next (b3.next b4))
              clear q b3 b4
              have HHI := Lib.hid hhit
              go_wp2
              go_region
              all_goals go_wp2
              all_goals (try simp only [Exit.inBlock, Exit.then])
              all_goals refine bodyPost_ret (v := headO (some (f, t, s[k]'hlt, n, m))) (by simp [results, Tryz.results47, go_sem, z0, z1, z2, z3, z4, z5, headO, HHI.out]) rfl ?_
              all_goals exact ⟨by rw [HE.out], Below.drew ((((((HB4.out.setCell (Nat.le_refl _) _).setCell (Nat.le_refl _) _).setCell (Nat.le_refl _) _).setCell (Nat.le_refl _) _).setCell (Nat.le_refl _) _).setCell (Nat.le_refl _) _)⟩
      · have h1 : (s[k]'hlt).toNat ≠ 97 := fun e => hhit (.inl e)
        have h2 : (s[k]'hlt).toNat ≠ 99 := fun e => hhit (.inr (.inl e))
        have h3 : (s[k]'hlt).toNat ≠ 100 := fun e => hhit (.inr (.inr e))
        have b1 : (((s[k]'hlt).toNat : Int) != 97) = true := by simp; omega
        have b2 : (((s[k]'hlt).toNat : Int) != 99) = true := by simp; omega
        have b3 : (((s[k]'hlt).toNat : Int) != 100) = true := by simp; omega
        have H2 := Lib.hid (show noLetter s (k + 1) from fun j hj h5 => by
          by_cases e : j = k
          · subst e; exact ⟨h1, h2, h3⟩
          · exact H.out j hj (by omega))
        clear hhit
        go_wp2
        go_roundw
        case rel => exact ⟨k + 1, by go_num, by omega, H2, by first | rfl | trivial⟩
        case measure => simp [intOf]; omega
    · obtain rfl : k = s.size := by omega
      have HE := Lib.hid (head_gone H.out)
      have q := HG.out
      have z0 : wr.cell? ⟨w.heap.size, 0, none⟩ = some (.int .i64 0) := by simp [World.cell?, q]
      have z1 : wr.cell? ⟨w.heap.size, 1, none⟩ = some (.int .i64 0) := by simp [World.cell?, q]
      have z2 : wr.cell? ⟨w.heap.size, 2, none⟩ = some (.slice none 0 0) := by simp [World.cell?, q]
      have z3 : wr.cell? ⟨w.heap.size, 3, none⟩ = some (.int .i64 0) := by simp [World.cell?, q]
      have z4 : wr.cell? ⟨w.heap.size, 4, none⟩ = some (.int .i64 0) := by simp [World.cell?, q]
      have z5 : wr.cell? ⟨w.heap.size, 5, none⟩ = some (.slice none 0 0) := by simp [World.cell?, q]
      have fz : ∀ j, wr.frozen? ⟨w.heap.size, j, none⟩ = false := fun j => by simp [World.frozen?, q]
      clear q
      go_wp2
      (try simp only [Exit.inBlock, Exit.then])
      refine bodyPost_ret (v := headO none) (by simp [results, Tryz.results47, go_sem, z0, z1, z2, z3, z4, z5, headO]) rfl ?_
      exact ⟨by rw [HE.out], (((((HB.out.setCell (Nat.le_refl _) _).setCell (Nat.le_refl _) _).setCell (Nat.le_refl _) _).setCell (Nat.le_refl _) _).setCell (Nat.le_refl _) _).setCell (Nat.le_refl _) _⟩

theorem take2 (s : ByteArray) : (s.extract 0 2).data.toList = s.data.toList.take 2 := by rw [extract_bs, bs_list]; rfl
theorem drop2 (s : ByteArray) : s.extract 2 s.size = bs (s.data.toList.drop 2) := by
  rw [extract_bs]
  congr 1
  exact List.take_of_length_le (by rw [Lib.size_eq]; simp)
theorem drop2_last (s : ByteArray) : (s.extract 2 s.size).extract 0 ((s.extract 2 s.size).size - 1) = bs (s.data.toList.drop 2).dropLast := by
  rw [drop2, extract_bs, bs_list, bs_size, List.drop_zero, Nat.sub_zero, List.dropLast_eq_take]
theorem map_at {l : List ByteArray} {k : Nat} {s : ByteArray} (h : l[k]? = some s) : (l.map (·.data.toList))[k]? = some s.data.toList := by
  rw [List.getElem?_map, h]; rfl
theorem none_bytes {t : ByteArray} : (t.toList == [92, 32, 110, 111, 110, 101, 10]) = decide (t.data.toList = noneL) := by
  rw [ByteArray.toList_eq]
  unfold noneL
  rw [Bool.eq_iff_iff, beq_iff_eq, decide_eq_true_iff]

set_option maxHeartbeats 4000000 in
set_option maxRecDepth 100000 in
theorem l5Take_any (a : Option Addr) (n c : Nat) (l : List ByteArray) (sign : ByteArray) (w : World) (hl : Strs w a n l) (hsg : sign.size = 2) (hn : n ≤ 3001) (hsz : ∀ s ∈ l, s.size ≤ 3000) :
    Calls Tryz.prog 49 #[.slice a n c, .string sign] w fun e w' => ∃ v, ∃ k : Nat, ∃ O, e = .returned (.tuple #[v, .int .i64 (k : Int)]) ∧ OwnV w' w.heap.size v (O.map bs) ∧ k ≤ n ∧ O.length ≤ k ∧ takeS sign.data.toList (l.map (·.data.toList)) = (O, (l.map (·.data.toList)).drop k) ∧ Below w.heap.size w w' := by
  have HN := Lib.hid hl.len
  have HSZ := Lib.hid hsz
  have HSG := Lib.hid hsg
  clear hsz
  go_enter Tryz.func49, Tryz.ntmps49
  go_wp2
  go_loopw [6, 7] (fun v i w' => ∃ (u : Value) (O : List (List UInt8)) (k : Nat), u = v ∧ i = .int .i64 k ∧ k ≤ n ∧ OwnV w' w.heap.size u (O.map bs) ∧ O.length ≤ k ∧ Hid (Took sign.data.toList (l.map (·.data.toList)) k O) ∧ Below w.heap.size w w') (fun _ i _ => n - (intOf i).toNat)
  case atStart => exact ⟨_, [], 0, rfl, rfl, by omega, OwnV.nil_, by simp, Lib.hid (Took.start _ _), Below.refl _ _⟩
  case round =>
    obtain ⟨u, O, k, rfl, rfl, hk, ho, hO, HT, hb⟩ := hrel
    by_cases hlt : k < n
    · obtain ⟨b, off, s, rfl, hs, hsm, c0⟩ := (hl.below hb).at_ hlt
      have hs3 : s.size ≤ 3000 := HSZ.out s (List.mem_of_getElem? hs)
      have HS := Lib.hid (map_at hs)
      have HSS := Lib.hid (Lib.size_eq s)
      clear hs
      by_cases h2 : s.size ≤ 2
      · have HE := Lib.hid (HT.out.stop HS.out (.inl (by have := HSS.out; omega)))
        have q1 : decide ((s.size : Int) ≤ 2) = true := by simp; omega
        go_wp2
        go_ret2
        exact ⟨_, k, O, rfl, ho, hk, hO, HE.out, hb⟩
      · have q1 : decide ((s.size : Int) ≤ 2) = false := by simp; omega
        by_cases hq : s.extract 0 2 = sign
        · have q2 : ((s.extract 0 2).toList == sign.toList) = true := by rw [hq]; exact beq_same sign
          have HNC := Lib.hid (show ¬ (s.data.toList.length ≤ 2 ∨ s.data.toList.take 2 ≠ sign.data.toList) by
            rintro (h | h)
            · have := HSS.out; omega
            · exact h (by rw [← take2, hq]))
          obtain ⟨X, HX⟩ : ∃ X, Hid (X = s.extract 2 s.size) := ⟨_, rfl⟩
          have hXs : X.size = s.size - 2 := by rw [HX.out, ByteArray.size_extract]; omega
          have HXB := Lib.hid (HX.out.trans (drop2 s))
          clear hq
          by_cases h3 : k + 1 < n
          · obtain ⟨b', off', t, e, ht, htm, d0⟩ := (hl.below hb).at_ h3
            obtain ⟨rfl, rfl⟩ : b' = b ∧ off' = off := by injection e with e; injection e with e1 e2; exact ⟨e1.symm, e2.symm⟩
            have HTT := Lib.hid (map_at ht)
            clear e ht htm
            by_cases hno : t.data.toList = noneL
            · have q3 : (t.toList == [92, 32, 110, 111, 110, 101, 10]) = true := by rw [none_bytes]; exact decide_eq_true hno
              have HT2 := Lib.hid (HT.out.none HS.out HNC.out (by rw [HTT.out, hno]))
              obtain ⟨Y, HY⟩ : ∃ Y, Hid (Y = X.extract 0 (X.size - 1)) := ⟨_, rfl⟩
              have HYB := Lib.hid (show Y = bs (s.data.toList.drop 2).dropLast by rw [HY.out, HX.out, drop2_last])
              have HYS := Lib.hid (show Y.size ≤ 3000 by rw [HY.out, ByteArray.size_extract]; omega)
              have HYE := Lib.hid (show (s.extract 2 s.size).extract 0 (s.size - 2 - 1) = Y by rw [HY.out, hXs, HX.out])
              have HZ := Lib.hid hb.size
              have HOL := Lib.hid (show (O.map bs).length ≤ 3001 by rw [List.length_map]; omega)
              have HO := Lib.hid ho
              have HB := Lib.hid hb
              clear hno ho hb
              go_wp2_with (first
                | (at_builtin; rw [HYE.out]; refine app_strs (.tmp 54) (.tmp 56) w.heap.size u (O.map bs) (HO.out.below (below_alloc _ _)) _ 1 1 [Y] (strs_one wr Y (by have := HYS.out; unfold maxLen; omega)) (by have := HOL.out; omega) (Nat.le_trans HZ.out (below_alloc _ _).size) rfl rfl rfl rfl ?_; intro v1 w1 o1 g1 p1)
                | fail)
              go_roundw
              case rel => exact ⟨v1, O ++ [(s.data.toList.drop 2).dropLast], k + 2, rfl, by go_num, by omega, by rw [List.map_append]; rw [HYB.out] at o1; exact o1, by simp; omega, HT2, (HB.out.next (below_alloc _ _)).grown g1 (Nat.le_trans HZ.out (below_alloc _ _).size) (fun b e => (HO.out.lt e).1)⟩
              case measure => simp [intOf]; omega
            · have q3 : (t.toList == [92, 32, 110, 111, 110, 101, 10]) = false := by rw [none_bytes]; exact decide_eq_false hno
              have HT2 := Lib.hid (HT.out.more HS.out HNC.out (by rw [HTT.out]; intro e; exact hno (Option.some.inj e)))
              have HZ := Lib.hid hb.size
              have HOL := Lib.hid (show (O.map bs).length ≤ 3001 by rw [List.length_map]; omega)
              have HO := Lib.hid ho
              have HB := Lib.hid hb
              clear hno ho hb
              go_wp2_with (first
                | (at_builtin; rw [← HX.out]; refine app_strs (.tmp 54) (.tmp 56) w.heap.size u (O.map bs) (HO.out.below (below_alloc _ _)) _ 1 1 [X] (strs_one wr X (by unfold maxLen; omega)) (by have := HOL.out; omega) (Nat.le_trans HZ.out (below_alloc _ _).size) rfl rfl rfl rfl ?_; intro v1 w1 o1 g1 p1)
                | fail)
              go_roundw
              case rel => exact ⟨v1, O ++ [s.data.toList.drop 2], k + 1, rfl, by go_num, by omega, by rw [List.map_append]; rw [HXB.out] at o1; exact o1, by simp; omega, HT2, (HB.out.next (below_alloc _ _)).grown g1 (Nat.le_trans HZ.out (below_alloc _ _).size) (fun b e => (HO.out.lt e).1)⟩
              case measure => simp [intOf]; omega
          · have HT2 := Lib.hid (HT.out.more HS.out HNC.out (by rw [List.getElem?_eq_none (by rw [List.length_map, HN.out]; omega)]; simp))
            have HZ := Lib.hid hb.size
            have HOL := Lib.hid (show (O.map bs).length ≤ 3001 by rw [List.length_map]; omega)
            have HO := Lib.hid ho
            have HB := Lib.hid hb
            clear ho hb
            go_wp2_with (first
              | (at_builtin; rw [← HX.out]; refine app_strs (.tmp 54) (.tmp 56) w.heap.size u (O.map bs) (HO.out.below (below_alloc _ _)) _ 1 1 [X] (strs_one wr X (by unfold maxLen; omega)) (by have := HOL.out; omega) (Nat.le_trans HZ.out (below_alloc _ _).size) rfl rfl rfl rfl ?_; intro v1 w1 o1 g1 p1)
              | fail)
            go_roundw
            case rel => exact ⟨v1, O ++ [s.data.toList.drop 2], k + 1, rfl, by go_num, by omega, by rw [List.map_append]; rw [HXB.out] at o1; exact o1, by simp; omega, HT2, (HB.out.next (below_alloc _ _)).grown g1 (Nat.le_trans HZ.out (below_alloc _ _).size) (fun b e => (HO.out.lt e).1)⟩
            case measure => simp [intOf]; omega
        · have q2 : ((s.extract 0 2).toList == sign.toList) = false := beq_other hq
          have HE := Lib.hid (HT.out.stop HS.out (.inr (fun e => hq (bytes_ext (by rw [take2]; exact e)))))
          clear hq
          go_wp2
          go_ret2
          exact ⟨_, k, O, rfl, ho, hk, hO, HE.out, hb⟩
    · have HE := Lib.hid (HT.out.all (by rw [List.length_map, HN.out]; omega))
      go_wp2
      go_ret2
      exact ⟨_, k, O, rfl, ho, hk, hO, HE.out, hb⟩

end Go.Proofs.YtnimaadjmejmpaaGreatDoor
