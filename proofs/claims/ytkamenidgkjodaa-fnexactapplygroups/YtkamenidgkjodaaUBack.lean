/-
  Groups turned round: the program's turnedBack and BackGroups.
-/
import Derived.Test.YtkamenidgkjodaaUHunk
import Derived.Test.YtkamenidgkjodaaGGood
import Derived.Test.YtkamenidgkjodaaGRowsN
import Derived.Test.YtkamenidgkjodaaUPairs
import Derived.Deep.RegionHeld3
import Derived.StillTailTactics
set_option linter.unusedSimpArgs false
set_option linter.unusedVariables false
namespace Go.Proofs.Ytkamenidgkjodaa
open Go.RowKit Go.ChangeShapes Go.WideShapes M

/-- hunksIn, the program's. -/
theorem kept_step_keep {rows : List Rw} {k : Nat} {x : Rw} (h : rows[k]? = some x) (hk : x.kind = 1) (a t : Nat) : keptF a t (rows.drop k) = (a, t) :: keptF (a + 1) (t + 1) (rows.drop (k + 1)) := by
  rw [drop_at h, keptF, if_pos hk]
theorem kept_step_gone {rows : List Rw} {k : Nat} {x : Rw} (h : rows[k]? = some x) (hk : x.kind = 2) (a t : Nat) : keptF a t (rows.drop k) = keptF (a + 1) t (rows.drop (k + 1)) := by
  rw [drop_at h, keptF, if_neg (by omega), if_pos hk]
theorem kept_step_new {rows : List Rw} {k : Nat} {x : Rw} (h : rows[k]? = some x) (hk : x.kind = 3) (a t : Nat) : keptF a t (rows.drop k) = keptF a (t + 1) (rows.drop (k + 1)) := by
  rw [drop_at h, keptF, if_neg (by omega), if_neg (by omega), if_pos hk]

set_option maxHeartbeats 4000000 in
set_option maxRecDepth 100000 in
theorem hunksIn_any (b off : Nat) (a : Option Addr) (n c : Nat) (rows : List Rw) (w : World) (d2 : w.cell? ⟨b, off + 2, none⟩ = some (.slice a n c)) (hl : Rws w a n rows) (hk : kindOk3 rows) (h3 : (lw 3 rows).length ≤ 40) (h2 : (lw 2 rows).length ≤ 40) (hn : n ≤ 80) :
    Calls Try.prog 39 #[.pointer (some ⟨b, off, none⟩)] w fun e w' => ∃ v vs, e = .returned v ∧ OwnH w' w.heap.size v (bareH rows) vs ∧ Below w.heap.size w w' := by
  have HL := Lib.hid hl.len
  have HK := Lib.hid hk
  have HD2 := Lib.hid d2
  have HR := Lib.hid hl
  obtain ⟨m3, H3⟩ : ∃ m, Hid ((lw 3 rows).length = m) := ⟨_, rfl⟩
  obtain ⟨m2, H2⟩ : ∃ m, Hid ((lw 2 rows).length = m) := ⟨_, rfl⟩
  have hm3 : m3 ≤ 40 := by rw [← H3.out]; exact h3
  have hm2 : m2 ≤ 40 := by rw [← H2.out]; exact h2
  have HKL := Lib.hid (kept_len rows 0 0)
  clear hk h3 h2 hl
  go_enter Try.func39, Try.ntmps39
  go_wp2
  go_loopw [3, 4, 5, 13] (fun lv p q i w' => ∃ (v : Value) (gs : List Nat) (L : List (Nat × Nat)), ∃ k a' t : Nat, v = lv ∧ p = .int .i64 (a' : Int) ∧ q = .int .i64 (t : Int) ∧ i = .int .i64 (k : Int) ∧ k ≤ n ∧ a' ≤ k ∧ t ≤ k ∧ L.length ≤ k ∧ OwnPP w' w.heap.size v L gs ∧ Hid (L ++ keptF a' t (rows.drop k) = keptF 0 0 rows) ∧ Below w.heap.size w w') (fun _ _ _ i _ => n - (intOf i).toNat)
  case atStart => exact ⟨_, [], [], 0, 0, 0, rfl, rfl, rfl, rfl, by omega, by omega, by omega, by simp, OwnPP.nil_, rfl, Below.refl _ _⟩
  case round =>
    obtain ⟨v, gs, L, k, a', t, rfl, rfl, rfl, rfl, hk, ha', ht, hLk, ho, HP, hb⟩ := hrel
    by_cases hlt : k < n
    · obtain ⟨b', off', x, rfl, hx, c0, c1, hok⟩ := (HR.out.below hb).at_ hlt
      obtain ⟨k1, k3⟩ := HK.out x (List.mem_of_getElem? hx)
      have HX := Lib.hid hx
      obtain ⟨W, HW⟩ : ∃ W, Hid (W = wr.alloc (.cells #[.int .i64 x.kind, .string x.line] 72)) := ⟨_, rfl⟩
      have HB := Lib.hid (show Below wr.heap.size wr W by rw [HW.out]; exact below_alloc _ _)
      have e0 : W.cell? ⟨wr.heap.size, 0, none⟩ = some (.int .i64 x.kind) := by rw [HW.out]; simp
      have e1 : W.cell? ⟨wr.heap.size, 1, none⟩ = some (.string x.line) := by rw [HW.out]; simp
      have hbW := Lib.hid (hb.next HB.out)
      have hoW := Lib.hid (ho.below HB.out)
      have hw1 : IntKind.i64.wrap ((a' : Int) + 1) = (a' : Int) + 1 := by rw [IntKind.wrap_i64]; omega
      have hw2 : IntKind.i64.wrap ((t : Int) + 1) = (t : Int) + 1 := by rw [IntKind.wrap_i64]; omega
      clear hx
      by_cases e1k : x.kind = 1
      · have q1 : (x.kind == 1) = true := by simp [e1k]
        have hs := Lib.hid (kept_step_keep HX.out e1k a' t)
        have hlenL : L.length ≤ 80 := by omega
        have hz := Lib.hid hbW.out.size
        clear e1k
        have hWs := Lib.hid (show W.heap.size = wr.heap.size + 1 by rw [HW.out]; simp)
        have b9a := Lib.hid ((below_alloc W (.cells #[.int .i64 (a' : Int), .int .i64 (t : Int)] 3)).next (below_alloc _ (.cells #[.slice (some ⟨wr.heap.size + 1, 0, none⟩) 2 2] 84)))
        have hg1 := Lib.hid (show ((W.alloc (.cells #[.int .i64 (a' : Int), .int .i64 (t : Int)] 3)).alloc (.cells #[.slice (some ⟨wr.heap.size + 1, 0, none⟩) 2 2] 84)).heap[wr.heap.size + 1]? = some (.cells #[.int .i64 (a' : Int), .int .i64 (t : Int)] 3 (0, 0)) by
          rw [← hWs.out, Below.heap_alloc _ _ _ (by simp)]; exact heap_alloc_new W _)
        have hg0 := Lib.hid (show ((W.alloc (.cells #[.int .i64 (a' : Int), .int .i64 (t : Int)] 3)).alloc (.cells #[.slice (some ⟨wr.heap.size + 1, 0, none⟩) 2 2] 84)).cell? ⟨wr.heap.size + 1 + 1, 0, none⟩ = some (.slice (some ⟨wr.heap.size + 1, 0, none⟩) 2 2) by
          rw [← hWs.out]; simp)
        go_wp2_with (first
          | (at_builtin; rw [← HW.out]; refine wpList_pp (.tmp 21) (.tmp 25) w.heap.size v L gs (hoW.out.below b9a.out) (a', t) (wr.heap.size + 1 + 1) (wr.heap.size + 1) hg0.out hg1.out (by have := hz.out; have := hWs.out; omega) (fun e => by have := (ho.lt e).2; omega) (by omega) (by simp; have := hz.out; omega) rfl rfl rfl rfl ?_
             intro v10 w10 o10 g10
             have B10 := Lib.hid (show Below w.heap.size w w10 from Below.grown (hbW.out.next b9a.out) g10 (by simp; have := hz.out; omega) (fun g e => (hoW.out.lt (.inl e)).1)))
          | fail)
        go_roundw
        case rel => exact ⟨v10, _, L ++ [(a', t)], k + 1, a' + 1, t + 1, rfl, by go_num, by go_num, by go_num, by omega, by omega, by omega, by simp; omega, o10, show _ = _ by rw [← HP.out, hs.out]; simp, B10.out⟩
        case measure => simp [intOf]; omega
      · have q1 : (x.kind == 1) = false := by simp [e1k]
        by_cases e2k : x.kind = 2
        · have q2 : (x.kind == 2) = true := by simp [e2k]
          have hs := Lib.hid (kept_step_gone HX.out e2k a' t)
          clear e1k e2k
          go_wp2
          rw [← HW.out]
          go_wp2
          go_roundw
          case rel => exact ⟨v, gs, L, k + 1, a' + 1, t, rfl, by go_num, rfl, by go_num, by omega, by omega, by omega, by omega, hoW.out, show _ = _ by rw [← HP.out, hs.out], hbW.out⟩
          case measure => simp [intOf]; omega
        · have e3k : x.kind = 3 := by omega
          have q2 : (x.kind == 2) = false := by simp [e2k]
          have q3 : (x.kind == 3) = true := by simp [e3k]
          have hs := Lib.hid (kept_step_new HX.out e3k a' t)
          clear e1k e2k e3k
          go_wp2
          rw [← HW.out]
          go_wp2
          go_roundw
          case rel => exact ⟨v, gs, L, k + 1, a', t + 1, rfl, rfl, by go_num, by go_num, by omega, by omega, by omega, by omega, hoW.out, show _ = _ by rw [← HP.out, hs.out], hbW.out⟩
          case measure => simp [intOf]; omega
    · have HF := Lib.hid (show L = keptF 0 0 rows by rw [← HP.out, List.drop_eq_nil_of_le (by rw [HL.out]; omega)]; simp [keptF])
      obtain ⟨q, Hq⟩ : ∃ q, Hid (L.length = q) := ⟨_, rfl⟩
      obtain ⟨A, cap, rfl, hqc⟩ := ho.form Hq.out
      have HO := Lib.hid ho
      have HQL := Lib.hid (show q ≤ 40 by rw [← Hq.out, HF.out]; have := HKL.out; have := H3.out; omega)
      have HJ := Lib.hid (bare_join HK.out)
      have hz := Lib.hid hb.size
      have HRI := Lib.hid (kept_rise rows 0 0)
      have HLE := Lib.hid (kept_le rows 0 0)
      rw [H3.out, H2.out] at HJ HRI
      rw [H3.out, H2.out] at HLE
      rw [← HF.out] at HJ HRI HLE
      clear ho
      go_wp2_with fail
      refine (oldIn_any b off a n c rows _ (cell_keep hb HD2.out) (HR.out.below hb) (by omega)).mono ?_
      rintro e w5 ⟨v5, rfl, o5, b5⟩
      obtain ⟨A5, k5, rfl, hk5, _⟩ := o5.form H3.out
      go_wp2_with fail
      refine (newIn_any b off a n c rows _ (cell_keep (hb.next b5) HD2.out) (HR.out.below (hb.next b5)) (by omega)).mono ?_
      rintro e w6 ⟨v6, rfl, o6, b6⟩
      obtain ⟨A6, k6, rfl, hk6, _⟩ := o6.form H2.out
      go_wp2_with fail
      refine (hunksAround_any A5 m3 k5 A6 m2 k6 (lw 2 rows) A q cap L _ o6.strs hk6 ((HO.out.below b5).below b6).prs hqc (by have := HRI.out; simpa using this) (fun s hs => by
        rcases List.mem_append.1 hs with h5 | h5
        · have := HLE.out s h5; omega
        · simp at h5; rw [h5]; exact ⟨Nat.le_refl _, Nat.le_refl _⟩) hm3 hm2 HQL.out).mono ?_
      rintro e w7 ⟨v7, vs7, rfl, o7, b7⟩
      go_wp2
      go_ret
      refine ⟨v7, vs7, rfl, ?_, ((hb.next b5).next b6).next b7⟩
      rw [HJ.out] at o7
      exact o7.more (Nat.le_trans hz.out (Nat.le_trans b5.size b6.size))

end Go.Proofs.Ytkamenidgkjodaa
