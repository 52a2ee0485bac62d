/-
  ReadNormal, the program's.
-/
import Derived.Test.YtnimaadjmejmpaaGreatDoorRStep
set_option linter.unusedSimpArgs false
set_option linter.unusedVariables false
namespace Go.Proofs.YtnimaadjmejmpaaGreatDoor
open Go.RowKit M

/-- How much is left in the reader at block k. -/
def restLen (w : World) (k : Nat) : Nat := match w.cell? ⟨k, 0, none⟩ with
  | some (.string b) => b.size
  | _ => 0
theorem Rdr.left {W0 w : World} {b : Nat} {r : List UInt8 × Bool} (h : Rdr W0 w b r) : restLen w b = r.1.length := by
  unfold restLen
  rw [h.c0]
  exact bs_size r.1
theorem some_left {l : List UInt8} (h : l ≠ []) : (!(bs l).toList.isEmpty) = true := by
  rw [ByteArray.toList_eq, bs_list]
  cases l with
  | nil => exact absurd rfl h
  | cons _ _ => rfl
theorem none_left : (!(bs []).toList.isEmpty) = false := by
  rw [ByteArray.toList_eq, bs_list]
  rfl

set_option maxHeartbeats 4000000 in
set_option maxRecDepth 100000 in
theorem implReadNormal_any (s : ByteArray) (hs : s.size ≤ 1048576) (w : World) (hv : Vars w) :
    Calls Tryz.prog 12 #[.string s] w fun e w' => ∃ v rows, e = .returned (.tuple #[v, .int .i64 (readN s.data.toList).2.1, .bool (readN s.data.toList).2.2]) ∧ OwnSt w' w.heap.size v (readN s.data.toList).1 rows ∧ Below w.heap.size w w' := by
  have HSZ := Lib.hid (Lib.size_eq s)
  by_cases h3 : 3000 < s.size
  · have HB := Lib.hid (readN_long (s := s.data.toList) (by have := HSZ.out; omega))
    go_enter Tryz.func12, Tryz.ntmps12
    go_wp2
    go_ret3
    exact ⟨_, [], by rw [HB.out]; rfl, by rw [HB.out]; exact OwnSt.nil_, Below.refl _ _⟩
  · obtain ⟨W, HW⟩ : ∃ W, Hid (W = w.alloc (.cells #[.string s, .bool false] 76)) := ⟨_, rfl⟩
    have HR0 := Lib.hid (show Rdr w W w.heap.size (s.data.toList, false) from ⟨hv, by rw [HW.out]; exact below_alloc w _, Nat.le_refl _, by have := HSZ.out; dsimp only; omega, by rw [HW.out, bs_self]; exact heap_alloc_new w _⟩)
    clear hv
    go_enter Tryz.func12, Tryz.ntmps12
    go_wp2
    rw [← HW.out]
    go_loopw [5] (fun v w' => ∃ (u : Value) (A : Option Addr) (n c : Nat) (out : List Sp) (rows : List (List D)) (r1 : List UInt8 × Bool), u = v ∧ u = .slice A n c ∧ OwnSt w' (w.heap.size + 1) u out rows ∧ Rdr w w' w.heap.size r1 ∧ Hid (Reads s.data.toList out r1) ∧ Hid (out.length + r1.1.length ≤ s.size)) (fun _ w' => restLen w' w.heap.size)
    case atStart => exact ⟨_, none, 0, 0, [], [], _, rfl, rfl, OwnSt.nil_, HR0.out, Lib.hid (Reads.start _), Lib.hid (by have := HSZ.out; dsimp only; simp only [List.length_nil]; omega)⟩
    case round =>
      obtain ⟨u, A, n, c, out, rows, r1, rfl, rfl, ho, h1, HRD, HLN⟩ := hrel
      obtain ⟨t1, f1⟩ := r1
      have c0 := h1.c0
      have c1 := h1.c1
      dsimp only at c0 c1
      have HLT := Lib.hid h1.lt
      by_cases he : t1 = []
      · subst he
        have hem := none_left
        obtain ⟨x, ok, HTP⟩ : ∃ x ok, Hid (textP out = (x, ok)) := ⟨_, _, rfl⟩
        have HO := Lib.hid ho
        have H1 := Lib.hid h1
        have HNOT := Lib.hid (fun hb => readN_not (p := out) (r := ([], f1)) HRD.out rfl hb)
        clear ho h1
        cases f1 with
        | true =>
          have HB := Lib.hid (HNOT.out (.inl rfl))
          go_wp2_with fail
          refine (implStepsText_any A n c out _ HO.out.sps H1.out.now.tab).mono ?_
          rintro e w2 ⟨rfl, b2⟩
          rw [HTP.out]
          dsimp only
          replace c1 := cell_keep b2 c1
          have HBL := Lib.hid (H1.out.low.next b2)
          clear b2
          go_wp2
          go_ret3
          exact ⟨_, [], by rw [HB.out]; rfl, by rw [HB.out]; exact OwnSt.nil_, HBL.out⟩
        | false =>
          cases ok with
          | false =>
            have HB := Lib.hid (HNOT.out (.inr (.inl (by rw [HTP.out]))))
            go_wp2_with fail
            refine (implStepsText_any A n c out _ HO.out.sps H1.out.now.tab).mono ?_
            rintro e w2 ⟨rfl, b2⟩
            rw [HTP.out]
            dsimp only
            replace c1 := cell_keep b2 c1
            have HBL := Lib.hid (H1.out.low.next b2)
            clear b2
            go_wp2
            go_ret3
            exact ⟨_, [], by rw [HB.out]; rfl, by rw [HB.out]; exact OwnSt.nil_, HBL.out⟩
          | true =>
            by_cases hx : bs x = s
            · have hq : ((bs x).toList == s.toList) = true := by rw [hx]; exact beq_same s
              have HB := Lib.hid (readN_ok (s := s.data.toList) (p := out) (by rw [HTP.out]) (by rw [HTP.out, ← hx, bs_list]))
              have HX := Lib.hid hx
              clear hx
              go_wp2_with fail
              refine (implStepsText_any A n c out _ HO.out.sps H1.out.now.tab).mono ?_
              rintro e w2 ⟨rfl, b2⟩
              rw [HTP.out]
              dsimp only
              replace c1 := cell_keep b2 c1
              have HBL := Lib.hid (H1.out.low.next b2)
              have HO2 := Lib.hid ((HO.out.below b2).more (Nat.le_succ w.heap.size))
              clear b2
              go_wp2
              go_ret3
              exact ⟨_, rows, by rw [HB.out]; rfl, by rw [HB.out]; exact HO2.out, HBL.out⟩
            · have hq : ((bs x).toList == s.toList) = false := beq_other hx
              have HB := Lib.hid (HNOT.out (.inr (.inr (by rw [HTP.out]; intro e; apply hx; dsimp only at e; rw [e, bs_self]))))
              clear hx
              go_wp2_with fail
              refine (implStepsText_any A n c out _ HO.out.sps H1.out.now.tab).mono ?_
              rintro e w2 ⟨rfl, b2⟩
              rw [HTP.out]
              dsimp only
              replace c1 := cell_keep b2 c1
              have HBL := Lib.hid (H1.out.low.next b2)
              clear b2
              go_wp2
              go_ret3
              exact ⟨_, [], by rw [HB.out]; rfl, by rw [HB.out]; exact OwnSt.nil_, HBL.out⟩
      · have hem := some_left he
        have HE := Lib.hid he
        have HO := Lib.hid ho
        have H1 := Lib.hid h1
        have HLE := Lib.hid (show out.length ≤ 1048576 by have := HLN.out; omega)
        clear ho h1 he
        go_wp2_with (first
          | (go_at_call 41; refine (rstep_any w w.heap.size (t1, f1) _ H1.out).mono ?_; rintro e w1 ⟨k, u1, u2, hk, rfl, o1, o2, hne, hok, h2, hw2⟩
             obtain ⟨X, r2, HXE⟩ : ∃ X r2, Hid (rStep k (t1, f1) = (X, r2)) := ⟨_, _, rfl⟩
             rw [HXE.out] at o1 o2 hok h2 ⊢
             dsimp only at o1 o2 hok h2 ⊢
             obtain ⟨a1, d1, rfl, h11, h12⟩ := o1.form rfl
             obtain ⟨a2, d2, rfl, h21, h22⟩ := o2.form rfl
             have HK := Lib.hid hk
             have O1 := Lib.hid o1
             have O2 := Lib.hid o2
             have HNE := Lib.hid hne
             have HOK := Lib.hid hok
             have H2 := Lib.hid h2
             have HW2 := Lib.hid hw2
             have HO1 := Lib.hid (HO.out.wrote hw2 (fun g e e2 => by have h3 := (HO.out.lt e).1; omega))
             have HBS := Lib.hid (show w.heap.size + 1 ≤ wr.heap.size from HLT.out)
             clear hk o1 o2 hne hok h2 hw2)
          | (at_builtin; refine wpList_sp (.tmp 17) (.tmp 19) (w.heap.size + 1) (.slice A n c) out rows (HO1.out.below (below_alloc _ _)) X HOK.out (.slice a1 X.old.length d1) (.slice a2 X.new.length d2) ((O1.out.more HBS.out).below (below_alloc _ _)) ((O2.out.more HBS.out).below (below_alloc _ _)) (fun g e e2 => by have h3 := (O1.out.lt e).1; have h4 := (HO.out.lt e2).2; omega) (fun g e e2 => by have h3 := (O2.out.lt e).1; have h4 := (HO.out.lt e2).2; omega) HNE.out w1.heap.size (by simp) (by simp) (by simp) (by simp) (by simp) (by simp) HLE.out (Nat.le_trans HBS.out (Nat.le_trans HW2.out.size (below_alloc _ _).size)) rfl rfl rfl rfl ?_
             intro v3 w3 o3 g3 p3)
          | fail)
        obtain ⟨A3, c3, rfl, h31, h32⟩ := o3.form rfl
        have HLR := Lib.hid (rStep_lt k (r := (t1, f1)) HE.out)
        rw [HXE.out] at HLR
        have H3 := Lib.hid (show Rdr w w3 w.heap.size r2 from (H2.out.keep (below_alloc _ _)).kept g3 (fun g e => by have h3 := (HO.out.lt (show BlkR (.slice A n c) rows g from List.mem_append.2 (.inl (by simp [e])))).1; omega))
        go_roundw
        case rel =>
          refine ⟨_, A3, _, c3, out ++ [X], _, r2, rfl, rfl, o3, H3.out, ?_, ?_⟩
          · have h5 := HRD.out.next HE.out HK.out
            rw [HXE.out] at h5
            exact h5
          · have h5 := HLN.out
            have h6 := HLR.out
            dsimp only at h5 h6
            exact Lib.hid (by rw [List.length_append, List.length_singleton]; omega)
        case measure => rw [H3.out.left, H1.out.left]; exact HLR.out

end Go.Proofs.YtnimaadjmejmpaaGreatDoor
