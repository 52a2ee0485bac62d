/-
  EdOrders and EdText, the model's.
-/
import Derived.Test.YtnnaigoomipklaaDoorOfOEdS
import Derived.Test.YtnnaigoomipklaaDoorOfHPatch
import Derived.Test.YtnnaigoomipklaaDoorOfWhole
set_option linter.unusedSimpArgs false
set_option linter.unusedVariables false
namespace Go.Proofs.YtnnaigoomipklaaDoor
open Go.RowKit Go.ChangeShapes Go.WideShapes M

theorem edOrders_no {l : List ByteArray} {hs : List Hk} (h : ¬ ((patchOf l hs).2 = true ∧ wholeB l = true ∧ wholeB (patchOf l hs).1 = true)) : edOrders l hs = ([], false) := if_neg h
theorem edOrders_yes {l : List ByteArray} {hs : List Hk} (h1 : (patchOf l hs).2 = true) (h2 : wholeB l = true) (h3 : wholeB (patchOf l hs).1 = true) : edOrders l hs = (edO hs, true) := if_pos ⟨h1, h2, h3⟩
theorem patch_goods {l : List ByteArray} {hs : List Hk} (h : (patchOf l hs).2 = true) : goodB l = true ∧ goodB (patchOf l hs).1 = true ∧ goodH l.length hs = true := by
  unfold patchOf at h ⊢
  split at h
  · rename_i hok
    rw [if_pos hok]
    unfold patchOk at hok
    simp only [Bool.and_eq_true] at hok
    exact ⟨hok.1.1, hok.2, hok.1.2⟩
  · cases h

set_option maxHeartbeats 1000000 in
theorem l9Whole_any (a : Option Addr) (nl cl : Nat) (l : List ByteArray) (b0 : Option Addr) (n c : Nat) (hs : List Hk) (w : World) (hl : Strs w a nl l) (hcl : nl ≤ cl) (hh : Hks w b0 n hs) (hnew : ∀ x ∈ hs, x.new.length ≤ 1048576) (hnl : nl ≤ 1048576) :
    Calls Tryd.prog 61 #[.slice a nl cl, .slice b0 n c] w fun e w' => e = .returned (.bool (edOrders l hs).2) ∧ Below w.heap.size w w' := by
  obtain ⟨P, ok, HP⟩ : ∃ P ok, Hid (patchOf l hs = (P, ok)) := ⟨_, _, rfl⟩
  obtain ⟨q, HQ⟩ : ∃ q, Hid (P.length = q) := ⟨_, rfl⟩
  cases ok
  · have hf := Lib.hid (show edOrders l hs = ([], false) from edOrders_no (by rw [HP.out]; simp))
    go_enter Tryd.func61, Tryd.ntmps61
    go_wp2_with fail
    refine (specPatch_any a nl cl l b0 n c hs _ hl hcl hh hnew hnl).mono ?_
    rintro e w1 ⟨v, rfl, o1, b1⟩
    rw [HP.out] at o1 ⊢
    dsimp only at o1 ⊢
    obtain ⟨A1, c1, rfl, h11, h12⟩ := o1.form HQ.out
    go_wp2
    go_ret
    exact ⟨ret_bool (by rw [hf.out]), b1⟩
  · have HGS := Lib.hid (patch_goods (l := l) (hs := hs) (by rw [HP.out]))
    have HG1 := Lib.hid HGS.out.1
    have HG2 := Lib.hid (show goodB P = true by have := HGS.out.2.1; rw [HP.out] at this; exact this)
    cases hw1 : wholeB l
    · have HW1 := Lib.hid hw1
      have hf := Lib.hid (show edOrders l hs = ([], false) from edOrders_no (by rw [hw1]; simp))
      clear hw1
      go_enter Tryd.func61, Tryd.ntmps61
      go_wp2_with fail
      refine (specPatch_any a nl cl l b0 n c hs _ hl hcl hh hnew hnl).mono ?_
      rintro e w1 ⟨v, rfl, o1, b1⟩
      rw [HP.out] at o1 ⊢
      dsimp only at o1 ⊢
      obtain ⟨A1, c1, rfl, h11, h12⟩ := o1.form HQ.out
      go_wp2_with fail
      refine (l1Whole_any a nl cl l _ (hl.below b1) HG1.out).mono ?_
      rintro e w2 ⟨rfl, rfl⟩
      rw [HW1.out]
      go_wp2
      go_ret
      exact ⟨ret_bool (by rw [hf.out]), b1⟩
    · have HW1 := Lib.hid hw1
      obtain ⟨t, HT⟩ : ∃ t, Hid (wholeB P = t) := ⟨_, rfl⟩
      have hf := Lib.hid (show (edOrders l hs).2 = t by
        cases t
        · rw [edOrders_no (by rw [HP.out]; simp [HT.out])]
        · rw [edOrders_yes (by rw [HP.out]) hw1 (by rw [HP.out]; exact HT.out)])
      clear hw1
      cases t
      all_goals
        go_enter Tryd.func61, Tryd.ntmps61
        go_wp2_with fail
        refine (specPatch_any a nl cl l b0 n c hs _ hl hcl hh hnew hnl).mono ?_
        rintro e w1 ⟨v, rfl, o1, b1⟩
        rw [HP.out] at o1 ⊢
        dsimp only at o1 ⊢
        obtain ⟨A1, c1, rfl, h11, h12⟩ := o1.form HQ.out
        go_wp2_with fail
        refine (l1Whole_any a nl cl l _ (hl.below b1) HG1.out).mono ?_
        rintro e w2 ⟨rfl, rfl⟩
        rw [HW1.out]
        go_wp2_with fail
        refine (l1Whole_any A1 q c1 P _ o1.strs HG2.out).mono ?_
        rintro e w2 ⟨rfl, rfl⟩
        rw [HT.out]
        go_wp2
        go_ret
        exact ⟨ret_bool (by rw [hf.out]), b1⟩

set_option maxHeartbeats 1000000 in
theorem specEdOrders_any (a : Option Addr) (nl cl : Nat) (l : List ByteArray) (b0 : Option Addr) (n c : Nat) (hs : List Hk) (w : World) (hl : Strs w a nl l) (hcl : nl ≤ cl) (hh : Hks w b0 n hs) (hnew : ∀ x ∈ hs, x.new.length ≤ 1048576) (hnl : nl ≤ 1048576) :
    Calls Tryd.prog 38 #[.slice a nl cl, .slice b0 n c] w fun e w' => ∃ v rows, e = .returned (.tuple #[v, .bool (edOrders l hs).2]) ∧ OwnOd w' w.heap.size v (edOrders l hs).1 rows ∧ Below w.heap.size w w' := by
  obtain ⟨P, ok, HP⟩ : ∃ P ok, Hid (edOrders l hs = (P, ok)) := ⟨_, _, rfl⟩
  have HN := Lib.hid hh.len
  cases ok
  · have hf := Lib.hid (show edOrders l hs = ([], false) by
      have h1 := HP.out
      have h2 : (edOrders l hs).2 = false := by rw [h1]
      unfold edOrders at h2 ⊢
      split at h2
      · cases h2
      · rename_i hc; rw [if_neg hc])
    go_enter Tryd.func38, Tryd.ntmps38
    go_wp2_with fail
    refine (l9Whole_any a nl cl l b0 n c hs _ hl hcl hh hnew hnl).mono ?_
    rintro e w1 ⟨rfl, b1⟩
    rw [hf.out]
    go_wp2
    go_ret2
    exact ⟨_, [], by rw [hf.out]; rfl, by rw [hf.out]; exact OwnOd.nil_, b1⟩
  · have HED := Lib.hid (show edOrders l hs = (edO hs, true) ∧ goodH l.length hs = true by
      have h1 := HP.out
      have h2 : (edOrders l hs).2 = true := by rw [h1]
      unfold edOrders at h2 ⊢
      split at h2
      · rename_i hc
        exact ⟨if_pos hc, (patch_goods hc.1).2.2⟩
      · cases h2)
    have HG := Lib.hid HED.out.2
    have hn20 : n ≤ 20 := by rw [← HN.out]; exact (goodH_parts HG.out).2.2.1
    have HOK := Lib.hid (show ∀ x ∈ hs, 0 ≤ x.at_ ∧ 0 ≤ x.gone ∧ x.at_ + x.gone ≤ 40 ∧ x.new.length ≤ 40 from fun x hx => by
      obtain ⟨h1, h2, h3, h4, h5⟩ := goodH_mem HG.out hx
      exact ⟨h1, h2, by omega, h5⟩)
    go_enter Tryd.func38, Tryd.ntmps38
    go_wp2_with fail
    refine (l9Whole_any a nl cl l b0 n c hs _ hl hcl hh hnew hnl).mono ?_
    rintro e w1 ⟨rfl, b1⟩
    rw [HED.out.1]
    go_wp2_with fail
    refine (l9Orders_any b0 n c hs _ (hh.below b1) hn20 HOK.out).mono ?_
    rintro e w2 ⟨v, rows, rfl, o2, b2⟩
    go_wp2
    go_ret2
    exact ⟨v, rows, by rw [HED.out.1]; rfl, by rw [HED.out.1]; exact o2.more b1.size, b1.next b2⟩

end Go.Proofs.YtnnaigoomipklaaDoor
