/-
  Plain facts: what is patched is patched back; how many lines there are. No Go, no program.
-/
import Derived.Test.YtdejlepgihgfgaaHBase6
set_option linter.unusedSimpArgs false
set_option linter.unusedVariables false
namespace Go.Proofs.Ytdejlepgihgfgaa.M

theorem seg_drop {l : List ByteArray} {p q : Nat} (h : p ≤ q) : seg l p q ++ l.drop q = l.drop p := by
  unfold seg
  rcases Nat.le_total l.length q with h1 | h1
  · rw [List.take_of_length_le h1, List.drop_eq_nil_of_le h1, List.append_nil]
  · have h2 := List.take_append_drop q l
    have h3 : l.drop p = (l.take q ++ l.drop q).drop p := by rw [h2]
    rw [h3, List.drop_append_of_le_length (by simp; omega)]
theorem seg_seg {l : List ByteArray} {p q r : Nat} (h1 : p ≤ q) (h2 : q ≤ r) : seg l p q ++ seg l q r = seg l p r := by
  have h := seg_drop (l := l.take r) h1
  unfold seg at *
  rw [List.take_take, Nat.min_eq_left h2] at h
  exact h
theorem seg_mid (a b c : List ByteArray) : seg (a ++ b ++ c) a.length (a.length + b.length) = b := by
  unfold seg
  rw [List.take_append_of_le_length (by simp), List.take_of_length_le (by simp), List.drop_left]
/-- All lines that go, and all that come. -/
def goneSum : List Hk → Int
  | [] => 0
  | x :: hs => x.gone + goneSum hs
def comeSum : List Hk → Int
  | [] => 0
  | x :: hs => x.new.length + comeSum hs
theorem patch_len {l : List ByteArray} : ∀ {hs : List Hk} {p : Nat}, restOk l.length hs p → p ≤ l.length → ((patchFrom l p hs).length : Int) = l.length - p - goneSum hs + comeSum hs
  | [], p, _, hp => by simp [patchFrom, goneSum, comeSum]; omega
  | x :: hs, p, h, hp => by
    obtain ⟨a, g, ea, eg, h1, h2, _, _, h3, _⟩ := rest_cons h
    have ih := patch_len h3 (by omega)
    rw [patchFrom, ea, eg, Int.toNat_natCast, show ((a : Int) + (g : Int)).toNat = a + g from by omega, List.length_append, List.length_append, seg_len, goneSum, comeSum, eg]
    omega
theorem back_main {l : List ByteArray} (hgl : linesB l = true) : ∀ {hs : List Hk} {p : Nat} {e more : Int} {pre : List ByteArray}, riseB l.length e hs = true → (p : Int) ≤ e + 1 → p ≤ l.length → (pre.length : Int) = p + more →
    patchFrom (pre ++ patchFrom l p hs) pre.length (backFrom l more hs) = l.drop p ∧ backFrom (pre ++ patchFrom l p hs) (-more) (backFrom l more hs) = hs ∧ riseB (pre ++ patchFrom l p hs).length (e + more) (backFrom l more hs) = true
  | [], p, e, more, pre, _, _, _, _ => by
    refine ⟨?_, rfl, rfl⟩
    rw [backFrom, patchFrom, patchFrom, List.drop_left]
  | x :: hs, p, e, more, pre, hr, hp, hpl, hpre => by
    rw [riseB, Bool.and_eq_true, Bool.and_eq_true, decide_eq_true_eq] at hr
    obtain ⟨⟨hb, he⟩, hr⟩ := hr
    obtain ⟨q0, q1, q2, q3, q4⟩ := hunkB_parts hb
    obtain ⟨a, ea⟩ : ∃ a : Nat, x.at_ = a := ⟨x.at_.toNat, by omega⟩
    obtain ⟨g, eg⟩ : ∃ g : Nat, x.gone = g := ⟨x.gone.toNat, by omega⟩
    obtain ⟨m, em⟩ : ∃ m : Nat, x.new.length = m := ⟨_, rfl⟩
    have hsl : (seg l p a).length = a - p := by rw [seg_len]; omega
    have hol : (oldOf l x).length = g := by unfold oldOf; rw [seg_len, ea, eg]; omega
    have hold : oldOf l x = seg l a (a + g) := by unfold oldOf; rw [ea, eg, Int.toNat_natCast, show ((a : Int) + (g : Int)).toNat = a + g from by omega]
    obtain ⟨i1, i2, i3⟩ := back_main hgl (hs := hs) (p := a + g) (e := x.at_ + x.gone) (more := more + (x.new.length - x.gone)) (pre := pre ++ seg l p a ++ x.new) hr (by omega) (by omega) (by simp only [List.length_append, hsl]; omega)
    have hP : pre ++ patchFrom l p (x :: hs) = pre ++ seg l p a ++ x.new ++ patchFrom l (a + g) hs := by
      rw [patchFrom, ea, eg, Int.toNat_natCast, show ((a : Int) + (g : Int)).toNat = a + g from by omega]
      simp only [List.append_assoc]
    have hn1 : (x.at_ + more).toNat = pre.length + (a - p) := by omega
    have hn2 : (x.at_ + more + (x.new.length : Int)).toNat = (pre ++ seg l p a ++ x.new).length := by simp only [List.length_append, hsl]; omega
    have hs1 : seg (pre ++ seg l p a ++ x.new ++ patchFrom l (a + g) hs) pre.length (pre.length + (a - p)) = seg l p a := by
      have := seg_mid pre (seg l p a) (x.new ++ patchFrom l (a + g) hs)
      rw [hsl] at this
      rw [List.append_assoc (pre ++ seg l p a)]
      exact this
    have hs2 : seg (pre ++ seg l p a ++ x.new ++ patchFrom l (a + g) hs) (pre.length + (a - p)) (pre ++ seg l p a ++ x.new).length = x.new := by
      have := seg_mid (pre ++ seg l p a) x.new (patchFrom l (a + g) hs)
      rw [show (pre ++ seg l p a ++ x.new).length = (pre ++ seg l p a).length + x.new.length from by simp [List.length_append]; omega, show pre.length + (a - p) = (pre ++ seg l p a).length from by rw [List.length_append, hsl]]
      exact this
    rw [hP, backFrom]
    refine ⟨?_, ?_, ?_⟩
    · rw [patchFrom]
      dsimp only
      rw [hn1, hn2, hs1, i1, hold, List.append_assoc, seg_drop (by omega), seg_drop (by omega)]
    · rw [backFrom]
      dsimp only
      rw [hol, show -more + ((g : Int) - (x.new.length : Int)) = -(more + ((x.new.length : Int) - x.gone)) from by rw [eg]; omega, i2]
      have h5 : oldOf (pre ++ seg l p a ++ x.new ++ patchFrom l (a + g) hs) ⟨x.at_ + more, (x.new.length : Int), oldOf l x⟩ = x.new := by
        unfold oldOf
        dsimp only
        rw [hn1, hn2, hs2]
      rw [h5]
      congr 1
      exact Hk.ext_ (by dsimp only; omega) (by dsimp only; omega) rfl
    · rw [riseB, Bool.and_eq_true, Bool.and_eq_true, decide_eq_true_eq]
      dsimp only
      refine ⟨⟨?_, by omega⟩, ?_⟩
      · simp only [hunkB, Bool.and_eq_true, decide_eq_true_eq, Bool.not_eq_true']
        refine ⟨⟨⟨⟨by omega, by omega⟩, ?_⟩, ?_⟩, ?_⟩
        · simp only [List.length_append, hsl]; omega
        · have h6 := q3
          rw [Bool.eq_false_iff] at h6 ⊢
          intro h7
          apply h6
          simp only [nothing, Bool.and_eq_true, decide_eq_true_eq, hol] at h7 ⊢
          omega
        · rw [hold]; exact linesB_seg hgl _ _
      · rw [show x.at_ + more + (x.new.length : Int) = x.at_ + x.gone + (more + ((x.new.length : Int) - x.gone)) from by omega]
        exact i3
/-- What is patched is patched back. -/
theorem patch_back {l : List ByteArray} {hs : List Hk} (h : patchOk l hs = true) : patchOk (patchH l hs) (backH l hs) = true ∧ patchH (patchH l hs) (backH l hs) = l ∧ backH (patchH l hs) (backH l hs) = hs ∧ goodH (patchH l hs).length (backH l hs) = true := by
  obtain ⟨h1, h2, h3⟩ := patchOk_parts h
  obtain ⟨g1, g2, g3, g4⟩ := goodH_parts h2
  obtain ⟨i1, i2, i3⟩ := back_main (goodB_lines h1) (hs := hs) (p := 0) (e := -1) (more := 0) (pre := []) g4 (by omega) (by omega) (by simp)
  simp only [List.nil_append, List.length_nil, List.drop_zero, Int.neg_zero, Int.add_zero] at i1 i2 i3
  have hg : goodH (patchH l hs).length (backH l hs) = true := by
    have h5 := goodB_len h3
    simp only [goodH, Bool.and_eq_true, decide_eq_true_eq]
    exact ⟨⟨⟨by omega, by omega⟩, by unfold backH; rw [back_len]; exact g3⟩, i3⟩
  refine ⟨?_, i1, i2, hg⟩
  simp only [patchOk, Bool.and_eq_true]
  exact ⟨⟨h3, hg⟩, by show goodB (patchFrom _ 0 _) = true; unfold patchH backH; rw [i1]; exact h1⟩

end Go.Proofs.Ytdejlepgihgfgaa.M
