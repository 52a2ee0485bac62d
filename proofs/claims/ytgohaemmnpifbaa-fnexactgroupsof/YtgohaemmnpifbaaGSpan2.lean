/-
  One group after another (GroupsOf): mathematics.
-/
import Derived.Test.YtgohaemmnpifbaaGSpan
set_option linter.unusedSimpArgs false
set_option linter.unusedVariables false
namespace Go.Proofs.Ytgohaemmnpifbaa.M
open Go

theorem run_last (W : Nat) : ∀ (r : List Hk) (x : Hk), (x :: r)[runF W x r]? = some ((r.take (runF W x r)).getLastD x)
  | [], x => by simp [runF]
  | y :: r, x => by
    simp only [runF]
    split
    · have h := run_last W r y
      rw [List.take_succ_cons, List.getElem?_cons_succ, h]
      congr 1
      cases hq : r.take (runF W y r) with
      | nil => simp
      | cons z q => simp [List.getLastD]
    · simp
theorem take_add' {α : Type} (hs : List α) (i k : Nat) : hs.take (i + k) = hs.take i ++ (hs.drop i).take k := by rw [List.take_add]
theorem group_step {l : List ByteArray} {W : Nat} {hs : List Hk} {i f : Nat} {x : Hk} (hx : hs[i]? = some x) (hf : hs.length - i ≤ f) :
    ∃ k f' y, k = runF W x (hs.drop (i + 1)) + 1 ∧ hs.length - (i + k) ≤ f' ∧ 1 ≤ k ∧ i + k ≤ hs.length ∧ GapAt hs W (i + k) ∧ hs[i + k - 1]? = some y ∧
      groupsF l W f (moreH (hs.take i)) (hs.drop i) = ⟨fromN W x, (fromN W x : Int) + moreH (hs.take i), rowsM l (endN l.length W y) (fromN W x) ((hs.drop i).take k)⟩ :: groupsF l W f' (moreH (hs.take (i + k))) (hs.drop (i + k)) := by
  have hi : i < hs.length := (List.getElem?_eq_some_iff.1 hx).1
  have hd := drop_at hx
  obtain ⟨f', rfl⟩ : ∃ f', f = f' + 1 := ⟨f - 1, by omega⟩
  obtain ⟨r, hr⟩ : ∃ r, hs.drop (i + 1) = r := ⟨_, rfl⟩
  have hrl : r.length = hs.length - (i + 1) := by rw [← hr]; simp
  have hrun := run_len W r x
  have at_ : ∀ j, hs[i + j]? = (x :: r)[j]? := fun j => by rw [← hr, ← hd, List.getElem?_drop]
  refine ⟨runF W x r + 1, f', (r.take (runF W x r)).getLastD x, by rw [hr], by omega, by omega, by omega, ?_, ?_, ?_⟩
  · right
    intro p y hp hy
    have e1 : i + (runF W x r + 1) - 1 = i + runF W x r := by omega
    rw [e1, at_] at hp
    have e2 : hs[i + (runF W x r + 1)]? = r[runF W x r]? := by rw [at_]; rfl
    rw [e2] at hy
    exact run_gap W r x p y hp hy
  · have e1 : i + (runF W x r + 1) - 1 = i + runF W x r := by omega
    rw [e1, at_, run_last]
  · rw [take_add' hs i (runF W x r + 1), moreH_append, ← List.drop_drop, hd, hr]
    rfl
theorem riseG_many {many m' : Int} : ∀ {hs : List Hk} {e : Int}, riseB many e hs = true → (∀ y ∈ hs, y.at_ + y.gone ≤ m') → riseB m' e hs = true
  | [], e, _, _ => rfl
  | x :: r, e, h, hm => by
    simp only [riseB, Bool.and_eq_true, decide_eq_true_eq] at h ⊢
    refine ⟨⟨?_, h.1.2⟩, riseG_many h.2 (fun y hy => hm y (by simp [hy]))⟩
    have h1 := h.1.1
    have h2 := hm x (by simp)
    simp only [hunkB, Bool.and_eq_true, decide_eq_true_eq] at h1 ⊢
    exact ⟨⟨⟨h1.1.1.1, h2⟩, h1.1.2⟩, h1.2⟩
theorem riseG_drop {many : Int} : ∀ {hs : List Hk} {e : Int} {i : Nat} {x : Hk}, riseB many e hs = true → hs[i]? = some x → riseB many (x.at_ - 1) (hs.drop i) = true
  | [], e, i, x, _, hi => by simp at hi
  | y :: hs, e, 0, x, h, hi => by
    simp at hi
    subst hi
    simp only [riseB, Bool.and_eq_true, decide_eq_true_eq, List.drop_zero] at h ⊢
    exact ⟨⟨h.1.1, by omega⟩, h.2⟩
  | y :: hs, e, i + 1, x, h, hi => by
    simp only [riseB, Bool.and_eq_true] at h
    rw [List.drop_succ_cons]
    exact riseG_drop h.2 (by simpa using hi)
/-- The hunks of one group, good for the lines up to its end. -/
theorem group_rest {many : Int} {hs : List Hk} {n W i k : Nat} {x y : Hk} (hg : goodH many hs = true) (hmn : many = n) (hx : hs[i]? = some x) (hk : 1 ≤ k) (hy : hs[i + k - 1]? = some y) :
    (∀ z ∈ (hs.drop i).take k, 0 ≤ z.gone ∧ 0 ≤ z.at_ ∧ (z.at_ + z.gone).toNat ≤ endN n W y) ∧ restOk (endN n W y : Nat) ((hs.drop i).take k) (fromN W x) ∧ fromN W x ≤ endN n W y ∧ endN n W y ≤ n := by
  obtain ⟨h1, h2, h3, h4⟩ := goodH_parts hg
  have hym := goodH_mem hg (List.mem_of_getElem? hy)
  have hxm := goodH_mem hg (List.mem_of_getElem? hx)
  have hsub : ∀ z ∈ (hs.drop i).take k, z ∈ hs.take (i + k - 1 + 1) := fun z hz => by
    rw [show i + k - 1 + 1 = i + k by omega, take_add']
    exact List.mem_append.2 (.inr hz)
  have hends : ∀ z ∈ (hs.drop i).take k, z.at_ + z.gone ≤ y.at_ + y.gone := fun z hz => riseG_ends h4 hy z (hsub z hz)
  have hall : ∀ z ∈ (hs.drop i).take k, 0 ≤ z.gone ∧ 0 ≤ z.at_ ∧ (z.at_ + z.gone).toNat ≤ endN n W y := fun z hz => by
    have h5 := hends z hz
    have h6 := goodH_mem hg (List.mem_of_mem_take (hsub z hz))
    unfold endN
    omega
  have hx0 : x ∈ (hs.drop i).take k := by
    obtain ⟨k', rfl⟩ : ∃ k', k = k' + 1 := ⟨k - 1, by omega⟩
    rw [drop_at hx, List.take_succ_cons]
    simp
  refine ⟨hall, ⟨x.at_ - 1, ?_, ?_⟩, ?_, ?_⟩
  · refine riseG_many (riseG_take k (riseG_drop h4 hx)) (fun z hz => ?_)
    have := hall z hz
    omega
  · unfold fromN; omega
  · have := hall x hx0
    unfold fromN
    omega
  · unfold endN; omega

end Go.Proofs.Ytgohaemmnpifbaa.M
