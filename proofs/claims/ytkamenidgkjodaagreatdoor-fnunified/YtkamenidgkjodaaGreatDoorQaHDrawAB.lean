/-
  Hunks that are drawn: both texts in one.
  A text cut into lines: plain facts.
  LinesOf, the model's.
-/
import Derived.Test.YtkamenidgkjodaaGreatDoorQaHDrawH
import Derived.Test.YtkamenidgkjodaaGreatDoorQaBase
import Derived.Test.YtkamenidgkjodaaGreatDoorQaGood
import Derived.Test.YtkamenidgkjodaaGreatDoorQaMemT
set_option linter.unusedSimpArgs false
set_option linter.unusedVariables false
namespace Go.Proofs.YtkamenidgkjodaaGreatDoor
open Go.RowKit M

theorem all_set {α : Type} {P : α → Prop} {l : List α} {k : Nat} {t : α} (h : ∀ s ∈ l, P s) (ht : P t) : ∀ s ∈ l.set k t, P s := by
  intro s hs
  rcases List.mem_or_eq_of_mem_set hs with h1 | h1
  · exact h s h1
  · rw [h1]; exact ht

end Go.Proofs.YtkamenidgkjodaaGreatDoor

namespace Go.Proofs.YtkamenidgkjodaaGreatDoor
open Go.RowKit M

theorem Curs.set {w : World} {g M : Nat} {p : Addr} {u : Value} (h : Curs w g M) (hp : g < p.block) : Curs (w.setCell p u) g M := by
  obtain ⟨a, n, c, k, seed, q1, q2, q3, q4, q5⟩ := h.ex
  have hk : ∀ b, b ≤ g → (w.setCell p u).heap[b]? = w.heap[b]? := fun b hb => Below.heap_setCell _ _ _ _ (by omega)
  exact ⟨a, n, c, k, seed, (hk g (Nat.le_refl _)).trans q1, q2, q3, q4, q5.keep fun b hb => hk b (by omega)⟩
theorem grown_set {a w : World} {row : Option Nat} {p : Addr} {u : Value} (h : a.grownBy w row) (hp : a.heap.size ≤ p.block) : a.grownBy (w.setCell p u) row :=
  ⟨h.os, h.tape, h.output, by simpa [World.setCell] using h.size, fun i hi hne => (Below.heap_setCell _ _ _ _ (by omega)).trans (h.block i hi hne)⟩

end Go.Proofs.YtkamenidgkjodaaGreatDoor

namespace Go.Proofs.YtkamenidgkjodaaGreatDoor.M

/-- The lines of what is left, the bytes of the line that is begun ahead. -/
def cutGo : List UInt8 → List UInt8 → List ByteArray
  | cur, [] => if cur = [] then [] else [⟨cur.toArray⟩]
  | cur, c :: r => if c = 10 then ⟨(cur ++ [c]).toArray⟩ :: cutGo [] r else cutGo (cur ++ [c]) r
def cutOf (s : ByteArray) : List ByteArray := cutGo [] s.data.toList

theorem cutGo_cat : ∀ (r cur : List UInt8), catL (cutGo cur r) = cur ++ r
  | [], cur => by
    unfold cutGo
    split
    · rename_i h; subst h; rfl
    · simp [catL]
  | c :: r, cur => by
    unfold cutGo
    split
    · have := cutGo_cat r []
      simp only [catL, List.map_cons, List.flatten_cons] at *
      rw [this]; simp
    · rw [cutGo_cat r (cur ++ [c])]; simp
theorem cut_cat (s : ByteArray) : cat (cutOf s) = s := by
  apply bytes_ext
  show catL (cutOf s) = _
  rw [cutOf, cutGo_cat]
  rfl

/-- What is cut: not empty, a byte 10 at most at the end; and at the end of all but the last one. -/
def propB (p : ByteArray) : Bool := decide (1 ≤ p.size) && p.data.toList.dropLast.all (fun c => c != 10)
theorem cutGo_prop : ∀ (r cur : List UInt8), (∀ c ∈ cur, c ≠ 10) → ∀ (k : Nat) (p : ByteArray), (cutGo cur r)[k]? = some p → propB p = true ∧ (k + 1 < (cutGo cur r).length → endsB p = true)
  | [], cur, hc, k, p, hp => by
    unfold cutGo at hp ⊢
    split at hp
    · simp at hp
    · rename_i hne
      cases k with
      | succ k => simp at hp
      | zero =>
        simp at hp
        subst hp
        rw [if_neg hne]
        refine ⟨?_, by simp⟩
        unfold propB
        have h1 : 1 ≤ (⟨cur.toArray⟩ : ByteArray).size := by
          show 1 ≤ cur.toArray.size
          have := List.length_pos_iff.2 hne
          simp; omega
        have h2 : cur.dropLast.all (fun c => c != 10) = true := by
          rw [List.all_eq_true]
          intro c h
          simpa using hc c ((List.dropLast_sublist cur).subset h)
        simp only [Bool.and_eq_true, decide_eq_true_eq]
        exact ⟨h1, by simpa using h2⟩
  | c :: r, cur, hc, k, p, hp => by
    unfold cutGo at hp ⊢
    split at hp
    · rename_i h10
      rw [if_pos h10]
      subst h10
      cases k with
      | zero =>
        simp at hp
        subst hp
        refine ⟨?_, fun _ => ?_⟩
        · unfold propB
          have h1 : 1 ≤ (⟨(cur ++ [10]).toArray⟩ : ByteArray).size := by
            show 1 ≤ (cur ++ [10]).toArray.size
            simp
          have h2 : (cur ++ [10]).dropLast.all (fun c => c != 10) = true := by
            rw [List.dropLast_concat, List.all_eq_true]
            intro c h
            simpa using hc c h
          simp only [Bool.and_eq_true, decide_eq_true_eq]
          exact ⟨by simpa using h1, by simpa using h2⟩
        · unfold endsB
          simp
      | succ k =>
        simp only [List.getElem?_cons_succ] at hp
        have := cutGo_prop r [] (by simp) k p hp
        exact ⟨this.1, fun h => this.2 (by simp at h; omega)⟩
    · rename_i h10
      rw [if_neg h10]
      exact cutGo_prop r (cur ++ [c]) (by
        intro x hx
        rcases List.mem_append.1 hx with h | h
        · exact hc x h
        · simp at h; subst h; exact h10) k p hp

/-- A stretch of a text. -/
def segB (s : ByteArray) (i j : Nat) : List UInt8 := (s.data.toList.drop i).take (j - i)
/-- What is left to cut, from a place on, where a line is begun. -/
def restAt (s : ByteArray) (i j : Nat) : List ByteArray := cutGo (segB s i j) (s.data.toList.drop j)
theorem rest_zero (s : ByteArray) : restAt s 0 0 = cutOf s := by simp [restAt, segB, cutOf]
theorem segB_snoc (s : ByteArray) {i j : Nat} (h : i ≤ j) (hj : j < s.size) : segB s i (j + 1) = segB s i j ++ [s[j]'hj] := by
  unfold segB
  have hz : s.data.toList.length = s.size := by simp
  rw [show j + 1 - i = (j - i) + 1 from by omega, List.take_add_one, List.getElem?_drop, show i + (j - i) = j from by omega, List.getElem?_eq_getElem (by omega)]
  rfl
theorem drop_cons (s : ByteArray) {j : Nat} (hj : j < s.size) : s.data.toList.drop j = s[j]'hj :: s.data.toList.drop (j + 1) := by
  have hz : s.data.toList.length = s.size := by simp
  rw [List.drop_eq_getElem_cons (by omega)]
  rfl
theorem segB_self (s : ByteArray) (i : Nat) : segB s i i = [] := by simp [segB]
theorem extract_segB (s : ByteArray) (i j : Nat) : s.extract i j = ⟨(segB s i j).toArray⟩ := by
  apply bytes_ext
  rw [ByteArray.data_extract, Array.toList_extract]
  rfl
theorem rest_nl (s : ByteArray) {i j : Nat} (h : i ≤ j) (hj : j < s.size) (e : (s[j]'hj).toNat = 10) : restAt s i j = s.extract i (j + 1) :: restAt s (j + 1) (j + 1) := by
  have h10 : s[j]'hj = 10 := UInt8.toNat.inj (by simpa using e)
  unfold restAt
  rw [drop_cons s hj, cutGo, if_pos h10, segB_self, extract_segB, segB_snoc s h hj]
theorem rest_other (s : ByteArray) {i j : Nat} (h : i ≤ j) (hj : j < s.size) (e : (s[j]'hj).toNat ≠ 10) : restAt s i j = restAt s i (j + 1) := by
  have h10 : s[j]'hj ≠ 10 := fun h => e (by rw [h]; rfl)
  unfold restAt
  rw [drop_cons s hj, cutGo, if_neg h10, segB_snoc s h hj]
theorem rest_end (s : ByteArray) {i j : Nat} (h : i ≤ j) (hj : j = s.size) : restAt s i j = if i < s.size then [s.extract i s.size] else [] := by
  have hz : s.data.toList.length = s.size := by simp
  subst hj
  unfold restAt
  rw [List.drop_of_length_le (by omega), cutGo]
  by_cases hi : i < s.size
  · rw [if_pos hi, if_neg (by
      intro e
      have : (segB s i s.size).length = 0 := by rw [e]; rfl
      simp [segB] at this; omega), extract_segB]
  · rw [if_neg hi, if_pos (by
      apply List.eq_nil_of_length_eq_zero
      simp [segB]; omega)]

end Go.Proofs.YtkamenidgkjodaaGreatDoor.M

namespace Go.Proofs.YtkamenidgkjodaaGreatDoor
open Go.RowKit M

theorem extract_size (s : ByteArray) (i j : Nat) (h : j ≤ s.size) : (s.extract i j).size = j - i := by simp; omega

set_option maxHeartbeats 1000000 in
theorem l1Cut_any (s : ByteArray) (w : World) (hs : s.size ≤ 1048576) :
    Calls Tryz.prog 46 #[.string s] w fun e w' => ∃ v, e = .returned v ∧ OwnV w' w.heap.size v (cutOf s) ∧ Below w.heap.size w w' := by
  go_enter Tryz.func46, Tryz.ntmps46
  go_wp2
  go_loopw [3, 4, 5] (fun ov fv iv w' => ∃ (v : Value) (out : List ByteArray) (f i : Nat), v = ov ∧ fv = .int .i64 f ∧ iv = .int .i64 i ∧ f ≤ i ∧ i ≤ s.size ∧ out.length ≤ i ∧ OwnV w' w.heap.size v out ∧ Hid (cutOf s = out ++ restAt s f i) ∧ Below w.heap.size w w') (fun _ _ iv _ => s.size - (intOf iv).toNat)
  case atStart => exact ⟨_, [], 0, 0, rfl, rfl, rfl, by omega, by omega, by simp, OwnV.nil_, show _ = _ by rw [rest_zero]; rfl, Below.refl _ _⟩
  case round =>
    obtain ⟨v, out, f, i, rfl, rfl, rfl, hfi, his, hlen, ho, H, hb⟩ := hrel
    by_cases hlt : i < s.size
    · by_cases he : (s[i]'hlt).toNat = 10
      · have hn := Lib.hid (rest_nl s hfi hlt he)
        have hz := extract_size s f (i + 1) (by omega)
        have HZ := Lib.hid hz
        have hst := strs_one wr (s.extract f (i + 1)) (by rw [hz]; unfold maxLen; omega)
        clear hz
        have hz1 := hb.size
        go_wp2_with (at_builtin; refine app_strs (.tmp 16) (.tmp 22) w.heap.size v out (ho.below (below_alloc _ _)) _ 1 1 [s.extract f (i + 1)] hst (by omega) (by simp; omega) rfl rfl rfl rfl ?_; intro v1 w1 o1 g1 p1)
        go_roundw
        case rel => exact ⟨v1, _, i + 1, i + 1, rfl, by go_num, by go_num, by omega, by omega, by simp; omega, o1, show _ = _ by rw [H.out, hn.out]; simp, (Below.alloc hb hz1 _).grown g1 (by simp; omega) (fun b e => (ho.lt e).1)⟩
        case measure => simp [intOf]; omega
      · have hn := Lib.hid (rest_other s hfi hlt he)
        go_wp2
        go_roundw
        case rel => exact ⟨v, out, f, i + 1, rfl, rfl, by go_num, by omega, by omega, by omega, ho, show _ = _ by rw [H.out, hn.out], hb⟩
        case measure => simp [intOf]; omega
    · have hn := Lib.hid (rest_end s hfi (show i = s.size by omega))
      by_cases hf : f < s.size
      · have hz := extract_size s f s.size (by omega)
        have hst := strs_one wr (s.extract f s.size) (by rw [hz]; unfold maxLen; omega)
        clear hz
        have hz1 := hb.size
        go_wp2_with (at_builtin; refine app_strs (.tmp 30) (.tmp 34) w.heap.size v out (ho.below (below_alloc _ _)) _ 1 1 [s.extract f s.size] hst (by omega) (by simp; omega) rfl rfl rfl rfl ?_; intro v1 w1 o1 g1 p1)
        go_ret
        refine ⟨v1, rfl, ?_, (Below.alloc hb hz1 _).grown g1 (by simp; omega) (fun b e => (ho.lt e).1)⟩
        have h := H.out
        rw [hn.out, if_pos hf] at h
        rw [h]
        exact o1
      · go_wp2
        go_ret
        refine ⟨v, rfl, ?_, hb⟩
        have h := H.out
        rw [hn.out, if_neg hf, List.append_nil] at h
        rw [h]
        exact ho

end Go.Proofs.YtkamenidgkjodaaGreatDoor
