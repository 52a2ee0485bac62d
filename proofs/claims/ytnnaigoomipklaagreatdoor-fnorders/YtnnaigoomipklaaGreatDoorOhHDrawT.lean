/-
  Drawn texts once more: their last line is not empty.
-/
import Derived.Test.YtnnaigoomipklaaGreatDoorOhDraw
import Derived.Test.YtnnaigoomipklaaGreatDoorOhWhole
set_option linter.unusedSimpArgs false
set_option linter.unusedVariables false
namespace Go.Proofs.YtnnaigoomipklaaGreatDoor
open Go.RowKit M

theorem all_snoc {α : Type} {P : α → Prop} {l : List α} {t : α} (h : ∀ s ∈ l, P s) (ht : P t) : ∀ s ∈ l ++ [t], P s := by
  intro s hs
  rcases List.mem_append.1 hs with h1 | h1
  · exact h s h1
  · simp at h1; subst h1; exact ht

set_option maxHeartbeats 1000000 in
theorem text2_any (g M : Nat) (w : World) (h : Curs w g M) (hM : M ≤ 1000000) :
    Calls Tryz.prog 130 #[.pointer (some ⟨g, 0, none⟩)] w fun e w' => ∃ (v : Value) (l : List ByteArray), e = .returned v ∧ OwnV w' w.heap.size v l ∧ l.length ≤ 9 ∧ (∀ s ∈ l, s.size ≤ 8 ∧ 1 ≤ s.size) ∧ Curs w' g (M + 30) ∧ w.grownBy w' (some g) := by
  have hlt := h.lt
  go_enter Tryz.func130, Tryz.ntmps130
  go_wp2_with fail
  refine (pick_any g M 9 _ h (by omega) (by omega)).mono ?_
  rintro e w1 ⟨x, rfl, hx0, hx1, c1, g1⟩
  obtain ⟨k0, rfl⟩ := Int.eq_ofNat_of_zero_le hx0
  have hk : k0 ≤ 8 := by omega
  clear hx1
  go_wp2
  go_loopw [3, 4] (fun lv i w' => ∃ (v : Value) (l : List ByteArray) (k : Nat), v = lv ∧ i = .int .i64 k ∧ k ≤ 8 ∧ l.length + k ≤ 8 ∧ (∀ s ∈ l, s.size ≤ 8 ∧ 1 ≤ s.size) ∧ OwnV w' w.heap.size v l ∧ Curs w' g (M + 2 + 2 * l.length) ∧ w.grownBy w' (some g)) (fun _ i _ => (intOf i).toNat)
  case atStart => exact ⟨_, [], k0, rfl, rfl, hk, by simpa using hk, by simp, OwnV.nil_, c1, g1⟩
  case round =>
    obtain ⟨v, l, k, rfl, rfl, hk, hlk, hsm, ho, hc, hg⟩ := hrel
    have HSM := Lib.hid hsm
    clear hsm
    by_cases hp : 0 < k
    · go_wp2_with fail
      refine (line_any g _ _ hc (by omega)).mono ?_
      rintro e w2 ⟨s, hs, rfl, c2, g2⟩
      have hsz : s.size + 1 ≤ 8 := by omega
      have ho2 := ho.kept g2 (fun b e h => by injection e with e; have := (ho.lt h).1; omega)
      have hg2 := hg.trans g2
      have hz2 := hg2.size
      have hst := strs_one w2 (s ++ ⟨#[10]⟩) (by rw [size_nl]; unfold maxLen; omega)
      go_wp2_with (at_builtin; refine app_strs (.tmp 11) (.tmp 15) w.heap.size v l (ho2.below (below_alloc _ _)) _ 1 1 [s ++ ⟨#[10]⟩] hst (by omega) (by simp; omega) rfl rfl rfl rfl ?_; intro v3 w3 o3 g3 p3)
      have hcc := c2.below (below_alloc w2 (.cells #[Value.string (s ++ ⟨#[10]⟩)] 9))
      have hbk : ∀ b, v.ownBlock = some b → w.heap.size ≤ b := fun b e => (ho2.lt e).1
      go_roundw
      case rel =>
        refine ⟨v3, l ++ [s ++ ⟨#[10]⟩], k - 1, rfl, by go_num, by omega, by simp; omega, all_snoc HSM.out ⟨by rw [size_nl]; omega, by rw [size_nl]; omega⟩, o3, ?_, ?_⟩
        · have := hcc.kept g3 (fun b e => by have := hbk b e; omega)
          simpa [Nat.mul_add, Nat.add_assoc] using this
        · exact grown_more (grown_alloc hg2 _) g3 (fun b e => .inl (hbk b e))
      case measure => simp [intOf]; omega
    · go_wp2_with fail
      refine (one_any g _ 5 _ hc (by omega) (by omega)).mono ?_
      rintro e w2 ⟨q, rfl, c2, g2⟩
      have ho2 := ho.kept g2 (fun b e h => by injection e with e; have := (ho.lt h).1; omega)
      have hg2 := hg.trans g2
      have hz2 := hg2.size
      cases q with
      | false =>
        go_wp2
        go_ret
        exact ⟨v, l, rfl, ho2, by omega, HSM.out, c2.more (by omega), hg2⟩
      | true =>
        have hst := strs_lit w2 [⟨#[97]⟩, ⟨#[101, 110, 100]⟩, ⟨#[46]⟩] (by decide) (by decide)
        go_wp2_with fail
        refine (of_any g _ _ 3 3 [⟨#[97]⟩, ⟨#[101, 110, 100]⟩, ⟨#[46]⟩] _ (c2.below (below_alloc _ _)) (by omega) hst (by omega) (by omega) (fun x e => by injection e with e; subst e; have := c2.lt; simp; omega)).mono ?_
        rintro e w3 ⟨t, ht, rfl, c3, g3⟩
        have ht2 : t.size ≤ 3 ∧ 1 ≤ t.size := (show ∀ t ∈ ([⟨#[97]⟩, ⟨#[101, 110, 100]⟩, ⟨#[46]⟩] : List ByteArray), t.size ≤ 3 ∧ 1 ≤ t.size by decide) t ht
        clear ht
        have ho3 := (ho2.below (below_alloc w2 (.cells ([⟨#[97]⟩, ⟨#[101, 110, 100]⟩, ⟨#[46]⟩].map Value.string).toArray 9))).kept g3 (fun b e h => by injection e with e; have := (ho2.lt h).1; omega)
        have hg3 := (grown_alloc hg2 _).trans g3
        have hz3 := hg3.size
        have hst3 := strs_one w3 t (by unfold maxLen; omega)
        have hbk : ∀ b, v.ownBlock = some b → w.heap.size ≤ b := fun b e => (ho2.lt e).1
        go_wp2_with (at_builtin; refine app_strs (.tmp 19) (.tmp 23) w.heap.size v l (ho3.below (below_alloc _ _)) _ 1 1 [t] hst3 (by omega) (by simp; omega) rfl rfl rfl rfl ?_; intro v4 w4 o4 g4 p4)
        go_ret
        refine ⟨v4, l ++ [t], rfl, o4, by simp; omega, all_snoc HSM.out ⟨by omega, by omega⟩, ?_, grown_more (grown_alloc hg3 _) g4 (fun b e => .inl (hbk b e))⟩
        exact ((c3.below (below_alloc w3 (.cells #[Value.string t] 9))).kept g4 (fun b e => by have := hbk b e; omega)).more (by omega)

set_option maxHeartbeats 400000 in
theorem l1Whole_last (a : Option Addr) (n c : Nat) (l : List ByteArray) (w : World) (hl : Strs w a n l) (hne : ∀ s, l.getLast? = some s → 1 ≤ s.size) :
    Calls Tryz.prog 87 #[.slice a n c] w fun e w' => e = .returned (.bool (wholeB l)) ∧ w = w' := by
  have HL := Lib.hid hl.len
  have HNE := Lib.hid hne
  clear hne
  have hlim := hl.lim
  unfold maxLen at hlim
  by_cases h0 : n = 0
  · have hf := Lib.hid (wholeB_nil (HL.out.trans h0))
    have hq : ((n : Int) == 0) = true := by simp [h0]
    clear h0
    go_enter Tryz.func87, Tryz.ntmps87
    go_wp2
    go_ret
    exact ⟨ret_bool hf.out.symm, rfl⟩
  · have hq : ((n : Int) == 0) = false := by simp; omega
    obtain ⟨b, off, s, rfl, hs, hsz, hc⟩ := hl.at_ (show n - 1 < n by omega)
    have hp := HNE.out s (by rw [List.getLast?_eq_getElem?, HL.out]; exact hs)
    have hf := Lib.hid (wholeB_last HL.out (by omega) hs)
    clear hs
    go_enter Tryz.func87, Tryz.ntmps87
    go_wp2_with (go_at_call 135; refine (l1Ends_any s _ hsz hp).mono ?_; rintro e w' ⟨rfl, rfl⟩)
    go_ret
    exact ⟨ret_bool hf.out.symm, rfl⟩

end Go.Proofs.YtnnaigoomipklaaGreatDoor
