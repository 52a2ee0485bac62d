/-
  PartOf, the program's and the model's, and its law.
-/
import Derived.Test.YtnnaigoomipklaaDoorOkGood
import Derived.Test.YtnnaigoomipklaaDoorOkMemT
set_option linter.unusedSimpArgs false
set_option linter.unusedVariables false
namespace Go.Proofs.YtnnaigoomipklaaDoor
open Go.RowKit M

set_option maxHeartbeats 400000 in
theorem l1OwnT_any (a : Option Addr) (n c : Nat) (l : List ByteArray) (w : World) (hl : Strs w a n l) (hn : n ≤ 1048576) :
    Calls Tryd.prog 96 #[.slice a n c] w fun e w' => ∃ v, e = .returned v ∧ OwnV w' w.heap.size v l ∧ Below w.heap.size w w' := by
  go_enter Tryd.func96, Tryd.ntmps96
  go_wp2_with (at_builtin; refine app_strs (.tmp 3) (.tmp 4) w.heap.size (.slice (some ⟨w.heap.size, 0, none⟩) 0 0) [] (OwnV.lit w _ (Nat.le_refl _) [] (by simp) (by simp)) a n c l (hl.below (below_alloc _ _)) (by simp; omega) (by simp) rfl rfl rfl rfl ?_; intro v1 w1 o1 g1 p1)
  go_ret
  exact ⟨v1, rfl, o1, Below.grown (below_alloc w _) g1 (by simp) (fun k hk => by simp [Value.ownBlock] at hk; omega)⟩

theorem splice_all {α : Type} (L cs : List α) (h : cs.length = L.length) : splice L 0 cs = cs := by simp [splice, h]
/-- copy of texts over a new slice of as many. -/
theorem copy_own {w : World} {ops : Array Oper} {rest : List Oper} {o : Oper} {a : Act} {Q : Exit → Act → World → Prop} (d s : Operand) (n dc sc : Nat) (A : Option Addr) (r : List ByteArray) (hr : Strs w A n r)
    (g : Nat) {l : List ByteArray} (hg : Own w g l) (B : Nat) (w0 : World) (hb : Below B w0 w) (hB : B ≤ g) (hl : l.length = n) (hn : n ≤ 4294967296)
    (hgd : o.guard = none) (ho : o.op = .call { callee := .builtin .copy, args := #[d, s], argTypes := #[30, 30] }) (hd : a.eval d = .slice (some ⟨g, 0, none⟩) n dc) (hs : a.eval s = .slice A n sc)
    (h : ∀ w', Own w' g r → Below B w0 w' → wpList Tryd.prog ops Q rest (a.put o.dst (goInt r.length)) w') : wpList Tryd.prog ops Q (o :: rest) a w := by
  refine wpList_copy_splice hgd d s 30 30 ho 9 Tryd.underlying30 (by kernel_rfl) (some ⟨g, 0, none⟩) A n dc n sc hd hs g 0 (l.map Value.string) 9 hg.heap (r.map Value.string) (by simp [hr.len]) (fun h0 => ⟨rfl, ?_⟩) (by simp [hr.len, hl]) (fun v hv => ?_) B w0 hb hB ?_
  · have hr0 : 0 < r.length := by simpa using h0
    obtain ⟨b, off, e, _⟩ := hr.cell 0 _ (List.getElem?_eq_getElem hr0)
    refine ⟨_, e, fun j v hv => ?_⟩
    rw [List.getElem?_map] at hv
    cases hj : r[j]? with
    | none => rw [hj] at hv; cases hv
    | some t =>
      rw [hj] at hv
      injection hv with hv
      subst hv
      obtain ⟨b', off', e', hc⟩ := hr.cell j t hj
      rw [e] at e'
      injection e' with e'
      injection e' with e1 e2
      subst e1 e2
      have e3 : (⟨b, off, none⟩ : Addr).add j = ⟨b, off + j, none⟩ := by unfold Addr.add; by_cases h0 : j = 0 <;> simp [h0]
      rw [e3]
      exact hc
  · rw [List.mem_map] at hv
    obtain ⟨t, _, rfl⟩ := hv
    rfl
  · intro w' h1 h2
    have h3 := h1.out
    rw [splice_all _ _ (by simp [hr.len, hl])] at h3
    have h4 := h w' ⟨h3⟩ h2
    simpa using h4

end Go.Proofs.YtnnaigoomipklaaDoor
