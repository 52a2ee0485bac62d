/-
  Drawn hunks that may be bad; lines and hunks drawn together.
-/
import Derived.Test.YtaajldodobclaaaHDrawH
set_option linter.unusedSimpArgs false
set_option linter.unusedVariables false
namespace Go.Proofs.Ytaajldodobclaaa
open Go.RowKit M

/-- What is known of any drawn hunk. -/
def smallA (x : Hk) : Prop := -1 ≤ x.at_ ∧ x.at_ ≤ 100 ∧ 0 ≤ x.gone ∧ x.gone ≤ 9 ∧ x.new.length ≤ 4 ∧ ∀ s ∈ x.new, s.size ≤ 8
theorem smallH.any {x : Hk} (h : smallH x) : smallA x := ⟨h.1, h.2.1, h.2.2.1, by have := h.2.2.2.1; omega, by have := h.2.2.2.2.1; omega, h.2.2.2.2.2⟩
theorem all_set {α : Type} {P : α → Prop} {l : List α} {k : Nat} {t : α} (h : ∀ s ∈ l, P s) (ht : P t) : ∀ s ∈ l.set k t, P s := by
  intro s hs
  rcases List.mem_or_eq_of_mem_set hs with h1 | h1
  · exact h s h1
  · rw [h1]; exact ht

/-- The New of one hunk is another one by now: in its own block still, or in a new one. -/
theorem OwnH.newAt {w w' : World} {base n cap g k : Nat} {l : List Hk} {vs : List Value} {x : Hk} {u u' : Value} {r : List ByteArray} (h : OwnH w base (.slice (some ⟨g, 0, none⟩) n cap) l vs) (hx : l[k]? = some x) (hu : vs[k]? = some u) (hw : w.grownBy w' u.ownBlock)
    (ho : OwnV w' base u' r) (ha : u'.ownBlock = u.ownBlock ∨ ∀ b, u'.ownBlock = some b → w.heap.size ≤ b) :
    OwnH (w'.setCell ⟨g, k * 3 + 2, none⟩ u') base (.slice (some ⟨g, 0, none⟩) n cap) (l.set k ⟨x.at_, x.gone, r⟩) (vs.set k u') := by
  have hn : l.length = n := h.hks.len
  have hk : k < n := by rw [← hn]; exact (List.getElem?_eq_some_iff.1 hx).1
  obtain ⟨xs, h1, h2⟩ := h.row
  have hxl := h1.1
  have hgr : (Value.slice (some ⟨g, 0, none⟩) n cap).ownBlock = some g := rfl
  have hug : u.ownBlock ≠ some g := fun e => h.apart k u g hu e hgr
  have hglt := (h.lt (.inl hgr)).2
  have hu'g : u'.ownBlock ≠ some g := by
    rcases ha with ha | ha
    · rw [ha]; exact hug
    · intro e; have := ha g e; omega
  have hw2 : Wrote (fun i => u.ownBlock = some i) w w' := Wrote.of_grown hw (fun _ e => e)
  have h1' := ownsRow_wrote h1 hw2 (fun i e e2 => by rw [hgr] at e; injection e with e; subst e; exact hug e2)
  rw [hn] at h1'
  have hs : Wrote (fun i => i = g) w' (w'.setCell ⟨g, k * 3 + 2, none⟩ u') := Wrote.set _ _ _ _ rfl
  refine ⟨by simp [h.len], ⟨_, by rw [List.length_set, hn]; exact (h1'.stored (k * 3 + 2) u').1, fun j y t hy ht => ?_⟩, fun j y t hy ht => ?_, fun j t b ht e => ?_, fun i j t t' b ht ht' e e' => ?_, fun y hy => ?_⟩
  · rcases set_get hy with ⟨rfl, rfl⟩ | ⟨hne, hy⟩
    · rcases set_get ht with ⟨_, rfl⟩ | ⟨hne, ht⟩
      · obtain ⟨q0, q1, q2⟩ := h2 k x u hx hu
        exact ⟨set_ne q0 (by omega), set_ne q1 (by omega), set_eq (by omega)⟩
      · exact absurd rfl hne
    · rcases set_get ht with ⟨e, rfl⟩ | ⟨hne, ht⟩
      · exact absurd e hne
      · obtain ⟨q0, q1, q2⟩ := h2 j y t hy ht
        exact ⟨set_ne q0 (by omega), set_ne q1 (by omega), set_ne q2 (by omega)⟩
  · rcases set_get hy with ⟨rfl, rfl⟩ | ⟨hne, hy⟩
    · rcases set_get ht with ⟨_, rfl⟩ | ⟨hne, ht⟩
      · exact ho.wrote hs (fun b e e2 => hu'g (by rw [e, e2]))
      · exact absurd rfl hne
    · rcases set_get ht with ⟨e, rfl⟩ | ⟨hne, ht⟩
      · exact absurd e hne
      · exact ((h.news j y t hy ht).wrote hw2 (fun b e e2 => hne (h.apart2 k j u t b hu ht e2 e))).wrote hs (fun b e e2 => h.apart j t b ht e (by rw [e2]; rfl))
  · rcases set_get ht with ⟨_, rfl⟩ | ⟨hne, ht⟩
    · intro e2; rw [hgr] at e2; injection e2 with e2; subst e2; exact hu'g e
    · exact h.apart j t b ht e
  · have hnew : ∀ j t, k ≠ j → vs[j]? = some t → t.ownBlock = some b → u'.ownBlock = some b → False := by
      intro j t hne ht e e'
      rcases ha with ha | ha
      · exact hne (h.apart2 k j u t b hu ht (by rw [← ha]; exact e') e)
      · have h5 := ha b e'
        have h6 := (h.lt (.inr ⟨j, t, ht, e⟩)).2
        omega
    rcases set_get ht with ⟨rfl, rfl⟩ | ⟨hne, h3⟩
    · rcases set_get ht' with ⟨rfl, rfl⟩ | ⟨hne', h4⟩
      · rfl
      · exact (hnew j t' hne' h4 e' e).elim
    · rcases set_get ht' with ⟨rfl, rfl⟩ | ⟨hne', h4⟩
      · exact (hnew i t hne h3 e e').elim
      · exact h.apart2 i j t t' b h3 h4 e e'
  · rcases List.mem_or_eq_of_mem_set hy with h5 | h5
    · exact h.ints y h5
    · rw [h5]; exact h.ints x (List.mem_of_getElem? hx)

set_option maxHeartbeats 400000 in
theorem among_any (g M bl : Nat) (w : World) (h : Curs w g M) (hM : M ≤ 1048000) (hb : w.heap[bl]? = some (.cells #[.int .i64 (-1), .int .i64 40, .int .i64 3] 3 (0, 0))) (hbg : bl ≠ g) :
    Calls Try.prog 87 #[.pointer (some ⟨g, 0, none⟩), .slice (some ⟨bl, 0, none⟩) 3 3] w fun e w' => ∃ x : Int, -1 ≤ x ∧ x ≤ 40 ∧ e = .returned (.int .i64 x) ∧ Curs w' g (M + 2) ∧ w.grownBy w' (some g) := by
  have HB := Lib.hid hb
  have hlt := (Array.getElem?_eq_some_iff.1 hb).1
  clear hb
  go_enter Try.func87, Try.ntmps87
  go_wp2_with fail
  refine (pick_any g M 3 _ h hM (by omega)).mono ?_
  rintro e w1 ⟨x, rfl, hx0, hx1, c1, g1⟩
  have hb1 : w1.heap[bl]? = some (.cells #[.int .i64 (-1), .int .i64 40, .int .i64 3] 3 (0, 0)) := (g1.block bl hlt (by simp; exact hbg)).trans HB.out
  have hx3 : x = 0 ∨ x = 1 ∨ x = 2 := by omega
  clear hx1 hx0
  rcases hx3 with rfl | rfl | rfl
  · have hc : w1.cell? ⟨bl, 0, none⟩ = some (.int .i64 (-1)) := by simp [World.cell?, hb1]
    go_wp2
    go_ret
    exact ⟨-1, by omega, by omega, rfl, c1, g1⟩
  · have hc : w1.cell? ⟨bl, 1, none⟩ = some (.int .i64 40) := by simp [World.cell?, hb1]
    go_wp2
    go_ret
    exact ⟨40, by omega, by omega, rfl, c1, g1⟩
  · have hc : w1.cell? ⟨bl, 2, none⟩ = some (.int .i64 3) := by simp [World.cell?, hb1]
    go_wp2
    go_ret
    exact ⟨3, by omega, by omega, rfl, c1, g1⟩

end Go.Proofs.Ytaajldodobclaaa
