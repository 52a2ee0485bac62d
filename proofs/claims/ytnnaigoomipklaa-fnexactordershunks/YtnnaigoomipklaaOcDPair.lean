/-
  Words for memory: lists of two numbers each, in a list, all of the call's own.
-/
import Derived.Test.YtnnaigoomipklaaOcDLong
import Derived.Test.YtnnaigoomipklaaOcHJoins
set_option linter.unusedSimpArgs false
set_option linter.unusedVariables false
namespace Go.Proofs.Ytnnaigoomipklaa
open Go.RowKit M

/-- The blocks of a list of pairs and of each pair. -/
def BlkP (v : Value) (gs : List Nat) (g : Nat) : Prop := v.ownBlock = some g ∨ g ∈ gs
/-- Pairs that the call itself has laid, each in a block of its own. -/
structure OwnPP (w : World) (base : Nat) (v : Value) (L : List (Nat × Nat)) (gs : List Nat) : Prop where
  len : gs.length = L.length
  row : w.ownsRow base 127 1 v L.length (gs.map fun g => Value.slice (some ⟨g, 0, none⟩) 2 2)
  inner : ∀ (k g : Nat) (s : Nat × Nat), gs[k]? = some g → L[k]? = some s → w.heap[g]? = some (.cells #[.int .i64 (s.1 : Int), .int .i64 (s.2 : Int)] 3 (0, 0)) ∧ base ≤ g ∧ v.ownBlock ≠ some g
  apart : ∀ (i j g : Nat), gs[i]? = some g → gs[j]? = some g → i = j
section
variable {S : Nat → Prop} {w w' : World} {base n cap g k : Nat} {v : Value} {A : Option Addr} {L : List (Nat × Nat)} {gs : List Nat}
theorem OwnPP.nil_ : OwnPP w base (.slice none 0 0) [] [] := ⟨rfl, w.ownsRow_nil base _ _, fun k g s h => by simp at h, fun i j g h => by simp at h⟩
theorem OwnPP.mem (h : OwnPP w base v L gs) (hg : g ∈ gs) : ∃ (k : Nat) (s : Nat × Nat), gs[k]? = some g ∧ L[k]? = some s := by
  obtain ⟨k, hk⟩ := List.mem_iff_getElem?.1 hg
  have hk2 : k < L.length := by rw [← h.len]; exact (List.getElem?_eq_some_iff.1 hk).1
  exact ⟨k, _, hk, List.getElem?_eq_getElem hk2⟩
theorem OwnPP.lt (h : OwnPP w base v L gs) (hg : BlkP v gs g) : base ≤ g ∧ g < w.heap.size := by
  rcases hg with e | e
  · exact h.row.lt g e
  · obtain ⟨k, s, h1, h2⟩ := h.mem e
    obtain ⟨h3, h4, _⟩ := h.inner k g s h1 h2
    exact ⟨h4, (Array.getElem?_eq_some_iff.1 h3).1⟩
theorem OwnPP.wrote (h : OwnPP w base v L gs) (hw : Wrote S w w') (hne : ∀ g, BlkP v gs g → ¬ S g) : OwnPP w' base v L gs := by
  refine ⟨h.len, ownsRow_wrote h.row hw (fun g e => hne g (.inl e)), fun k g s hg hs => ?_, h.apart⟩
  obtain ⟨h1, h2, h3⟩ := h.inner k g s hg hs
  exact ⟨(hw.block g (Array.getElem?_eq_some_iff.1 h1).1 (hne g (.inr (List.mem_of_getElem? hg)))).trans h1, h2, h3⟩
theorem OwnPP.below (h : OwnPP w base v L gs) (hb : Below w.heap.size w w') : OwnPP w' base v L gs := h.wrote (S := fun _ => False) (Wrote.of_below hb) (fun _ _ e => e)
theorem OwnPP.form (h : OwnPP w base v L gs) (hn : L.length = n) : ∃ A cap, v = .slice A n cap ∧ n ≤ cap := by
  subst hn
  rcases h.row.2 with ⟨hv, h0⟩ | ⟨g, cap, cur, hv, _, _, h1, h2, _⟩
  · exact ⟨none, 0, by rw [hv, h0], by omega⟩
  · exact ⟨_, cap, hv, h1⟩
theorem OwnPP.more {b2 : Nat} (h : OwnPP w base v L gs) (hb : b2 ≤ base) : OwnPP w b2 v L gs := by
  refine ⟨h.len, ⟨h.row.1, ?_⟩, fun k g s hg hs => ?_, h.apart⟩
  · rcases h.row.2 with h1 | ⟨g, cap, cur, h1, h2, h3⟩
    · exact .inl h1
    · exact .inr ⟨g, cap, cur, h1, by omega, h3⟩
  · obtain ⟨h1, h2, h3⟩ := h.inner k g s hg hs
    exact ⟨h1, by omega, h3⟩
/-- Within: the place of one pair, and its cells. -/
theorem OwnPP.at_ (h : OwnPP w base (.slice A n cap) L gs) (hk : k < n) : ∃ b gi s, A = some ⟨b, 0, none⟩ ∧ gs[k]? = some gi ∧ L[k]? = some s ∧ w.cell? ⟨b, k, none⟩ = some (.slice (some ⟨gi, 0, none⟩) 2 2) ∧ w.heap[gi]? = some (.cells #[.int .i64 (s.1 : Int), .int .i64 (s.2 : Int)] 3 (0, 0)) ∧ base ≤ gi ∧ b ≠ gi ∧ base ≤ b := by
  have hn : L.length = n := by
    rcases h.row.2 with ⟨hv, h0⟩ | ⟨g, cap', cur, hv, _⟩
    · injection hv with e1 e2 e3; omega
    · injection hv with e1 e2 e3; omega
  obtain ⟨b, cap', hv, hb, hlt⟩ := h.row.form (by omega)
  injection hv with e1 e2 e3
  subst e1 e3
  have hr := h.row
  rw [hn] at hr
  have hk1 : k < gs.length := by rw [h.len]; omega
  have hg := List.getElem?_eq_getElem hk1
  have hs := List.getElem?_eq_getElem (show k < L.length by omega)
  obtain ⟨h1, h2, h3⟩ := h.inner k _ _ hg hs
  exact ⟨b, _, _, rfl, hg, hs, by rw [hr.cellAt _ (by omega), List.getElem?_map, hg]; rfl, h1, h2, fun e => h3 (by rw [e]; rfl), hb⟩
theorem OwnPP.len_ (h : OwnPP w base (.slice A n cap) L gs) : L.length = n := by
  rcases h.row.2 with ⟨hv, h0⟩ | ⟨g, cap', cur, hv, _⟩
  · injection hv with e1 e2 e3; omega
  · injection hv with e1 e2 e3; omega
theorem OwnPP.prs (h : OwnPP w base (.slice A n cap) L gs) : Prs w A n L := by
  have hn := h.len_
  refine ⟨hn, ?_, fun k s hs => ?_⟩
  · rcases h.row.2 with ⟨hv, h0⟩ | ⟨g, cap', cur, hv, _⟩
    · injection hv with e1 e2 e3; exact .inl ⟨e1, e2⟩
    · injection hv with e1 e2 e3; exact .inr ⟨g, 0, e1⟩
  · have hk : k < n := by rw [← hn]; exact (List.getElem?_eq_some_iff.1 hs).1
    obtain ⟨b, gi, s', rfl, hg, hs', h1, h2, _⟩ := h.at_ hk
    rw [hs] at hs'
    injection hs' with hs'
    subst hs'
    exact ⟨b, 0, gi, rfl, by rw [Nat.zero_add]; exact h1, by simp [World.cell?, h2], by simp [World.cell?, h2]⟩
end
theorem run_pp {w : World} (ty : TypeId) (base : Nat) (v : Value) (L : List (Nat × Nat)) (gs : List Nat) (hown : OwnPP w base v L gs) (x : Nat × Nat) (gb gi : Nat) (h0 : w.cell? ⟨gb, 0, none⟩ = some (.slice (some ⟨gi, 0, none⟩) 2 2)) (h1 : w.heap[gi]? = some (.cells #[.int .i64 (x.1 : Int), .int .i64 (x.2 : Int)] 3 (0, 0)))
    (hgi : base ≤ gi) (hn : ¬ BlkP v gs gi) (hbound : L.length ≤ 1000) (hbase : base ≤ w.heap.size) :
    ∃ v' w', (Builtin.append_ #[117, 117] ty #[v, .slice (some ⟨gb, 0, none⟩) 1 1]).run Try.prog w = .ok v' w' ∧ OwnPP w' base v' (L ++ [x]) (gs ++ [gi]) ∧ w.grownBy w' v.ownBlock := by
  obtain ⟨i, q1, q2, q3, q4⟩ := info_parts ints_info
  have hnews : ∀ j t, [Value.slice (some ⟨gi, 0, none⟩) 2 2][j]? = some t → w.cell? ((⟨gb, 0, none⟩ : Addr).add j) = some t := by
    intro j t ht
    match j, ht with
    | 0, ht => simp at ht; subst ht; simpa [Addr.add] using h0
  obtain ⟨v', w', hrun, hr, hg, _, hat⟩ := run_append_own_at (P := Try.prog) w base 117 ty 127 i _ 1 24 Try.underlying117 q1 q2 q3 q4 (by simp [Value.cells]) (by omega) v L.length _ hown.row ⟨gb, 0, none⟩ 1 1 [.slice (some ⟨gi, 0, none⟩) 2 2] (by simp) hnews (fun t ht => by
    simp at ht
    rw [ht]; rfl) (by unfold maxLen; omega) (by omega) hbase
  refine ⟨v', w', hrun, ⟨by simp [hown.len], by rw [List.map_append, List.length_append]; exact hr, fun k g s hg' hs' => ?_, ?_⟩, hg⟩
  · have hone : w.heap[g]? = some (.cells #[.int .i64 (s.1 : Int), .int .i64 (s.2 : Int)] 3 (0, 0)) ∧ base ≤ g ∧ v.ownBlock ≠ some g := by
      rcases list_snoc_get hg' with ⟨hk, hg'⟩ | ⟨hk, rfl⟩
      · rcases list_snoc_get hs' with ⟨_, hs'⟩ | ⟨hk2, _⟩
        · exact hown.inner k g s hg' hs'
        · rw [hown.len] at hk; omega
      · rcases list_snoc_get hs' with ⟨hk2, _⟩ | ⟨_, rfl⟩
        · rw [hown.len] at hk; omega
        · exact ⟨h1, hgi, fun e => hn (.inl e)⟩
    obtain ⟨a0, a1, a2⟩ := hone
    have hlt := (Array.getElem?_eq_some_iff.1 a0).1
    refine ⟨(hg.block g hlt (fun e => a2 e.symm)).trans a0, a1, ?_⟩
    rcases hat with hat | hat
    · rw [hat]; exact a2
    · rw [hat]; intro e; injection e with e; omega
  · intro a b g ha hb
    rcases list_snoc_get ha with ⟨hk, ha1⟩ | ⟨hk, e1⟩
    · rcases list_snoc_get hb with ⟨_, hb1⟩ | ⟨hk2, e2⟩
      · exact hown.apart a b g ha1 hb1
      · rw [e2] at ha1; exact absurd (.inr (List.mem_of_getElem? ha1)) hn
    · rcases list_snoc_get hb with ⟨_, hb1⟩ | ⟨hk2, _⟩
      · rw [e1] at hb1; exact absurd (.inr (List.mem_of_getElem? hb1)) hn
      · omega
theorem wpList_pp {w : World} {ops : Array Oper} {rest : List Oper} {o : Oper} {a : Act} {Q : Exit → Act → World → Prop} (s y : Operand) (base : Nat) (v : Value) (L : List (Nat × Nat)) (gs : List Nat) (hown : OwnPP w base v L gs) (x : Nat × Nat) (gb gi : Nat) (h0 : w.cell? ⟨gb, 0, none⟩ = some (.slice (some ⟨gi, 0, none⟩) 2 2)) (h1 : w.heap[gi]? = some (.cells #[.int .i64 (x.1 : Int), .int .i64 (x.2 : Int)] 3 (0, 0)))
    (hgi : base ≤ gi) (hn : ¬ BlkP v gs gi) (hbound : L.length ≤ 1000) (hbase : base ≤ w.heap.size)
    (hgd : Region.wanted o (yielded ops a.tmps) = true) (ho : o.op = .call { callee := .builtin .append, args := #[s, y], argTypes := #[117, 117] }) (hs : a.eval s = v) (hy : a.eval y = .slice (some ⟨gb, 0, none⟩) 1 1)
    (h : ∀ v' w', OwnPP w' base v' (L ++ [x]) (gs ++ [gi]) → w.grownBy w' v.ownBlock → wpList Try.prog ops Q rest (a.put o.dst v') w') : wpList Try.prog ops Q (o :: rest) a w := by
  refine wpList_wanted hgd fun K hK => ?_
  obtain ⟨v', w', hrun, k1, k2⟩ := run_pp o.type base v L gs hown x gb gi h0 h1 hgi hn hbound hbase
  unfold Oper.wp execOp
  simp only [ho, resolve, invoke, builtin, Sem.run_bind, Sem.run_pure, Result.andThen_ok, List.map_toArray, List.map_cons, List.map_nil, hs, hy, hrun]
  exact hK _ _ (h v' w' k1 k2)

end Go.Proofs.Ytnnaigoomipklaa
