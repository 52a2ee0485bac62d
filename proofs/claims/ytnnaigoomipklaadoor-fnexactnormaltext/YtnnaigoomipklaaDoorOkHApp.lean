/-
  append of one hunk to hunks of the call's own; copies of lines.
-/
import Derived.Test.YtnnaigoomipklaaDoorOkHMems
import Derived.Test.YtnnaigoomipklaaDoorOkPart
import Derived.Test.YtnnaigoomipklaaDoorOkHGoods
set_option linter.unusedSimpArgs false
set_option linter.unusedVariables false
namespace Go.Proofs.YtnnaigoomipklaaDoor
open Go.RowKit Go.ChangeShapes Go.WideShapes M

theorem list_snoc_get {α : Type} {l : List α} {a b : α} {k : Nat} (h : (l ++ [a])[k]? = some b) : (k < l.length ∧ l[k]? = some b) ∨ (k = l.length ∧ b = a) := by
  rw [List.getElem?_append] at h
  split at h
  · exact .inl ⟨by assumption, h⟩
  · have hk : k - l.length = 0 := by
      rcases Nat.eq_zero_or_pos (k - l.length) with h0 | h0
      · exact h0
      · rw [List.getElem?_eq_none (by simp; omega)] at h; cases h
    rw [hk] at h
    injection h with h
    exact .inr ⟨by omega, h.symm⟩

/-- One hunk is appended: its three cells lie in a block of their own, its New is of the call's own too. -/
theorem run_app_hk {w : World} (ty : TypeId) (base : Nat) (v : Value) (l : List Hk) (vs : List Value) (hown : OwnH w base v l vs) (x : Hk) (hx : i64ok x.at_ ∧ i64ok x.gone) (u : Value) (hu : OwnV w base u x.new) (hf : ∀ g, u.ownBlock = some g → ¬ Blk v vs g)
    (gb : Nat) (h0 : w.cell? ⟨gb, 0, none⟩ = some (.int .i64 x.at_)) (h1 : w.cell? ⟨gb, 1, none⟩ = some (.int .i64 x.gone)) (h2 : w.cell? ⟨gb, 2, none⟩ = some u) (hbound : l.length ≤ 1048576) (hbase : base ≤ w.heap.size) :
    ∃ v' w', (Builtin.append_ #[36, 36] ty #[v, .slice (some ⟨gb, 0, none⟩) 1 1]).run Tryd.prog w = .ok v' w' ∧ OwnH w' base v' (l ++ [x]) (vs ++ [u]) ∧ w.grownBy w' v.ownBlock ∧ (v'.ownBlock = v.ownBlock ∨ v'.ownBlock = some w.heap.size) := by
  obtain ⟨i, q1, q2, q3, q4⟩ := info_parts hk_info
  obtain ⟨xs, hrow, hpt⟩ := hown.row
  obtain ⟨ua, un, uc, hue⟩ : ∃ ua un uc, u = .slice ua un uc := by obtain ⟨A, c, e, _⟩ := hu.form rfl; exact ⟨_, _, _, e⟩
  have hnews : ∀ j t, [Value.int .i64 x.at_, Value.int .i64 x.gone, u][j]? = some t → w.cell? ((⟨gb, 0, none⟩ : Addr).add j) = some t := by
    intro j t ht
    match j, ht with
    | 0, ht => simp at ht; subst ht; simpa [Addr.add] using h0
    | 1, ht => simp at ht; subst ht; simpa [Addr.add] using h1
    | 2, ht => simp at ht; subst ht; simpa [Addr.add] using h2
  obtain ⟨v', w', hrun, hr, hg, _, hat⟩ := run_append_own_at (P := Tryd.prog) w base 36 ty 73 i _ 3 40 Tryd.underlying36 q1 q2 q3 q4 (by simp [Value.cells]) (by omega) v l.length xs hrow ⟨gb, 0, none⟩ 1 1 [.int .i64 x.at_, .int .i64 x.gone, u] (by simp) hnews (fun t ht => by
    simp at ht
    rcases ht with rfl | rfl | rfl
    · rfl
    · rfl
    · rw [hue]; rfl) (by unfold maxLen; omega) (by omega) hbase
  have hxl := hrow.1
  refine ⟨v', w', hrun, ⟨by simp [hown.len], ⟨xs ++ [.int .i64 x.at_, .int .i64 x.gone, u], by rw [List.length_append]; exact hr, fun k y t hy ht => ?_⟩, fun k y t hy ht => ?_, fun k t g ht e => ?_, fun a b t t' g ht ht' e e' => ?_, fun y hy => ?_⟩, hg, hat⟩
  · rcases list_snoc_get hy with ⟨hk, hy⟩ | ⟨hk, rfl⟩
    · rcases list_snoc_get ht with ⟨_, ht⟩ | ⟨hk2, _⟩
      · obtain ⟨a0, a1, a2⟩ := hpt k y t hy ht
        rw [List.getElem?_append_left (by omega), List.getElem?_append_left (by omega), List.getElem?_append_left (by omega)]
        exact ⟨a0, a1, a2⟩
      · rw [hown.len] at hk2; omega
    · rcases list_snoc_get ht with ⟨hk2, _⟩ | ⟨_, rfl⟩
      · rw [hown.len] at hk2; omega
      · subst hk
        rw [List.getElem?_append_right (by omega), List.getElem?_append_right (by omega), List.getElem?_append_right (by omega), hxl, Nat.sub_self, Nat.add_sub_cancel_left, Nat.add_sub_cancel_left]
        exact ⟨rfl, rfl, rfl⟩
  · rcases list_snoc_get hy with ⟨hk, hy⟩ | ⟨hk, rfl⟩
    · rcases list_snoc_get ht with ⟨_, ht⟩ | ⟨hk2, _⟩
      · exact (hown.news k y t hy ht).kept hg (fun g e e2 => hown.apart k t g ht e2 e)
      · rw [hown.len] at hk2; omega
    · rcases list_snoc_get ht with ⟨hk2, _⟩ | ⟨_, rfl⟩
      · rw [hown.len] at hk2; omega
      · exact hu.kept hg (fun g e e2 => hf g e2 (.inl e))
  · rcases list_snoc_get ht with ⟨_, ht⟩ | ⟨_, rfl⟩
    · rcases hat with hat | hat
      · rw [hat]; exact hown.apart k t g ht e
      · rw [hat]; intro e2; injection e2 with e2; have := (hown.lt (.inr ⟨k, t, ht, e⟩)).2; omega
    · rcases hat with hat | hat
      · rw [hat]; exact fun e2 => hf g e (.inl e2)
      · rw [hat]; intro e2; injection e2 with e2; have := (hu.lt e).2; omega
  · rcases list_snoc_get ht with ⟨_, h3⟩ | ⟨ha, rfl⟩
    · rcases list_snoc_get ht' with ⟨_, h4⟩ | ⟨hb, rfl⟩
      · exact hown.apart2 a b t t' g h3 h4 e e'
      · exact absurd (.inr ⟨a, t, h3, e⟩) (hf g e')
    · rcases list_snoc_get ht' with ⟨_, h4⟩ | ⟨hb, rfl⟩
      · exact absurd (.inr ⟨b, t', h4, e'⟩) (hf g e)
      · omega
  · rcases List.mem_append.1 hy with h5 | h5
    · exact hown.ints y h5
    · simp at h5; rw [h5]; exact hx

theorem step_hk {w : World} {ops : Array Oper} {o : Oper} {a : Act} {K : Act → World → Prop} {Q : Exit → Act → World → Prop} {E : Prop} (s y : Operand) (base : Nat) (v : Value) (l : List Hk) (vs : List Value) (hown : OwnH w base v l vs) (x : Hk) (hx : i64ok x.at_ ∧ i64ok x.gone) (u : Value) (hu : OwnV w base u x.new) (hf : ∀ g, u.ownBlock = some g → ¬ Blk v vs g)
    (gb : Nat) (h0 : w.cell? ⟨gb, 0, none⟩ = some (.int .i64 x.at_)) (h1 : w.cell? ⟨gb, 1, none⟩ = some (.int .i64 x.gone)) (h2 : w.cell? ⟨gb, 2, none⟩ = some u) (hbound : l.length ≤ 1048576) (hbase : base ≤ w.heap.size)
    (hgd : Region.wanted o (yielded ops a.tmps) = true) (ho : o.op = .call { callee := .builtin .append, args := #[s, y], argTypes := #[36, 36] }) (hs : a.eval s = v) (hy : a.eval y = .slice (some ⟨gb, 0, none⟩) 1 1)
    (h : ∀ v' w', OwnH w' base v' (l ++ [x]) (vs ++ [u]) → w.grownBy w' v.ownBlock → (v'.ownBlock = v.ownBlock ∨ v'.ownBlock = some w.heap.size) → K (a.put o.dst v') w') : if Region.wanted o (yielded ops a.tmps) = true then Oper.wp Tryd.prog o a w K Q else E := by
  rw [if_pos hgd]
  obtain ⟨v', w', hrun, k1, k2, k3⟩ := run_app_hk o.type base v l vs hown x hx u hu hf gb h0 h1 h2 hbound hbase
  unfold Oper.wp execOp
  simp only [ho, resolve, invoke, builtin, Sem.run_bind, Sem.run_pure, Result.andThen_ok, List.map_toArray, List.map_cons, List.map_nil, hs, hy, hrun]
  exact h v' w' k1 k2 k3

theorem cut3_strs (a : Option Addr) (n c lo hi : Nat) (h1 : lo ≤ hi) (h2 : hi ≤ c) (w : World) :
    (Instr.slice 30 (.slice a n c) (some (.int .i64 (lo : Int))) (some (.int .i64 (hi : Int))) (some (.int .i64 (hi : Int)))).run Tryd.prog w = .ok (.slice (cutA a hi lo) (hi - lo) (hi - lo)) w := by
  obtain ⟨i, h3, h4, h5, h6⟩ := info_parts str_info
  have he : Tryd.prog.elem 30 = 9 := by simp [Program.elem, Tryd.underlying30]
  have hr := run_slice_lhm (P := Tryd.prog) w 30 a n c (by rw [he]; exact Tryd.underlying30) .i64 .i64 .i64 lo hi hi (by omega) (by omega) (by omega) (by omega)
  rw [he] at hr
  rw [hr]
  simp [sizeOf, typeInfo, h3, h5, sliced, cutA]
theorem Strs.cut3 {w : World} {a : Option Addr} {n lo hi : Nat} {l : List ByteArray} (h : Strs w a n l) (h1 : lo ≤ hi) (h2 : hi ≤ n) : Strs w (cutA a hi lo) (hi - lo) ((l.take hi).drop lo) := by
  have := (h.take_ h2).cut (c := hi) h1 (Nat.le_refl _) (Nat.le_refl _)
  rwa [List.take_take, Nat.min_self] at this

set_option maxHeartbeats 400000 in
theorem copyOf_any (a : Option Addr) (n c : Nat) (l : List ByteArray) (w : World) (hl : Strs w a n l) (hn : n ≤ 1048576) :
    Calls Tryd.prog 71 #[.slice a n c] w fun e w' => ∃ v, e = .returned v ∧ OwnV w' w.heap.size v l ∧ Below w.heap.size w w' := by
  have hmk := make_strs n hn
  have HL := Lib.hid hl.len
  go_enter Tryd.func71, Tryd.ntmps71
  go_wp2_with (refine copy_own (.tmp 7) (.tmp 8) _ _ _ _ l (hl.below (below_alloc _ _)) w.heap.size (Own.new w _) w.heap.size w (below_alloc _ _) (Nat.le_refl _) (by simp) (by omega) rfl rfl rfl rfl ?_; intro w2 o2 b2)
  go_ret
  have o3 := o2.ownV (Nat.le_refl _) (by rw [hl.len]; unfold maxLen; omega) hl.small
  rw [hl.len] at o3
  exact ⟨_, rfl, o3, b2⟩

end Go.Proofs.YtnnaigoomipklaaDoor
