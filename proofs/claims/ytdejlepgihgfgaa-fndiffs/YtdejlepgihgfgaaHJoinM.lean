/-
  JoinHunks of the program: the hunks around pairs of places.
-/
import Derived.Test.YtdejlepgihgfgaaHTrim
import Derived.Test.YtdejlepgihgfgaaHJoinT
set_option linter.unusedSimpArgs false
set_option linter.unusedVariables false
namespace Go.Proofs.Ytdejlepgihgfgaa
open Go.RowKit M

theorem ints_info : (Try.prog.info? 71).map (fun i => (i.zero, i.size, i.bytes)) = some (some (.slice none 0 0), 1, 24) := by kernel_rfl
/-- A list of pairs, each a list of two numbers. -/
structure Prs (w : World) (A : Option Addr) (n : Nat) (L : List (Nat × Nat)) : Prop where
  len : L.length = n
  addr : (A = none ∧ n = 0) ∨ ∃ b off, A = some ⟨b, off, none⟩
  cell : ∀ (k : Nat) (s : Nat × Nat), L[k]? = some s → ∃ b off gi, A = some ⟨b, off, none⟩ ∧ w.cell? ⟨b, off + k, none⟩ = some (.slice (some ⟨gi, 0, none⟩) 2 2) ∧ w.cell? ⟨gi, 0, none⟩ = some (.int .i64 (s.1 : Int)) ∧ w.cell? ⟨gi, 1, none⟩ = some (.int .i64 (s.2 : Int))
theorem Prs.below {w w' : World} {A : Option Addr} {n : Nat} {L : List (Nat × Nat)} (h : Prs w A n L) (hb : Below w.heap.size w w') : Prs w' A n L :=
  ⟨h.len, h.addr, fun k s hs => by
    obtain ⟨b, off, gi, e, h1, h2, h3⟩ := h.cell k s hs
    exact ⟨b, off, gi, e, cell_keep hb h1, cell_keep hb h2, cell_keep hb h3⟩⟩
theorem Prs.cellsL {w : World} {b off n : Nat} {L : List (Nat × Nat)} (h : Prs w (some ⟨b, off, none⟩) n L) : ∃ xs : List Value, xs.length = n ∧ (∀ u ∈ xs, ∃ gi, u = .slice (some ⟨gi, 0, none⟩) 2 2) ∧ (∀ j u, xs[j]? = some u → w.cell? ((⟨b, off, none⟩ : Addr).add j) = some u) ∧
    ∀ (k : Nat) (s : Nat × Nat), L[k]? = some s → ∃ gi, xs[k]? = some (.slice (some ⟨gi, 0, none⟩) 2 2) ∧ w.cell? ⟨gi, 0, none⟩ = some (.int .i64 (s.1 : Int)) ∧ w.cell? ⟨gi, 1, none⟩ = some (.int .i64 (s.2 : Int)) := by
  have hone : ∀ k, ∃ gi, ∀ s, L[k]? = some s → w.cell? ⟨b, off + k, none⟩ = some (.slice (some ⟨gi, 0, none⟩) 2 2) ∧ w.cell? ⟨gi, 0, none⟩ = some (.int .i64 (s.1 : Int)) ∧ w.cell? ⟨gi, 1, none⟩ = some (.int .i64 (s.2 : Int)) := by
    intro k
    cases hk : L[k]? with
    | none => exact ⟨0, fun s h => by cases h⟩
    | some s =>
      obtain ⟨b', off', gi, e, h1, h2, h3⟩ := h.cell k s hk
      injection e with e
      injection e with e1 e2
      subst e1 e2
      exact ⟨gi, fun t ht => by injection ht with ht; subst ht; exact ⟨h1, h2, h3⟩⟩
  have hg : ∀ k, k < n → ((List.range n).map fun k => (Value.slice (some ⟨Classical.choose (hone k), 0, none⟩) 2 2))[k]? = some (.slice (some ⟨Classical.choose (hone k), 0, none⟩) 2 2) := fun k hk => by rw [List.getElem?_map, List.getElem?_range hk]; rfl
  refine ⟨(List.range n).map fun k => .slice (some ⟨Classical.choose (hone k), 0, none⟩) 2 2, by simp, fun u hu => ?_, fun j u hu => ?_, fun k s hs => ?_⟩
  · rw [List.mem_map] at hu
    obtain ⟨k, _, rfl⟩ := hu
    exact ⟨_, rfl⟩
  · have hj : j < n := by have := (List.getElem?_eq_some_iff.1 hu).1; simpa using this
    rw [hg j hj] at hu
    injection hu with hu
    subst hu
    have e : (⟨b, off, none⟩ : Addr).add j = ⟨b, off + j, none⟩ := by unfold Addr.add; by_cases h0 : j = 0 <;> simp [h0]
    rw [e]
    exact (Classical.choose_spec (hone j) _ (List.getElem?_eq_getElem (show j < L.length by rw [h.len]; exact hj))).1
  · have hk : k < n := by rw [← h.len]; exact (List.getElem?_eq_some_iff.1 hs).1
    exact ⟨_, hg k hk, (Classical.choose_spec (hone k) s hs).2⟩
theorem run_app_full {w : World} (ty : TypeId) (A : Option Addr) (n : Nat) (L : List (Nat × Nat)) (h : Prs w A n L) (x : Nat × Nat) (gb gi : Nat) (h0 : w.cell? ⟨gb, 0, none⟩ = some (.slice (some ⟨gi, 0, none⟩) 2 2)) (h1 : w.cell? ⟨gi, 0, none⟩ = some (.int .i64 (x.1 : Int))) (h2 : w.cell? ⟨gi, 1, none⟩ = some (.int .i64 (x.2 : Int))) (hn : n ≤ 1000) :
    ∃ cap' w', (Builtin.append_ #[57, 57] ty #[.slice A n n, .slice (some ⟨gb, 0, none⟩) 1 1]).run Try.prog w = .ok (.slice (some ⟨w.heap.size, 0, none⟩) (n + 1) cap') w' ∧ Prs w' (some ⟨w.heap.size, 0, none⟩) (n + 1) (L ++ [x]) ∧ Below w.heap.size w w' := by
  obtain ⟨i, q1, q2, q3, q4⟩ := info_parts ints_info
  have hnews : ∀ j t, [Value.slice (some ⟨gi, 0, none⟩) 2 2][j]? = some t → w.cell? ((⟨gb, 0, none⟩ : Addr).add j) = some t := by
    intro j t ht
    match j, ht with
    | 0, ht => simp at ht; subst ht; simpa [Addr.add] using h0
  have hbl : ∀ o, Below w.heap.size w (w.drew.alloc o) := fun o => (Below.refl _ w).drew.alloc (Nat.le_refl _) o
  have fin : ∀ (xs : List Value) (zs : Array Value), xs.length = n → (∀ (k : Nat) (s : Nat × Nat), L[k]? = some s → ∃ g, xs[k]? = some (.slice (some ⟨g, 0, none⟩) 2 2) ∧ w.cell? ⟨g, 0, none⟩ = some (.int .i64 (s.1 : Int)) ∧ w.cell? ⟨g, 1, none⟩ = some (.int .i64 (s.2 : Int))) →
      Prs (w.drew.alloc (.cells (xs.toArray ++ #[Value.slice (some ⟨gi, 0, none⟩) 2 2] ++ zs) 71)) (some ⟨w.heap.size, 0, none⟩) (n + 1) (L ++ [x]) := by
    intro xs zs hxl hx
    have hheap : (w.drew.alloc (.cells (xs.toArray ++ #[Value.slice (some ⟨gi, 0, none⟩) 2 2] ++ zs) 71)).heap[w.heap.size]? = some (.cells (xs.toArray ++ #[Value.slice (some ⟨gi, 0, none⟩) 2 2] ++ zs) 71 (0, 0)) := heap_alloc_new w.drew _
    have hcell : ∀ k u, (xs ++ [Value.slice (some ⟨gi, 0, none⟩) 2 2])[k]? = some u → (w.drew.alloc (.cells (xs.toArray ++ #[Value.slice (some ⟨gi, 0, none⟩) 2 2] ++ zs) 71)).cell? ⟨w.heap.size, k, none⟩ = some u := by
      intro k u hu
      have hk : k < n + 1 := by have := (List.getElem?_eq_some_iff.1 hu).1; simp [hxl] at this; omega
      rw [cell_of_row _ _ k _ _ _ hheap, Array.getElem?_append_left (by simp [hxl]; omega)]
      rw [show xs.toArray ++ #[Value.slice (some ⟨gi, 0, none⟩) 2 2] = (xs ++ [Value.slice (some ⟨gi, 0, none⟩) 2 2]).toArray from by simp]
      simpa using hu
    refine ⟨by simp [h.len], .inr ⟨_, _, rfl⟩, fun k s hs => ?_⟩
    rcases list_snoc_get hs with ⟨hk, hs⟩ | ⟨hk, rfl⟩
    · obtain ⟨g, e1, e2, e3⟩ := hx k s hs
      exact ⟨_, 0, g, rfl, by rw [Nat.zero_add]; exact hcell k _ (by rw [List.getElem?_append_left (by rw [hxl, ← h.len]; exact hk)]; exact e1), cell_keep (hbl _) e2, cell_keep (hbl _) e3⟩
    · exact ⟨_, 0, gi, rfl, by rw [Nat.zero_add]; exact hcell k _ (by rw [hk, h.len, List.getElem?_append_right (by omega), hxl, Nat.sub_self]; rfl), cell_keep (hbl _) h1, cell_keep (hbl _) h2⟩
  rcases h.addr with ⟨rfl, rfl⟩ | ⟨b, off, rfl⟩
  · have hr := run_append_nil (P := Try.prog) w 57 ty 71 i _ Try.underlying57 q1 q2 ⟨gb, 0, none⟩ 1 1 [.slice (some ⟨gi, 0, none⟩) 2 2] (by simp [q3]) hnews (by omega) (by omega) (by rw [q4]; omega)
    have hL : L = [] := List.eq_nil_of_length_eq_zero h.len
    have hf := fin [] (Builtin.zeroCells (Value.slice none 0 0).cells (grownCap w 1 0 71 - 1)) rfl (fun k s hs => by rw [hL] at hs; simp at hs)
    refine ⟨_, _, hr, ?_, hbl _⟩
    simpa using hf
  · obtain ⟨xs, hxl, hxf, hxc, hxp⟩ := h.cellsL
    have hr := run_append_grow (P := Try.prog) w 57 ty 71 i _ Try.underlying57 q1 q2 ⟨b, off, none⟩ n n xs (by rw [q3]; omega) hxc ⟨gb, 0, none⟩ 1 1 [.slice (some ⟨gi, 0, none⟩) 2 2] (by simp [q3]) hnews (by omega) (by omega) (growslice_fits (by omega) (by rw [q4]; omega))
    refine ⟨_, _, hr, ?_, hbl _⟩
    have hf := fin xs (Builtin.zeroCells (Value.slice none 0 0).cells (grownCap w (n + 1) n 71 - (n + 1))) hxl hxp
    simpa using hf
theorem wpList_full {w : World} {ops : Array Oper} {rest : List Oper} {o : Oper} {a : Act} {Q : Exit → Act → World → Prop} (s y : Operand) (A : Option Addr) (n : Nat) (L : List (Nat × Nat)) (hp : Prs w A n L) (x : Nat × Nat) (gb gi : Nat) (h0 : w.cell? ⟨gb, 0, none⟩ = some (.slice (some ⟨gi, 0, none⟩) 2 2)) (h1 : w.cell? ⟨gi, 0, none⟩ = some (.int .i64 (x.1 : Int))) (h2 : w.cell? ⟨gi, 1, none⟩ = some (.int .i64 (x.2 : Int))) (hn : n ≤ 1000)
    (hgd : Region.wanted o (yielded ops a.tmps) = true) (ho : o.op = .call { callee := .builtin .append, args := #[s, y], argTypes := #[57, 57] }) (hs : a.eval s = .slice A n n) (hy : a.eval y = .slice (some ⟨gb, 0, none⟩) 1 1)
    (h : ∀ cap' w', Prs w' (some ⟨w.heap.size, 0, none⟩) (n + 1) (L ++ [x]) → Below w.heap.size w w' → wpList Try.prog ops Q rest (a.put o.dst (.slice (some ⟨w.heap.size, 0, none⟩) (n + 1) cap')) w') : wpList Try.prog ops Q (o :: rest) a w := by
  refine wpList_wanted hgd fun K hK => ?_
  obtain ⟨cap', w', hrun, k1, k2⟩ := run_app_full o.type A n L hp x gb gi h0 h1 h2 hn
  unfold Oper.wp execOp
  simp only [ho, resolve, invoke, builtin, Sem.run_bind, Sem.run_pure, Result.andThen_ok, List.map_toArray, List.map_cons, List.map_nil, hs, hy, hrun]
  exact hK _ _ (h cap' w' k1 k2)
theorem cut_full (a : Option Addr) (n c : Nat) (h : n ≤ c) (w : World) :
    (Instr.slice 57 (.slice a n c) none (some (.int .i64 (n : Int))) (some (.int .i64 (n : Int)))).run Try.prog w = .ok (.slice a n n) w := by
  obtain ⟨i, h3, h4, h5, h6⟩ := info_parts ints_info
  have he : Try.prog.elem 57 = 71 := by simp [Program.elem, Try.underlying57]
  have hr := run_slice_hm (P := Try.prog) w 57 a n c (by rw [he]; exact Try.underlying57) .i64 .i64 n n (by omega) (by omega) (by omega)
  rw [he] at hr
  rw [hr]
  have h0 := cutA_zero a n
  unfold cutA at h0
  simp [sizeOf, typeInfo, h3, h5, sliced, h0]
theorem join_nothing {last : List ByteArray} {i j : Nat} {s : Nat × Nat} (h1 : i ≤ s.1) (h2 : j ≤ s.2) (h3 : s.2 ≤ last.length) : nothing (joinOne last i j s) = decide (¬ (i < s.1 ∨ j < s.2)) := by
  have e : (seg last j s.2).length = s.2 - j := by rw [seg_len, Nat.min_eq_left h3]
  have h5 : ((s.1 : Int) - (i : Int) = 0 ∧ s.2 - j = 0) ↔ ¬ (i < s.1 ∨ j < s.2) := by omega
  unfold nothing joinOne
  dsimp only
  rw [e, ← Bool.decide_and, decide_eq_decide]
  exact h5

end Go.Proofs.Ytdejlepgihgfgaa
