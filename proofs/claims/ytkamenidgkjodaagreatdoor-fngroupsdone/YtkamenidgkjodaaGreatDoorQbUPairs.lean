/-
  Words for memory: lists of two numbers each, in a list, all of the call's own (as stage 3 has them, on less).
  Groups turned round: the program's turnedBack and BackGroups.
-/
import Derived.Test.YtkamenidgkjodaaGreatDoorQbHMems
import Derived.Test.YtkamenidgkjodaaGreatDoorQbHBack
import Derived.Test.YtkamenidgkjodaaGreatDoorQbUHunk
import Derived.Test.YtkamenidgkjodaaGreatDoorQbGGood
import Derived.Test.YtkamenidgkjodaaGreatDoorQbGRowsN
import Derived.Deep.RegionHeld3
import Derived.StillTailTactics
set_option linter.unusedSimpArgs false
set_option linter.unusedVariables false
namespace Go.Proofs.YtkamenidgkjodaaGreatDoor
open Go.RowKit M

def BlkP (v : Value) (gs : List Nat) (g : Nat) : Prop := v.ownBlock = some g ∨ g ∈ gs
structure OwnPP (w : World) (base : Nat) (v : Value) (L : List (Nat × Nat)) (gs : List Nat) : Prop where
  len : gs.length = L.length
  row : w.ownsRow base 117 1 v L.length (gs.map fun g => Value.slice (some ⟨g, 0, none⟩) 2 2)
  inner : ∀ (k g : Nat) (s : Nat × Nat), gs[k]? = some g → L[k]? = some s → w.heap[g]? = some (.cells #[.int .i64 (s.1 : Int), .int .i64 (s.2 : Int)] 3 (0, 0)) ∧ base ≤ g ∧ v.ownBlock ≠ some g
  apart : ∀ (i j g : Nat), gs[i]? = some g → gs[j]? = some g → i = j
section
variable {S : Nat → Prop} {w w' : World} {base n cap g k : Nat} {v : Value} {A : Option Addr} {L : List (Nat × Nat)} {gs : List Nat}
theorem OwnPP.nil_ : OwnPP w base (.slice none 0 0) [] [] := ⟨rfl, w.ownsRow_nil base _ _, fun k g s h => by simp at h, fun i j g h => by simp at h⟩
theorem OwnPP.mem (h : OwnPP w base v L gs) (hg : g ∈ gs) : ∃ (k : Nat) (s : Nat × Nat), gs[k]? = some g ∧ L[k]? = some s := by
  obtain ⟨k, hk⟩ := List.mem_iff_getElem?.1 hg
  have hk2 : k < L.length := by rw [← h.len]; exact (List.getElem?_eq_some_iff.1 hk).1
  exact ⟨k, _, hk, List.getElem?_eq_getElem hk2⟩
theorem OwnPP.lt (h : OwnPP w base v L gs) (hg : BlkP v gs g) : base ≤ g ∧ g < w.heap.size := by
  rcases hg with e | e
  · exact h.row.lt g e
  · obtain ⟨k, s, h1, h2⟩ := h.mem e
    obtain ⟨h3, h4, _⟩ := h.inner k g s h1 h2
    exact ⟨h4, (Array.getElem?_eq_some_iff.1 h3).1⟩
theorem OwnPP.wrote (h : OwnPP w base v L gs) (hw : Wrote S w w') (hne : ∀ g, BlkP v gs g → ¬ S g) : OwnPP w' base v L gs := by
  refine ⟨h.len, ownsRow_wrote h.row hw (fun g e => hne g (.inl e)), fun k g s hg hs => ?_, h.apart⟩
  obtain ⟨h1, h2, h3⟩ := h.inner k g s hg hs
  exact ⟨(hw.block g (Array.getElem?_eq_some_iff.1 h1).1 (hne g (.inr (List.mem_of_getElem? hg)))).trans h1, h2, h3⟩
theorem OwnPP.below (h : OwnPP w base v L gs) (hb : Below w.heap.size w w') : OwnPP w' base v L gs := h.wrote (S := fun _ => False) (Wrote.of_below hb) (fun _ _ e => e)
theorem OwnPP.form (h : OwnPP w base v L gs) (hn : L.length = n) : ∃ A cap, v = .slice A n cap ∧ n ≤ cap := by
  subst hn
  rcases h.row.2 with ⟨hv, h0⟩ | ⟨g, cap, cur, hv, _, _, h1, h2, _⟩
  · exact ⟨none, 0, by rw [hv, h0], by omega⟩
  · exact ⟨_, cap, hv, h1⟩
theorem OwnPP.at_ (h : OwnPP w base (.slice A n cap) L gs) (hk : k < n) : ∃ b gi s, A = some ⟨b, 0, none⟩ ∧ gs[k]? = some gi ∧ L[k]? = some s ∧ w.cell? ⟨b, k, none⟩ = some (.slice (some ⟨gi, 0, none⟩) 2 2) ∧ w.heap[gi]? = some (.cells #[.int .i64 (s.1 : Int), .int .i64 (s.2 : Int)] 3 (0, 0)) ∧ base ≤ gi ∧ b ≠ gi ∧ base ≤ b := by
  have hn : L.length = n := by
    rcases h.row.2 with ⟨hv, h0⟩ | ⟨g, cap', cur, hv, _⟩
    · injection hv with e1 e2 e3; omega
    · injection hv with e1 e2 e3; omega
  obtain ⟨b, cap', hv, hb, hlt⟩ := h.row.form (by omega)
  injection hv with e1 e2 e3
  subst e1 e3
  have hr := h.row
  rw [hn] at hr
  have hk1 : k < gs.length := by rw [h.len]; omega
  have hg := List.getElem?_eq_getElem hk1
  have hs := List.getElem?_eq_getElem (show k < L.length by omega)
  obtain ⟨h1, h2, h3⟩ := h.inner k _ _ hg hs
  exact ⟨b, _, _, rfl, hg, hs, by rw [hr.cellAt _ (by omega), List.getElem?_map, hg]; rfl, h1, h2, fun e => h3 (by rw [e]; rfl), hb⟩
theorem OwnPP.len_ (h : OwnPP w base (.slice A n cap) L gs) : L.length = n := by
  rcases h.row.2 with ⟨hv, h0⟩ | ⟨g, cap', cur, hv, _⟩
  · injection hv with e1 e2 e3; omega
  · injection hv with e1 e2 e3; omega
theorem OwnPP.prs (h : OwnPP w base (.slice A n cap) L gs) : Prs w A n L := by
  have hn := h.len_
  refine ⟨hn, ?_, fun k s hs => ?_⟩
  · rcases h.row.2 with ⟨hv, h0⟩ | ⟨g, cap', cur, hv, _⟩
    · injection hv with e1 e2 e3; exact .inl ⟨e1, e2⟩
    · injection hv with e1 e2 e3; exact .inr ⟨g, 0, e1⟩
  · have hk : k < n := by rw [← hn]; exact (List.getElem?_eq_some_iff.1 hs).1
    obtain ⟨b, gi, s', rfl, hg, hs', h1, h2, _⟩ := h.at_ hk
    rw [hs] at hs'
    injection hs' with hs'
    subst hs'
    exact ⟨b, 0, gi, rfl, by rw [Nat.zero_add]; exact h1, by simp [World.cell?, h2], by simp [World.cell?, h2]⟩
end
theorem run_pp {w : World} (ty : TypeId) (base : Nat) (v : Value) (L : List (Nat × Nat)) (gs : List Nat) (hown : OwnPP w base v L gs) (x : Nat × Nat) (gb gi : Nat) (h0 : w.cell? ⟨gb, 0, none⟩ = some (.slice (some ⟨gi, 0, none⟩) 2 2)) (h1 : w.heap[gi]? = some (.cells #[.int .i64 (x.1 : Int), .int .i64 (x.2 : Int)] 3 (0, 0)))
    (hgi : base ≤ gi) (hn : ¬ BlkP v gs gi) (hbound : L.length ≤ 1000) (hbase : base ≤ w.heap.size) :
    ∃ v' w', (Builtin.append_ #[156, 156] ty #[v, .slice (some ⟨gb, 0, none⟩) 1 1]).run Tryz.prog w = .ok v' w' ∧ OwnPP w' base v' (L ++ [x]) (gs ++ [gi]) ∧ w.grownBy w' v.ownBlock := by
  obtain ⟨i, q1, q2, q3, q4⟩ := info_parts ints_info
  have hnews : ∀ j t, [Value.slice (some ⟨gi, 0, none⟩) 2 2][j]? = some t → w.cell? ((⟨gb, 0, none⟩ : Addr).add j) = some t := by
    intro j t ht
    match j, ht with
    | 0, ht => simp at ht; subst ht; simpa [Addr.add] using h0
  obtain ⟨v', w', hrun, hr, hg, _, hat⟩ := run_append_own_at (P := Tryz.prog) w base 156 ty 117 i _ 1 24 Tryz.underlying156 q1 q2 q3 q4 (by simp [Value.cells]) (by omega) v L.length _ hown.row ⟨gb, 0, none⟩ 1 1 [.slice (some ⟨gi, 0, none⟩) 2 2] (by simp) hnews (fun t ht => by
    simp at ht
    rw [ht]; rfl) (by unfold maxLen; omega) (by omega) hbase
  refine ⟨v', w', hrun, ⟨by simp [hown.len], by rw [List.map_append, List.length_append]; exact hr, fun k g s hg' hs' => ?_, ?_⟩, hg⟩
  · have hone : w.heap[g]? = some (.cells #[.int .i64 (s.1 : Int), .int .i64 (s.2 : Int)] 3 (0, 0)) ∧ base ≤ g ∧ v.ownBlock ≠ some g := by
      rcases list_snoc_get hg' with ⟨hk, hg'⟩ | ⟨hk, rfl⟩
      · rcases list_snoc_get hs' with ⟨_, hs'⟩ | ⟨hk2, _⟩
        · exact hown.inner k g s hg' hs'
        · rw [hown.len] at hk; omega
      · rcases list_snoc_get hs' with ⟨hk2, _⟩ | ⟨_, rfl⟩
        · rw [hown.len] at hk; omega
        · exact ⟨h1, hgi, fun e => hn (.inl e)⟩
    obtain ⟨a0, a1, a2⟩ := hone
    have hlt := (Array.getElem?_eq_some_iff.1 a0).1
    refine ⟨(hg.block g hlt (fun e => a2 e.symm)).trans a0, a1, ?_⟩
    rcases hat with hat | hat
    · rw [hat]; exact a2
    · rw [hat]; intro e; injection e with e; omega
  · intro a b g ha hb
    rcases list_snoc_get ha with ⟨hk, ha1⟩ | ⟨hk, e1⟩
    · rcases list_snoc_get hb with ⟨_, hb1⟩ | ⟨hk2, e2⟩
      · exact hown.apart a b g ha1 hb1
      · rw [e2] at ha1; exact absurd (.inr (List.mem_of_getElem? ha1)) hn
    · rcases list_snoc_get hb with ⟨_, hb1⟩ | ⟨hk2, _⟩
      · rw [e1] at hb1; exact absurd (.inr (List.mem_of_getElem? hb1)) hn
      · omega
theorem wpList_pp {w : World} {ops : Array Oper} {rest : List Oper} {o : Oper} {a : Act} {Q : Exit → Act → World → Prop} (s y : Operand) (base : Nat) (v : Value) (L : List (Nat × Nat)) (gs : List Nat) (hown : OwnPP w base v L gs) (x : Nat × Nat) (gb gi : Nat) (h0 : w.cell? ⟨gb, 0, none⟩ = some (.slice (some ⟨gi, 0, none⟩) 2 2)) (h1 : w.heap[gi]? = some (.cells #[.int .i64 (x.1 : Int), .int .i64 (x.2 : Int)] 3 (0, 0)))
    (hgi : base ≤ gi) (hn : ¬ BlkP v gs gi) (hbound : L.length ≤ 1000) (hbase : base ≤ w.heap.size)
    (hgd : Region.wanted o (yielded ops a.tmps) = true) (ho : o.op = .call { callee := .builtin .append, args := #[s, y], argTypes := #[156, 156] }) (hs : a.eval s = v) (hy : a.eval y = .slice (some ⟨gb, 0, none⟩) 1 1)
    (h : ∀ v' w', OwnPP w' base v' (L ++ [x]) (gs ++ [gi]) → w.grownBy w' v.ownBlock → wpList Tryz.prog ops Q rest (a.put o.dst v') w') : wpList Tryz.prog ops Q (o :: rest) a w := by
  refine wpList_wanted hgd fun K hK => ?_
  obtain ⟨v', w', hrun, k1, k2⟩ := run_pp o.type base v L gs hown x gb gi h0 h1 hgi hn hbound hbase
  unfold Oper.wp execOp
  simp only [ho, resolve, invoke, builtin, Sem.run_bind, Sem.run_pure, Result.andThen_ok, List.map_toArray, List.map_cons, List.map_nil, hs, hy, hrun]
  exact hK _ _ (h v' w' k1 k2)

end Go.Proofs.YtkamenidgkjodaaGreatDoor

namespace Go.Proofs.YtkamenidgkjodaaGreatDoor
open Go.RowKit Go.ChangeShapes Go.WideShapes M

theorem kept_step_keep {rows : List Rw} {k : Nat} {x : Rw} (h : rows[k]? = some x) (hk : x.kind = 1) (a t : Nat) : keptF a t (rows.drop k) = (a, t) :: keptF (a + 1) (t + 1) (rows.drop (k + 1)) := by
  rw [drop_at h, keptF, if_pos hk]
theorem kept_step_gone {rows : List Rw} {k : Nat} {x : Rw} (h : rows[k]? = some x) (hk : x.kind = 2) (a t : Nat) : keptF a t (rows.drop k) = keptF (a + 1) t (rows.drop (k + 1)) := by
  rw [drop_at h, keptF, if_neg (by omega), if_pos hk]
theorem kept_step_new {rows : List Rw} {k : Nat} {x : Rw} (h : rows[k]? = some x) (hk : x.kind = 3) (a t : Nat) : keptF a t (rows.drop k) = keptF a (t + 1) (rows.drop (k + 1)) := by
  rw [drop_at h, keptF, if_neg (by omega), if_neg (by omega), if_pos hk]

set_option maxHeartbeats 4000000 in
set_option maxRecDepth 100000 in
theorem hunksIn_any (b off : Nat) (a : Option Addr) (n c : Nat) (rows : List Rw) (w : World) (d2 : w.cell? ⟨b, off + 2, none⟩ = some (.slice a n c)) (hl : Rws w a n rows) (hk : kindOk3 rows) (h3 : (lw 3 rows).length ≤ 40) (h2 : (lw 2 rows).length ≤ 40) (hn : n ≤ 80) :
    Calls Tryz.prog 105 #[.pointer (some ⟨b, off, none⟩)] w fun e w' => ∃ v vs, e = .returned v ∧ OwnH w' w.heap.size v (bareH rows) vs ∧ Below w.heap.size w w' := by
  have HL := Lib.hid hl.len
  have HK := Lib.hid hk
  have HD2 := Lib.hid d2
  have HR := Lib.hid hl
  obtain ⟨m3, H3⟩ : ∃ m, Hid ((lw 3 rows).length = m) := ⟨_, rfl⟩
  obtain ⟨m2, H2⟩ : ∃ m, Hid ((lw 2 rows).length = m) := ⟨_, rfl⟩
  have hm3 : m3 ≤ 40 := by rw [← H3.out]; exact h3
  have hm2 : m2 ≤ 40 := by rw [← H2.out]; exact h2
  have HKL := Lib.hid (kept_len rows 0 0)
  clear hk h3 h2 hl
  go_enter Tryz.func105, Tryz.ntmps105
  go_wp2
  go_loopw [3, 4, 5, 13] (fun lv p q i w' => ∃ (v : Value) (gs : List Nat) (L : List (Nat × Nat)), ∃ k a' t : Nat, v = lv ∧ p = .int .i64 (a' : Int) ∧ q = .int .i64 (t : Int) ∧ i = .int .i64 (k : Int) ∧ k ≤ n ∧ a' ≤ k ∧ t ≤ k ∧ L.length ≤ k ∧ OwnPP w' w.heap.size v L gs ∧ Hid (L ++ keptF a' t (rows.drop k) = keptF 0 0 rows) ∧ Below w.heap.size w w') (fun _ _ _ i _ => n - (intOf i).toNat)
  case atStart => exact ⟨_, [], [], 0, 0, 0, rfl, rfl, rfl, rfl, by omega, by omega, by omega, by simp, OwnPP.nil_, rfl, Below.refl _ _⟩
  case round =>
    obtain ⟨v, gs, L, k, a', t, rfl, rfl, rfl, rfl, hk, ha', ht, hLk, ho, HP, hb⟩ := hrel
    by_cases hlt : k < n
    · obtain ⟨b', off', x, rfl, hx, c0, c1, hok⟩ := (HR.out.below hb).at_ hlt
      obtain ⟨k1, k3⟩ := HK.out x (List.mem_of_getElem? hx)
      have HX := Lib.hid hx
      obtain ⟨W, HW⟩ : ∃ W, Hid (W = wr.alloc (.cells #[.int .i64 x.kind, .string x.line] 62)) := ⟨_, rfl⟩
      have HB := Lib.hid (show Below wr.heap.size wr W by rw [HW.out]; exact below_alloc _ _)
      have e0 : W.cell? ⟨wr.heap.size, 0, none⟩ = some (.int .i64 x.kind) := by rw [HW.out]; simp
      have e1 : W.cell? ⟨wr.heap.size, 1, none⟩ = some (.string x.line) := by rw [HW.out]; simp
      have hbW := Lib.hid (hb.next HB.out)
      have hoW := Lib.hid (ho.below HB.out)
      have hw1 : IntKind.i64.wrap ((a' : Int) + 1) = (a' : Int) + 1 := by rw [IntKind.wrap_i64]; omega
      have hw2 : IntKind.i64.wrap ((t : Int) + 1) = (t : Int) + 1 := by rw [IntKind.wrap_i64]; omega
      clear hx
      by_cases e1k : x.kind = 1
      · have q1 : (x.kind == 1) = true := by simp [e1k]
        have hs := Lib.hid (kept_step_keep HX.out e1k a' t)
        have hlenL : L.length ≤ 80 := by omega
        have hz := Lib.hid hbW.out.size
        clear e1k
        have hWs := Lib.hid (show W.heap.size = wr.heap.size + 1 by rw [HW.out]; simp)
        have b9a := Lib.hid ((below_alloc W (.cells #[.int .i64 (a' : Int), .int .i64 (t : Int)] 3)).next (below_alloc _ (.cells #[.slice (some ⟨wr.heap.size + 1, 0, none⟩) 2 2] 117)))
        have hg1 := Lib.hid (show ((W.alloc (.cells #[.int .i64 (a' : Int), .int .i64 (t : Int)] 3)).alloc (.cells #[.slice (some ⟨wr.heap.size + 1, 0, none⟩) 2 2] 117)).heap[wr.heap.size + 1]? = some (.cells #[.int .i64 (a' : Int), .int .i64 (t : Int)] 3 (0, 0)) by
          rw [← hWs.out, Below.heap_alloc _ _ _ (by simp)]; exact heap_alloc_new W _)
        have hg0 := Lib.hid (show ((W.alloc (.cells #[.int .i64 (a' : Int), .int .i64 (t : Int)] 3)).alloc (.cells #[.slice (some ⟨wr.heap.size + 1, 0, none⟩) 2 2] 117)).cell? ⟨wr.heap.size + 1 + 1, 0, none⟩ = some (.slice (some ⟨wr.heap.size + 1, 0, none⟩) 2 2) by
          rw [← hWs.out]; simp)
        go_wp2_with (first
          | (at_builtin; rw [← HW.out]; refine wpList_pp (.tmp 21) (.tmp 25) w.heap.size v L gs (hoW.out.below b9a.out) (a', t) (wr.heap.size + 1 + 1) (wr.heap.size + 1) hg0.out hg1.out (by have := hz.out; have := hWs.out; omega) (fun e => by have := (ho.lt e).2; omega) (by omega) (by simp; have := hz.out; omega) rfl rfl rfl rfl ?_
             intro v10 w10 o10 g10
             have B10 := Lib.hid (show Below w.heap.size w w10 from Below.grown (hbW.out.next b9a.out) g10 (by simp; have := hz.out; omega) (fun g e => (hoW.out.lt (.inl e)).1)))
          | fail)
        go_roundw
        case rel => exact ⟨v10, _, L ++ [(a', t)], k + 1, a' + 1, t + 1, rfl, by go_num, by go_num, by go_num, by omega, by omega, by omega, by simp; omega, o10, show _ = _ by rw [← HP.out, hs.out]; simp, B10.out⟩
        case measure => simp [intOf]; omega
      · have q1 : (x.kind == 1) = false := by simp [e1k]
        by_cases e2k : x.kind = 2
        · have q2 : (x.kind == 2) = true := by simp [e2k]
          have hs := Lib.hid (kept_step_gone HX.out e2k a' t)
          clear e1k e2k
          go_wp2
          rw [← HW.out]
          go_wp2
          go_roundw
          case rel => exact ⟨v, gs, L, k + 1, a' + 1, t, rfl, by go_num, rfl, by go_num, by omega, by omega, by omega, by omega, hoW.out, show _ = _ by rw [← HP.out, hs.out], hbW.out⟩
          case measure => simp [intOf]; omega
        · have e3k : x.kind = 3 := by omega
          have q2 : (x.kind == 2) = false := by simp [e2k]
          have q3 : (x.kind == 3) = true := by simp [e3k]
          have hs := Lib.hid (kept_step_new HX.out e3k a' t)
          clear e1k e2k e3k
          go_wp2
          rw [← HW.out]
          go_wp2
          go_roundw
          case rel => exact ⟨v, gs, L, k + 1, a', t + 1, rfl, rfl, by go_num, by go_num, by omega, by omega, by omega, by omega, hoW.out, show _ = _ by rw [← HP.out, hs.out], hbW.out⟩
          case measure => simp [intOf]; omega
    · have HF := Lib.hid (show L = keptF 0 0 rows by rw [← HP.out, List.drop_eq_nil_of_le (by rw [HL.out]; omega)]; simp [keptF])
      obtain ⟨q, Hq⟩ : ∃ q, Hid (L.length = q) := ⟨_, rfl⟩
      obtain ⟨A, cap, rfl, hqc⟩ := ho.form Hq.out
      have HO := Lib.hid ho
      have HQL := Lib.hid (show q ≤ 40 by rw [← Hq.out, HF.out]; have := HKL.out; have := H3.out; omega)
      have HJ := Lib.hid (bare_join HK.out)
      have hz := Lib.hid hb.size
      have HRI := Lib.hid (kept_rise rows 0 0)
      have HLE := Lib.hid (kept_le rows 0 0)
      rw [H3.out, H2.out] at HJ HRI
      rw [H3.out, H2.out] at HLE
      rw [← HF.out] at HJ HRI HLE
      clear ho
      go_wp2_with fail
      refine (oldIn_any b off a n c rows _ (cell_keep hb HD2.out) (HR.out.below hb) (by omega)).mono ?_
      rintro e w5 ⟨v5, rfl, o5, b5⟩
      obtain ⟨A5, k5, rfl, hk5, _⟩ := o5.form H3.out
      go_wp2_with fail
      refine (newIn_any b off a n c rows _ (cell_keep (hb.next b5) HD2.out) (HR.out.below (hb.next b5)) (by omega)).mono ?_
      rintro e w6 ⟨v6, rfl, o6, b6⟩
      obtain ⟨A6, k6, rfl, hk6, _⟩ := o6.form H2.out
      go_wp2_with fail
      refine (hunksAround_any A5 m3 k5 A6 m2 k6 (lw 2 rows) A q cap L _ o6.strs hk6 ((HO.out.below b5).below b6).prs hqc (by have := HRI.out; simpa using this) (fun s hs => by
        rcases List.mem_append.1 hs with h5 | h5
        · have := HLE.out s h5; omega
        · simp at h5; rw [h5]; exact ⟨Nat.le_refl _, Nat.le_refl _⟩) hm3 hm2 HQL.out).mono ?_
      rintro e w7 ⟨v7, vs7, rfl, o7, b7⟩
      go_wp2
      go_ret
      refine ⟨v7, vs7, rfl, ?_, ((hb.next b5).next b6).next b7⟩
      rw [HJ.out] at o7
      exact o7.more (Nat.le_trans hz.out (Nat.le_trans b5.size b6.size))

end Go.Proofs.YtkamenidgkjodaaGreatDoor
