/-
  Drawn texts once more: their last line is not empty.
  Drawn hunks.
-/
import Derived.Test.YtnnaigoomipklaaGreatDoorOiDraw
import Derived.Test.YtnnaigoomipklaaGreatDoorOiWhole
import Derived.Test.YtnnaigoomipklaaGreatDoorOiHGoods
import Derived.Test.YtnnaigoomipklaaGreatDoorOiSame
set_option linter.unusedSimpArgs false
set_option linter.unusedVariables false
namespace Go.Proofs.YtnnaigoomipklaaGreatDoor
open Go.RowKit M

theorem all_snoc {α : Type} {P : α → Prop} {l : List α} {t : α} (h : ∀ s ∈ l, P s) (ht : P t) : ∀ s ∈ l ++ [t], P s := by
  intro s hs
  rcases List.mem_append.1 hs with h1 | h1
  · exact h s h1
  · simp at h1; subst h1; exact ht
theorem last_set {l : List ByteArray} {t : ByteArray} (h : ∀ s, l.getLast? = some s → 1 ≤ s.size) (hn : 1 < l.length) : ∀ s, (l.set 0 t).getLast? = some s → 1 ≤ s.size := by
  intro s hs
  rw [List.getLast?_eq_getElem?, List.length_set, List.getElem?_set, if_neg (by omega)] at hs
  exact h s (by rw [List.getLast?_eq_getElem?]; exact hs)

set_option maxHeartbeats 1000000 in
theorem text2_any (g M : Nat) (w : World) (h : Curs w g M) (hM : M ≤ 1000000) :
    Calls Tryz.prog 130 #[.pointer (some ⟨g, 0, none⟩)] w fun e w' => ∃ (v : Value) (l : List ByteArray), e = .returned v ∧ OwnV w' w.heap.size v l ∧ l.length ≤ 9 ∧ (∀ s ∈ l, s.size ≤ 8 ∧ 1 ≤ s.size) ∧ Curs w' g (M + 30) ∧ w.grownBy w' (some g) := by
  have hlt := h.lt
  go_enter Tryz.func130, Tryz.ntmps130
  go_wp2_with fail
  refine (pick_any g M 9 _ h (by omega) (by omega)).mono ?_
  rintro e w1 ⟨x, rfl, hx0, hx1, c1, g1⟩
  obtain ⟨k0, rfl⟩ := Int.eq_ofNat_of_zero_le hx0
  have hk : k0 ≤ 8 := by omega
  clear hx1
  go_wp2
  go_loopw [3, 4] (fun lv i w' => ∃ (v : Value) (l : List ByteArray) (k : Nat), v = lv ∧ i = .int .i64 k ∧ k ≤ 8 ∧ l.length + k ≤ 8 ∧ (∀ s ∈ l, s.size ≤ 8 ∧ 1 ≤ s.size) ∧ OwnV w' w.heap.size v l ∧ Curs w' g (M + 2 + 2 * l.length) ∧ w.grownBy w' (some g)) (fun _ i _ => (intOf i).toNat)
  case atStart => exact ⟨_, [], k0, rfl, rfl, hk, by simpa using hk, by simp, OwnV.nil_, c1, g1⟩
  case round =>
    obtain ⟨v, l, k, rfl, rfl, hk, hlk, hsm, ho, hc, hg⟩ := hrel
    have HSM := Lib.hid hsm
    clear hsm
    by_cases hp : 0 < k
    · go_wp2_with fail
      refine (line_any g _ _ hc (by omega)).mono ?_
      rintro e w2 ⟨s, hs, rfl, c2, g2⟩
      have hsz : s.size + 1 ≤ 8 := by omega
      have ho2 := ho.kept g2 (fun b e h => by injection e with e; have := (ho.lt h).1; omega)
      have hg2 := hg.trans g2
      have hz2 := hg2.size
      have hst := strs_one w2 (s ++ ⟨#[10]⟩) (by rw [size_nl]; unfold maxLen; omega)
      go_wp2_with (at_builtin; refine app_strs (.tmp 11) (.tmp 15) w.heap.size v l (ho2.below (below_alloc _ _)) _ 1 1 [s ++ ⟨#[10]⟩] hst (by omega) (by simp; omega) rfl rfl rfl rfl ?_; intro v3 w3 o3 g3 p3)
      have hcc := c2.below (below_alloc w2 (.cells #[Value.string (s ++ ⟨#[10]⟩)] 9))
      have hbk : ∀ b, v.ownBlock = some b → w.heap.size ≤ b := fun b e => (ho2.lt e).1
      go_roundw
      case rel =>
        refine ⟨v3, l ++ [s ++ ⟨#[10]⟩], k - 1, rfl, by go_num, by omega, by simp; omega, all_snoc HSM.out ⟨by rw [size_nl]; omega, by rw [size_nl]; omega⟩, o3, ?_, ?_⟩
        · have := hcc.kept g3 (fun b e => by have := hbk b e; omega)
          simpa [Nat.mul_add, Nat.add_assoc] using this
        · exact grown_more (grown_alloc hg2 _) g3 (fun b e => .inl (hbk b e))
      case measure => simp [intOf]; omega
    · go_wp2_with fail
      refine (one_any g _ 5 _ hc (by omega) (by omega)).mono ?_
      rintro e w2 ⟨q, rfl, c2, g2⟩
      have ho2 := ho.kept g2 (fun b e h => by injection e with e; have := (ho.lt h).1; omega)
      have hg2 := hg.trans g2
      have hz2 := hg2.size
      cases q with
      | false =>
        go_wp2
        go_ret
        exact ⟨v, l, rfl, ho2, by omega, HSM.out, c2.more (by omega), hg2⟩
      | true =>
        have hst := strs_lit w2 [⟨#[97]⟩, ⟨#[101, 110, 100]⟩, ⟨#[46]⟩] (by decide) (by decide)
        go_wp2_with fail
        refine (of_any g _ _ 3 3 [⟨#[97]⟩, ⟨#[101, 110, 100]⟩, ⟨#[46]⟩] _ (c2.below (below_alloc _ _)) (by omega) hst (by omega) (by omega) (fun x e => by injection e with e; subst e; have := c2.lt; simp; omega)).mono ?_
        rintro e w3 ⟨t, ht, rfl, c3, g3⟩
        have ht2 : t.size ≤ 3 ∧ 1 ≤ t.size := (show ∀ t ∈ ([⟨#[97]⟩, ⟨#[101, 110, 100]⟩, ⟨#[46]⟩] : List ByteArray), t.size ≤ 3 ∧ 1 ≤ t.size by decide) t ht
        clear ht
        have ho3 := (ho2.below (below_alloc w2 (.cells ([⟨#[97]⟩, ⟨#[101, 110, 100]⟩, ⟨#[46]⟩].map Value.string).toArray 9))).kept g3 (fun b e h => by injection e with e; have := (ho2.lt h).1; omega)
        have hg3 := (grown_alloc hg2 _).trans g3
        have hz3 := hg3.size
        have hst3 := strs_one w3 t (by unfold maxLen; omega)
        have hbk : ∀ b, v.ownBlock = some b → w.heap.size ≤ b := fun b e => (ho2.lt e).1
        go_wp2_with (at_builtin; refine app_strs (.tmp 19) (.tmp 23) w.heap.size v l (ho3.below (below_alloc _ _)) _ 1 1 [t] hst3 (by omega) (by simp; omega) rfl rfl rfl rfl ?_; intro v4 w4 o4 g4 p4)
        go_ret
        refine ⟨v4, l ++ [t], rfl, o4, by simp; omega, all_snoc HSM.out ⟨by omega, by omega⟩, ?_, grown_more (grown_alloc hg3 _) g4 (fun b e => .inl (hbk b e))⟩
        exact ((c3.below (below_alloc w3 (.cells #[Value.string t] 9))).kept g4 (fun b e => by have := hbk b e; omega)).more (by omega)

set_option maxHeartbeats 1000000 in
theorem anyText2_any (g M : Nat) (w : World) (h : Curs w g M) (hM : M ≤ 900000) :
    Calls Tryz.prog 184 #[.pointer (some ⟨g, 0, none⟩)] w fun e w' => ∃ (v : Value) (l : List ByteArray), e = .returned v ∧ OwnV w' w.heap.size v l ∧ l.length ≤ 9 ∧ (∀ s ∈ l, s.size ≤ 8) ∧ (∀ s, l.getLast? = some s → 1 ≤ s.size) ∧ Curs w' g (M + 40) ∧ w.grownBy w' (some g) := by
  have hlt := h.lt
  go_enter Tryz.func184, Tryz.ntmps184
  go_wp2_with fail
  refine (text2_any g M _ h (by omega)).mono ?_
  rintro e w1 ⟨v, l, rfl, o1, hl, hsm, c1, g1⟩
  have HSM := Lib.hid hsm
  have HLA := Lib.hid (show ∀ s, l.getLast? = some s → 1 ≤ s.size from fun s hs => (hsm s (List.mem_of_getLast? hs)).2)
  clear hsm
  obtain ⟨n, HN⟩ : ∃ n, Hid (l.length = n) := ⟨_, rfl⟩
  obtain ⟨A, cap, rfl, hn1, hn2⟩ := o1.form HN.out
  have hn9 : n ≤ 9 := by rw [← HN.out]; exact hl
  clear hl
  by_cases h1 : 1 < n
  · go_wp2_with fail
    refine (pick_any g _ 25 _ c1 (by omega) (by omega)).mono ?_
    rintro e w2 ⟨x, rfl, hx0, hx1, c2, g2⟩
    have o2 := o1.kept g2 (fun b e h => by injection e with e; have := (o1.lt h).1; omega)
    have hg2 := g1.trans g2
    obtain ⟨b, rfl, hb1, hb2, ⟨u, hc⟩, hfz, hset⟩ := o2.at_ (show 0 < n by omega)
    have fin : ∀ t : ByteArray, t.size ≤ 8 → ∃ l' : List ByteArray, OwnV (w2.setCell ⟨b, 0, none⟩ (.string t)) w.heap.size (.slice (some ⟨b, 0, none⟩) n cap) l' ∧ l'.length ≤ 9 ∧ (∀ s ∈ l', s.size ≤ 8) ∧ (∀ s, l'.getLast? = some s → 1 ≤ s.size) ∧ Curs (w2.setCell ⟨b, 0, none⟩ (.string t)) g (M + 40) ∧ w.grownBy (w2.setCell ⟨b, 0, none⟩ (.string t)) (some g) := by
      intro t ht
      obtain ⟨o3, g3⟩ := hset t (by unfold maxLen; omega)
      exact ⟨_, o3, by simp [HN.out, hn9], small_set (fun s hs => (HSM.out s hs).1) ht, last_set HLA.out (by rw [HN.out]; omega), (c2.kept g3 (fun b e => by injection e with e; omega)).more (by omega), grown_more hg2 g3 (fun b' e => .inl (by injection e with e; omega))⟩
    have FIN := Lib.hid fin
    clear fin hset
    by_cases e0 : x = 0
    · have hq : (x == 0) = true := by simp [e0]
      have hF := Lib.hid (FIN.out ⟨#[120]⟩ (by decide))
      clear e0 hx1
      go_wp2
      go_ret
      obtain ⟨l', h1, h2, h3, h3b, h4, h5⟩ := hF.out
      exact ⟨_, l', rfl, h1, h2, h3, h3b, h4, h5⟩
    · have hq : (x == 0) = false := by simpa using e0
      clear e0
      by_cases e1 : x = 1
      · have hq1 : (x == 1) = true := by simp [e1]
        have hF := Lib.hid (FIN.out ⟨#[]⟩ (by decide))
        clear e1 hx1
        go_wp2
        go_ret
        obtain ⟨l', h1, h2, h3, h3b, h4, h5⟩ := hF.out
        exact ⟨_, l', rfl, h1, h2, h3, h3b, h4, h5⟩
      · have hq1 : (x == 1) = false := by simpa using e1
        clear e1
        by_cases e2 : x = 2
        · have hq2 : (x == 2) = true := by simp [e2]
          have hF := Lib.hid (FIN.out ⟨#[97, 10, 98, 10]⟩ (by decide))
          clear e2 hx1
          go_wp2
          go_ret
          obtain ⟨l', h1, h2, h3, h3b, h4, h5⟩ := hF.out
          exact ⟨_, l', rfl, h1, h2, h3, h3b, h4, h5⟩
        · have hq2 : (x == 2) = false := by simpa using e2
          clear e2 hx1
          go_wp2
          go_ret
          exact ⟨_, l, rfl, o2, by rw [HN.out]; exact hn9, fun s hs => (HSM.out s hs).1, HLA.out, c2.more (by omega), hg2⟩
  · go_wp2
    go_ret
    exact ⟨_, l, rfl, o1, by rw [HN.out]; exact hn9, fun s hs => (HSM.out s hs).1, HLA.out, c1.more (by omega), g1⟩

set_option maxHeartbeats 400000 in
theorem l1Whole_last (a : Option Addr) (n c : Nat) (l : List ByteArray) (w : World) (hl : Strs w a n l) (hne : ∀ s, l.getLast? = some s → 1 ≤ s.size) :
    Calls Tryz.prog 87 #[.slice a n c] w fun e w' => e = .returned (.bool (wholeB l)) ∧ w = w' := by
  have HL := Lib.hid hl.len
  have HNE := Lib.hid hne
  clear hne
  have hlim := hl.lim
  unfold maxLen at hlim
  by_cases h0 : n = 0
  · have hf := Lib.hid (wholeB_nil (HL.out.trans h0))
    have hq : ((n : Int) == 0) = true := by simp [h0]
    clear h0
    go_enter Tryz.func87, Tryz.ntmps87
    go_wp2
    go_ret
    exact ⟨ret_bool hf.out.symm, rfl⟩
  · have hq : ((n : Int) == 0) = false := by simp; omega
    obtain ⟨b, off, s, rfl, hs, hsz, hc⟩ := hl.at_ (show n - 1 < n by omega)
    have hp := HNE.out s (by rw [List.getLast?_eq_getElem?, HL.out]; exact hs)
    have hf := Lib.hid (wholeB_last HL.out (by omega) hs)
    clear hs
    go_enter Tryz.func87, Tryz.ntmps87
    go_wp2_with (go_at_call 135; refine (l1Ends_any s _ hsz hp).mono ?_; rintro e w' ⟨rfl, rfl⟩)
    go_ret
    exact ⟨ret_bool hf.out.symm, rfl⟩

end Go.Proofs.YtnnaigoomipklaaGreatDoor

namespace Go.Proofs.YtnnaigoomipklaaGreatDoor
open Go.RowKit M

/-- What is known of a drawn hunk. -/
def smallH (x : Hk) : Prop := -1 ≤ x.at_ ∧ x.at_ ≤ 100 ∧ 0 ≤ x.gone ∧ x.gone ≤ 6 ∧ x.new.length ≤ 3 ∧ ∀ s ∈ x.new, s.size ≤ 8
theorem Strs.keptg {w w' : World} {a : Option Addr} {n g : Nat} {l : List ByteArray} (h : Strs w a n l) (hg : w.grownBy w' (some g)) (ha : ∀ x, a = some x → x.block ≠ g) : Strs w' a n l :=
  ⟨h.len, h.lim, h.small, fun k s hs => by
    obtain ⟨b, off, e, hc⟩ := h.cell k s hs
    exact ⟨b, off, e, hg.cell hc (fun e2 => by injection e2 with e2; exact ha _ e e2)⟩⟩
theorem OwnH.keptg {w w' : World} {base g : Nat} {v : Value} {l : List Hk} {vs : List Value} (h : OwnH w base v l vs) (hg : w.grownBy w' (some g)) (hb : g < base) : OwnH w' base v l vs :=
  h.wrote (S := fun i => i = g) (Wrote.of_grown hg (fun k e => by injection e with e; exact e.symm)) (fun i hi e => by have := (h.lt hi).1; omega)

theorem step_strs2 {w : World} {ops : Array Oper} {o : Oper} {a : Act} {K : Act → World → Prop} {Q : Exit → Act → World → Prop} {E : Prop} (s x : Operand) (base : Nat) (v : Value) (l : List ByteArray) (hown : OwnV w base v l) (A : Option Addr) (m c : Nat) (r : List ByteArray) (hr : Strs w A m r)
    (hbound : l.length + m ≤ 4294967296) (hbase : base ≤ w.heap.size) (hgd : Region.wanted o (yielded ops a.tmps) = true) (ho : o.op = .call { callee := .builtin .append, args := #[s, x], argTypes := #[33, 33] }) (hs : a.eval s = v) (hx : a.eval x = .slice A m c)
    (h : ∀ v' w', OwnV w' base v' (l ++ r) → w.grownBy w' v.ownBlock → (v'.ownBlock = v.ownBlock ∨ v'.ownBlock = some w.heap.size) → K (a.put o.dst v') w') : if Region.wanted o (yielded ops a.tmps) = true then Oper.wp Tryz.prog o a w K Q else E := by
  obtain ⟨i, h1, h2, h3, h4⟩ := info_parts str_info
  exact step_app Tryz.underlying33 h1 h2 h3 h4 s x base v l hown A m c r hr hbound hbase hgd ho hs hx h

/-- The inner draws of one hunk: lines that come. -/
structure InnH (g bx : Nat) (at' gone : Int) (wB w' : World) (new : List ByteArray) (u : Value) (M : Nat) : Prop where
  box : w'.heap[bx]? = some (.cells #[.int .i64 at', .int .i64 gone, u] 105 (0, 0))
  own : OwnV w' (bx + 1) u new
  sm : ∀ s ∈ new, s.size ≤ 8
  cur : Curs w' g M
  wr : Wrote (fun i => i = g ∨ bx ≤ i) wB w'

theorem InnH.step {g bx M M' : Nat} {at' gone : Int} {wB wr w6 w7 : World} {new : List ByteArray} {u v7 : Value} {t : ByteArray} {o : Obj} (hin : InnH g bx at' gone wB wr new u M) (hbg : g < bx) (g6 : wr.drew.grownBy w6 (some g)) (c6 : Curs w6 g (M + 2)) (ht : t.size + 1 ≤ 8)
    (o7 : OwnV w7 (bx + 1) v7 (new ++ [t ++ ⟨#[10]⟩])) (g7 : (w6.alloc o).grownBy w7 u.ownBlock) (hb7 : w7.heap[bx]? = some (.cells #[.int .i64 at', .int .i64 gone, u] 105 (0, 0))) (hM : M + 2 ≤ M') :
    InnH g bx at' gone wB (w7.setCell ⟨bx, 2, none⟩ v7) (new ++ [t ++ ⟨#[10]⟩]) v7 M' := by
  have hub : ∀ i, u.ownBlock = some i → bx + 1 ≤ i := fun i e => (hin.own.lt e).1
  have hws : Wrote (fun i => i = bx) w7 (w7.setCell ⟨bx, 2, none⟩ v7) := Wrote.set _ _ _ _ rfl
  have h6 : Wrote (fun i => i = g ∨ bx ≤ i) wB w6 := (hin.wr.next (Below.refl _ wr).drew).trans (Wrote.of_grown (S := fun i => i = g) g6 (fun k e => by injection e with e; exact e.symm)) (fun i _ e => .inl e)
  have h7 : Wrote (fun i => i = g ∨ bx ≤ i) wB w7 := (h6.next (below_alloc w6 o)).trans (Wrote.of_grown (S := fun i => u.ownBlock = some i) g7 (fun k e => e)) (fun i _ e => .inr (by have := hub i e; omega))
  refine ⟨?_, o7.wrote hws (fun i e e2 => by have := (o7.lt e).1; omega), all_snoc hin.sm (by rw [size_nl]; omega), ?_, h7.trans hws (fun i _ e => .inr (by omega))⟩
  · simp [World.setCell, Array.getElem?_modify, hb7]
  · have c7 := (c6.below (below_alloc w6 o)).kept g7 (fun b e => by have := hub b e; omega)
    obtain ⟨a, n, c, k, seed, q1, q2, q3, q4, q5⟩ := c7.ex
    have hk : ∀ b, b ≤ g → (w7.setCell ⟨bx, 2, none⟩ v7).heap[b]? = w7.heap[b]? := fun b hb => Below.heap_setCell _ _ _ _ (by show b ≠ bx; omega)
    exact Curs.more ⟨a, n, c, k, seed, (hk g (Nat.le_refl _)).trans q1, q2, q3, q4, q5.keep fun b hb => hk b (by omega)⟩ hM

set_option maxHeartbeats 2000000 in
set_option maxRecDepth 100000 in
theorem hunks_any (g M : Nat) (a : Option Addr) (n c : Nat) (l : List ByteArray) (w : World) (h : Curs w g M) (hM : M ≤ 900000) (hl : Strs w a n l) (hag : ∀ x, a = some x → x.block ≠ g) (hn : n ≤ 40) (hne : ∀ s, l.getLast? = some s → 1 ≤ s.size) :
    Calls Tryz.prog 131 #[.pointer (some ⟨g, 0, none⟩), .slice a n c] w fun e w' => ∃ v out vs, e = .returned v ∧ OwnH w' w.heap.size v out vs ∧ out.length ≤ 6 ∧ (∀ x ∈ out, smallH x) ∧ Curs w' g (M + 600) ∧ w.grownBy w' (some g) := by
  have hlt := h.lt
  have HAG := Lib.hid hag
  have HNEL := Lib.hid hne
  clear hag hne
  go_enter Tryz.func131, Tryz.ntmps131
  go_wp2_with fail
  refine (pick_any g M 3 _ h (by omega) (by omega)).mono ?_
  rintro e w1 ⟨x, rfl, hx0, hx1, c1, g1⟩
  obtain ⟨k0, rfl⟩ := Int.eq_ofNat_of_zero_le hx0
  have hk : k0 ≤ 2 := by omega
  clear hx1
  go_wp2
  go_loopw [5, 6] (fun lv i w' => ∃ v out vs, ∃ at' : Nat, v = lv ∧ i = .int .i64 at' ∧ at' ≤ 46 ∧ OwnH w' w.heap.size v out vs ∧ Hid (out.length ≤ 6) ∧ Hid (∀ x ∈ out, smallH x) ∧ Curs w' g (M + 2 + 12 * at') ∧ w.grownBy w' (some g)) (fun _ i _ => 47 - (intOf i).toNat)
  case atStart => exact ⟨_, [], [], k0, rfl, rfl, by omega, OwnH.nil_, show _ ≤ _ by simp, show ∀ x ∈ ([] : List Hk), smallH x by simp, c1.more (by omega), g1⟩
  case round =>
    obtain ⟨v, out, vs, at', rfl, rfl, hat, ho, HO, HSM, hc, hg⟩ := hrel
    obtain ⟨no, Hno⟩ : ∃ no, Hid (out.length = no) := ⟨_, rfl⟩
    obtain ⟨Ao, capo, hve, _⟩ := ho.form Hno.out
    subst hve
    have hno6 : no ≤ 6 := by rw [← Hno.out]; exact HO.out
    by_cases h1 : at' ≤ n
    · have q1 : decide ((at' : Int) ≤ (n : Int)) = true := by simp; omega
      by_cases h2 : no < 6
      · have q2 : decide ((no : Int) < 6) = true := by simp; omega
        obtain ⟨q, Hq⟩ : ∃ q : Nat, Hid (q = min 3 (n - at')) := ⟨_, rfl⟩
        have hq3 : q ≤ 3 ∧ at' + q ≤ n := by have := Hq.out; omega
        obtain ⟨hq3, hqn⟩ := hq3
        have hno5 : no + 1 ≤ 6 := by omega
        clear h1 h2
        go_wp2_with fail
        rw [show ((n : Int) - (at' : Int)) = ((n - at' : Nat) : Int) from by omega]
        refine (l1Least_any 3 (n - at') q _ Hq.out).mono ?_
        rintro e w2 ⟨rfl, rfl⟩
        go_wp2_with fail
        refine (pick_any g _ ((q : Int) + 1) _ hc (by omega) (by omega)).mono ?_
        rintro e w3 ⟨x, rfl, hx0, hx1, c3, g3⟩
        obtain ⟨xn, rfl⟩ := Int.eq_ofNat_of_zero_le hx0
        have hx3 : xn ≤ 3 ∧ at' + xn ≤ n := by omega
        obtain ⟨hx3, hxn⟩ := hx3
        clear hx1 hx0
        have o3 := ho.keptg g3 hlt
        have hg3 := hg.trans g3
        obtain ⟨bx, Hbx⟩ : ∃ bx, Hid (bx = w3.heap.size) := ⟨_, rfl⟩
        have hbxg : g < bx := by rw [Hbx.out]; exact c3.lt
        have HSB := Lib.hid (show (some bx : Option Nat) ≠ some g by simp; omega)
        have hbxw : w.heap.size ≤ bx := by rw [Hbx.out]; exact hg3.size
        obtain ⟨wB, HWB⟩ : ∃ wB, Hid (wB = w3.alloc (.cells #[.int .i64 (at' : Int), .int .i64 (xn : Int), .slice none 0 0] 105)) := ⟨_, rfl⟩
        have hbB := Lib.hid (show Below w3.heap.size w3 wB by rw [HWB.out]; exact below_alloc _ _)
        have hbxB := Lib.hid (show wB.heap[bx]? = some (.cells #[.int .i64 (at' : Int), .int .i64 (xn : Int), .slice none 0 0] 105 (0, 0)) by rw [HWB.out, Hbx.out]; exact heap_alloc_new _ _)
        have hszB := Lib.hid (show wB.heap.size = bx + 1 by rw [HWB.out, Hbx.out]; simp)
        have cB := c3.below hbB.out
        go_wp2_with fail
        rw [← HWB.out, ← Hbx.out]
        refine (pick_any g _ 3 _ cB (by omega) (by omega)).mono ?_
        rintro e w4 ⟨y, rfl, hy0, hy1, c4, g4⟩
        obtain ⟨kk, rfl⟩ := Int.eq_ofNat_of_zero_le hy0
        have hkk : kk ≤ 2 := by omega
        clear hy1 hy0
        have HST := Lib.hid (show InnH g bx (at' : Int) (xn : Int) wB w4 [] (.slice none 0 0) (M + 2 + 12 * at' + 2 + 2) from
          ⟨(g4.block bx (by have := hszB.out; omega) (fun e => by injection e with e; omega)).trans hbxB.out, OwnV.nil_, by simp, c4, Wrote.of_grown g4 (fun k e => by injection e with e; exact .inl e.symm)⟩)
        have HO3 := Lib.hid o3
        have HG3 := Lib.hid hg3
        have HC0 := Lib.hid hc
        clear ho hg c3 g3 o3 hg3 cB c4 g4 hc
        go_wp2
        go_loopw [8] (fun i w' => ∃ (kn : Nat) (new : List ByteArray) (u : Value), i = .int .i64 (kn : Int) ∧ kn ≤ 2 ∧ Hid (new.length + kn ≤ 2) ∧ InnH g bx (at' : Int) (xn : Int) wB w' new u (M + 2 + 12 * at' + 4 + 2 * new.length)) (fun i _ => (intOf i).toNat)
        case atStart => exact ⟨kk, [], _, rfl, hkk, show _ ≤ _ by simpa using hkk, HST.out⟩
        case round =>
          obtain ⟨kn, new, u, rfl, hkn, HNL, hin⟩ := hrel
          obtain ⟨nn, Hnn⟩ : ∃ nn, Hid (new.length = nn) := ⟨_, rfl⟩
          obtain ⟨uA, uc, hue, huc, _⟩ := hin.own.form Hnn.out
          subst hue
          have HIN := Lib.hid hin
          have kb0 : wr.cell? ⟨bx, 0, none⟩ = some (.int .i64 (at' : Int)) := by simp [World.cell?, hin.box]
          have kb1 : wr.cell? ⟨bx, 1, none⟩ = some (.int .i64 (xn : Int)) := by simp [World.cell?, hin.box]
          have kb2 : wr.cell? ⟨bx, 2, none⟩ = some (.slice uA nn uc) := by simp [World.cell?, hin.box]
          have kbf : ∀ j, wr.frozen? ⟨bx, j, none⟩ = false := fun j => by simp [World.frozen?, hin.box]
          clear hin
          by_cases hp : 0 < kn
          · have qp : decide (0 < kn) = true := by simp; omega
            have hnl2 : new.length ≤ 1 := by have := HNL.out; omega
            have hbg : bx ≠ g := by omega
            go_wp2
            go_region_law (first
              | (go_simp; go_at_call 181; refine (line_any g _ _ (HIN.out.cur.below (Below.refl _ _).drew) (by omega)).mono ?_; rintro e w6 ⟨t, ht, rfl, c6, g6⟩
                 have hsz6 : t.size + 1 ≤ 8 := (by omega)
                 have hss : (9223372036854775807 < t.size + 1) = False := eq_false (by omega)
                 have HB6 := Lib.hid (show w6.heap[bx]? = some (.cells #[.int .i64 (at' : Int), .int .i64 (xn : Int), .slice uA nn uc] 105 (0, 0)) from (g6.block bx (by show _ < wr.heap.size; exact (Array.getElem?_eq_some_iff.1 HIN.out.box).1) (fun e => HSB.out e)).trans HIN.out.box)
                 have k62 := g6.cell (a := ⟨bx, 2, none⟩) (v := .slice uA nn uc) kb2 HSB.out
                 have k6a : ∀ o, (w6.alloc o).cell? ⟨bx, 2, none⟩ = some (.slice uA nn uc) := fun o => cell_keep (below_alloc w6 o) k62)
              | (refine step_strs2 (.tmp 37) (.tmp 41) (bx + 1) (.slice uA nn uc) new (((HIN.out.own.below (Below.refl _ _).drew).kept g6 (fun i e e2 => by injection e with e; have := (HIN.out.own.lt e2).1; omega)).below (below_alloc _ _)) _ 1 1 [t ++ ⟨#[10]⟩] (strs_one w6 (t ++ ⟨#[10]⟩) (by rw [size_nl]; unfold maxLen; omega)) (by omega) (by have h7 := (Array.getElem?_eq_some_iff.1 HB6.out).1; simp; omega) rfl rfl rfl rfl ?_; intro v7 w7 o7 g7 p7
                 have HUB := Lib.hid (show (Value.slice uA nn uc).ownBlock ≠ some bx from fun e => by have := (HIN.out.own.lt e).1; omega)
                 have HB7 := Lib.hid (show w7.heap[bx]? = some (.cells #[.int .i64 (at' : Int), .int .i64 (xn : Int), .slice uA nn uc] 105 (0, 0)) from (g7.block bx (by have h7 := (Array.getElem?_eq_some_iff.1 HB6.out).1; simp; omega) (fun e => HUB.out e.symm)).trans ((Below.heap_alloc _ _ _ (Array.getElem?_eq_some_iff.1 HB6.out).1).trans HB6.out))
                 have k72 : w7.cell? ⟨bx, 2, none⟩ = some (.slice uA nn uc) := (by simp [World.cell?, HB7.out])
                 have f72 : ∀ j, w7.frozen? ⟨bx, j, none⟩ = false := fun j => (by simp [World.frozen?, HB7.out])
                 obtain ⟨u7A, u7c, hu7, hu7c, _⟩ := o7.form (show (new ++ [t ++ ⟨#[10]⟩]).length = nn + 1 by simp [Hnn.out])
                 subst hu7))
            all_goals go_wp2
            all_goals go_roundw
            all_goals first | (case measure => simp [intOf]; omega) | skip
            all_goals exact ⟨kn - 1, new ++ [t ++ ⟨#[10]⟩], _, by go_num, by omega, show _ ≤ _ by have := HNL.out; simp; omega, HIN.out.step hbxg g6 c6 hsz6 o7 g7 HB7.out (by simp; omega)⟩
          · have qp : decide (0 < kn) = false := by simp; omega
            have OW4 := Lib.hid (show OwnH wr w.heap.size (.slice Ao no capo) out vs from (HO3.out.below hbB.out).wrote HIN.out.wr (fun i hi e => by
              have h3 := HO3.out.lt hi; have h4 := Hbx.out
              rcases e with e | e <;> omega))
            have OU4 := Lib.hid (show OwnV wr w.heap.size (.slice uA nn uc) new from HIN.out.own.more (by omega))
            have HF4 := Lib.hid (show ∀ i, (Value.slice uA nn uc).ownBlock = some i → ¬ Blk (.slice Ao no capo) vs i from fun i e e2 => by
              have h3 := (HIN.out.own.lt e).1; have h4 := (HO3.out.lt e2).2; have h5 := Hbx.out; omega)
            have HBO := Lib.hid (show (Value.slice Ao no capo).ownBlock ≠ some bx from fun e => by have h4 := (HO3.out.lt (.inl e)).2; have h5 := Hbx.out; omega)
            have HG4 := Lib.hid (show w.grownBy wr (some g) from ⟨(HIN.out.wr.os.trans hbB.out.os).trans HG3.out.os, (HIN.out.wr.tape.trans hbB.out.tape).trans HG3.out.tape, (HIN.out.wr.output.trans hbB.out.output).trans HG3.out.output, Nat.le_trans HG3.out.size (Nat.le_trans hbB.out.size HIN.out.wr.size), fun i hi hne => by
              have h5 := HG3.out.size
              have h6 := hszB.out
              rw [HIN.out.wr.block i (by omega) (fun e => by
                rcases e with e | e
                · exact hne (by rw [e])
                · omega), hbB.out.block i (by omega), HG3.out.block i hi hne]⟩)
            have HOK := Lib.hid (show i64ok (at' : Int) ∧ i64ok (xn : Int) from ⟨⟨by omega, by omega⟩, ⟨by omega, by omega⟩⟩)
            have hnl2 : new.length ≤ 2 := by have := HNL.out; omega
            have hnn2 : nn ≤ 2 := by have := HNL.out; have := Hnn.out; omega
            by_cases ca : 0 < xn + nn
            · have qa : decide (0 < (xn : Int) + (nn : Int)) = true := by simp; omega
              by_cases cb : at' + xn < n
              · have qb : decide ((at' : Int) + (xn : Int) < (n : Int)) = true := by simp; omega
                have HNW := Lib.hid (show smallH ⟨(at' : Int), (xn : Int), new⟩ from ⟨by dsimp only; omega, by dsimp only; omega, by dsimp only; omega, by dsimp only; omega, by have := HNL.out; dsimp only; omega, HIN.out.sm⟩)
                go_wp2_with (first
                  | (at_builtin; refine wpList_hk (.tmp 69) (.tmp 71) w.heap.size _ out vs (OW4.out.below (below_alloc _ _)) ⟨(at' : Int), (xn : Int), new⟩ HOK.out (.slice uA nn uc) (OU4.out.below (below_alloc _ _)) HF4.out _ (by simp) (by simp) (by simp) (by have := HO.out; omega) (Nat.le_trans HG4.out.size (by simp)) rfl rfl rfl rfl ?_
                     intro v5 w5 o5 g5 p5
                     have HC5 := Lib.hid ((HIN.out.cur.below (below_alloc wr (.cells #[.int .i64 (at' : Int), .int .i64 (xn : Int), .slice uA nn uc] 105))).kept g5 (fun b e => by have := (OW4.out.lt (.inl e)).1; omega))
                     have HG5 := Lib.hid (grown_more (grown_alloc HG4.out _) g5 (fun b e => .inl (OW4.out.lt (.inl e)).1))
                     have k51 : w5.cell? ⟨bx, 1, none⟩ = some (.int .i64 (xn : Int)) := g5.cell (cell_keep (below_alloc wr _) kb1) (fun e => HBO.out e.symm))
                  | fail)
                obtain ⟨x1, Hx1⟩ : ∃ x1 : Nat, Hid (x1 = xn + 1) := ⟨_, rfl⟩
                have hw1 : IntKind.i64.wrap ((xn : Int) + 1) = (x1 : Int) := by rw [IntKind.wrap_i64]; have := Hx1.out; omega
                go_region_held3 (fun w' => w'.cell? ⟨bx, 1, none⟩ = some (.int .i64 (xn : Int))) (first | exact k51 | exact k61 | go_keep)
                  (first
                    | (go_at_call 68; refine (pick_any g _ 3 _ (HC5.out.below (Below.refl _ _).drew) (by omega) (by omega)).mono ?_; rintro e w6 ⟨y, rfl, hy0, hy1, c6, g6⟩
                       have k61 := g6.cell (a := ⟨bx, 1, none⟩) (v := .int .i64 (xn : Int)) k51 HSB.out
                       obtain ⟨yn, rfl⟩ := Int.eq_ofNat_of_zero_le hy0
                       have hyn : yn ≤ 2 := by omega
                       obtain ⟨x2, Hx2⟩ : ∃ x2 : Nat, Hid (x2 = x1 + yn) := ⟨_, rfl⟩
                       have hw2 : IntKind.i64.wrap ((x1 : Int) + (yn : Int)) = (x2 : Int) := (by rw [IntKind.wrap_i64]; have := Hx1.out; have := Hx2.out; omega)
                       obtain ⟨at2, Hat2⟩ : ∃ at2 : Nat, Hid (at2 = at' + x2) := ⟨_, rfl⟩
                       have hw3 : IntKind.i64.wrap ((at' : Int) + (x2 : Int)) = (at2 : Int) := (by rw [IntKind.wrap_i64]; have := Hx1.out; have := Hx2.out; have := Hat2.out; omega)
                       have hat2 : at' + 1 ≤ at2 ∧ at2 ≤ 46 := (by have := Hx1.out; have := Hx2.out; have := Hat2.out; omega))
                    | fail)
                obtain ⟨ha21, ha22⟩ := hat2
                have o6 := (o5.below (Below.refl _ _).drew).keptg g6 hlt
                go_wp2
                go_roundw
                case rel => exact ⟨_, _, _, at2, rfl, rfl, ha22, o6, show _ ≤ _ by have := Hno.out; simp; omega, all_snoc HSM.out HNW.out, c6.more (by have := HNL.out; omega), (HG5.out.trans (grown_of_below (Below.refl _ _).drew _)).trans g6⟩
                case measure => simp [intOf]; omega
              · have qb : decide ((at' : Int) + (xn : Int) < (n : Int)) = false := by simp; omega
                cases hwh : wholeB l
                · by_cases cd : 0 < xn
                  · have qd : decide (0 < xn) = true := by simp; omega
                    go_wp2_with fail
                    refine (l1Whole_last a n c l _ (hl.keptg HG4.out HAG.out) HNEL.out).mono ?_
                    rintro e w' ⟨rfl, rfl⟩
                    rw [hwh]
                    have HNW := Lib.hid (show smallH ⟨(at' : Int), (xn : Int), new⟩ from ⟨by dsimp only; omega, by dsimp only; omega, by dsimp only; omega, by dsimp only; omega, by have := HNL.out; dsimp only; omega, HIN.out.sm⟩)
                    go_wp2_with (first
                      | (at_builtin; refine wpList_hk (.tmp 69) (.tmp 71) w.heap.size _ out vs (OW4.out.below (below_alloc _ _)) ⟨(at' : Int), (xn : Int), new⟩ HOK.out (.slice uA nn uc) (OU4.out.below (below_alloc _ _)) HF4.out _ (by simp) (by simp) (by simp) (by have := HO.out; omega) (Nat.le_trans HG4.out.size (by simp)) rfl rfl rfl rfl ?_
                         intro v5 w5 o5 g5 p5
                         have HC5 := Lib.hid ((HIN.out.cur.below (below_alloc wr (.cells #[.int .i64 (at' : Int), .int .i64 (xn : Int), .slice uA nn uc] 105))).kept g5 (fun b e => by have := (OW4.out.lt (.inl e)).1; omega))
                         have HG5 := Lib.hid (grown_more (grown_alloc HG4.out _) g5 (fun b e => .inl (OW4.out.lt (.inl e)).1))
                         have k51 : w5.cell? ⟨bx, 1, none⟩ = some (.int .i64 (xn : Int)) := g5.cell (cell_keep (below_alloc wr _) kb1) (fun e => HBO.out e.symm))
                      | fail)
                    obtain ⟨x1, Hx1⟩ : ∃ x1 : Nat, Hid (x1 = xn + 1) := ⟨_, rfl⟩
                    have hw1 : IntKind.i64.wrap ((xn : Int) + 1) = (x1 : Int) := by rw [IntKind.wrap_i64]; have := Hx1.out; omega
                    go_region_held3 (fun w' => w'.cell? ⟨bx, 1, none⟩ = some (.int .i64 (xn : Int))) (first | exact k51 | exact k61 | go_keep)
                      (first
                        | (go_at_call 68; refine (pick_any g _ 3 _ (HC5.out.below (Below.refl _ _).drew) (by omega) (by omega)).mono ?_; rintro e w6 ⟨y, rfl, hy0, hy1, c6, g6⟩
                           have k61 := g6.cell (a := ⟨bx, 1, none⟩) (v := .int .i64 (xn : Int)) k51 HSB.out
                           obtain ⟨yn, rfl⟩ := Int.eq_ofNat_of_zero_le hy0
                           have hyn : yn ≤ 2 := by omega
                           obtain ⟨x2, Hx2⟩ : ∃ x2 : Nat, Hid (x2 = x1 + yn) := ⟨_, rfl⟩
                           have hw2 : IntKind.i64.wrap ((x1 : Int) + (yn : Int)) = (x2 : Int) := (by rw [IntKind.wrap_i64]; have := Hx1.out; have := Hx2.out; omega)
                           obtain ⟨at2, Hat2⟩ : ∃ at2 : Nat, Hid (at2 = at' + x2) := ⟨_, rfl⟩
                           have hw3 : IntKind.i64.wrap ((at' : Int) + (x2 : Int)) = (at2 : Int) := (by rw [IntKind.wrap_i64]; have := Hx1.out; have := Hx2.out; have := Hat2.out; omega)
                           have hat2 : at' + 1 ≤ at2 ∧ at2 ≤ 46 := (by have := Hx1.out; have := Hx2.out; have := Hat2.out; omega))
                        | fail)
                    obtain ⟨ha21, ha22⟩ := hat2
                    have o6 := (o5.below (Below.refl _ _).drew).keptg g6 hlt
                    go_wp2
                    go_roundw
                    case rel => exact ⟨_, _, _, at2, rfl, rfl, ha22, o6, show _ ≤ _ by have := Hno.out; simp; omega, all_snoc HSM.out HNW.out, c6.more (by have := HNL.out; omega), (HG5.out.trans (grown_of_below (Below.refl _ _).drew _)).trans g6⟩
                    case measure => simp [intOf]; omega
                  · have qd : decide (0 < xn) = false := by simp; omega
                    go_wp2_with fail
                    refine (l1Whole_last a n c l _ (hl.keptg HG4.out HAG.out) HNEL.out).mono ?_
                    rintro e w' ⟨rfl, rfl⟩
                    rw [hwh]
                    go_wp2
                    obtain ⟨x1, Hx1⟩ : ∃ x1 : Nat, Hid (x1 = xn + 1) := ⟨_, rfl⟩
                    have hw1 : IntKind.i64.wrap ((xn : Int) + 1) = (x1 : Int) := by rw [IntKind.wrap_i64]; have := Hx1.out; omega
                    go_region_held3 (fun w' => w'.cell? ⟨bx, 1, none⟩ = some (.int .i64 (xn : Int))) (first | exact kb1 | exact k61 | go_keep)
                      (first
                        | (go_at_call 68; refine (pick_any g _ 3 _ (HIN.out.cur.below (Below.refl _ _).drew) (by omega) (by omega)).mono ?_; rintro e w6 ⟨y, rfl, hy0, hy1, c6, g6⟩
                           have k61 := g6.cell (a := ⟨bx, 1, none⟩) (v := .int .i64 (xn : Int)) kb1 HSB.out
                           obtain ⟨yn, rfl⟩ := Int.eq_ofNat_of_zero_le hy0
                           have hyn : yn ≤ 2 := by omega
                           obtain ⟨x2, Hx2⟩ : ∃ x2 : Nat, Hid (x2 = x1 + yn) := ⟨_, rfl⟩
                           have hw2 : IntKind.i64.wrap ((x1 : Int) + (yn : Int)) = (x2 : Int) := (by rw [IntKind.wrap_i64]; have := Hx1.out; have := Hx2.out; omega)
                           obtain ⟨at2, Hat2⟩ : ∃ at2 : Nat, Hid (at2 = at' + x2) := ⟨_, rfl⟩
                           have hw3 : IntKind.i64.wrap ((at' : Int) + (x2 : Int)) = (at2 : Int) := (by rw [IntKind.wrap_i64]; have := Hx1.out; have := Hx2.out; have := Hat2.out; omega)
                           have hat2 : at' + 1 ≤ at2 ∧ at2 ≤ 46 := (by have := Hx1.out; have := Hx2.out; have := Hat2.out; omega))
                        | fail)
                    obtain ⟨ha21, ha22⟩ := hat2
                    have o6 := (OW4.out.below (Below.refl _ _).drew).keptg g6 hlt
                    go_wp2
                    go_roundw
                    case rel => exact ⟨_, _, _, at2, rfl, rfl, ha22, o6, HO.out, HSM.out, c6.more (by have := HNL.out; omega), (HG4.out.trans (grown_of_below (Below.refl _ _).drew _)).trans g6⟩
                    case measure => simp [intOf]; omega
                · go_wp2_with fail
                  refine (l1Whole_last a n c l _ (hl.keptg HG4.out HAG.out) HNEL.out).mono ?_
                  rintro e w' ⟨rfl, rfl⟩
                  rw [hwh]
                  have HNW := Lib.hid (show smallH ⟨(at' : Int), (xn : Int), new⟩ from ⟨by dsimp only; omega, by dsimp only; omega, by dsimp only; omega, by dsimp only; omega, by have := HNL.out; dsimp only; omega, HIN.out.sm⟩)
                  go_wp2_with (first
                    | (at_builtin; refine wpList_hk (.tmp 69) (.tmp 71) w.heap.size _ out vs (OW4.out.below (below_alloc _ _)) ⟨(at' : Int), (xn : Int), new⟩ HOK.out (.slice uA nn uc) (OU4.out.below (below_alloc _ _)) HF4.out _ (by simp) (by simp) (by simp) (by have := HO.out; omega) (Nat.le_trans HG4.out.size (by simp)) rfl rfl rfl rfl ?_
                       intro v5 w5 o5 g5 p5
                       have HC5 := Lib.hid ((HIN.out.cur.below (below_alloc wr (.cells #[.int .i64 (at' : Int), .int .i64 (xn : Int), .slice uA nn uc] 105))).kept g5 (fun b e => by have := (OW4.out.lt (.inl e)).1; omega))
                       have HG5 := Lib.hid (grown_more (grown_alloc HG4.out _) g5 (fun b e => .inl (OW4.out.lt (.inl e)).1))
                       have k51 : w5.cell? ⟨bx, 1, none⟩ = some (.int .i64 (xn : Int)) := g5.cell (cell_keep (below_alloc wr _) kb1) (fun e => HBO.out e.symm))
                    | fail)
                  obtain ⟨x1, Hx1⟩ : ∃ x1 : Nat, Hid (x1 = xn + 1) := ⟨_, rfl⟩
                  have hw1 : IntKind.i64.wrap ((xn : Int) + 1) = (x1 : Int) := by rw [IntKind.wrap_i64]; have := Hx1.out; omega
                  go_region_held3 (fun w' => w'.cell? ⟨bx, 1, none⟩ = some (.int .i64 (xn : Int))) (first | exact k51 | exact k61 | go_keep)
                    (first
                      | (go_at_call 68; refine (pick_any g _ 3 _ (HC5.out.below (Below.refl _ _).drew) (by omega) (by omega)).mono ?_; rintro e w6 ⟨y, rfl, hy0, hy1, c6, g6⟩
                         have k61 := g6.cell (a := ⟨bx, 1, none⟩) (v := .int .i64 (xn : Int)) k51 HSB.out
                         obtain ⟨yn, rfl⟩ := Int.eq_ofNat_of_zero_le hy0
                         have hyn : yn ≤ 2 := by omega
                         obtain ⟨x2, Hx2⟩ : ∃ x2 : Nat, Hid (x2 = x1 + yn) := ⟨_, rfl⟩
                         have hw2 : IntKind.i64.wrap ((x1 : Int) + (yn : Int)) = (x2 : Int) := (by rw [IntKind.wrap_i64]; have := Hx1.out; have := Hx2.out; omega)
                         obtain ⟨at2, Hat2⟩ : ∃ at2 : Nat, Hid (at2 = at' + x2) := ⟨_, rfl⟩
                         have hw3 : IntKind.i64.wrap ((at' : Int) + (x2 : Int)) = (at2 : Int) := (by rw [IntKind.wrap_i64]; have := Hx1.out; have := Hx2.out; have := Hat2.out; omega)
                         have hat2 : at' + 1 ≤ at2 ∧ at2 ≤ 46 := (by have := Hx1.out; have := Hx2.out; have := Hat2.out; omega))
                      | fail)
                  obtain ⟨ha21, ha22⟩ := hat2
                  have o6 := (o5.below (Below.refl _ _).drew).keptg g6 hlt
                  go_wp2
                  go_roundw
                  case rel => exact ⟨_, _, _, at2, rfl, rfl, ha22, o6, show _ ≤ _ by have := Hno.out; simp; omega, all_snoc HSM.out HNW.out, c6.more (by have := HNL.out; omega), (HG5.out.trans (grown_of_below (Below.refl _ _).drew _)).trans g6⟩
                  case measure => simp [intOf]; omega
            · have qa : decide (0 < (xn : Int) + (nn : Int)) = false := by simp; omega
              go_wp2
              obtain ⟨x1, Hx1⟩ : ∃ x1 : Nat, Hid (x1 = xn + 1) := ⟨_, rfl⟩
              have hw1 : IntKind.i64.wrap ((xn : Int) + 1) = (x1 : Int) := by rw [IntKind.wrap_i64]; have := Hx1.out; omega
              go_region_held3 (fun w' => w'.cell? ⟨bx, 1, none⟩ = some (.int .i64 (xn : Int))) (first | exact kb1 | exact k61 | go_keep)
                (first
                  | (go_at_call 68; refine (pick_any g _ 3 _ (HIN.out.cur.below (Below.refl _ _).drew) (by omega) (by omega)).mono ?_; rintro e w6 ⟨y, rfl, hy0, hy1, c6, g6⟩
                     have k61 := g6.cell (a := ⟨bx, 1, none⟩) (v := .int .i64 (xn : Int)) kb1 HSB.out
                     obtain ⟨yn, rfl⟩ := Int.eq_ofNat_of_zero_le hy0
                     have hyn : yn ≤ 2 := by omega
                     obtain ⟨x2, Hx2⟩ : ∃ x2 : Nat, Hid (x2 = x1 + yn) := ⟨_, rfl⟩
                     have hw2 : IntKind.i64.wrap ((x1 : Int) + (yn : Int)) = (x2 : Int) := (by rw [IntKind.wrap_i64]; have := Hx1.out; have := Hx2.out; omega)
                     obtain ⟨at2, Hat2⟩ : ∃ at2 : Nat, Hid (at2 = at' + x2) := ⟨_, rfl⟩
                     have hw3 : IntKind.i64.wrap ((at' : Int) + (x2 : Int)) = (at2 : Int) := (by rw [IntKind.wrap_i64]; have := Hx1.out; have := Hx2.out; have := Hat2.out; omega)
                     have hat2 : at' + 1 ≤ at2 ∧ at2 ≤ 46 := (by have := Hx1.out; have := Hx2.out; have := Hat2.out; omega))
                  | fail)
              obtain ⟨ha21, ha22⟩ := hat2
              have o6 := (OW4.out.below (Below.refl _ _).drew).keptg g6 hlt
              go_wp2
              go_roundw
              case rel => exact ⟨_, _, _, at2, rfl, rfl, ha22, o6, HO.out, HSM.out, c6.more (by have := HNL.out; omega), (HG4.out.trans (grown_of_below (Below.refl _ _).drew _)).trans g6⟩
              case measure => simp [intOf]; omega
      · have q2 : decide ((no : Int) < 6) = false := by simp; omega
        go_wp2
        go_ret
        exact ⟨_, out, vs, rfl, ho, by have := HO.out; omega, HSM.out, hc.more (by omega), hg⟩
    · have q1 : decide ((at' : Int) ≤ (n : Int)) = false := by simp; omega
      go_wp2
      go_ret
      exact ⟨_, out, vs, rfl, ho, by have := HO.out; omega, HSM.out, hc.more (by omega), hg⟩

end Go.Proofs.YtnnaigoomipklaaGreatDoor
