/-
  A drawn text that is like another one, and what is drawn of it.
-/
import Derived.Test.YtkamenidgkjodaaGreatDoorQbPart
import Derived.Test.YtkamenidgkjodaaGreatDoorQbWhole
import Derived.Test.YtkamenidgkjodaaGreatDoorQbDraw
import Derived.Deep.RegionLaw
set_option linter.unusedSimpArgs false
set_option linter.unusedVariables false
namespace Go.Proofs.YtkamenidgkjodaaGreatDoor
open Go.RowKit M

theorem cut_hi_strs (a : Option Addr) (n c hi : Nat) (h2 : hi ≤ c) (w : World) :
    (Instr.slice 33 (.slice a n c) none (some (.int .i64 (hi : Int))) none).run Tryz.prog w = .ok (.slice a hi c) w := by
  obtain ⟨i, h3, h4, h5, h6⟩ := info_parts str_info
  exact run_cut_hi Tryz.underlying33 h3 h5 a n c hi h2 w
theorem cut_lo_strs2 (a : Option Addr) (n c lo : Nat) (h1 : lo ≤ n) (h2 : n ≤ c) (w : World) :
    (Instr.slice 33 (.slice a n c) (some (.int .i64 (lo : Int))) none none).run Tryz.prog w = .ok (.slice (cutA a c lo) (n - lo) (c - lo)) w := by
  obtain ⟨i, h3, h4, h5, h6⟩ := info_parts str_info
  exact run_cut_lo Tryz.underlying33 h3 h5 a n c lo h1 h2 w
theorem cut_lo1_strs (a : Option Addr) (n c lo : Nat) (h1 : lo + 1 ≤ n) (h2 : n ≤ c) (w : World) :
    (Instr.slice 33 (.slice a n c) (some (.int .i64 ((lo : Int) + 1))) none none).run Tryz.prog w = .ok (.slice (cutA a c (lo + 1)) (n - (lo + 1)) (c - (lo + 1))) w := by
  have := cut_lo_strs2 a n c (lo + 1) h1 h2 w
  rwa [show ((lo + 1 : Nat) : Int) = (lo : Int) + 1 by omega] at this

theorem step_strs {w : World} {ops : Array Oper} {o : Oper} {a : Act} {K : Act → World → Prop} {Q : Exit → Act → World → Prop} {E : Prop} (s x : Operand) (base : Nat) (v : Value) (l : List ByteArray) (hown : OwnV w base v l) (A : Option Addr) (m c : Nat) (r : List ByteArray) (hr : Strs w A m r)
    (hbound : l.length + m ≤ 4294967296) (hbase : base ≤ w.heap.size) (hgd : Region.wanted o (yielded ops a.tmps) = true) (ho : o.op = .call { callee := .builtin .append, args := #[s, x], argTypes := #[33, 33] }) (hs : a.eval s = v) (hx : a.eval x = .slice A m c)
    (h : ∀ v' w', OwnV w' base v' (l ++ r) → w.grownBy w' v.ownBlock → (v'.ownBlock = v.ownBlock ∨ v'.ownBlock = some w.heap.size) → K (a.put o.dst v') w') : if Region.wanted o (yielded ops a.tmps) = true then Oper.wp Tryz.prog o a w K Q else E := by
  obtain ⟨i, h1, h2, h3, h4⟩ := info_parts str_info
  exact step_app Tryz.underlying33 h1 h2 h3 h4 s x base v l hown A m c r hr hbound hbase hgd ho hs hx h

theorem nil_toList : (⟨#[]⟩ : ByteArray).toList = [] := by simp
def Fine (S : Nat) (l : List ByteArray) : Prop := ∀ s ∈ l, 1 ≤ s.size ∧ s.size ≤ S
theorem Fine.app {S : Nat} {l r : List ByteArray} (h : Fine S l) (k : Fine S r) : Fine S (l ++ r) := fun s hs => by
  rcases List.mem_append.1 hs with h1 | h1
  · exact h s h1
  · exact k s h1
theorem Fine.take {S : Nat} {l : List ByteArray} (h : Fine S l) (k : Nat) : Fine S (l.take k) := fun s hs => h s (List.mem_of_mem_take hs)
theorem Fine.drop {S : Nat} {l : List ByteArray} (h : Fine S l) (k : Nat) : Fine S (l.drop k) := fun s hs => h s (List.mem_of_mem_drop hs)
theorem Fine.set {S : Nat} {l : List ByteArray} (h : Fine S l) (k : Nat) {t : ByteArray} (h1 : 1 ≤ t.size) (h2 : t.size ≤ S) : Fine S (l.set k t) := fun s hs => by
  rcases List.mem_or_eq_of_mem_set hs with h3 | h3
  · exact h s h3
  · rw [h3]; exact ⟨h1, h2⟩
theorem Fine.more {S T : Nat} {l : List ByteArray} (h : Fine S l) (k : S ≤ T) : Fine T l := fun s hs => ⟨(h s hs).1, Nat.le_trans (h s hs).2 k⟩
theorem Fine.one {S : Nat} {s : ByteArray} (h1 : 1 ≤ s.size) (h2 : s.size ≤ S) : Fine S [s] := fun t ht => by simp at ht; subst ht; exact ⟨h1, h2⟩

structure St (w : World) (g S N M : Nat) (w' : World) (v : Value) (l : List ByteArray) : Prop where
  own : OwnV w' w.heap.size v l
  len : l.length ≤ N
  fine : Fine S l
  cur : Curs w' g M
  grown : w.grownBy w' (some g)

theorem St.made {w w4 w6 : World} {g S N M K B : Nat} {v : Value} {l : List ByteArray} (o : OwnV w6 B v l) (hB : w4.heap.size ≤ B) (hl : l.length ≤ N) (hf : Fine S l) (c : Curs w4 g M) (hM : M ≤ K) (h : w.grownBy w4 (some g)) (b : Below w4.heap.size w4 w6) : St w g S N K w6 v l :=
  ⟨o.more (Nat.le_trans h.size hB), hl, hf, (c.below b).more hM, grown_below h b⟩
theorem St.put {w w4 : World} {g S N M K n cap b k : Nat} {l : List ByteArray} (hl : l.length ≤ N) (hf : Fine S l) (c : Curs w4 g M) (hM : M ≤ K) (h : w.grownBy w4 (some g)) (hgb : g < b) (hb : w.heap.size ≤ b) {t : ByteArray} (h1 : 1 ≤ t.size) (h2 : t.size ≤ S) 
    (o3 : OwnV (w4.setCell ⟨b, k, none⟩ (.string t)) w.heap.size (.slice (some ⟨b, 0, none⟩) n cap) (l.set k t)) (g3 : w4.grownBy (w4.setCell ⟨b, k, none⟩ (.string t)) (some b)) : St w g S N K (w4.setCell ⟨b, k, none⟩ (.string t)) (.slice (some ⟨b, 0, none⟩) n cap) (l.set k t) :=
  ⟨o3, by simpa using hl, hf.set k h1 h2, (c.kept g3 (fun x e => by injection e with e; omega)).more hM, grown_more h g3 (fun x e => .inl (by injection e with e; omega))⟩

theorem oth_drop {w w4 w5 w6 w7 : World} {g m cap q : Nat} {o : Obj} {A : Option Addr} {v5 : Value} {l r : List ByteArray} (o4 : OwnV w4 w.heap.size (.slice A m cap) l) (b4 : Below w4.heap.size w4 w4.drew) (b5 : Below w4.drew.heap.size w4.drew w5) (g6 : w5.grownBy w6 (some g)) (o5 : OwnV w5 w4.drew.heap.size v5 r) (g7 : (w6.alloc o).grownBy w7 v5.ownBlock)
    (hq : q ≤ m) (hm : m ≤ cap) (hlt : g < w.heap.size) : Strs w7 (cutA A cap q) (m - q) (l.drop q) := by
  have h6 : OwnV w6 w.heap.size (.slice A m cap) l := (o4.below (b4.next b5)).kept g6 (fun b e h => by injection e with e; have := (o4.lt h).1; omega)
  have h7 := (h6.below (below_alloc _ o)).kept g7 (fun b e h => by
    have h1 := (o4.lt h).2
    have h2 := (o5.lt e).1
    have h3 : w4.drew.heap.size = w4.heap.size := rfl
    omega)
  exact h7.strs.drop_ hq hm

theorem St.ins {w w6 w7 w8 : World} {g S N K M B : Nat} {o : Obj} {v : Value} {r7 r8 : Option Nat} {l : List ByteArray} (c6 : Curs w6 g K) (hM : K ≤ M) (h6 : w.grownBy w6 (some g)) (hB : w.heap.size ≤ B) (hgB : g < B) (g7 : (w6.alloc o).grownBy w7 r7) (hr7 : ∀ b, r7 = some b → B ≤ b) (g8 : w7.grownBy w8 r8) (hr8 : ∀ b, r8 = some b → B ≤ b)
    (o8 : OwnV w8 B v l) (hl : l.length ≤ N) (hf : Fine S l) : St w g S N M w8 v l :=
  ⟨o8.more hB, hl, hf, (((c6.below (below_alloc _ o)).kept g7 (fun b e => Nat.lt_of_lt_of_le hgB (hr7 b e))).kept g8 (fun b e => Nat.lt_of_lt_of_le hgB (hr8 b e))).more hM,
    grown_more (grown_more (grown_alloc h6 o) g7 (fun b e => .inl (Nat.le_trans hB (hr7 b e)))) g8 (fun b e => .inl (Nat.le_trans hB (hr8 b e)))⟩

set_option maxHeartbeats 4000000 in
set_option maxRecDepth 100000 in
theorem other_any (g M S : Nat) (a : Option Addr) (n c : Nat) (l : List ByteArray) (w : World) (h : Curs w g M) (hM : M ≤ 1000000) (hl : Strs w a n l) (hn : n ≤ 1000) (hf : Fine S l) (h8 : 8 ≤ S) (hS : S ≤ 900) :
    Calls Tryz.prog 89 #[.pointer (some ⟨g, 0, none⟩), .slice a n c] w fun e w' => ∃ (v : Value) (l' : List ByteArray), e = .returned v ∧ St w g (S + 1) (n + 3) (M + 40) w' v l' := by
  have hlt := h.lt
  have hlen := hl.len
  go_enter Tryz.func89, Tryz.ntmps89
  go_wp2_with fail
  refine (l1OwnT_any a n c l _ hl (by omega)).mono ?_
  rintro e w1 ⟨v1, rfl, o1, b1⟩
  go_wp2_with fail
  refine (pick_any g M 4 _ (h.below b1) (by omega) (by omega)).mono ?_
  rintro e w2 ⟨x, rfl, hx0, hx1, c2, g2⟩
  obtain ⟨k0, rfl⟩ := Int.eq_ofNat_of_zero_le hx0
  have hk : k0 ≤ 3 := by omega
  clear hx1
  have b1s := b1.size
  have s2 : St w g S (n + (3 - k0)) (M + 2 + 6 * (3 - k0)) w2 v1 l := ⟨o1.kept g2 (fun b e h => by injection e with e; have := (o1.lt h).1; omega), by omega, hf, c2.more (by omega), (grown_of_below b1 _).trans g2⟩
  clear c2 g2 b1 o1 hl hlen hf b1s
  go_wp2
  go_loopw [5, 6] (fun bv i w' => ∃ (v : Value) (l : List ByteArray) (k : Nat), v = bv ∧ i = .int .i64 k ∧ k ≤ 3 ∧ St w g S (n + (3 - k)) (M + 2 + 6 * (3 - k)) w' v l) (fun _ i _ => (intOf i).toNat)
  case atStart => exact ⟨v1, l, k0, rfl, rfl, hk, s2⟩
  case round =>
    clear s2
    obtain ⟨v, l, k, rfl, rfl, hk, st⟩ := hrel
    obtain ⟨m, HN⟩ : ∃ m, Hid (l.length = m) := ⟨_, rfl⟩
    obtain ⟨A, cap, rfl, hm1, hm2⟩ := st.own.form HN.out
    have hmn : m ≤ n + (3 - k) := by rw [← HN.out]; exact st.len
    by_cases hp : 0 < k
    · go_wp2_with fail
      refine (pick_any g _ _ _ st.cur (by omega) (by omega)).mono ?_
      rintro e w3 ⟨x, rfl, hx0, hx1, c3, g3⟩
      obtain ⟨q, rfl⟩ := Int.eq_ofNat_of_zero_le hx0
      have hq : q ≤ m := by omega
      clear hx1
      go_wp2_with fail
      refine (pick_any g _ _ _ c3 (by omega) (by omega)).mono ?_
      rintro e w4 ⟨y, rfl, hy0, hy1, c4, g4⟩
      have g34 := st.grown.trans (g3.trans g4)
      have o4 := st.own.kept (g3.trans g4) (fun b e h => by injection e with e; have := (st.own.lt h).1; omega)
      have hfine := st.fine
      clear st c3 g3 g4
      have hz4 := g34.size
      by_cases hy : y = 0
      · have hyq : (y == 0) = true := by simp [hy]
        clear hy1 hy hy0
        by_cases hqm : q < m
        · have hd : decide ((q : Int) < (m : Int)) = true := by simp; omega
          have hc1 := cut_hi_strs A m cap q (by omega)
          have hc2 := cut_lo1_strs A m cap q (by omega) hm1
          have b4 : Below w4.heap.size w4 w4.drew := (Below.refl _ _).drew
          have ha := (o4.below b4).strs.take_ hq
          have hb := (o4.below b4).strs.drop_ (lo := q + 1) (by omega) hm1
          have hzd : w4.drew.heap.size = w4.heap.size := rfl
          have hwr : IntKind.i64.wrap ((q : Int) + 1) = (q : Int) + 1 := by rw [IntKind.wrap_i64]; omega
          go_wp2
          go_region_law (first | (go_simp; go_at_call 131; refine (l1OwnT_any _ _ _ (l.take q) _ ha (by omega)).mono ?_; rintro e w5 ⟨v5, rfl, o5, b5⟩) | (refine step_strs (.tmp 54) (.tmp 58) w4.drew.heap.size v5 (l.take q) o5 _ (m - (q + 1)) _ (l.drop (q + 1)) (hb.below b5) (by simp; omega) b5.size rfl rfl rfl rfl ?_; intro v6 w6 o6 g6 p6))
          all_goals go_wp2
          all_goals go_roundw
          all_goals first | (case measure => simp [intOf]; omega) | skip
          all_goals exact ⟨v6, l.take q ++ l.drop (q + 1), k - 1, rfl, by go_num, by omega, St.made o6 (by rw [hzd]; exact Nat.le_refl _) (by simp [HN.out]; omega) ((hfine.take q).app (hfine.drop _)) c4 (by omega) g34 ((b4.next b5).grown g6 (b4.next b5).size (fun b e => by have := (o5.lt e).1; omega))⟩
        · have hd : decide ((q : Int) < (m : Int)) = false := by simp; omega
          go_wp2
          go_roundw
          case rel => exact ⟨_, l, k - 1, rfl, by go_num, by omega, o4, by rw [HN.out]; omega, hfine, c4.more (by omega), g34⟩
          case measure => simp [intOf]; omega
      · have hyq : (y == 0) = false := by simpa using hy
        by_cases hy2 : y = 1
        · have hyq2 : (y == 1) = true := by simp [hy2]
          clear hy1 hy hy0 hy2
          by_cases hqm : q < m
          · obtain ⟨b, rfl, hb1, hb2, ⟨u, hcu⟩, hfz, hset⟩ := o4.at_ hqm
            obtain ⟨bb, off, s, e1, hs, hsz, hcs⟩ := o4.strs.at_ hqm
            injection e1 with e1
            injection e1 with e1 e2
            subst e1 e2
            have hs1 := (hfine s (List.mem_of_getElem? hs)).1
            rw [Nat.zero_add] at hcs
            clear hs hcu
            cases he : endsB s with
            | true =>
              go_wp2_with fail
              refine (l1Ends_any s _ hsz hs1).mono ?_
              rintro e w5 ⟨rfl, rfl⟩
              rw [he]
              clear hset hfz
              go_wp2_with fail
              refine (line_any g _ _ c4 (by omega)).mono ?_
              rintro e w5 ⟨s5, hs5, rfl, c5, g5⟩
              have o5 := o4.kept g5 (fun b e h => by injection e with e; have := (o4.lt h).1; omega)
              obtain ⟨b', e1, hb1', hb2', ⟨u, hcu⟩, hfz, hset⟩ := o5.at_ hqm
              injection e1 with e1
              injection e1 with e1
              subst e1
              obtain ⟨o6, g6⟩ := hset (s5 ++ ⟨#[10]⟩) (by rw [size_nl]; unfold maxLen; omega)
              clear hset
              have ht := size_nl s5
              have S6 : St w g S (n + (3 - (k - 1))) (M + 2 + 6 * (3 - (k - 1))) _ _ (l.set q (s5 ++ ⟨#[10]⟩)) := St.put (by rw [HN.out]; omega) hfine c5 (by omega) (g34.trans g5) (by omega) hb1' (by omega) (by omega) o6 g6
              clear o6 g6 ht
              go_wp2
              go_roundw
              case rel => exact ⟨_, _, k - 1, rfl, by go_num, by omega, S6⟩
              case measure => simp [intOf]; omega
            | false =>
              go_wp2_with fail
              refine (l1Ends_any s _ hsz hs1).mono ?_
              rintro e w5 ⟨rfl, rfl⟩
              rw [he]
              go_wp2
              go_roundw
              case rel => exact ⟨_, l, k - 1, rfl, by go_num, by omega, o4, by rw [HN.out]; omega, hfine, c4.more (by omega), g34⟩
              case measure => simp [intOf]; omega
          · have hd : decide ((q : Int) < (m : Int)) = false := by simp; omega
            go_wp2
            go_roundw
            case rel => exact ⟨_, l, k - 1, rfl, by go_num, by omega, o4, by rw [HN.out]; omega, hfine, c4.more (by omega), g34⟩
            case measure => simp [intOf]; omega
        · have hyq2 : (y == 1) = false := by simpa using hy2
          clear hy1 hy hy0 hy2
          have HFIN := Lib.hid (fun s hs => (hfine s hs).1 : ∀ s ∈ l, 1 ≤ s.size)
          have b4 : Below w4.heap.size w4 w4.drew := (Below.refl _ _).drew
          have ha := (o4.below b4).strs.take_ hq
          have hb := (o4.below b4).strs.drop_ (lo := q) hq hm1
          have hzd : w4.drew.heap.size = w4.heap.size := rfl
          have hc1 := cut_hi_strs A m cap q (by omega)
          have hc2 := cut_lo_strs2 A m cap q hq hm1
          by_cases hqm : q < m
          · have hd : decide ((q : Int) < (m : Int)) = true := by simp; omega
            go_wp2
            go_region_law (first | (go_simp; go_at_call 131; refine (l1OwnT_any _ _ _ (l.take q) _ ha (by omega)).mono ?_; rintro e w5 ⟨v5, rfl, o5, b5⟩) | (go_simp; go_at_call 128; refine (line_any g _ _ (c4.below (b4.next b5)) (by omega)).mono ?_; rintro e w6 ⟨s6, hs6, rfl, c6, g6⟩; have hsz6 : s6.size + 1 ≤ 8 := (by omega); have hsz7 : (9223372036854775807 < s6.size + 1) = False := eq_false (by omega)) | (refine step_strs (.tmp 35) (.tmp 39) w4.drew.heap.size v5 (l.take q) ((o5.kept g6 (fun b e h => by injection e with e; have := (o5.lt h).1; omega)).below (below_alloc _ _)) _ 1 1 [s6 ++ ⟨#[10]⟩] (strs_one w6 (s6 ++ ⟨#[10]⟩) (by rw [size_nl]; unfold maxLen; omega)) (by simp; omega) (Nat.le_trans b5.size (Nat.le_trans g6.size (below_alloc _ _).size)) rfl rfl rfl rfl ?_; intro v7 w7 o7 g7 p7) | (refine step_strs (.tmp 40) (.tmp 43) w4.drew.heap.size v7 (l.take q ++ [s6 ++ ⟨#[10]⟩]) o7 _ (m - q) _ (l.drop q) (oth_drop o4 b4 b5 g6 o5 g7 hq hm1 (by omega)) (by simp; omega) (Nat.le_trans (Nat.le_trans b5.size (Nat.le_trans g6.size (below_alloc _ _).size)) g7.size) rfl rfl rfl rfl ?_; intro v8 w8 o8 g8 p8))
            all_goals go_wp2
            all_goals go_roundw
            all_goals first | (case measure => simp [intOf]; omega) | skip
            all_goals exact ⟨v8, l.take q ++ [s6 ++ ⟨#[10]⟩] ++ l.drop q, k - 1, rfl, by go_num, by omega, St.ins c6 (by omega) ((grown_below g34 (b4.next b5)).trans g6) (B := w4.drew.heap.size) (by omega) (by omega) g7 (fun b e => (o5.lt e).1) g8 (fun b e => (o7.lt e).1) o8 (by simp [HN.out]; omega) (((hfine.take q).app (Fine.one (by rw [size_nl]; omega) (by rw [size_nl]; omega))).app (hfine.drop _))⟩
          · have hd : decide ((q : Int) < (m : Int)) = false := by simp; omega
            cases hw : wholeB l with
            | true =>
              go_wp2_with fail
              refine (l1Whole_ne A m cap l _ o4.strs HFIN.out).mono ?_
              rintro e w5 ⟨rfl, rfl⟩
              rw [hw]
              go_wp2
              go_region_law (first | (go_simp; go_at_call 131; refine (l1OwnT_any _ _ _ (l.take q) _ ha (by omega)).mono ?_; rintro e w5 ⟨v5, rfl, o5, b5⟩) | (go_simp; go_at_call 128; refine (line_any g _ _ (c4.below (b4.next b5)) (by omega)).mono ?_; rintro e w6 ⟨s6, hs6, rfl, c6, g6⟩; have hsz6 : s6.size + 1 ≤ 8 := (by omega); have hsz7 : (9223372036854775807 < s6.size + 1) = False := eq_false (by omega)) | (refine step_strs (.tmp 35) (.tmp 39) w4.drew.heap.size v5 (l.take q) ((o5.kept g6 (fun b e h => by injection e with e; have := (o5.lt h).1; omega)).below (below_alloc _ _)) _ 1 1 [s6 ++ ⟨#[10]⟩] (strs_one w6 (s6 ++ ⟨#[10]⟩) (by rw [size_nl]; unfold maxLen; omega)) (by simp; omega) (Nat.le_trans b5.size (Nat.le_trans g6.size (below_alloc _ _).size)) rfl rfl rfl rfl ?_; intro v7 w7 o7 g7 p7) | (refine step_strs (.tmp 40) (.tmp 43) w4.drew.heap.size v7 (l.take q ++ [s6 ++ ⟨#[10]⟩]) o7 _ (m - q) _ (l.drop q) (oth_drop o4 b4 b5 g6 o5 g7 hq hm1 (by omega)) (by simp; omega) (Nat.le_trans (Nat.le_trans b5.size (Nat.le_trans g6.size (below_alloc _ _).size)) g7.size) rfl rfl rfl rfl ?_; intro v8 w8 o8 g8 p8))
              all_goals go_wp2
              all_goals go_roundw
              all_goals first | (case measure => simp [intOf]; omega) | skip
              all_goals exact ⟨v8, l.take q ++ [s6 ++ ⟨#[10]⟩] ++ l.drop q, k - 1, rfl, by go_num, by omega, St.ins c6 (by omega) ((grown_below g34 (b4.next b5)).trans g6) (B := w4.drew.heap.size) (by omega) (by omega) g7 (fun b e => (o5.lt e).1) g8 (fun b e => (o7.lt e).1) o8 (by simp [HN.out]; omega) (((hfine.take q).app (Fine.one (by rw [size_nl]; omega) (by rw [size_nl]; omega))).app (hfine.drop _))⟩
            | false =>
              go_wp2_with fail
              refine (l1Whole_ne A m cap l _ o4.strs HFIN.out).mono ?_
              rintro e w5 ⟨rfl, rfl⟩
              rw [hw]
              go_wp2
              go_roundw
              case rel => exact ⟨_, l, k - 1, rfl, by go_num, by omega, o4, by rw [HN.out]; omega, hfine, c4.more (by omega), g34⟩
              case measure => simp [intOf]; omega
    · have hk0 : k = 0 := by omega
      subst hk0
      by_cases hm0 : m = 0
      · have hd : decide ((0 : Int) < (m : Int)) = false := by simp; omega
        go_wp2
        go_ret
        exact ⟨_, l, rfl, st.own, by rw [HN.out]; omega, st.fine.more (by omega), st.cur.more (by omega), st.grown⟩
      · have hd : decide ((0 : Int) < (m : Int)) = true := by simp; omega
        go_wp2_with fail
        refine (one_any g _ _ _ st.cur (by omega) (by omega)).mono ?_
        rintro e w3 ⟨y, rfl, c3, g3⟩
        have g34 := st.grown.trans g3
        have o3 := st.own.kept g3 (fun b e h => by injection e with e; have := (st.own.lt h).1; omega)
        have hfine := st.fine
        clear st g3
        cases y with
        | false =>
          go_wp2
          go_ret
          exact ⟨_, l, rfl, o3, by rw [HN.out]; omega, hfine.more (by omega), c3.more (by omega), g34⟩
        | true =>
          obtain ⟨b, rfl, hb1, hb2, ⟨u, hcu⟩, hfz, hset⟩ := o3.at_ (show m - 1 < m by omega)
          obtain ⟨bb, off, s, e1, hs, hsz, hcs⟩ := o3.strs.at_ (show m - 1 < m by omega)
          injection e1 with e1
          injection e1 with e1 e2
          subst e1 e2
          obtain ⟨hs1, hs2⟩ := hfine s (List.mem_of_getElem? hs)
          rw [Nat.zero_add] at hcs
          clear hs hcu
          have hSET := Lib.hid hset
          clear hset
          have hi1 : IntKind.i64.wrap ((m : Int) - 1) = ((m - 1 : Nat) : Int) := by rw [IntKind.wrap_i64]; omega
          cases he : endsB s with
          | false =>
            have hpl := plain_same he
            go_wp2_with fail
            refine (l1Plain_any s _ hsz hs1).mono ?_
            rintro e w5 ⟨rfl, rfl⟩
            rw [hpl]
            go_wp2_with fail
            refine (l1Ends_any s _ hsz hs1).mono ?_
            rintro e w5 ⟨rfl, rfl⟩
            rw [he]
            have ht := size_nl s
            obtain ⟨o6, g6⟩ := hSET.out (s ++ ⟨#[10]⟩) (by rw [ht]; unfold maxLen; omega)
            have S6 : St w g (S + 1) (n + 3) (M + 40) _ _ (l.set (m - 1) (s ++ ⟨#[10]⟩)) := St.put (by rw [HN.out]; omega) (hfine.more (by omega)) c3 (by omega) g34 (by omega) hb1 (by omega) (by omega) o6 g6
            clear o6 g6 ht
            have hsz7 : s.size + 1 ≤ 1000 := by omega
            go_wp2
            go_ret
            exact ⟨_, _, rfl, S6⟩
          | true =>
            have hpl := plain_size he
            obtain ⟨t, HT⟩ : ∃ t, Hid (plain s = t) := ⟨_, rfl⟩
            rw [HT.out] at hpl
            go_wp2_with fail
            refine (l1Plain_any s _ hsz hs1).mono ?_
            rintro e w5 ⟨rfl, rfl⟩
            rw [HT.out]
            go_wp2_with fail
            refine (l1Ends_any s _ hsz hs1).mono ?_
            rintro e w5 ⟨rfl, rfl⟩
            rw [he]
            by_cases h0 : t = ⟨#[]⟩
            · have hq : (!t.toList.isEmpty) = false := by rw [h0, nil_toList]; rfl
              clear h0
              go_wp2
              go_ret
              exact ⟨_, l, rfl, o3, by rw [HN.out]; omega, hfine.more (by omega), c3.more (by omega), g34⟩
            · have hq : (!t.toList.isEmpty) = true := by
                have h1 := beq_other h0
                rw [nil_toList] at h1
                cases h2 : t.toList with
                | nil => rw [h2] at h1; cases h1
                | cons x y => rfl
              have ht1 : 1 ≤ t.size := by
                rcases Nat.eq_zero_or_pos t.size with h | h
                · exact absurd (ByteArray.size_eq_zero_iff.1 h) h0
                · exact h
              obtain ⟨o6, g6⟩ := hSET.out t (by unfold maxLen; omega)
              have S6 : St w g (S + 1) (n + 3) (M + 40) _ _ (l.set (m - 1) t) := St.put (by rw [HN.out]; omega) (hfine.more (by omega)) c3 (by omega) g34 (by omega) hb1 (by omega) (by omega) o6 g6
              clear o6 g6 h0
              go_wp2
              go_ret
              exact ⟨_, _, rfl, S6⟩

end Go.Proofs.YtkamenidgkjodaaGreatDoor
