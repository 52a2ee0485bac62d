/-
  Orders made of hunks, the model's.
  EdOrders and EdText, the model's.
-/
import Derived.Test.YtnnaigoomipklaaGreatDoorOiOLaws
import Derived.Test.YtnnaigoomipklaaGreatDoorOiORun
import Derived.Test.YtnnaigoomipklaaGreatDoorOiHMems
import Derived.Test.YtnnaigoomipklaaGreatDoorOiHPatch
import Derived.Test.YtnnaigoomipklaaGreatDoorOiWhole
set_option linter.unusedSimpArgs false
set_option linter.unusedVariables false
namespace Go.Proofs.YtnnaigoomipklaaGreatDoor
open Go.RowKit Go.ChangeShapes Go.WideShapes M

theorem blk_ownE {v : Value} {rows : List (List D)} {g : Nat} (e : v.ownBlock = some g) : BlkR v rows g := by unfold BlkR; simp [e]
/-- Rows of orders without lines. -/
def bareRows (f : List Od) : List (List D) := f.map fun x => odRow x (.slice none 0 0)
theorem bareRows_blocks : ∀ {f : List Od}, (∀ x ∈ f, x.new = []) → D.blocksL (bareRows f).flatten = []
  | [], _ => rfl
  | x :: f, h => by
    have ih := bareRows_blocks (f := f) (fun y hy => h y (by simp [hy]))
    unfold bareRows at ih ⊢
    rw [List.map_cons, List.flatten_cons, D.blocksL_append, ih]
    simp [odRow, D.blocksL, D.blocks, textsD_blocks, Value.ownBlock]
theorem bareRows_own (w : World) (base : Nat) : ∀ {f : List Od}, (∀ x ∈ f, x.new = []) → D.ownL w base (bareRows f).flatten
  | [], _ => trivial
  | x :: f, h => by
    have ih := bareRows_own w base (f := f) (fun y hy => h y (by simp [hy]))
    unfold bareRows at ih ⊢
    rw [List.map_cons, List.flatten_cons, D.ownL_append]
    refine ⟨(odRow_own (x := x) (base := base) (by rw [h x (by simp)]; exact OwnV.nil_)).1, ih⟩
theorem bareRows_wide (f : List Od) : ∀ r ∈ bareRows f, r.length = 4 := by
  intro r hr
  obtain ⟨x, _, rfl⟩ := List.mem_map.1 hr
  rfl
theorem bareRows_snoc (f : List Od) (x : Od) : bareRows (f ++ [x]) = bareRows f ++ [odRow x (.slice none 0 0)] := by simp [bareRows]

/-- Orders without lines are appended. -/
theorem run_app_bare {w : World} (ty : TypeId) (base fb : Nat) (v : Value) (p : List Od) (rows : List (List D)) (hown : OwnOd w base v p rows) (A : Option Addr) (m c : Nat) (f : List Od) (hf : OwnOd w fb (.slice A m c) f (bareRows f)) (hn : ∀ x ∈ f, x.new = []) (hbound : p.length + m ≤ 1048576) (hbase : base ≤ w.heap.size) :
    ∃ v' w', (Builtin.append_ #[24, 24] ty #[v, .slice A m c]).run Tryz.prog w = .ok v' w' ∧ OwnOd w' base v' (p ++ f) (rows ++ bareRows f) ∧ w.grownBy w' v.ownBlock ∧ (v'.ownBlock = v.ownBlock ∨ v'.ownBlock = some w.heap.size) := by
  obtain ⟨i, q1, q2, q3, q4⟩ := info_parts od_info
  have hfl : f.length = m := hf.len_
  have hrows : rows.length = p.length := hown.len
  have hmk : ∀ {w' : World} {v' : Value}, OwnR w' base v' 78 4 (rows ++ bareRows f) → OwnOd w' base v' (p ++ f) (rows ++ bareRows f) := fun ho =>
    ⟨by rw [List.length_append, List.length_append, hrows]; simp [bareRows], ho, fun k r x hr hx => by
      rcases Nat.lt_or_ge k rows.length with hk | hk
      · rw [List.getElem?_append_left hk] at hr
        rw [List.getElem?_append_left (by omega)] at hx
        exact hown.row k r x hr hx
      · rw [List.getElem?_append_right hk] at hr
        rw [List.getElem?_append_right (by omega)] at hx
        exact hf.row _ r x (by rw [hrows] at hr; exact hr) hx, fun x hx => by
      rcases List.mem_append.1 hx with h | h
      · exact hown.ok x h
      · exact hf.ok x h⟩
  cases A with
  | none =>
    have hm : m = 0 := by
      rcases Nat.eq_zero_or_pos m with h | h
      · exact h
      · obtain ⟨g, _, _, _, _, e, _⟩ := hf.at_ h
        cases e
    subst hm
    have hf0 : f = [] := List.eq_nil_of_length_eq_zero hfl
    subst hf0
    refine ⟨v, w, ?_, by simpa [bareRows] using hown, ⟨rfl, rfl, rfl, Nat.le_refl _, fun _ _ _ => rfl⟩, .inl rfl⟩
    rcases hown.own.own.own.1.2 with ⟨hv, hl⟩ | ⟨g, cap, cur, hv, _, _, hnc, _⟩
    · subst hv
      simp [Builtin.append_, run_underlying Tryz.underlying24, sizeOf, typeInfo, q1, Builtin.lenOf, Builtin.firstCells]
    · subst hv
      simp [Builtin.append_, run_underlying Tryz.underlying24, sizeOf, typeInfo, q1, Builtin.lenOf, Builtin.firstCells, hnc, storeCells]
  | some ad =>
    obtain ⟨g, hA⟩ : ∃ g, ad = ⟨g, 0, none⟩ := by
      obtain ⟨_, _, e, _, _⟩ := hf.own.own.form
      rcases hf.own.own.own.1.2 with ⟨hv, _⟩ | ⟨g, cap, cur, hv, _⟩
      · cases hv
      · injection hv with h1 h2 h3
        injection h1 with h1
        exact ⟨g, h1⟩
    subst hA
    have hwid := bareRows_wide f
    have hfr : (bareRows f).length = m := by simp [bareRows, hfl]
    have hcells : ∀ j d, (bareRows f).flatten[j]? = some d → w.cell? ((⟨g, 0, none⟩ : Addr).add j) = some d.val := by
      intro j d hj
      have e : (⟨g, 0, none⟩ : Addr).add j = ⟨g, j, none⟩ := by unfold Addr.add; by_cases h0 : j = 0 <;> simp [h0]
      rw [e]
      have h1 := hf.own.own
      rw [hfr] at h1
      exact h1.cell hj
    obtain ⟨v', w', hrun, h1, h2, h3⟩ := run_app_D (ty := ty) Tryz.underlying24 q1 q2 q3 q4 (by simp [Value.cells]) (by omega) base v rows.length rows.flatten hown.own.own (bareRows f).flatten m (by rw [flat_len hwid, hfr]) (bareRows_own w base hn) (by rw [bareRows_blocks hn]; exact List.nodup_nil) (fun g' hg' => by rw [bareRows_blocks hn] at hg'; simp at hg') ⟨g, 0, none⟩ c hcells (by unfold maxLen; omega) (by omega) hbase
    refine ⟨v', w', hrun, hmk ⟨?_, fun r hr => ?_⟩, h2, h3⟩
    · rw [List.flatten_append, List.length_append, hfr]; exact h1
    · rcases List.mem_append.1 hr with h | h
      · exact hown.own.wide r h
      · exact hwid r h

theorem wpList_bare {w : World} {ops : Array Oper} {rest : List Oper} {o : Oper} {a : Act} {Q : Exit → Act → World → Prop} (s y : Operand) (base fb : Nat) (v : Value) (p : List Od) (rows : List (List D)) (hown : OwnOd w base v p rows) (A : Option Addr) (m c : Nat) (f : List Od) (hf : OwnOd w fb (.slice A m c) f (bareRows f)) (hn : ∀ x ∈ f, x.new = []) (hbound : p.length + m ≤ 1048576) (hbase : base ≤ w.heap.size)
    (hgd : Region.wanted o (yielded ops a.tmps) = true) (ho : o.op = .call { callee := .builtin .append, args := #[s, y], argTypes := #[24, 24] }) (hs : a.eval s = v) (hy : a.eval y = .slice A m c)
    (h : ∀ v' w', OwnOd w' base v' (p ++ f) (rows ++ bareRows f) → w.grownBy w' v.ownBlock → (v'.ownBlock = v.ownBlock ∨ v'.ownBlock = some w.heap.size) → wpList Tryz.prog ops Q rest (a.put o.dst v') w') : wpList Tryz.prog ops Q (o :: rest) a w := by
  obtain ⟨v', w', hrun, h1, h2, h3⟩ := run_app_bare (o.type) base fb v p rows hown A m c f hf hn hbound hbase
  refine wpList_wanted hgd fun K hK => ?_
  unfold Oper.wp execOp
  simp only [ho, resolve, invoke, builtin, Sem.run_bind, Sem.run_pure, Result.andThen_ok, List.map_toArray, List.map_cons, List.map_nil, hs, hy, hrun]
  exact hK _ _ (h v' w' h1 h2 h3)

theorem fixO_bare : ∀ (l : List ByteArray) (a : Nat), ∀ x ∈ fixO a l, x.new = []
  | [], a, x, h => by simp [fixO] at h
  | s :: l, a, x, h => by
    unfold fixO at h
    split at h
    · rcases List.mem_cons.1 h with rfl | h
      · rfl
      · exact fixO_bare l _ x h
    · exact fixO_bare l _ x h

set_option maxHeartbeats 8000000 in
set_option maxRecDepth 100000 in
theorem l9Orders_any (b0 : Option Addr) (n c : Nat) (hs : List Hk) (w : World) (hh : Hks w b0 n hs) (hn : n ≤ 20) (hok : ∀ x ∈ hs, 0 ≤ x.at_ ∧ 0 ≤ x.gone ∧ x.at_ + x.gone ≤ 40 ∧ x.new.length ≤ 40) :
    Calls Tryz.prog 79 #[.slice b0 n c] w fun e w' => ∃ v rows, e = .returned v ∧ OwnOd w' w.heap.size v (edO hs) rows ∧ Below w.heap.size w w' := by
  have HL := Lib.hid hh.len
  have HOK := Lib.hid hok
  have hw0 : IntKind.i64.wrap ((n : Int) - 1) = (n : Int) - 1 := by rw [IntKind.wrap_i64]; omega
  clear hok
  go_enter Tryz.func79, Tryz.ntmps79
  go_wp2
  go_loopw [3, 4] (fun ov i w' => ∃ (j : Nat) (v : Value) (rows : List (List D)), i = .int .i64 ((j : Int) - 1) ∧ v = ov ∧ j ≤ n ∧ OwnOd w' w.heap.size v (edO (hs.drop j)) rows ∧ Hid ((edO (hs.drop j)).length ≤ (n - j) * 41) ∧ Below w.heap.size w w') (fun _ i _ => (intOf i + 1).toNat)
  case atStart => exact ⟨n, .slice none 0 0, [], rfl, rfl, by omega, by rw [List.drop_of_length_le (by rw [HL.out]; omega)]; exact OwnOd.nil_, Lib.hid (by rw [List.drop_of_length_le (by rw [HL.out]; omega)]; simp [edO]), Below.refl _ _⟩
  case round =>
    obtain ⟨j, v, rows, rfl, rfl, hj, ho, HLN, hb⟩ := hrel
    by_cases hj0 : j = 0
    · have hd : decide ((0 : Int) ≤ (j : Int) - 1) = false := by simp; omega
      have HO := Lib.hid ho
      have hE : hs.drop j = hs := by rw [hj0]; rfl
      rw [hE] at HO
      go_wp2
      go_ret
      exact ⟨_, rows, rfl, HO.out, hb⟩
    · obtain ⟨k, HK⟩ : ∃ k, Hid (j = k + 1) := ⟨j - 1, Lib.hid (by omega)⟩
      have hkj : (j : Int) - 1 = (k : Int) := by have := HK.out; omega
      have hkn : k < n := by have := HK.out; omega
      have hd : decide ((0 : Int) ≤ (k : Int)) = true := by simp
      have hi1 : (k : Int) < (n : Int) := by omega
      have hi0 : (0 : Int) ≤ (k : Int) := by omega
      rw [hkj]
      obtain ⟨bb, of, A, m, cm, x, hbe, hx, d0, d1, d2, hs1, hmc, hi64, hg64⟩ := (hh.below hb).at_ hkn
      subst hbe
      obtain ⟨hx0, hx1, hx2, hx3⟩ := HOK.out x (List.mem_of_getElem? hx)
      have HX := Lib.hid hx
      have HM := Lib.hid hs1.len
      have hm40 : m ≤ 40 := by rw [← HM.out]; exact hx3
      have HSTEP := Lib.hid (edO_step hx)
      have HO := Lib.hid (show OwnOd wr w.heap.size v (edO (hs.drop (k + 1))) rows by have := HK.out; rw [← this]; exact ho)
      have HLN2 := Lib.hid (show (edO (hs.drop (k + 1))).length ≤ (n - (k + 1)) * 41 by have := HK.out; rw [← this]; exact HLN.out)
      have HB := Lib.hid hb
      obtain ⟨at_, gone, new⟩ := x
      dsimp only at d0 d1 d2 hs1 hx0 hx1 hx2 hx3 HM
      have s1 : IntKind.i64.wrap (at_ + 1) = at_ + 1 := by rw [IntKind.wrap_i64]; omega
      have s2 : IntKind.i64.wrap (at_ + gone) = at_ + gone := by rw [IntKind.wrap_i64]; omega
      clear hx ho hb hkj hj0 HLN
      obtain ⟨wo, hwo⟩ : ∃ wo, wo = wr := ⟨_, rfl⟩
      subst hwo
      by_cases hg0 : gone = 0
      · have HGO := Lib.hid hg0
        have hgb : (gone == 0) = true := by simp [hg0]
        clear hg0
        obtain ⟨YW, HYW⟩ : ∃ YW, Hid (YW = (wo.alloc (.cells #[.int .i64 at_, .int .i64 gone, .slice A m cm] 105)).alloc (.cells #[.int .i64 1, .int .i64 at_, .int .i64 at_, .slice none 0 0] 78)) := ⟨_, rfl⟩
        have HXB := Lib.hid (show YW.heap[wo.heap.size]? = some (.cells #[.int .i64 at_, .int .i64 gone, .slice A m cm] 105 (0, 0)) by
          rw [HYW.out, Below.heap_alloc _ _ _ (by simp)]; exact heap_at rfl)
        have HYB := Lib.hid (show YW.heap[wo.heap.size + 1]? = some (.cells #[.int .i64 1, .int .i64 at_, .int .i64 at_, .slice none 0 0] 78 (0, 0)) by
          rw [HYW.out]; exact heap_at (by simp))
        have HS2 := Lib.hid (show YW.heap.size = wo.heap.size + 2 by rw [HYW.out]; simp)
        have HBY := Lib.hid (show Below wo.heap.size wo YW by rw [HYW.out]; exact (below_alloc wo _).next (below_alloc _ _))
        have HMO := Lib.hid (show mainO ⟨at_, gone, new⟩ = ⟨1, at_, at_, new.map dots⟩ by unfold mainO mainK; simp only []; rw [HGO.out]; simp)
        go_wp2
        rw [← HYW.out]
        go_loopw [7, 46] (fun fv i w' => ∃ (q : Nat) (fu u : Value), i = .int .i64 q ∧ fu = fv ∧ q ≤ m ∧ Hid (w'.heap[wo.heap.size]? = some (.cells #[.int .i64 at_, .int .i64 gone, .slice A m cm] 105 (0, 0))) ∧ Hid (w'.heap[wo.heap.size + 1]? = some (.cells #[.int .i64 1, .int .i64 at_, .int .i64 at_, u] 78 (0, 0))) ∧ OwnV w' (wo.heap.size + 2) u ((new.take q).map dots) ∧ OwnOd w' (wo.heap.size + 2) fu (fixO at_.toNat (new.take q)) (bareRows (fixO at_.toNat (new.take q))) ∧ Hid (∀ g, fu.ownBlock = some g → u.ownBlock ≠ some g) ∧ Hid (Below wo.heap.size wo w')) (fun _ i _ => m - (intOf i).toNat)
        case atStart => exact ⟨0, _, .slice none 0 0, rfl, rfl, by omega, HXB, HYB, OwnV.nil_, OwnOd.nil_, Lib.hid (fun g e => by simp [Value.ownBlock] at e), HBY⟩
        case round =>
          obtain ⟨q, fu, u, rfl, rfl, hq, HXC, HYC, hou, hof, HAP, HBC⟩ := hrel
          have x0 : wr.cell? ⟨wo.heap.size, 0, none⟩ = some (.int .i64 at_) := by have := HXC.out; simp [World.cell?, this]
          have y0 : wr.cell? ⟨wo.heap.size + 1, 0, none⟩ = some (.int .i64 1) := by have := HYC.out; simp [World.cell?, this]
          have y1 : wr.cell? ⟨wo.heap.size + 1, 1, none⟩ = some (.int .i64 at_) := by have := HYC.out; simp [World.cell?, this]
          have y2 : wr.cell? ⟨wo.heap.size + 1, 2, none⟩ = some (.int .i64 at_) := by have := HYC.out; simp [World.cell?, this]
          have y3 : wr.cell? ⟨wo.heap.size + 1, 3, none⟩ = some u := by have := HYC.out; simp [World.cell?, this]
          have fy : ∀ j, wr.frozen? ⟨wo.heap.size + 1, j, none⟩ = false := fun j => by have := HYC.out; simp [World.frozen?, this]
          have HSW := Lib.hid (show wo.heap.size + 2 ≤ wr.heap.size from (Array.getElem?_eq_some_iff.1 HYC.out).1)
          have HSO := Lib.hid (show w.heap.size ≤ wo.heap.size from HB.out.size)
          have HLQ := Lib.hid (show ((new.take q).map dots).length = q by rw [List.length_map, List.length_take, HM.out]; omega)
          obtain ⟨ua, uc, rfl, hu1, hu2⟩ := hou.form HLQ.out
          have HOU := Lib.hid hou
          have HOF := Lib.hid hof
          have HFB := Lib.hid (show ∀ g, BlkR fu (bareRows (fixO at_.toNat (new.take q))) g → fu.ownBlock = some g from fun g e => by
            unfold BlkR at e
            rw [bareRows_blocks (fixO_bare _ _), List.append_nil] at e
            simpa using e)
          have HFL := Lib.hid (show (fixO at_.toNat (new.take q)).length ≤ 40 by have h1 := fixO_len (new.take q) at_.toNat; rw [List.length_take] at h1; omega)
          clear hou hof
          by_cases hlq : q < m
          · obtain ⟨b2, of2, t, hbe2, hts, htm, htc⟩ := (hs1.below HBC.out).at_ hlq
            subst hbe2
            have HTS := Lib.hid (take_snoc hts)
            have sq1 : IntKind.i64.wrap (at_ + (q : Int)) = at_ + (q : Int) := by rw [IntKind.wrap_i64]; omega
            have sq2 : IntKind.i64.wrap (at_ + (q : Int) + 1) = at_ + (q : Int) + 1 := by rw [IntKind.wrap_i64]; omega
            have hq0 : (0 : Int) ≤ (q : Int) := by omega
            have hq1 : (q : Int) < (m : Int) := by omega
            cases hd : decide (t = dotA)
            · have hde : (t.toList == [46, 10]) = false := by rw [dot_bytes, hd]
              have HND := Lib.hid (show ¬ t = dotA by simpa using hd)
              have HD := Lib.hid (show dots t = t from if_neg HND.out)
              have HFS := Lib.hid (show fixO at_.toNat (new.take (q + 1)) = fixO at_.toNat (new.take q) by rw [HTS.out, fixO_snoc, if_neg HND.out, List.append_nil])
              have HUS := Lib.hid (show (new.take (q + 1)).map dots = (new.take q).map dots ++ [t] by rw [HTS.out, List.map_append, List.map_singleton, HD.out])
              have BA := Lib.hid (below_alloc wr (.cells #[.string t] 9))
              clear hd hts
              go_wp2_with (first
                | (at_builtin
                   refine app_strs (.tmp 68) (.tmp 70) (wo.heap.size + 2) (.slice ua q uc) ((new.take q).map dots) (HOU.out.below BA.out) (some ⟨wr.heap.size, 0, none⟩) 1 1 [t] (strs_one wr t htm) (by rw [HLQ.out]; omega) (Nat.le_trans HSW.out BA.out.size) rfl rfl rfl rfl ?_
                   intro v8 w8 o8 g8 p8
                   obtain ⟨q8, Hq8⟩ : ∃ q8, Hid (((new.take q).map dots ++ [t]).length = q8) := ⟨_, rfl⟩
                   obtain ⟨A8, k8, rfl, h81, h82⟩ := o8.form Hq8.out
                   have Y8 := Lib.hid ((g8.block _ (by have h1 := HSW.out; have h2 := BA.out.size; omega) (fun e => by have h1 := (HOU.out.lt e.symm).1; omega)).trans ((BA.out.block _ (by have h1 := HSW.out; omega)).trans HYC.out))
                   have X8 := Lib.hid ((g8.block _ (by have h1 := HSW.out; have h2 := BA.out.size; omega) (fun e => by have h1 := (HOU.out.lt e.symm).1; omega)).trans ((BA.out.block _ (by have h1 := HSW.out; omega)).trans HXC.out))
                   have z3 : w8.cell? ⟨wo.heap.size + 1, 3, none⟩ = some (.slice ua q uc) := by have := Y8.out; simp [World.cell?, this]
                   have fz : ∀ j, w8.frozen? ⟨wo.heap.size + 1, j, none⟩ = false := fun j => by have := Y8.out; simp [World.frozen?, this]
                   have F8 := Lib.hid ((HOF.out.below BA.out).wrote (Wrote.of_grown g8 (fun _ e => e)) (fun g e e2 => HAP.out g (HFB.out g e) e2))
                   have AP8 := Lib.hid (show ∀ g, fu.ownBlock = some g → (Value.slice A8 q8 k8).ownBlock ≠ some g from fun g e e2 => by
                     rcases p8 with h | h
                     · rw [h] at e2; exact HAP.out g e e2
                     · rw [h] at e2; injection e2 with e2; have h1 := (HOF.out.lt (blk_ownE e)).2; have h2 := BA.out.size; omega)
                   have B8 := Lib.hid (Below.grown (HBC.out.next BA.out) g8 (by have h1 := HSW.out; have h2 := BA.out.size; omega) (fun b e => by have h1 := (HOU.out.lt e).1; omega))
                   have O8 := Lib.hid o8
                   clear o8 g8 p8)
                | fail)
              go_roundw
              case rel => exact ⟨q + 1, _, _, by go_num, rfl, by omega, Lib.hid (heap_set_otherO X8.out (by simp)), Lib.hid (by rw [heap_set_sameO Y8.out]; rfl), by rw [HUS.out]; exact O8.out.wrote (Wrote.set (fun i => i = wo.heap.size + 1) w8 _ _ rfl) (fun g e e2 => by have := (O8.out.lt e).1; omega), by rw [HFS.out]; exact F8.out.wrote (Wrote.set (fun i => i = wo.heap.size + 1) w8 _ _ rfl) (fun g e e2 => by have := (F8.out.lt e).1; omega), AP8, Lib.hid (B8.out.setCell (by simp) _)⟩
              case measure => simp [intOf]; omega
            · have hde : (t.toList == [46, 10]) = true := by rw [dot_bytes, hd]
              have HDT := Lib.hid (show t = dotA by simpa using hd)
              have HD := Lib.hid (show dots t = (⟨#[46, 46, 10]⟩ : ByteArray) from if_pos HDT.out)
              have HFS := Lib.hid (show fixO at_.toNat (new.take (q + 1)) = fixO at_.toNat (new.take q) ++ [⟨5, at_ + (q : Int) + 1, at_ + (q : Int) + 1, []⟩] by
                rw [HTS.out, fixO_snoc, if_pos HDT.out]
                have e : ((at_.toNat + (new.take q).length : Nat) : Int) = at_ + (q : Int) := by rw [List.length_take, HM.out]; omega
                rw [e])
              have HUS := Lib.hid (show (new.take (q + 1)).map dots = (new.take q).map dots ++ [(⟨#[46, 46, 10]⟩ : ByteArray)] by rw [HTS.out, List.map_append, List.map_singleton, HD.out])
              have BO := Lib.hid (below_alloc wr (.cells #[.int .i64 5, .int .i64 (at_ + (q : Int) + 1), .int .i64 (at_ + (q : Int) + 1), .slice none 0 0] 78))
              have HOK5 := Lib.hid (show OdOk ⟨5, at_ + (q : Int) + 1, at_ + (q : Int) + 1, []⟩ from ⟨⟨by dsimp only; omega, by dsimp only; omega⟩, ⟨by dsimp only; omega, by dsimp only; omega⟩, ⟨by dsimp only; omega, by dsimp only; omega⟩, fun s h => by simp at h⟩)
              clear hd hts
              go_wp2_with (first
                | (at_builtin
                   refine wpList_od (.tmp 53) (.tmp 65) (wo.heap.size + 2) fu (fixO at_.toNat (new.take q)) _ (HOF.out.below BO.out) ⟨5, at_ + (q : Int) + 1, at_ + (q : Int) + 1, []⟩ HOK5.out (.slice none 0 0) OwnV.nil_ (fun g e => by simp [Value.ownBlock] at e) wr.heap.size (by simp) (by simp) (by simp) (by simp) (by have := HFL.out; omega) (Nat.le_trans HSW.out BO.out.size) rfl rfl rfl rfl ?_
                   intro v7 w7 o7 g7 p7
                   have Y7 := Lib.hid ((g7.block _ (by have h1 := HSW.out; have h2 := BO.out.size; omega) (fun e => by have h1 := (HOF.out.lt (blk_ownE e.symm)).1; omega)).trans ((BO.out.block _ (by have h1 := HSW.out; omega)).trans HYC.out))
                   have X7 := Lib.hid ((g7.block _ (by have h1 := HSW.out; have h2 := BO.out.size; omega) (fun e => by have h1 := (HOF.out.lt (blk_ownE e.symm)).1; omega)).trans ((BO.out.block _ (by have h1 := HSW.out; omega)).trans HXC.out))
                   have z3 : w7.cell? ⟨wo.heap.size + 1, 3, none⟩ = some (.slice ua q uc) := by have := Y7.out; simp [World.cell?, this]
                   have U7 := Lib.hid ((HOU.out.below BO.out).wrote (Wrote.of_grown g7 (fun _ e => e)) (fun g e e2 => HAP.out g e2 e))
                   have AP7 := Lib.hid (show ∀ g, v7.ownBlock = some g → (Value.slice ua q uc).ownBlock ≠ some g from fun g e e2 => by
                     rcases p7 with h | h
                     · rw [h] at e; exact HAP.out g e e2
                     · rw [h] at e; injection e with e; have h1 := (HOU.out.lt e2).2; have h2 := BO.out.size; omega)
                   have B7 := Lib.hid (Below.grown (HBC.out.next BO.out) g7 (by have h1 := HSW.out; have h2 := BO.out.size; omega) (fun b e => by have h1 := (HOF.out.lt (blk_ownE e)).1; omega))
                   have O7 := Lib.hid o7
                   have HS7 := Lib.hid (show wo.heap.size + 2 ≤ w7.heap.size from (Array.getElem?_eq_some_iff.1 Y7.out).1)
                   clear o7 g7 p7)
                | (at_builtin
                   refine app_strs (.tmp 68) (.tmp 70) (wo.heap.size + 2) (.slice ua q uc) ((new.take q).map dots) (U7.out.below (below_alloc _ _)) (some ⟨w7.heap.size, 0, none⟩) 1 1 [(⟨#[46, 46, 10]⟩ : ByteArray)] (strs_one w7 (⟨#[46, 46, 10]⟩ : ByteArray) (by decide)) (by rw [HLQ.out]; omega) (Nat.le_trans HS7.out (below_alloc _ _).size) rfl rfl rfl rfl ?_
                   intro v8 w8 o8 g8 p8
                   have BA := Lib.hid (below_alloc w7 (.cells #[.string (⟨#[46, 46, 10]⟩ : ByteArray)] 9))
                   obtain ⟨q8, Hq8⟩ : ∃ q8, Hid (((new.take q).map dots ++ [(⟨#[46, 46, 10]⟩ : ByteArray)]).length = q8) := ⟨_, rfl⟩
                   obtain ⟨A8, k8, rfl, h81, h82⟩ := o8.form Hq8.out
                   have Y8 := Lib.hid ((g8.block _ (by have h1 := HS7.out; have h2 := BA.out.size; omega) (fun e => by have h1 := (U7.out.lt e.symm).1; omega)).trans ((BA.out.block _ (by have h1 := HS7.out; omega)).trans Y7.out))
                   have X8 := Lib.hid ((g8.block _ (by have h1 := HS7.out; have h2 := BA.out.size; omega) (fun e => by have h1 := (U7.out.lt e.symm).1; omega)).trans ((BA.out.block _ (by have h1 := HS7.out; omega)).trans X7.out))
                   have z38 : w8.cell? ⟨wo.heap.size + 1, 3, none⟩ = some (.slice ua q uc) := by have := Y8.out; simp [World.cell?, this]
                   have fz8 : ∀ j, w8.frozen? ⟨wo.heap.size + 1, j, none⟩ = false := fun j => by have := Y8.out; simp [World.frozen?, this]
                   have HFB7 := Lib.hid (show ∀ g, BlkR v7 (bareRows (fixO at_.toNat (new.take (q + 1)))) g → v7.ownBlock = some g from fun g e => by
                     unfold BlkR at e
                     rw [bareRows_blocks (fixO_bare _ _), List.append_nil] at e
                     simpa using e)
                   have O7' := Lib.hid (show OwnOd w7 (wo.heap.size + 2) v7 (fixO at_.toNat (new.take (q + 1))) (bareRows (fixO at_.toNat (new.take (q + 1)))) by rw [HFS.out, bareRows_snoc]; exact O7.out)
                   have F8 := Lib.hid ((O7'.out.below BA.out).wrote (Wrote.of_grown g8 (fun _ e => e)) (fun g e e2 => AP7.out g (HFB7.out g e) e2))
                   have AP8 := Lib.hid (show ∀ g, v7.ownBlock = some g → (Value.slice A8 q8 k8).ownBlock ≠ some g from fun g e e2 => by
                     rcases p8 with h | h
                     · rw [h] at e2; exact AP7.out g e e2
                     · rw [h] at e2; injection e2 with e2; have h1 := (O7'.out.lt (blk_ownE e)).2; have h2 := BA.out.size; omega)
                   have B8 := Lib.hid (Below.grown (B7.out.next BA.out) g8 (by have h1 := HS7.out; have h2 := BA.out.size; omega) (fun b e => by have h1 := (U7.out.lt e).1; omega))
                   have O8 := Lib.hid o8
                   clear o8 g8 p8)
                | fail)
              go_roundw
              case rel => exact ⟨q + 1, _, _, by go_num, rfl, by omega, Lib.hid (heap_set_otherO X8.out (by simp)), Lib.hid (by rw [heap_set_sameO Y8.out]; rfl), by rw [HUS.out]; exact O8.out.wrote (Wrote.set (fun i => i = wo.heap.size + 1) w8 _ _ rfl) (fun g e e2 => by have := (O8.out.lt e).1; omega), F8.out.wrote (Wrote.set (fun i => i = wo.heap.size + 1) w8 _ _ rfl) (fun g e e2 => by have := (F8.out.lt e).1; omega), AP8, Lib.hid (B8.out.setCell (by simp) _)⟩
              case measure => simp [intOf]; omega
          · have HQM := Lib.hid (show new.take q = new from List.take_of_length_le (by rw [HM.out]; omega))
            have hqm : q = m := by omega
            subst hqm
            have HOU' := Lib.hid (show OwnV wr (wo.heap.size + 2) (.slice ua q uc) (new.map dots) by have := HOU.out; rwa [HQM.out] at this)
            have HOF' := Lib.hid (show OwnOd wr (wo.heap.size + 2) fu (fixO at_.toNat new) (bareRows (fixO at_.toNat new)) by have := HOF.out; rwa [HQM.out] at this)
            have HFB' := Lib.hid (show ∀ g, BlkR fu (bareRows (fixO at_.toNat new)) g → fu.ownBlock = some g by have := HFB.out; rwa [HQM.out] at this)
            have HFL' := Lib.hid (show (fixO at_.toNat new).length ≤ 40 by have := HFL.out; rwa [HQM.out] at this)
            obtain ⟨fm, HFM⟩ : ∃ fm, Hid ((fixO at_.toNat new).length = fm) := ⟨_, rfl⟩
            obtain ⟨fA, fc, rfl, hf1, hf2⟩ := HOF'.out.form HFM.out
            have OUTR := Lib.hid (HO.out.below HBC.out)
            have BY := Lib.hid (below_alloc wr (.cells #[.int .i64 1, .int .i64 at_, .int .i64 at_, .slice ua q uc] 78))
            have HOKY := Lib.hid (show OdOk ⟨1, at_, at_, new.map dots⟩ from ⟨⟨by dsimp only; omega, by dsimp only; omega⟩, ⟨by dsimp only; omega, by dsimp only; omega⟩, ⟨by dsimp only; omega, by dsimp only; omega⟩, HOU'.out.small⟩)
            have HVL := Lib.hid (show ∀ g, BlkR v rows g → g < wo.heap.size from fun g e => (HO.out.lt e).2)
            have HUB := Lib.hid (show ∀ g, (Value.slice ua q uc).ownBlock = some g → ¬ BlkR v rows g from fun g e e2 => by have h1 := (HOU'.out.lt e).1; have h2 := HVL.out g e2; omega)
            have HED := Lib.hid (show (edO (hs.drop (k + 1))).length ≤ 820 by have h1 := HLN2.out; have : (n - (k + 1)) * 41 ≤ 20 * 41 := Nat.mul_le_mul_right _ (by omega); omega)
            have HBO := Lib.hid (show Below w.heap.size w wr from HB.out.next HBC.out)
            have hwk : IntKind.i64.wrap ((k : Int) - 1) = (k : Int) - 1 := by rw [IntKind.wrap_i64]; omega
            clear hlq
            go_wp2_with (first
              | (at_builtin
                 refine wpList_od (.tmp 74) (.tmp 76) w.heap.size v (edO (hs.drop (k + 1))) rows (OUTR.out.below BY.out) ⟨1, at_, at_, new.map dots⟩ HOKY.out (.slice ua q uc) ((HOU'.out.more (show w.heap.size ≤ wo.heap.size + 2 by have := HSO.out; omega)).below BY.out) HUB.out wr.heap.size (by simp) (by simp) (by simp) (by simp) (by have := HED.out; omega) (HBO.out.next BY.out).size rfl rfl rfl rfl ?_
                 intro v9 w9 o9 g9 p9
                 have F9 := Lib.hid ((HOF'.out.below BY.out).wrote (Wrote.of_grown g9 (fun _ e => e)) (fun g e e2 => by have h1 := (HOF'.out.lt e).1; have h2 := HVL.out g (blk_ownE e2); omega))
                 have B9 := Lib.hid (Below.grown (HBO.out.next BY.out) g9 (HBO.out.next BY.out).size (fun b e => (OUTR.out.lt (blk_ownE e)).1))
                 have O9 := Lib.hid o9
                 clear o9 g9 p9)
              | (at_builtin
                 refine wpList_bare (.tmp 77) (.tmp 78) w.heap.size (wo.heap.size + 2) v9 _ _ O9.out fA fm fc (fixO at_.toNat new) F9.out (fixO_bare _ _) (by rw [List.length_append, List.length_singleton]; have h1 := HED.out; have h2 := HFL'.out; have h3 := HFM.out; omega) B9.out.size rfl rfl rfl rfl ?_
                 intro v10 w10 o10 g10 p10
                 have B10 := Lib.hid (Below.grown B9.out g10 B9.out.size (fun b e => (O9.out.lt (blk_ownE e)).1))
                 have O10 := Lib.hid o10
                 clear o10 g10 p10)
              | fail)
            go_roundw
            case rel =>
              have HEQ : edO (hs.drop k) = (edO (hs.drop (k + 1)) ++ [⟨1, at_, at_, new.map dots⟩]) ++ fixO at_.toNat new := by
                rw [HSTEP.out]; unfold edOne; rw [HMO.out]; simp
              refine ⟨k, v10, _, rfl, rfl, by omega, by rw [HEQ]; exact O10.out, Lib.hid ?_, B10.out⟩
              rw [HEQ, List.length_append, List.length_append, List.length_singleton]
              have h1 := HLN2.out
              have h2 := HFL'.out
              have h3 : (n - k) * 41 = (n - (k + 1)) * 41 + 41 := by rw [show n - k = (n - (k + 1)) + 1 by omega, Nat.add_mul, Nat.one_mul]
              omega
            case measure => simp [intOf]
      · by_cases hm0 : m = 0
        · have HGO := Lib.hid hg0
          have HM0 := Lib.hid hm0
          have hgb : (gone == 0) = false := by simp [hg0]
          have hmb : ((m : Int) == 0) = true := by simp [hm0]
          clear hg0 hm0
          obtain ⟨YW, HYW⟩ : ∃ YW, Hid (YW = (wo.alloc (.cells #[.int .i64 at_, .int .i64 gone, .slice A m cm] 105)).alloc (.cells #[.int .i64 4, .int .i64 (at_ + 1), .int .i64 (at_ + gone), .slice none 0 0] 78)) := ⟨_, rfl⟩
          have HXB := Lib.hid (show YW.heap[wo.heap.size]? = some (.cells #[.int .i64 at_, .int .i64 gone, .slice A m cm] 105 (0, 0)) by
            rw [HYW.out, Below.heap_alloc _ _ _ (by simp)]; exact heap_at rfl)
          have HYB := Lib.hid (show YW.heap[wo.heap.size + 1]? = some (.cells #[.int .i64 4, .int .i64 (at_ + 1), .int .i64 (at_ + gone), .slice none 0 0] 78 (0, 0)) by
            rw [HYW.out]; exact heap_at (by simp))
          have HS2 := Lib.hid (show YW.heap.size = wo.heap.size + 2 by rw [HYW.out]; simp)
          have HBY := Lib.hid (show Below wo.heap.size wo YW by rw [HYW.out]; exact (below_alloc wo _).next (below_alloc _ _))
          have HMO := Lib.hid (show mainO ⟨at_, gone, new⟩ = ⟨4, (at_ + 1), (at_ + gone), new.map dots⟩ by unfold mainO mainK; simp only []; rw [if_neg HGO.out, if_neg HGO.out, if_pos (show new.length = 0 by rw [HM.out]; exact HM0.out)])
          go_wp2
          rw [← HYW.out]
          go_loopw [7, 46] (fun fv i w' => ∃ (q : Nat) (fu u : Value), i = .int .i64 q ∧ fu = fv ∧ q ≤ m ∧ Hid (w'.heap[wo.heap.size]? = some (.cells #[.int .i64 at_, .int .i64 gone, .slice A m cm] 105 (0, 0))) ∧ Hid (w'.heap[wo.heap.size + 1]? = some (.cells #[.int .i64 4, .int .i64 (at_ + 1), .int .i64 (at_ + gone), u] 78 (0, 0))) ∧ OwnV w' (wo.heap.size + 2) u ((new.take q).map dots) ∧ OwnOd w' (wo.heap.size + 2) fu (fixO at_.toNat (new.take q)) (bareRows (fixO at_.toNat (new.take q))) ∧ Hid (∀ g, fu.ownBlock = some g → u.ownBlock ≠ some g) ∧ Hid (Below wo.heap.size wo w')) (fun _ i _ => m - (intOf i).toNat)
          case atStart => exact ⟨0, _, .slice none 0 0, rfl, rfl, by omega, HXB, HYB, OwnV.nil_, OwnOd.nil_, Lib.hid (fun g e => by simp [Value.ownBlock] at e), HBY⟩
          case round =>
            obtain ⟨q, fu, u, rfl, rfl, hq, HXC, HYC, hou, hof, HAP, HBC⟩ := hrel
            have x0 : wr.cell? ⟨wo.heap.size, 0, none⟩ = some (.int .i64 at_) := by have := HXC.out; simp [World.cell?, this]
            have y0 : wr.cell? ⟨wo.heap.size + 1, 0, none⟩ = some (.int .i64 4) := by have := HYC.out; simp [World.cell?, this]
            have y1 : wr.cell? ⟨wo.heap.size + 1, 1, none⟩ = some (.int .i64 (at_ + 1)) := by have := HYC.out; simp [World.cell?, this]
            have y2 : wr.cell? ⟨wo.heap.size + 1, 2, none⟩ = some (.int .i64 (at_ + gone)) := by have := HYC.out; simp [World.cell?, this]
            have y3 : wr.cell? ⟨wo.heap.size + 1, 3, none⟩ = some u := by have := HYC.out; simp [World.cell?, this]
            have fy : ∀ j, wr.frozen? ⟨wo.heap.size + 1, j, none⟩ = false := fun j => by have := HYC.out; simp [World.frozen?, this]
            have HSW := Lib.hid (show wo.heap.size + 2 ≤ wr.heap.size from (Array.getElem?_eq_some_iff.1 HYC.out).1)
            have HSO := Lib.hid (show w.heap.size ≤ wo.heap.size from HB.out.size)
            have HLQ := Lib.hid (show ((new.take q).map dots).length = q by rw [List.length_map, List.length_take, HM.out]; omega)
            obtain ⟨ua, uc, rfl, hu1, hu2⟩ := hou.form HLQ.out
            have HOU := Lib.hid hou
            have HOF := Lib.hid hof
            have HFB := Lib.hid (show ∀ g, BlkR fu (bareRows (fixO at_.toNat (new.take q))) g → fu.ownBlock = some g from fun g e => by
              unfold BlkR at e
              rw [bareRows_blocks (fixO_bare _ _), List.append_nil] at e
              simpa using e)
            have HFL := Lib.hid (show (fixO at_.toNat (new.take q)).length ≤ 40 by have h1 := fixO_len (new.take q) at_.toNat; rw [List.length_take] at h1; omega)
            clear hou hof
            by_cases hlq : q < m
            · obtain ⟨b2, of2, t, hbe2, hts, htm, htc⟩ := (hs1.below HBC.out).at_ hlq
              subst hbe2
              have HTS := Lib.hid (take_snoc hts)
              have sq1 : IntKind.i64.wrap (at_ + (q : Int)) = at_ + (q : Int) := by rw [IntKind.wrap_i64]; omega
              have sq2 : IntKind.i64.wrap (at_ + (q : Int) + 1) = at_ + (q : Int) + 1 := by rw [IntKind.wrap_i64]; omega
              have hq0 : (0 : Int) ≤ (q : Int) := by omega
              have hq1 : (q : Int) < (m : Int) := by omega
              cases hd : decide (t = dotA)
              · have hde : (t.toList == [46, 10]) = false := by rw [dot_bytes, hd]
                have HND := Lib.hid (show ¬ t = dotA by simpa using hd)
                have HD := Lib.hid (show dots t = t from if_neg HND.out)
                have HFS := Lib.hid (show fixO at_.toNat (new.take (q + 1)) = fixO at_.toNat (new.take q) by rw [HTS.out, fixO_snoc, if_neg HND.out, List.append_nil])
                have HUS := Lib.hid (show (new.take (q + 1)).map dots = (new.take q).map dots ++ [t] by rw [HTS.out, List.map_append, List.map_singleton, HD.out])
                have BA := Lib.hid (below_alloc wr (.cells #[.string t] 9))
                clear hd hts
                go_wp2_with (first
                  | (at_builtin
                     refine app_strs (.tmp 68) (.tmp 70) (wo.heap.size + 2) (.slice ua q uc) ((new.take q).map dots) (HOU.out.below BA.out) (some ⟨wr.heap.size, 0, none⟩) 1 1 [t] (strs_one wr t htm) (by rw [HLQ.out]; omega) (Nat.le_trans HSW.out BA.out.size) rfl rfl rfl rfl ?_
                     intro v8 w8 o8 g8 p8
                     obtain ⟨q8, Hq8⟩ : ∃ q8, Hid (((new.take q).map dots ++ [t]).length = q8) := ⟨_, rfl⟩
                     obtain ⟨A8, k8, rfl, h81, h82⟩ := o8.form Hq8.out
                     have Y8 := Lib.hid ((g8.block _ (by have h1 := HSW.out; have h2 := BA.out.size; omega) (fun e => by have h1 := (HOU.out.lt e.symm).1; omega)).trans ((BA.out.block _ (by have h1 := HSW.out; omega)).trans HYC.out))
                     have X8 := Lib.hid ((g8.block _ (by have h1 := HSW.out; have h2 := BA.out.size; omega) (fun e => by have h1 := (HOU.out.lt e.symm).1; omega)).trans ((BA.out.block _ (by have h1 := HSW.out; omega)).trans HXC.out))
                     have z3 : w8.cell? ⟨wo.heap.size + 1, 3, none⟩ = some (.slice ua q uc) := by have := Y8.out; simp [World.cell?, this]
                     have fz : ∀ j, w8.frozen? ⟨wo.heap.size + 1, j, none⟩ = false := fun j => by have := Y8.out; simp [World.frozen?, this]
                     have F8 := Lib.hid ((HOF.out.below BA.out).wrote (Wrote.of_grown g8 (fun _ e => e)) (fun g e e2 => HAP.out g (HFB.out g e) e2))
                     have AP8 := Lib.hid (show ∀ g, fu.ownBlock = some g → (Value.slice A8 q8 k8).ownBlock ≠ some g from fun g e e2 => by
                       rcases p8 with h | h
                       · rw [h] at e2; exact HAP.out g e e2
                       · rw [h] at e2; injection e2 with e2; have h1 := (HOF.out.lt (blk_ownE e)).2; have h2 := BA.out.size; omega)
                     have B8 := Lib.hid (Below.grown (HBC.out.next BA.out) g8 (by have h1 := HSW.out; have h2 := BA.out.size; omega) (fun b e => by have h1 := (HOU.out.lt e).1; omega))
                     have O8 := Lib.hid o8
                     clear o8 g8 p8)
                  | fail)
                go_roundw
                case rel => exact ⟨q + 1, _, _, by go_num, rfl, by omega, Lib.hid (heap_set_otherO X8.out (by simp)), Lib.hid (by rw [heap_set_sameO Y8.out]; rfl), by rw [HUS.out]; exact O8.out.wrote (Wrote.set (fun i => i = wo.heap.size + 1) w8 _ _ rfl) (fun g e e2 => by have := (O8.out.lt e).1; omega), by rw [HFS.out]; exact F8.out.wrote (Wrote.set (fun i => i = wo.heap.size + 1) w8 _ _ rfl) (fun g e e2 => by have := (F8.out.lt e).1; omega), AP8, Lib.hid (B8.out.setCell (by simp) _)⟩
                case measure => simp [intOf]; omega
              · have hde : (t.toList == [46, 10]) = true := by rw [dot_bytes, hd]
                have HDT := Lib.hid (show t = dotA by simpa using hd)
                have HD := Lib.hid (show dots t = (⟨#[46, 46, 10]⟩ : ByteArray) from if_pos HDT.out)
                have HFS := Lib.hid (show fixO at_.toNat (new.take (q + 1)) = fixO at_.toNat (new.take q) ++ [⟨5, at_ + (q : Int) + 1, at_ + (q : Int) + 1, []⟩] by
                  rw [HTS.out, fixO_snoc, if_pos HDT.out]
                  have e : ((at_.toNat + (new.take q).length : Nat) : Int) = at_ + (q : Int) := by rw [List.length_take, HM.out]; omega
                  rw [e])
                have HUS := Lib.hid (show (new.take (q + 1)).map dots = (new.take q).map dots ++ [(⟨#[46, 46, 10]⟩ : ByteArray)] by rw [HTS.out, List.map_append, List.map_singleton, HD.out])
                have BO := Lib.hid (below_alloc wr (.cells #[.int .i64 5, .int .i64 (at_ + (q : Int) + 1), .int .i64 (at_ + (q : Int) + 1), .slice none 0 0] 78))
                have HOK5 := Lib.hid (show OdOk ⟨5, at_ + (q : Int) + 1, at_ + (q : Int) + 1, []⟩ from ⟨⟨by dsimp only; omega, by dsimp only; omega⟩, ⟨by dsimp only; omega, by dsimp only; omega⟩, ⟨by dsimp only; omega, by dsimp only; omega⟩, fun s h => by simp at h⟩)
                clear hd hts
                go_wp2_with (first
                  | (at_builtin
                     refine wpList_od (.tmp 53) (.tmp 65) (wo.heap.size + 2) fu (fixO at_.toNat (new.take q)) _ (HOF.out.below BO.out) ⟨5, at_ + (q : Int) + 1, at_ + (q : Int) + 1, []⟩ HOK5.out (.slice none 0 0) OwnV.nil_ (fun g e => by simp [Value.ownBlock] at e) wr.heap.size (by simp) (by simp) (by simp) (by simp) (by have := HFL.out; omega) (Nat.le_trans HSW.out BO.out.size) rfl rfl rfl rfl ?_
                     intro v7 w7 o7 g7 p7
                     have Y7 := Lib.hid ((g7.block _ (by have h1 := HSW.out; have h2 := BO.out.size; omega) (fun e => by have h1 := (HOF.out.lt (blk_ownE e.symm)).1; omega)).trans ((BO.out.block _ (by have h1 := HSW.out; omega)).trans HYC.out))
                     have X7 := Lib.hid ((g7.block _ (by have h1 := HSW.out; have h2 := BO.out.size; omega) (fun e => by have h1 := (HOF.out.lt (blk_ownE e.symm)).1; omega)).trans ((BO.out.block _ (by have h1 := HSW.out; omega)).trans HXC.out))
                     have z3 : w7.cell? ⟨wo.heap.size + 1, 3, none⟩ = some (.slice ua q uc) := by have := Y7.out; simp [World.cell?, this]
                     have U7 := Lib.hid ((HOU.out.below BO.out).wrote (Wrote.of_grown g7 (fun _ e => e)) (fun g e e2 => HAP.out g e2 e))
                     have AP7 := Lib.hid (show ∀ g, v7.ownBlock = some g → (Value.slice ua q uc).ownBlock ≠ some g from fun g e e2 => by
                       rcases p7 with h | h
                       · rw [h] at e; exact HAP.out g e e2
                       · rw [h] at e; injection e with e; have h1 := (HOU.out.lt e2).2; have h2 := BO.out.size; omega)
                     have B7 := Lib.hid (Below.grown (HBC.out.next BO.out) g7 (by have h1 := HSW.out; have h2 := BO.out.size; omega) (fun b e => by have h1 := (HOF.out.lt (blk_ownE e)).1; omega))
                     have O7 := Lib.hid o7
                     have HS7 := Lib.hid (show wo.heap.size + 2 ≤ w7.heap.size from (Array.getElem?_eq_some_iff.1 Y7.out).1)
                     clear o7 g7 p7)
                  | (at_builtin
                     refine app_strs (.tmp 68) (.tmp 70) (wo.heap.size + 2) (.slice ua q uc) ((new.take q).map dots) (U7.out.below (below_alloc _ _)) (some ⟨w7.heap.size, 0, none⟩) 1 1 [(⟨#[46, 46, 10]⟩ : ByteArray)] (strs_one w7 (⟨#[46, 46, 10]⟩ : ByteArray) (by decide)) (by rw [HLQ.out]; omega) (Nat.le_trans HS7.out (below_alloc _ _).size) rfl rfl rfl rfl ?_
                     intro v8 w8 o8 g8 p8
                     have BA := Lib.hid (below_alloc w7 (.cells #[.string (⟨#[46, 46, 10]⟩ : ByteArray)] 9))
                     obtain ⟨q8, Hq8⟩ : ∃ q8, Hid (((new.take q).map dots ++ [(⟨#[46, 46, 10]⟩ : ByteArray)]).length = q8) := ⟨_, rfl⟩
                     obtain ⟨A8, k8, rfl, h81, h82⟩ := o8.form Hq8.out
                     have Y8 := Lib.hid ((g8.block _ (by have h1 := HS7.out; have h2 := BA.out.size; omega) (fun e => by have h1 := (U7.out.lt e.symm).1; omega)).trans ((BA.out.block _ (by have h1 := HS7.out; omega)).trans Y7.out))
                     have X8 := Lib.hid ((g8.block _ (by have h1 := HS7.out; have h2 := BA.out.size; omega) (fun e => by have h1 := (U7.out.lt e.symm).1; omega)).trans ((BA.out.block _ (by have h1 := HS7.out; omega)).trans X7.out))
                     have z38 : w8.cell? ⟨wo.heap.size + 1, 3, none⟩ = some (.slice ua q uc) := by have := Y8.out; simp [World.cell?, this]
                     have fz8 : ∀ j, w8.frozen? ⟨wo.heap.size + 1, j, none⟩ = false := fun j => by have := Y8.out; simp [World.frozen?, this]
                     have HFB7 := Lib.hid (show ∀ g, BlkR v7 (bareRows (fixO at_.toNat (new.take (q + 1)))) g → v7.ownBlock = some g from fun g e => by
                       unfold BlkR at e
                       rw [bareRows_blocks (fixO_bare _ _), List.append_nil] at e
                       simpa using e)
                     have O7' := Lib.hid (show OwnOd w7 (wo.heap.size + 2) v7 (fixO at_.toNat (new.take (q + 1))) (bareRows (fixO at_.toNat (new.take (q + 1)))) by rw [HFS.out, bareRows_snoc]; exact O7.out)
                     have F8 := Lib.hid ((O7'.out.below BA.out).wrote (Wrote.of_grown g8 (fun _ e => e)) (fun g e e2 => AP7.out g (HFB7.out g e) e2))
                     have AP8 := Lib.hid (show ∀ g, v7.ownBlock = some g → (Value.slice A8 q8 k8).ownBlock ≠ some g from fun g e e2 => by
                       rcases p8 with h | h
                       · rw [h] at e2; exact AP7.out g e e2
                       · rw [h] at e2; injection e2 with e2; have h1 := (O7'.out.lt (blk_ownE e)).2; have h2 := BA.out.size; omega)
                     have B8 := Lib.hid (Below.grown (B7.out.next BA.out) g8 (by have h1 := HS7.out; have h2 := BA.out.size; omega) (fun b e => by have h1 := (U7.out.lt e).1; omega))
                     have O8 := Lib.hid o8
                     clear o8 g8 p8)
                  | fail)
                go_roundw
                case rel => exact ⟨q + 1, _, _, by go_num, rfl, by omega, Lib.hid (heap_set_otherO X8.out (by simp)), Lib.hid (by rw [heap_set_sameO Y8.out]; rfl), by rw [HUS.out]; exact O8.out.wrote (Wrote.set (fun i => i = wo.heap.size + 1) w8 _ _ rfl) (fun g e e2 => by have := (O8.out.lt e).1; omega), F8.out.wrote (Wrote.set (fun i => i = wo.heap.size + 1) w8 _ _ rfl) (fun g e e2 => by have := (F8.out.lt e).1; omega), AP8, Lib.hid (B8.out.setCell (by simp) _)⟩
                case measure => simp [intOf]; omega
            · have HQM := Lib.hid (show new.take q = new from List.take_of_length_le (by rw [HM.out]; omega))
              have hqm : q = m := by omega
              subst hqm
              have HOU' := Lib.hid (show OwnV wr (wo.heap.size + 2) (.slice ua q uc) (new.map dots) by have := HOU.out; rwa [HQM.out] at this)
              have HOF' := Lib.hid (show OwnOd wr (wo.heap.size + 2) fu (fixO at_.toNat new) (bareRows (fixO at_.toNat new)) by have := HOF.out; rwa [HQM.out] at this)
              have HFB' := Lib.hid (show ∀ g, BlkR fu (bareRows (fixO at_.toNat new)) g → fu.ownBlock = some g by have := HFB.out; rwa [HQM.out] at this)
              have HFL' := Lib.hid (show (fixO at_.toNat new).length ≤ 40 by have := HFL.out; rwa [HQM.out] at this)
              obtain ⟨fm, HFM⟩ : ∃ fm, Hid ((fixO at_.toNat new).length = fm) := ⟨_, rfl⟩
              obtain ⟨fA, fc, rfl, hf1, hf2⟩ := HOF'.out.form HFM.out
              have OUTR := Lib.hid (HO.out.below HBC.out)
              have BY := Lib.hid (below_alloc wr (.cells #[.int .i64 4, .int .i64 (at_ + 1), .int .i64 (at_ + gone), .slice ua q uc] 78))
              have HOKY := Lib.hid (show OdOk ⟨4, (at_ + 1), (at_ + gone), new.map dots⟩ from ⟨⟨by dsimp only; omega, by dsimp only; omega⟩, ⟨by dsimp only; omega, by dsimp only; omega⟩, ⟨by dsimp only; omega, by dsimp only; omega⟩, HOU'.out.small⟩)
              have HVL := Lib.hid (show ∀ g, BlkR v rows g → g < wo.heap.size from fun g e => (HO.out.lt e).2)
              have HUB := Lib.hid (show ∀ g, (Value.slice ua q uc).ownBlock = some g → ¬ BlkR v rows g from fun g e e2 => by have h1 := (HOU'.out.lt e).1; have h2 := HVL.out g e2; omega)
              have HED := Lib.hid (show (edO (hs.drop (k + 1))).length ≤ 820 by have h1 := HLN2.out; have : (n - (k + 1)) * 41 ≤ 20 * 41 := Nat.mul_le_mul_right _ (by omega); omega)
              have HBO := Lib.hid (show Below w.heap.size w wr from HB.out.next HBC.out)
              have hwk : IntKind.i64.wrap ((k : Int) - 1) = (k : Int) - 1 := by rw [IntKind.wrap_i64]; omega
              clear hlq
              go_wp2_with (first
                | (at_builtin
                   refine wpList_od (.tmp 74) (.tmp 76) w.heap.size v (edO (hs.drop (k + 1))) rows (OUTR.out.below BY.out) ⟨4, (at_ + 1), (at_ + gone), new.map dots⟩ HOKY.out (.slice ua q uc) ((HOU'.out.more (show w.heap.size ≤ wo.heap.size + 2 by have := HSO.out; omega)).below BY.out) HUB.out wr.heap.size (by simp) (by simp) (by simp) (by simp) (by have := HED.out; omega) (HBO.out.next BY.out).size rfl rfl rfl rfl ?_
                   intro v9 w9 o9 g9 p9
                   have F9 := Lib.hid ((HOF'.out.below BY.out).wrote (Wrote.of_grown g9 (fun _ e => e)) (fun g e e2 => by have h1 := (HOF'.out.lt e).1; have h2 := HVL.out g (blk_ownE e2); omega))
                   have B9 := Lib.hid (Below.grown (HBO.out.next BY.out) g9 (HBO.out.next BY.out).size (fun b e => (OUTR.out.lt (blk_ownE e)).1))
                   have O9 := Lib.hid o9
                   clear o9 g9 p9)
                | (at_builtin
                   refine wpList_bare (.tmp 77) (.tmp 78) w.heap.size (wo.heap.size + 2) v9 _ _ O9.out fA fm fc (fixO at_.toNat new) F9.out (fixO_bare _ _) (by rw [List.length_append, List.length_singleton]; have h1 := HED.out; have h2 := HFL'.out; have h3 := HFM.out; omega) B9.out.size rfl rfl rfl rfl ?_
                   intro v10 w10 o10 g10 p10
                   have B10 := Lib.hid (Below.grown B9.out g10 B9.out.size (fun b e => (O9.out.lt (blk_ownE e)).1))
                   have O10 := Lib.hid o10
                   clear o10 g10 p10)
                | fail)
              go_roundw
              case rel =>
                have HEQ : edO (hs.drop k) = (edO (hs.drop (k + 1)) ++ [⟨4, (at_ + 1), (at_ + gone), new.map dots⟩]) ++ fixO at_.toNat new := by
                  rw [HSTEP.out]; unfold edOne; rw [HMO.out]; simp
                refine ⟨k, v10, _, rfl, rfl, by omega, by rw [HEQ]; exact O10.out, Lib.hid ?_, B10.out⟩
                rw [HEQ, List.length_append, List.length_append, List.length_singleton]
                have h1 := HLN2.out
                have h2 := HFL'.out
                have h3 : (n - k) * 41 = (n - (k + 1)) * 41 + 41 := by rw [show n - k = (n - (k + 1)) + 1 by omega, Nat.add_mul, Nat.one_mul]
                omega
              case measure => simp [intOf]
        · have HGO := Lib.hid hg0
          have HM0 := Lib.hid hm0
          have hgb : (gone == 0) = false := by simp [hg0]
          have hmb : ((m : Int) == 0) = false := by simp; omega
          clear hg0 hm0
          obtain ⟨YW, HYW⟩ : ∃ YW, Hid (YW = (wo.alloc (.cells #[.int .i64 at_, .int .i64 gone, .slice A m cm] 105)).alloc (.cells #[.int .i64 3, .int .i64 (at_ + 1), .int .i64 (at_ + gone), .slice none 0 0] 78)) := ⟨_, rfl⟩
          have HXB := Lib.hid (show YW.heap[wo.heap.size]? = some (.cells #[.int .i64 at_, .int .i64 gone, .slice A m cm] 105 (0, 0)) by
            rw [HYW.out, Below.heap_alloc _ _ _ (by simp)]; exact heap_at rfl)
          have HYB := Lib.hid (show YW.heap[wo.heap.size + 1]? = some (.cells #[.int .i64 3, .int .i64 (at_ + 1), .int .i64 (at_ + gone), .slice none 0 0] 78 (0, 0)) by
            rw [HYW.out]; exact heap_at (by simp))
          have HS2 := Lib.hid (show YW.heap.size = wo.heap.size + 2 by rw [HYW.out]; simp)
          have HBY := Lib.hid (show Below wo.heap.size wo YW by rw [HYW.out]; exact (below_alloc wo _).next (below_alloc _ _))
          have HMO := Lib.hid (show mainO ⟨at_, gone, new⟩ = ⟨3, (at_ + 1), (at_ + gone), new.map dots⟩ by unfold mainO mainK; simp only []; rw [if_neg HGO.out, if_neg HGO.out, if_neg (show ¬ new.length = 0 by rw [HM.out]; exact HM0.out)])
          go_wp2
          rw [← HYW.out]
          go_loopw [7, 46] (fun fv i w' => ∃ (q : Nat) (fu u : Value), i = .int .i64 q ∧ fu = fv ∧ q ≤ m ∧ Hid (w'.heap[wo.heap.size]? = some (.cells #[.int .i64 at_, .int .i64 gone, .slice A m cm] 105 (0, 0))) ∧ Hid (w'.heap[wo.heap.size + 1]? = some (.cells #[.int .i64 3, .int .i64 (at_ + 1), .int .i64 (at_ + gone), u] 78 (0, 0))) ∧ OwnV w' (wo.heap.size + 2) u ((new.take q).map dots) ∧ OwnOd w' (wo.heap.size + 2) fu (fixO at_.toNat (new.take q)) (bareRows (fixO at_.toNat (new.take q))) ∧ Hid (∀ g, fu.ownBlock = some g → u.ownBlock ≠ some g) ∧ Hid (Below wo.heap.size wo w')) (fun _ i _ => m - (intOf i).toNat)
          case atStart => exact ⟨0, _, .slice none 0 0, rfl, rfl, by omega, HXB, HYB, OwnV.nil_, OwnOd.nil_, Lib.hid (fun g e => by simp [Value.ownBlock] at e), HBY⟩
          case round =>
            obtain ⟨q, fu, u, rfl, rfl, hq, HXC, HYC, hou, hof, HAP, HBC⟩ := hrel
            have x0 : wr.cell? ⟨wo.heap.size, 0, none⟩ = some (.int .i64 at_) := by have := HXC.out; simp [World.cell?, this]
            have y0 : wr.cell? ⟨wo.heap.size + 1, 0, none⟩ = some (.int .i64 3) := by have := HYC.out; simp [World.cell?, this]
            have y1 : wr.cell? ⟨wo.heap.size + 1, 1, none⟩ = some (.int .i64 (at_ + 1)) := by have := HYC.out; simp [World.cell?, this]
            have y2 : wr.cell? ⟨wo.heap.size + 1, 2, none⟩ = some (.int .i64 (at_ + gone)) := by have := HYC.out; simp [World.cell?, this]
            have y3 : wr.cell? ⟨wo.heap.size + 1, 3, none⟩ = some u := by have := HYC.out; simp [World.cell?, this]
            have fy : ∀ j, wr.frozen? ⟨wo.heap.size + 1, j, none⟩ = false := fun j => by have := HYC.out; simp [World.frozen?, this]
            have HSW := Lib.hid (show wo.heap.size + 2 ≤ wr.heap.size from (Array.getElem?_eq_some_iff.1 HYC.out).1)
            have HSO := Lib.hid (show w.heap.size ≤ wo.heap.size from HB.out.size)
            have HLQ := Lib.hid (show ((new.take q).map dots).length = q by rw [List.length_map, List.length_take, HM.out]; omega)
            obtain ⟨ua, uc, rfl, hu1, hu2⟩ := hou.form HLQ.out
            have HOU := Lib.hid hou
            have HOF := Lib.hid hof
            have HFB := Lib.hid (show ∀ g, BlkR fu (bareRows (fixO at_.toNat (new.take q))) g → fu.ownBlock = some g from fun g e => by
              unfold BlkR at e
              rw [bareRows_blocks (fixO_bare _ _), List.append_nil] at e
              simpa using e)
            have HFL := Lib.hid (show (fixO at_.toNat (new.take q)).length ≤ 40 by have h1 := fixO_len (new.take q) at_.toNat; rw [List.length_take] at h1; omega)
            clear hou hof
            by_cases hlq : q < m
            · obtain ⟨b2, of2, t, hbe2, hts, htm, htc⟩ := (hs1.below HBC.out).at_ hlq
              subst hbe2
              have HTS := Lib.hid (take_snoc hts)
              have sq1 : IntKind.i64.wrap (at_ + (q : Int)) = at_ + (q : Int) := by rw [IntKind.wrap_i64]; omega
              have sq2 : IntKind.i64.wrap (at_ + (q : Int) + 1) = at_ + (q : Int) + 1 := by rw [IntKind.wrap_i64]; omega
              have hq0 : (0 : Int) ≤ (q : Int) := by omega
              have hq1 : (q : Int) < (m : Int) := by omega
              cases hd : decide (t = dotA)
              · have hde : (t.toList == [46, 10]) = false := by rw [dot_bytes, hd]
                have HND := Lib.hid (show ¬ t = dotA by simpa using hd)
                have HD := Lib.hid (show dots t = t from if_neg HND.out)
                have HFS := Lib.hid (show fixO at_.toNat (new.take (q + 1)) = fixO at_.toNat (new.take q) by rw [HTS.out, fixO_snoc, if_neg HND.out, List.append_nil])
                have HUS := Lib.hid (show (new.take (q + 1)).map dots = (new.take q).map dots ++ [t] by rw [HTS.out, List.map_append, List.map_singleton, HD.out])
                have BA := Lib.hid (below_alloc wr (.cells #[.string t] 9))
                clear hd hts
                go_wp2_with (first
                  | (at_builtin
                     refine app_strs (.tmp 68) (.tmp 70) (wo.heap.size + 2) (.slice ua q uc) ((new.take q).map dots) (HOU.out.below BA.out) (some ⟨wr.heap.size, 0, none⟩) 1 1 [t] (strs_one wr t htm) (by rw [HLQ.out]; omega) (Nat.le_trans HSW.out BA.out.size) rfl rfl rfl rfl ?_
                     intro v8 w8 o8 g8 p8
                     obtain ⟨q8, Hq8⟩ : ∃ q8, Hid (((new.take q).map dots ++ [t]).length = q8) := ⟨_, rfl⟩
                     obtain ⟨A8, k8, rfl, h81, h82⟩ := o8.form Hq8.out
                     have Y8 := Lib.hid ((g8.block _ (by have h1 := HSW.out; have h2 := BA.out.size; omega) (fun e => by have h1 := (HOU.out.lt e.symm).1; omega)).trans ((BA.out.block _ (by have h1 := HSW.out; omega)).trans HYC.out))
                     have X8 := Lib.hid ((g8.block _ (by have h1 := HSW.out; have h2 := BA.out.size; omega) (fun e => by have h1 := (HOU.out.lt e.symm).1; omega)).trans ((BA.out.block _ (by have h1 := HSW.out; omega)).trans HXC.out))
                     have z3 : w8.cell? ⟨wo.heap.size + 1, 3, none⟩ = some (.slice ua q uc) := by have := Y8.out; simp [World.cell?, this]
                     have fz : ∀ j, w8.frozen? ⟨wo.heap.size + 1, j, none⟩ = false := fun j => by have := Y8.out; simp [World.frozen?, this]
                     have F8 := Lib.hid ((HOF.out.below BA.out).wrote (Wrote.of_grown g8 (fun _ e => e)) (fun g e e2 => HAP.out g (HFB.out g e) e2))
                     have AP8 := Lib.hid (show ∀ g, fu.ownBlock = some g → (Value.slice A8 q8 k8).ownBlock ≠ some g from fun g e e2 => by
                       rcases p8 with h | h
                       · rw [h] at e2; exact HAP.out g e e2
                       · rw [h] at e2; injection e2 with e2; have h1 := (HOF.out.lt (blk_ownE e)).2; have h2 := BA.out.size; omega)
                     have B8 := Lib.hid (Below.grown (HBC.out.next BA.out) g8 (by have h1 := HSW.out; have h2 := BA.out.size; omega) (fun b e => by have h1 := (HOU.out.lt e).1; omega))
                     have O8 := Lib.hid o8
                     clear o8 g8 p8)
                  | fail)
                go_roundw
                case rel => exact ⟨q + 1, _, _, by go_num, rfl, by omega, Lib.hid (heap_set_otherO X8.out (by simp)), Lib.hid (by rw [heap_set_sameO Y8.out]; rfl), by rw [HUS.out]; exact O8.out.wrote (Wrote.set (fun i => i = wo.heap.size + 1) w8 _ _ rfl) (fun g e e2 => by have := (O8.out.lt e).1; omega), by rw [HFS.out]; exact F8.out.wrote (Wrote.set (fun i => i = wo.heap.size + 1) w8 _ _ rfl) (fun g e e2 => by have := (F8.out.lt e).1; omega), AP8, Lib.hid (B8.out.setCell (by simp) _)⟩
                case measure => simp [intOf]; omega
              · have hde : (t.toList == [46, 10]) = true := by rw [dot_bytes, hd]
                have HDT := Lib.hid (show t = dotA by simpa using hd)
                have HD := Lib.hid (show dots t = (⟨#[46, 46, 10]⟩ : ByteArray) from if_pos HDT.out)
                have HFS := Lib.hid (show fixO at_.toNat (new.take (q + 1)) = fixO at_.toNat (new.take q) ++ [⟨5, at_ + (q : Int) + 1, at_ + (q : Int) + 1, []⟩] by
                  rw [HTS.out, fixO_snoc, if_pos HDT.out]
                  have e : ((at_.toNat + (new.take q).length : Nat) : Int) = at_ + (q : Int) := by rw [List.length_take, HM.out]; omega
                  rw [e])
                have HUS := Lib.hid (show (new.take (q + 1)).map dots = (new.take q).map dots ++ [(⟨#[46, 46, 10]⟩ : ByteArray)] by rw [HTS.out, List.map_append, List.map_singleton, HD.out])
                have BO := Lib.hid (below_alloc wr (.cells #[.int .i64 5, .int .i64 (at_ + (q : Int) + 1), .int .i64 (at_ + (q : Int) + 1), .slice none 0 0] 78))
                have HOK5 := Lib.hid (show OdOk ⟨5, at_ + (q : Int) + 1, at_ + (q : Int) + 1, []⟩ from ⟨⟨by dsimp only; omega, by dsimp only; omega⟩, ⟨by dsimp only; omega, by dsimp only; omega⟩, ⟨by dsimp only; omega, by dsimp only; omega⟩, fun s h => by simp at h⟩)
                clear hd hts
                go_wp2_with (first
                  | (at_builtin
                     refine wpList_od (.tmp 53) (.tmp 65) (wo.heap.size + 2) fu (fixO at_.toNat (new.take q)) _ (HOF.out.below BO.out) ⟨5, at_ + (q : Int) + 1, at_ + (q : Int) + 1, []⟩ HOK5.out (.slice none 0 0) OwnV.nil_ (fun g e => by simp [Value.ownBlock] at e) wr.heap.size (by simp) (by simp) (by simp) (by simp) (by have := HFL.out; omega) (Nat.le_trans HSW.out BO.out.size) rfl rfl rfl rfl ?_
                     intro v7 w7 o7 g7 p7
                     have Y7 := Lib.hid ((g7.block _ (by have h1 := HSW.out; have h2 := BO.out.size; omega) (fun e => by have h1 := (HOF.out.lt (blk_ownE e.symm)).1; omega)).trans ((BO.out.block _ (by have h1 := HSW.out; omega)).trans HYC.out))
                     have X7 := Lib.hid ((g7.block _ (by have h1 := HSW.out; have h2 := BO.out.size; omega) (fun e => by have h1 := (HOF.out.lt (blk_ownE e.symm)).1; omega)).trans ((BO.out.block _ (by have h1 := HSW.out; omega)).trans HXC.out))
                     have z3 : w7.cell? ⟨wo.heap.size + 1, 3, none⟩ = some (.slice ua q uc) := by have := Y7.out; simp [World.cell?, this]
                     have U7 := Lib.hid ((HOU.out.below BO.out).wrote (Wrote.of_grown g7 (fun _ e => e)) (fun g e e2 => HAP.out g e2 e))
                     have AP7 := Lib.hid (show ∀ g, v7.ownBlock = some g → (Value.slice ua q uc).ownBlock ≠ some g from fun g e e2 => by
                       rcases p7 with h | h
                       · rw [h] at e; exact HAP.out g e e2
                       · rw [h] at e; injection e with e; have h1 := (HOU.out.lt e2).2; have h2 := BO.out.size; omega)
                     have B7 := Lib.hid (Below.grown (HBC.out.next BO.out) g7 (by have h1 := HSW.out; have h2 := BO.out.size; omega) (fun b e => by have h1 := (HOF.out.lt (blk_ownE e)).1; omega))
                     have O7 := Lib.hid o7
                     have HS7 := Lib.hid (show wo.heap.size + 2 ≤ w7.heap.size from (Array.getElem?_eq_some_iff.1 Y7.out).1)
                     clear o7 g7 p7)
                  | (at_builtin
                     refine app_strs (.tmp 68) (.tmp 70) (wo.heap.size + 2) (.slice ua q uc) ((new.take q).map dots) (U7.out.below (below_alloc _ _)) (some ⟨w7.heap.size, 0, none⟩) 1 1 [(⟨#[46, 46, 10]⟩ : ByteArray)] (strs_one w7 (⟨#[46, 46, 10]⟩ : ByteArray) (by decide)) (by rw [HLQ.out]; omega) (Nat.le_trans HS7.out (below_alloc _ _).size) rfl rfl rfl rfl ?_
                     intro v8 w8 o8 g8 p8
                     have BA := Lib.hid (below_alloc w7 (.cells #[.string (⟨#[46, 46, 10]⟩ : ByteArray)] 9))
                     obtain ⟨q8, Hq8⟩ : ∃ q8, Hid (((new.take q).map dots ++ [(⟨#[46, 46, 10]⟩ : ByteArray)]).length = q8) := ⟨_, rfl⟩
                     obtain ⟨A8, k8, rfl, h81, h82⟩ := o8.form Hq8.out
                     have Y8 := Lib.hid ((g8.block _ (by have h1 := HS7.out; have h2 := BA.out.size; omega) (fun e => by have h1 := (U7.out.lt e.symm).1; omega)).trans ((BA.out.block _ (by have h1 := HS7.out; omega)).trans Y7.out))
                     have X8 := Lib.hid ((g8.block _ (by have h1 := HS7.out; have h2 := BA.out.size; omega) (fun e => by have h1 := (U7.out.lt e.symm).1; omega)).trans ((BA.out.block _ (by have h1 := HS7.out; omega)).trans X7.out))
                     have z38 : w8.cell? ⟨wo.heap.size + 1, 3, none⟩ = some (.slice ua q uc) := by have := Y8.out; simp [World.cell?, this]
                     have fz8 : ∀ j, w8.frozen? ⟨wo.heap.size + 1, j, none⟩ = false := fun j => by have := Y8.out; simp [World.frozen?, this]
                     have HFB7 := Lib.hid (show ∀ g, BlkR v7 (bareRows (fixO at_.toNat (new.take (q + 1)))) g → v7.ownBlock = some g from fun g e => by
                       unfold BlkR at e
                       rw [bareRows_blocks (fixO_bare _ _), List.append_nil] at e
                       simpa using e)
                     have O7' := Lib.hid (show OwnOd w7 (wo.heap.size + 2) v7 (fixO at_.toNat (new.take (q + 1))) (bareRows (fixO at_.toNat (new.take (q + 1)))) by rw [HFS.out, bareRows_snoc]; exact O7.out)
                     have F8 := Lib.hid ((O7'.out.below BA.out).wrote (Wrote.of_grown g8 (fun _ e => e)) (fun g e e2 => AP7.out g (HFB7.out g e) e2))
                     have AP8 := Lib.hid (show ∀ g, v7.ownBlock = some g → (Value.slice A8 q8 k8).ownBlock ≠ some g from fun g e e2 => by
                       rcases p8 with h | h
                       · rw [h] at e2; exact AP7.out g e e2
                       · rw [h] at e2; injection e2 with e2; have h1 := (O7'.out.lt (blk_ownE e)).2; have h2 := BA.out.size; omega)
                     have B8 := Lib.hid (Below.grown (B7.out.next BA.out) g8 (by have h1 := HS7.out; have h2 := BA.out.size; omega) (fun b e => by have h1 := (U7.out.lt e).1; omega))
                     have O8 := Lib.hid o8
                     clear o8 g8 p8)
                  | fail)
                go_roundw
                case rel => exact ⟨q + 1, _, _, by go_num, rfl, by omega, Lib.hid (heap_set_otherO X8.out (by simp)), Lib.hid (by rw [heap_set_sameO Y8.out]; rfl), by rw [HUS.out]; exact O8.out.wrote (Wrote.set (fun i => i = wo.heap.size + 1) w8 _ _ rfl) (fun g e e2 => by have := (O8.out.lt e).1; omega), F8.out.wrote (Wrote.set (fun i => i = wo.heap.size + 1) w8 _ _ rfl) (fun g e e2 => by have := (F8.out.lt e).1; omega), AP8, Lib.hid (B8.out.setCell (by simp) _)⟩
                case measure => simp [intOf]; omega
            · have HQM := Lib.hid (show new.take q = new from List.take_of_length_le (by rw [HM.out]; omega))
              have hqm : q = m := by omega
              subst hqm
              have HOU' := Lib.hid (show OwnV wr (wo.heap.size + 2) (.slice ua q uc) (new.map dots) by have := HOU.out; rwa [HQM.out] at this)
              have HOF' := Lib.hid (show OwnOd wr (wo.heap.size + 2) fu (fixO at_.toNat new) (bareRows (fixO at_.toNat new)) by have := HOF.out; rwa [HQM.out] at this)
              have HFB' := Lib.hid (show ∀ g, BlkR fu (bareRows (fixO at_.toNat new)) g → fu.ownBlock = some g by have := HFB.out; rwa [HQM.out] at this)
              have HFL' := Lib.hid (show (fixO at_.toNat new).length ≤ 40 by have := HFL.out; rwa [HQM.out] at this)
              obtain ⟨fm, HFM⟩ : ∃ fm, Hid ((fixO at_.toNat new).length = fm) := ⟨_, rfl⟩
              obtain ⟨fA, fc, rfl, hf1, hf2⟩ := HOF'.out.form HFM.out
              have OUTR := Lib.hid (HO.out.below HBC.out)
              have BY := Lib.hid (below_alloc wr (.cells #[.int .i64 3, .int .i64 (at_ + 1), .int .i64 (at_ + gone), .slice ua q uc] 78))
              have HOKY := Lib.hid (show OdOk ⟨3, (at_ + 1), (at_ + gone), new.map dots⟩ from ⟨⟨by dsimp only; omega, by dsimp only; omega⟩, ⟨by dsimp only; omega, by dsimp only; omega⟩, ⟨by dsimp only; omega, by dsimp only; omega⟩, HOU'.out.small⟩)
              have HVL := Lib.hid (show ∀ g, BlkR v rows g → g < wo.heap.size from fun g e => (HO.out.lt e).2)
              have HUB := Lib.hid (show ∀ g, (Value.slice ua q uc).ownBlock = some g → ¬ BlkR v rows g from fun g e e2 => by have h1 := (HOU'.out.lt e).1; have h2 := HVL.out g e2; omega)
              have HED := Lib.hid (show (edO (hs.drop (k + 1))).length ≤ 820 by have h1 := HLN2.out; have : (n - (k + 1)) * 41 ≤ 20 * 41 := Nat.mul_le_mul_right _ (by omega); omega)
              have HBO := Lib.hid (show Below w.heap.size w wr from HB.out.next HBC.out)
              have hwk : IntKind.i64.wrap ((k : Int) - 1) = (k : Int) - 1 := by rw [IntKind.wrap_i64]; omega
              clear hlq
              go_wp2_with (first
                | (at_builtin
                   refine wpList_od (.tmp 74) (.tmp 76) w.heap.size v (edO (hs.drop (k + 1))) rows (OUTR.out.below BY.out) ⟨3, (at_ + 1), (at_ + gone), new.map dots⟩ HOKY.out (.slice ua q uc) ((HOU'.out.more (show w.heap.size ≤ wo.heap.size + 2 by have := HSO.out; omega)).below BY.out) HUB.out wr.heap.size (by simp) (by simp) (by simp) (by simp) (by have := HED.out; omega) (HBO.out.next BY.out).size rfl rfl rfl rfl ?_
                   intro v9 w9 o9 g9 p9
                   have F9 := Lib.hid ((HOF'.out.below BY.out).wrote (Wrote.of_grown g9 (fun _ e => e)) (fun g e e2 => by have h1 := (HOF'.out.lt e).1; have h2 := HVL.out g (blk_ownE e2); omega))
                   have B9 := Lib.hid (Below.grown (HBO.out.next BY.out) g9 (HBO.out.next BY.out).size (fun b e => (OUTR.out.lt (blk_ownE e)).1))
                   have O9 := Lib.hid o9
                   clear o9 g9 p9)
                | (at_builtin
                   refine wpList_bare (.tmp 77) (.tmp 78) w.heap.size (wo.heap.size + 2) v9 _ _ O9.out fA fm fc (fixO at_.toNat new) F9.out (fixO_bare _ _) (by rw [List.length_append, List.length_singleton]; have h1 := HED.out; have h2 := HFL'.out; have h3 := HFM.out; omega) B9.out.size rfl rfl rfl rfl ?_
                   intro v10 w10 o10 g10 p10
                   have B10 := Lib.hid (Below.grown B9.out g10 B9.out.size (fun b e => (O9.out.lt (blk_ownE e)).1))
                   have O10 := Lib.hid o10
                   clear o10 g10 p10)
                | fail)
              go_roundw
              case rel =>
                have HEQ : edO (hs.drop k) = (edO (hs.drop (k + 1)) ++ [⟨3, (at_ + 1), (at_ + gone), new.map dots⟩]) ++ fixO at_.toNat new := by
                  rw [HSTEP.out]; unfold edOne; rw [HMO.out]; simp
                refine ⟨k, v10, _, rfl, rfl, by omega, by rw [HEQ]; exact O10.out, Lib.hid ?_, B10.out⟩
                rw [HEQ, List.length_append, List.length_append, List.length_singleton]
                have h1 := HLN2.out
                have h2 := HFL'.out
                have h3 : (n - k) * 41 = (n - (k + 1)) * 41 + 41 := by rw [show n - k = (n - (k + 1)) + 1 by omega, Nat.add_mul, Nat.one_mul]
                omega
              case measure => simp [intOf]

end Go.Proofs.YtnnaigoomipklaaGreatDoor

namespace Go.Proofs.YtnnaigoomipklaaGreatDoor
open Go.RowKit Go.ChangeShapes Go.WideShapes M

theorem edOrders_no {l : List ByteArray} {hs : List Hk} (h : ¬ ((patchOf l hs).2 = true ∧ wholeB l = true ∧ wholeB (patchOf l hs).1 = true)) : edOrders l hs = ([], false) := if_neg h
theorem edOrders_yes {l : List ByteArray} {hs : List Hk} (h1 : (patchOf l hs).2 = true) (h2 : wholeB l = true) (h3 : wholeB (patchOf l hs).1 = true) : edOrders l hs = (edO hs, true) := if_pos ⟨h1, h2, h3⟩
theorem patch_goods {l : List ByteArray} {hs : List Hk} (h : (patchOf l hs).2 = true) : goodB l = true ∧ goodB (patchOf l hs).1 = true ∧ goodH l.length hs = true := by
  unfold patchOf at h ⊢
  split at h
  · rename_i hok
    rw [if_pos hok]
    unfold patchOk at hok
    simp only [Bool.and_eq_true] at hok
    exact ⟨hok.1.1, hok.2, hok.1.2⟩
  · cases h

set_option maxHeartbeats 1000000 in
theorem l9Whole_any (a : Option Addr) (nl cl : Nat) (l : List ByteArray) (b0 : Option Addr) (n c : Nat) (hs : List Hk) (w : World) (hl : Strs w a nl l) (hcl : nl ≤ cl) (hh : Hks w b0 n hs) (hnew : ∀ x ∈ hs, x.new.length ≤ 1048576) (hnl : nl ≤ 1048576) :
    Calls Tryz.prog 78 #[.slice a nl cl, .slice b0 n c] w fun e w' => e = .returned (.bool (edOrders l hs).2) ∧ Below w.heap.size w w' := by
  obtain ⟨P, ok, HP⟩ : ∃ P ok, Hid (patchOf l hs = (P, ok)) := ⟨_, _, rfl⟩
  obtain ⟨q, HQ⟩ : ∃ q, Hid (P.length = q) := ⟨_, rfl⟩
  cases ok
  · have hf := Lib.hid (show edOrders l hs = ([], false) from edOrders_no (by rw [HP.out]; simp))
    go_enter Tryz.func78, Tryz.ntmps78
    go_wp2_with fail
    refine (specPatch_any a nl cl l b0 n c hs _ hl hcl hh hnew hnl).mono ?_
    rintro e w1 ⟨v, rfl, o1, b1⟩
    rw [HP.out] at o1 ⊢
    dsimp only at o1 ⊢
    obtain ⟨A1, c1, rfl, h11, h12⟩ := o1.form HQ.out
    go_wp2
    go_ret
    exact ⟨ret_bool (by rw [hf.out]), b1⟩
  · have HGS := Lib.hid (patch_goods (l := l) (hs := hs) (by rw [HP.out]))
    have HG1 := Lib.hid HGS.out.1
    have HG2 := Lib.hid (show goodB P = true by have := HGS.out.2.1; rw [HP.out] at this; exact this)
    cases hw1 : wholeB l
    · have HW1 := Lib.hid hw1
      have hf := Lib.hid (show edOrders l hs = ([], false) from edOrders_no (by rw [hw1]; simp))
      clear hw1
      go_enter Tryz.func78, Tryz.ntmps78
      go_wp2_with fail
      refine (specPatch_any a nl cl l b0 n c hs _ hl hcl hh hnew hnl).mono ?_
      rintro e w1 ⟨v, rfl, o1, b1⟩
      rw [HP.out] at o1 ⊢
      dsimp only at o1 ⊢
      obtain ⟨A1, c1, rfl, h11, h12⟩ := o1.form HQ.out
      go_wp2_with fail
      refine (l1Whole_any a nl cl l _ (hl.below b1) HG1.out).mono ?_
      rintro e w2 ⟨rfl, rfl⟩
      rw [HW1.out]
      go_wp2
      go_ret
      exact ⟨ret_bool (by rw [hf.out]), b1⟩
    · have HW1 := Lib.hid hw1
      obtain ⟨t, HT⟩ : ∃ t, Hid (wholeB P = t) := ⟨_, rfl⟩
      have hf := Lib.hid (show (edOrders l hs).2 = t by
        cases t
        · rw [edOrders_no (by rw [HP.out]; simp [HT.out])]
        · rw [edOrders_yes (by rw [HP.out]) hw1 (by rw [HP.out]; exact HT.out)])
      clear hw1
      cases t
      all_goals
        go_enter Tryz.func78, Tryz.ntmps78
        go_wp2_with fail
        refine (specPatch_any a nl cl l b0 n c hs _ hl hcl hh hnew hnl).mono ?_
        rintro e w1 ⟨v, rfl, o1, b1⟩
        rw [HP.out] at o1 ⊢
        dsimp only at o1 ⊢
        obtain ⟨A1, c1, rfl, h11, h12⟩ := o1.form HQ.out
        go_wp2_with fail
        refine (l1Whole_any a nl cl l _ (hl.below b1) HG1.out).mono ?_
        rintro e w2 ⟨rfl, rfl⟩
        rw [HW1.out]
        go_wp2_with fail
        refine (l1Whole_any A1 q c1 P _ o1.strs HG2.out).mono ?_
        rintro e w2 ⟨rfl, rfl⟩
        rw [HT.out]
        go_wp2
        go_ret
        exact ⟨ret_bool (by rw [hf.out]), b1⟩

set_option maxHeartbeats 1000000 in
theorem specEdOrders_any (a : Option Addr) (nl cl : Nat) (l : List ByteArray) (b0 : Option Addr) (n c : Nat) (hs : List Hk) (w : World) (hl : Strs w a nl l) (hcl : nl ≤ cl) (hh : Hks w b0 n hs) (hnew : ∀ x ∈ hs, x.new.length ≤ 1048576) (hnl : nl ≤ 1048576) :
    Calls Tryz.prog 21 #[.slice a nl cl, .slice b0 n c] w fun e w' => ∃ v rows, e = .returned (.tuple #[v, .bool (edOrders l hs).2]) ∧ OwnOd w' w.heap.size v (edOrders l hs).1 rows ∧ Below w.heap.size w w' := by
  obtain ⟨P, ok, HP⟩ : ∃ P ok, Hid (edOrders l hs = (P, ok)) := ⟨_, _, rfl⟩
  have HN := Lib.hid hh.len
  cases ok
  · have hf := Lib.hid (show edOrders l hs = ([], false) by
      have h1 := HP.out
      have h2 : (edOrders l hs).2 = false := by rw [h1]
      unfold edOrders at h2 ⊢
      split at h2
      · cases h2
      · rename_i hc; rw [if_neg hc])
    go_enter Tryz.func21, Tryz.ntmps21
    go_wp2_with fail
    refine (l9Whole_any a nl cl l b0 n c hs _ hl hcl hh hnew hnl).mono ?_
    rintro e w1 ⟨rfl, b1⟩
    rw [hf.out]
    go_wp2
    go_ret2
    exact ⟨_, [], by rw [hf.out]; rfl, by rw [hf.out]; exact OwnOd.nil_, b1⟩
  · have HED := Lib.hid (show edOrders l hs = (edO hs, true) ∧ goodH l.length hs = true by
      have h1 := HP.out
      have h2 : (edOrders l hs).2 = true := by rw [h1]
      unfold edOrders at h2 ⊢
      split at h2
      · rename_i hc
        exact ⟨if_pos hc, (patch_goods hc.1).2.2⟩
      · cases h2)
    have HG := Lib.hid HED.out.2
    have hn20 : n ≤ 20 := by rw [← HN.out]; exact (goodH_parts HG.out).2.2.1
    have HOK := Lib.hid (show ∀ x ∈ hs, 0 ≤ x.at_ ∧ 0 ≤ x.gone ∧ x.at_ + x.gone ≤ 40 ∧ x.new.length ≤ 40 from fun x hx => by
      obtain ⟨h1, h2, h3, h4, h5⟩ := goodH_mem HG.out hx
      exact ⟨h1, h2, by omega, h5⟩)
    go_enter Tryz.func21, Tryz.ntmps21
    go_wp2_with fail
    refine (l9Whole_any a nl cl l b0 n c hs _ hl hcl hh hnew hnl).mono ?_
    rintro e w1 ⟨rfl, b1⟩
    rw [HED.out.1]
    go_wp2_with fail
    refine (l9Orders_any b0 n c hs _ (hh.below b1) hn20 HOK.out).mono ?_
    rintro e w2 ⟨v, rows, rfl, o2, b2⟩
    go_wp2
    go_ret2
    exact ⟨v, rows, by rw [HED.out.1]; rfl, by rw [HED.out.1]; exact o2.more b1.size, b1.next b2⟩

end Go.Proofs.YtnnaigoomipklaaGreatDoor
